/- Of the proof: the texts ShWalk0, ShNils, FrOpen, FrOpenL, PkLaid, PkVars, ShNilsFacts, one behind the other. -/
import Derived.Test.YtkpibphalhhkdaaGreatDoorB14
import Derived.Test.YtkpibphalhhkdaaGreatDoorB9
import Derived.RangeFuncBox
import Derived.Test.YtkpibphalhhkdaaGreatDoorB17
import Derived.Test.YtkpibphalhhkdaaGreatDoorB6
import Derived.ProofKit
import Derived.OpenShut
import Derived.Deep.Slices
import Derived.Deep.Strs
import Derived.Lib.SmallJoins
import Derived.WideKeyArr2
import Derived.Test.YtkpibphalhhkdaaGreatDoorB13
import Derived.Test.YtkpibphalhhkdaaGreatDoorCards
import Derived.Test.YtkpibphalhhkdaaGreatDoorTie
import Derived.Deep.DeepHandedRow
import Derived.Lib.LaidTab
import Derived.MakeChecks
import Derived.Lib.TrailingZeros
import Derived.Stop.LaidErr
import Derived.Test.YtkpibphalhhkdaaGreatDoorChecked
import Derived.WalkKit
section
/-
  A walk through no pack.
-/
namespace Go.Proofs.YtkpibphalhhkdaaGreatDoor.Sh
open Go.RowKit Go.Shelf
open Crc (Kept)
open Sim (hid Kp No PS Done Blk nm pList OwnN)
attribute [local go_sem] Oper.semAt_some

theorem records_any (w : World) (a : Option Addr) (n c : Nat) (fn : Fn) (first caps : Array Value) :
    Calls Tryz.prog 29 #[.slice a n c, .func fn first caps] w fun e w' => e = .returned (.func (.func 50) #[] #[.pointer (some ⟨w.heap.size, 0, none⟩), .pointer (some ⟨w.heap.size + 1, 0, none⟩)]) ∧
      w' = (w.alloc (.cells #[.slice a n c] 53)).alloc (.cells #[.func fn first caps] 50) := by
  have hmf : ∀ (fn : Fn) (first cap : Array Value) (w : World), (Instr.makeFunc fn first cap).run Tryz.prog w = .ok (.func fn first cap) w := fun _ _ _ _ => rfl
  go_enter Tryz.func29, Tryz.ntmps29
  go_wp2
  go_ret
  exact ⟨rfl, rfl⟩

set_option maxHeartbeats 1000000 in
set_option maxRecDepth 100000 in
theorem tells0 (n p q b : Nat) (V : Nat → Nat → Array Value → World → Prop) :
    Tells n 50 #[.pointer (some ⟨p, 0, none⟩), .pointer (some ⟨q, 0, none⟩)] b (fun W => W.cell? ⟨p, 0, none⟩ = some (.slice none 0 0)) V 0 := by
  intro l J Jx W hT hJ hY h0
  have H0 := hid h0
  have HT := hid hT
  clear hJ hY h0
  refine callsIn_of_wp Tryz.func50 rfl trivial ?_ rfl
  simp only [Tryz.ntmps50, List.size_toArray, List.length_cons, List.length_nil, Nat.reduceAdd, Nat.reduceSub, Array.replicate_succ, Array.replicate_zero, List.push_toArray, List.append_toArray, List.nil_append, List.cons_append]
  gi_wp2_with fail
  gi_loopw [12] (fun i wr => i = .int .i64 0 ∧ wr = W) (fun _ _ => 0)
  case atStart => exact ⟨rfl, rfl⟩
  case round =>
    obtain ⟨rfl, rfl⟩ := hrel
    gi_wp2
    go_end0
    exact ⟨⟨_, rfl⟩, .inl ⟨_, H0.out, HT.out⟩⟩

set_option maxHeartbeats 2000000 in
set_option maxRecDepth 100000 in
theorem walk0 (w : World) (h : Option Addr) (m : Int) (hm : 1 ≤ m) (hI : ∀ V, Kp No w V → Calls Tryz.prog 17 #[.pointer h] V fun e w' => e = .returned (.slice none 0 0) ∧ Kp No V w') :
    Calls Tryz.prog 14 #[.pointer h, .int .i64 m] w fun e w' => e = .returned (.tuple #[.slice none 0 0, .slice none 0 0]) ∧ Kp No w w' := by
  have hm1 : ¬ (m < 1) := by omega
  have HI := hid hI
  have hmf : ∀ (fn : Fn) (first cap : Array Value) (w : World), (Instr.makeFunc fn first cap).run Tryz.prog w = .ok (.func fn first cap) w := fun _ _ _ _ => rfl
  clear hI hm
  refine (callsIn_wide (n := 3)).1 ?_
  refine callsIn_of_wp_marks Tryz.func14 rfl trivial ?_ rfl
  simp only [Tryz.ntmps14, List.size_toArray, List.length_cons, List.length_nil, Nat.reduceAdd, Nat.reduceSub, Array.replicate_succ, Array.replicate_zero, List.push_toArray, List.append_toArray, List.nil_append, List.cons_append]
  gi_wp2_with fail
  obtain ⟨W1, hW1⟩ : ∃ W1, ((w.alloc (.cells #[.int .i64 m] 3)).alloc (.cells #[.slice none 0 0] 54)).alloc (.cells #[.slice none 0 0] 53) = W1 := ⟨_, rfl⟩
  have k1 : Kp No w W1 := by rw [← hW1]; exact (((Kp.refl _ w).alloc _).alloc _).alloc _
  have hsz1 : W1.heap.size = w.heap.size + 3 := by rw [← hW1]; simp
  have b1 : Boxed W1 (w.heap.size + 1) 54 (.slice none 0 0) := by
    rw [← hW1]
    have h := (Boxed.new (w.alloc (.cells #[.int .i64 m] 3)) 54 (.slice none 0 0)).alloc (.cells #[.slice none 0 0] 53)
    simpa only [World.size_alloc] using h
  have b2 : Boxed W1 (w.heap.size + 2) 53 (.slice none 0 0) := by
    rw [← hW1]
    have h := Boxed.new ((w.alloc (.cells #[.int .i64 m] 3)).alloc (.cells #[.slice none 0 0] 54)) 53 (.slice none 0 0)
    simpa only [World.size_alloc] using h
  rw [hW1]
  refine ⟨trivial, (callsIn_wide.2 (HI.out W1 k1)).mono ?_⟩
  clear hW1 HI
  rintro e W2 ⟨rfl, k2⟩
  have b1' : Boxed W2 (w.heap.size + 1) 54 (.slice none 0 0) := (k2.block _ (by omega) (fun h => h)).trans b1
  have b2' : Boxed W2 (w.heap.size + 2) 53 (.slice none 0 0) := (k2.block _ (by omega) (fun h => h)).trans b2
  have hsz2 : w.heap.size + 3 ≤ W2.heap.size := by have := k2.size; omega
  have k12 : Kp No w W2 := k1.andNone k2
  clear b1 b2 k1 k2 hsz1
  gi_wp2_with fail
  refine ⟨trivial, (callsIn_wide.2 (records_any W2 _ _ _ _ _ _)).mono ?_⟩
  rintro e W3 ⟨rfl, hW3⟩
  have hsz3 : W3.heap.size = W2.heap.size + 2 := by rw [hW3]; simp
  have b3 : Boxed W3 W2.heap.size 53 (.slice none 0 0) := by rw [hW3]; exact (Boxed.new W2 53 (.slice none 0 0)).alloc _
  have k3 : Kp No W2 W3 := by rw [hW3]; exact ((Kp.refl _ _).alloc _).alloc _
  have b1'' : Boxed W3 (w.heap.size + 1) 54 (.slice none 0 0) := (k3.block _ (by omega) (fun h => h)).trans b1'
  have b2'' : Boxed W3 (w.heap.size + 2) 53 (.slice none 0 0) := (k3.block _ (by omega) (fun h => h)).trans b2'
  have k13 : Kp No w W3 := k12.andNone k3
  clear b1' b2' k12 k3 hW3
  gi_wp2_with fail
  refine over_func (gf := 50) (lb := #[.pointer (some ⟨W2.heap.size, 0, none⟩), .pointer (some ⟨W2.heap.size + 1, 0, none⟩)]) rfl (enters_of Tryz.func50 (by kernel_rfl) rfl)
    (tells0 2 W2.heap.size (W2.heap.size + 1) w.heap.size (fun _ _ _ _ => False)) (fun _ _ _ _ h => h.elim) (by omega) (fun U W h k => (k.cell (p := ⟨W2.heap.size, 0, none⟩) (by simp; omega)).trans h) b3.cell
    (fun _ _ W => Boxed W (w.heap.size + 1) 54 (.slice none 0 0) ∧ Boxed W (w.heap.size + 2) 53 (.slice none 0 0) ∧ Kp No w W) (fun _ _ _ => False)
    ?ik ?ii (fun _ _ _ _ h _ => h) ?i0 (fun _ W => W) (fun _ W => Below.refl _ W) (fun _ _ _ _ h => h) (fun _ _ _ _ h _ => h.elim) (fun _ _ _ => { tmps := #[], defers := [] }) (fun _ _ _ _ _ h _ => h) ?assign ?body ?done ?stop
  case ik =>
    rintro k m' U W ⟨h1, h2, h3⟩ _ hk
    exact ⟨(hk.block _ h1.lt (by omega)).trans h1, (hk.block _ h2.lt (by omega)).trans h2, h3.trans (L := No) (M := fun x => x = w.heap.size) (kp_kept hk) (fun x hx => .inr (by omega))⟩
  case ii =>
    rintro k m' U W ⟨h1, h2, h3⟩ hp
    have hb := hp.below
    exact ⟨hp.block h1, hp.block h2, ⟨by rw [hb.os, h3.os], by rw [hb.tape, h3.tape], by rw [hb.output, h3.output], Nat.le_trans h3.size hb.size, fun k hk hn => (hb.block k (by omega)).trans (h3.block k hk hn)⟩⟩
  case i0 =>
    intro W hB _
    exact ⟨(hB.block _ (by omega)).trans b1'', (hB.block _ (by omega)).trans b2'', k13.andNone (Kp.below hB)⟩
  case assign => exact fun l k m vs W K _ h _ => h.elim
  case body => exact fun l k m vs U W _ _ h _ _ _ _ _ => h.elim
  case stop => exact fun D c k W _ _ h _ => h.elim
  case done =>
    rintro D m' W hD ⟨h1, h2, h3⟩ hT hd
    have c1 := h1.cell
    have c2 := h2.cell
    change W.cell? ⟨w.heap.size + 1 + 1, 0, none⟩ = _ at c2
    gi_wp2_with fail
    refine wpIn_wide.2 ?_
    go_region
    gi_wp2_with fail
    have hd' : W.drew.heap[D]? = some (.deferred (some [])) := hd
    refine ⟨by simp, .inl ⟨_, _, rfl, run_takeDeferred hd', ?_⟩⟩
    have hpb := put_below (B := w.heap.size) W.drew (.deferred none) (l := D) (by omega) (Array.getElem?_eq_some_iff.1 hd').1
    have hk := h3.drew
    refine ⟨.tuple #[.slice none 0 0, .slice none 0 0], by simp [results, Tryz.results14, go_sem], rfl, ?_⟩
    exact ⟨by rw [hpb.os, hk.os], by rw [hpb.tape, hk.tape], by rw [hpb.output, hk.output], Nat.le_trans hk.size hpb.size, fun k hk1 hn => (hpb.block k hk1).trans (hk.block k hk1 hn)⟩

end Go.Proofs.YtkpibphalhhkdaaGreatDoor.Sh
end

section
/-
  ShelfNils, walked.
-/
namespace Go.Proofs.YtkpibphalhhkdaaGreatDoor.Sh
open Go.RowKit Go.Shelf
open Tlv (BySlS)
open Sim (hid Kp No PS Blk nm)

theorem run_oneN (n : Int) (w : World) : (Instr.buildSlice 53 1 #[(0, .int .i64 n)]).run Tryz.prog w = .ok (.slice (some ⟨w.heap.size, 0, none⟩) 1 1) (w.alloc (.cells #[.int .i64 n] 3)) := by kernel_rfl

set_option maxHeartbeats 4000000 in
set_option maxRecDepth 100000 in
theorem nils_dark (a : Option Addr) (L cap : Nat) (n : Int) (w : World) (hV : Vars w) (h : Calls Tryz.prog 4 #[.slice a L cap] w fun e w' => e = .returned (.bool false) ∧ w' = w) :
    Calls Tryz.prog 3 #[.slice a L cap, .int .i64 n] w fun e w' => e = .returned (.bool true) ∧ Kp No w w' := by
  have H := hid h
  have HA := hid (alive_any w hV)
  clear h hV
  go_enter Tryz.func3, Tryz.ntmps3
  go_wp2_with fail
  refine H.out.mono ?_
  rintro e w0 ⟨rfl, hw0⟩
  rw [hw0]
  clear hw0 w0 H
  go_wp2_with fail
  refine HA.out.mono ?_
  rintro e w1 ⟨rfl, hb⟩
  have HB := hid hb
  clear hb
  go_wp2_with fail
  go_ret
  exact ⟨rfl, HB.out⟩

set_option maxHeartbeats 8000000 in
set_option maxRecDepth 100000 in
theorem nils_light {S : Nat → Prop} (ys : List El) (a : Option Addr) (cap : Nat) (n : Int) (w : World) (hV : Vars w) (h20 : ys.length ≤ 20) (hrw : RW S w (.slice a ys.length cap) ys)
    (h : Calls Tryz.prog 4 #[.slice a ys.length cap] w fun e w' => e = .returned (.bool true) ∧ w' = w) :
    Calls Tryz.prog 3 #[.slice a ys.length cap, .int .i64 n] w fun e w' => e = .returned (.bool true) ∧ Kp No w w' := by
  have H := hid h
  have HV := hid hV
  have HOW := hid (fun V (k : Kp No w V) => own9_any V _ ys (hrw.kept k) (by omega))
  have hz0 := zero35
  have HRN := hid (fun V x y z => read_nil V x y z)
  obtain ⟨Z, hZ⟩ : ∃ Z, zRec = Z := ⟨_, rfl⟩
  have HZL : Hid (Z.length = 34) := by rw [← hZ]; exact zRec_length
  have H1 : Hid (Z.toArray.all (·.oneCell') = true) := by rw [← hZ]; exact all_oneCell_toArray zRec_one
  have HI2 : Hid ((Tryz.prog.info? 43).map (·.size) = some Z.toArray.size) := by rw [← hZ]; exact Tryz.info35
  rw [hZ] at hz0 HRN
  clear hZ h hV hrw
  generalize ys.length = L at *
  go_enter Tryz.func3, Tryz.ntmps3
  go_wp2_with fail
  refine H.out.mono ?_
  rintro e w0 ⟨rfl, hw0⟩
  rw [hw0]
  clear hw0 w0 H
  go_wp2_with fail
  refine (Sim.new_yes 10 (by omega) w).mono ?_
  rintro e w1 ⟨rfl, _, hK1⟩
  have HK1 := hid hK1
  clear hK1
  go_wp2_with fail
  refine (Crc.new_any w1).mono ?_
  rintro e w2 ⟨rfl, hb2, _, _⟩
  have HK2 : Hid (Kp No w w2) := HK1.out.andNone (Kp.below hb2)
  clear hb2 HK1
  go_wp2_with fail
  refine (open_nil w2 _).mono ?_
  rintro e w3 ⟨rfl, h3⟩
  subst w3
  go_wp2_with fail
  refine (open_nilT w2 _).mono ?_
  rintro e w3 ⟨rfl, h3⟩
  subst w3
  go_wp2_with fail
  refine (HOW.out w2 HK2.out).mono ?_
  rintro e w3 ⟨u, rfl, hrow, _, hk3⟩
  obtain ⟨au, cu, rfl, _⟩ := hrow.shape
  have HK3 := hid (HK2.out.andNone hk3)
  clear hk3 hrow HK2 HOW
  go_wp2_with fail
  refine (lay_nil w3 _).mono ?_
  rintro e w4 ⟨rfl, hk4⟩
  have HK4 := hid (HK3.out.andNone hk4)
  clear hk4 HK3
  go_wp2_with fail
  refine (HRN.out w4 n 0 1).mono ?_
  rintro e w5 ⟨rfl, hk5⟩
  obtain ⟨W6, hW6⟩ : ∃ W6, (w5.alloc (.cells Z.toArray 43)).setCells w5.heap.size 0 Z = W6 := ⟨_, rfl⟩
  have HK6 : Hid (Kp No w W6) := by
    rw [← hW6]
    exact (HK4.out.andNone hk5).andNone (kp_set ((Kp.refl No w5).alloc _) (Or.inr (Nat.le_refl _)) _ _)
  have HT5 : Hid (World.there (w5.alloc (.cells Z.toArray 43)) w5.heap.size 0 Z.toArray.size) := there_new w5 Z 43
  clear hk5 HK4 HRN
  go_wp2_with (refine wpList_store_mid (by rfl) 43 _ _ (by rfl) w5.heap.size 0 Z.toArray (by rfl) (by rfl) HT5.out HI2.out H1.out ?_)
  try rw [hW6]
  clear hW6
  refine (load_nil W6 _).mono ?_
  rintro e w7 ⟨rfl, h7⟩
  subst w7
  go_wp2_with fail
  refine (drop_nil _ _).mono ?_
  rintro e w7 ⟨rfl, h7⟩
  have HK7 : Hid (Kp No w w7) := by rw [h7]; exact HK6.out.alloc _
  clear h7 HK6
  go_wp2_with fail
  refine (walk0 w7 none 5 (by omega) (fun V _ => (ids_nil V).mono (by rintro e w' ⟨rfl, h⟩; exact ⟨rfl, by rw [h]; exact Kp.refl _ _⟩))).mono ?_
  rintro e w8 ⟨rfl, hk8⟩
  have HK8 := hid (HK7.out.andNone hk8)
  clear hk8 HK7
  go_wp2_with fail
  refine (next_nil w8).mono ?_
  rintro e w9 ⟨rfl, h9⟩
  subst w9
  go_wp2_with fail
  refine (bytes_nil w8).mono ?_
  rintro e w9 ⟨rfl, h9⟩
  subst w9
  go_wp2_with fail
  refine (ids_nil w8).mono ?_
  rintro e w9 ⟨rfl, h9⟩
  subst w9
  go_wp2_with fail
  refine (alive_any w8 (Vars.kept HV.out HK8.out)).mono ?_
  rintro e w9 ⟨rfl, hk9⟩
  have HK9 := hid (HK8.out.andNone hk9)
  clear hk9
  go_wp2_with fail
  go_ret
  exact ⟨rfl, HK9.out⟩

end Go.Proofs.YtkpibphalhhkdaaGreatDoor.Sh
end

section
/-
  Records that came in, opened.
-/
namespace Go.Proofs.YtkpibphalhhkdaaGreatDoor
open Go.RowKit Go.ChangeShapes Go.WideShapes

theorem mapM_each {α β : Type} {f : α → Option β} : ∀ (L : List α) (ys : List β), L.mapM f = some ys → ∀ i ∈ L, ∃ y, f i = some y
  | [], _, _, i, hi => by simp at hi
  | a :: L, ys, h, i, hi => by
    rw [List.mapM_cons] at h
    simp only [bind, Option.bind_eq_some_iff, pure, Option.some.injEq] at h
    obtain ⟨y, hy, zs, hzs, _⟩ := h
    rcases List.mem_cons.1 hi with rfl | hi
    · exact ⟨y, hy⟩
    · exact mapM_each L zs hzs i hi

section
variable {H : Type} {enc : TypeId × Value → H} {P : Program} {W : World} {base : Nat} {sp : Nat → Bool} {held : Bool} {t e : TypeId} {n : Nat} {q : IntKind}
/-- The cells of an array of integers that came in. -/
theorem arr_ints (hu : P.underlying t = some (.array n e)) (he : P.underlying e = some (.int q)) (h1 : P.cellsOf e = 1) {fuel : Nat} {cs : List Value} {x : DataW H × List MemPlace} (hl : cs.length = n)
    (h : DataW.trod enc P W base sp held fuel t cs = some x) : ∃ zs : List Int, cs = zs.map (fun z => Value.int q z) ∧ zs.length = n ∧ ∀ z ∈ zs, (Lit.int q z).wf = true := by
  cases fuel with
  | zero => simp [DataW.trod] at h
  | succ m =>
    rw [DataW.trod_step] at h
    unfold DataW.trodStep at h
    simp only [hu] at h
    split at h
    · simp only [Option.map_eq_some_iff] at h
      obtain ⟨ys, hy, _⟩ := h
      have hE : ∀ i, i < n → ∃ z, cs[i]? = some (.int q z) ∧ (Lit.int q z).wf = true := fun i hi => by
        obtain ⟨y, hy⟩ := mapM_each _ ys hy i (List.mem_range.2 hi)
        obtain ⟨a, ea, _, wa⟩ := DataW.trod_int he hy
        rw [h1, Nat.mul_one] at ea
        refine ⟨a, ?_, wa⟩
        have h := congrArg (fun l : List Value => l[0]?) ea
        simpa [List.getElem?_take, List.getElem?_drop] using h
      refine ⟨cs.map intOf, ?_, by simpa using hl, ?_⟩
      · apply List.ext_getElem?
        intro i
        by_cases hi : i < n
        · obtain ⟨z, hz, _⟩ := hE i hi
          simp [hz, intOf]
        · have : cs[i]? = none := List.getElem?_eq_none (by omega)
          simp [this]
      · intro z hz
        obtain ⟨x, hx, rfl⟩ := List.mem_map.1 hz
        obtain ⟨i, hi, rfl⟩ := List.getElem_of_mem hx
        obtain ⟨z, hz, hw⟩ := hE i (by omega)
        rw [List.getElem?_eq_getElem hi] at hz
        simp only [Option.some.injEq] at hz
        rw [hz]
        exact hw
    · simp at h
end

/-- A slice of bytes, as it came in. -/
def InRow (W : World) (a : Option Addr) (l c : Nat) : Prop :=
  (a = none ∧ l = 0 ∧ c = 0) ∨ ∃ (y : Addr) (zs : List Int), a = some y ∧ l ≤ c ∧ c ≤ maxLen ∧ zs.length = c ∧ (∀ i, i < zs.length → W.cell? (y.add i) = some (.int .u8 (zs.getD i 0))) ∧ ∀ n ∈ zs, (Lit.int .u8 n).wf = true

theorem InRow.le {W : World} {a : Option Addr} {l c : Nat} (h : InRow W a l c) : l ≤ 9223372036854775807 := by
  rcases h with ⟨_, rfl, _⟩ | ⟨_, _, _, h1, h2, _⟩
  · omega
  · unfold maxLen at h2; omega

theorem spot_none {w : World} {x : Addr} {v : Value} (c0 : w.cell? (x.add 0) = some v) : x.spot = none := by
  have e : x.add 0 = x := rfl
  rw [e] at c0
  unfold World.cell? at c0
  split at c0
  · split at c0
    · cases c0
    · rename_i hs; simpa using hs
  · cases c0

theorem addr_plus (g o i : Nat) : (⟨g, o, none⟩ : Addr).add i = ⟨g, o + i, none⟩ := by unfold Addr.add; split <;> simp_all

theorem u8_wf {y : Int} (h : (Lit.int .u8 y).wf = true) : 0 ≤ y ∧ y ≤ 255 := by
  have hmin : IntKind.u8.min = 0 := rfl
  have hmax : IntKind.u8.max = 255 := rfl
  simp only [Lit.wf, Bool.and_eq_true, decide_eq_true_eq] at h
  omega

theorem i64_wf {y : Int} (h : (Lit.int .i64 y).wf = true) : -9223372036854775808 ≤ y ∧ y ≤ 9223372036854775807 := by
  have hmin : IntKind.i64.min = -9223372036854775808 := rfl
  have hmax : IntKind.i64.max = 9223372036854775807 := rfl
  simp only [Lit.wf, Bool.and_eq_true, decide_eq_true_eq] at h
  omega
theorem u32_wf {y : Int} (h : (Lit.int .u32 y).wf = true) : 0 ≤ y ∧ y ≤ 4294967295 := by
  have hmin : IntKind.u32.min = 0 := rfl
  have hmax : IntKind.u32.max = 4294967295 := rfl
  simp only [Lit.wf, Bool.and_eq_true, decide_eq_true_eq] at h
  omega

theorem InRow.bytes {w : World} {a : Option Addr} {len cap : Nat} (h : InRow w a len cap) (hl : len ≤ 140737488355328) : ∃ bs : List Int, bs.length = len ∧ Tlv.BySl 0 w.heap.size w (.slice a len cap) bs := by
  rcases h with ⟨rfl, rfl, rfl⟩ | ⟨x, zs, rfl, h1, h2, h3, h4, h5⟩
  · exact ⟨[], rfl, Tlv.BySl.none _ _ _⟩
  · have hlen : (zs.take len).length = len := List.length_take_of_le (by omega)
    refine ⟨zs.take len, hlen, _, cap, by rw [hlen], by rw [hlen]; exact h1, h2, by simp, by rw [hlen]; omega, fun y hy => u8_wf (h5 y (List.mem_of_mem_take hy)), fun hne => ?_⟩
    have hpos : 0 < len := by have := List.length_pos_iff.2 hne; omega
    have c0 := h4 0 (by omega)
    have hx := spot_none c0
    obtain ⟨b, o, s⟩ := x
    simp only at hx
    subst hx
    refine ⟨b, o, rfl, Nat.zero_le _, World.block_lt_of_cell? w _ c0, fun i hi => ?_⟩
    have := h4 i (by omega)
    rw [addr_plus] at this
    rw [this]
    rw [hlen] at hi
    simp [hi]

set_option maxRecDepth 100000 in
/-- A record's cells that came in. -/
theorem rec_cells {H : Type} {enc : TypeId × Value → H} {W : World} {fuel : Nat} {cs : List Value} {x : DataW H × List MemPlace} (h : DataW.trod enc Tryz.prog W 0 (fun _ => true) true fuel 60 cs = some x) :
    ∃ (k : Int) (nm : List Int) (a : Option Addr) (l c : Nat), cs = recA k nm (.slice a l c) ∧ nm.length = 32 ∧ (∀ y ∈ nm, 0 ≤ y ∧ y ≤ 255) ∧ InRow W a l c := by
  obtain ⟨y0, y1, y2, n, _, hl, h0, h1, h2⟩ := Go.Deep.trod_struct3 Tryz.underlying60 h
  have e26 : Tryz.prog.cellsOf 60 = 34 := by kernel_rfl
  have e3 : Tryz.prog.cellsOf 3 = 1 := by kernel_rfl
  have e23 : Tryz.prog.cellsOf 40 = 32 := by kernel_rfl
  have e24 : Tryz.prog.cellsOf 41 = 1 := by kernel_rfl
  rw [e26] at hl
  simp only [e3, e23, e24] at h0 h1 h2
  obtain ⟨k, hk, _, _⟩ := DataW.trod_int Tryz.underlying3 h0
  obtain ⟨nm, hnm, hnl, hwf⟩ := arr_ints Tryz.underlying40 Tryz.underlying5 (by kernel_rfl) (by simp; omega) h1
  have split : cs = cs.take 1 ++ ((cs.drop 1).take 32 ++ (cs.drop 33).take 1) := by
    have e1 : (cs.drop 33).take 1 = cs.drop 33 := List.take_of_length_le (by simp; omega)
    have e2 : (cs.drop 1).take 32 ++ cs.drop 33 = cs.drop 1 := by
      have h : (cs.drop 1).drop 32 = cs.drop 33 := by rw [List.drop_drop]
      rw [← h, List.take_append_drop]
    rw [e1, e2, List.take_append_drop]
  simp only [List.drop_zero] at hk
  rcases open_ints Tryz.underlying41 Tryz.underlying5 (by kernel_rfl) h2 with ⟨hcs, _⟩ | ⟨y, l, c, zs, hcs, _, hlc, hmx, hz, _, hcell, hwz⟩
  · refine ⟨k, nm, none, 0, 0, ?_, hnl, fun y hy => u8_wf (hwf y hy), .inl ⟨rfl, rfl, rfl⟩⟩
    rw [split, hk, hnm, hcs]
    rfl
  · refine ⟨k, nm, some y, l, c, ?_, hnl, fun y hy => u8_wf (hwf y hy), .inr ⟨y, zs, rfl, hlc, hmx, by simpa using hz, hcell, hwz⟩⟩
    rw [split, hk, hnm, hcs]
    rfl

set_option maxRecDepth 100000 in
/-- A record that came in. -/
theorem open_rec {H : Type} {enc : TypeId × Value → H} {W : World} {r : Reach} {base : Nat} {v : Value} {d : DataW H} {p : List MemPlace} (hv : Value.okWide Tryz.prog W r base 60 v) (h : DataW.Trod enc Tryz.prog W 0 (fun _ => true) true 60 v d p) :
    ∃ (k : Int) (nm : List Int) (a : Option Addr) (l c : Nat), v = .agg (recA k nm (.slice a l c)).toArray ∧ nm.length = 32 ∧ (∀ y ∈ nm, 0 ≤ y ∧ y ≤ 255) ∧ InRow W a l c := by
  obtain ⟨cs, rfl, hsz⟩ := okWide_struct Tryz.underlying60 hv
  obtain ⟨fuel, hf⟩ := h
  obtain ⟨k, nm, a, l, c, hcs, h1, h2, h3⟩ := rec_cells hf
  refine ⟨k, nm, a, l, c, ?_, h1, h2, h3⟩
  have : cs.toList = recA k nm (.slice a l c) := hcs
  rw [← this]

end Go.Proofs.YtkpibphalhhkdaaGreatDoor
end

section
/-
  A list of records that came in, opened.
-/
namespace Go.Proofs.YtkpibphalhhkdaaGreatDoor
open Go.RowKit Go.ChangeShapes Go.WideShapes

theorem mapM_get {α β : Type} {f : α → Option β} : ∀ (L : List α) (ys : List β), L.mapM f = some ys → ∀ i : Nat, ys[i]? = (L[i]?).bind f
  | [], ys, h, i => by
    simp only [List.mapM_nil, pure, Option.some.injEq] at h
    subst h
    simp
  | a :: L, ys, h, i => by
    rw [List.mapM_cons] at h
    simp only [bind, Option.bind_eq_some_iff, pure, Option.some.injEq] at h
    obtain ⟨y, hy, zs, hzs, rfl⟩ := h
    cases i with
    | zero => simp [hy]
    | succ i => simpa using mapM_get L zs hzs i

theorem cells_get {w : World} {base n : Nat} {a : Addr} {cs : List Value} (h : w.cells? base a n = some cs) (i : Nat) (hi : i < n) : w.cell? (a.add i) = cs[i]? := by
  unfold World.cells? at h
  split at h
  · have := mapM_get _ _ h i
    rw [List.getElem?_range hi] at this
    exact this.symm
  · cases h

/-- One of the list: kind, name, and the body's slice. -/
abbrev Raw : Type := Int × List Int × Option Addr × Nat × Nat
def rawC (t : Raw) : List Value := recA t.1 t.2.1 (.slice t.2.2.1 t.2.2.2.1 t.2.2.2.2)

set_option maxRecDepth 100000 in
theorem recs_of {H : Type} {enc : TypeId × Value → H} {W : World} {a0 : Option Addr} {len cap fuel : Nat} {x : DataW H × List MemPlace}
    (h : DataW.trod enc Tryz.prog W 0 (fun _ => true) true fuel 22 [.slice a0 len cap] = some x) :
    len ≤ maxLen ∧ ∃ ts : List Raw, ts.length = len ∧ ∀ j t, ts[j]? = some t → (t.2.1.length = 32 ∧ ∀ y ∈ t.2.1, 0 ≤ y ∧ y ≤ 255) ∧ InRow W t.2.2.1 t.2.2.2.1 t.2.2.2.2 ∧
      ∃ g o, a0 = some ⟨g, o, none⟩ ∧ g < W.heap.size ∧ W.rangeAt g (o + j * 34) (rawC t) := by
  rcases Go.Deep.open_slice Tryz.underlying22 h with ⟨hcs, _⟩ | ⟨a, l, c, m, n, D, Pl, hcs, _, hl, hm, hmm, _, hr⟩
  · simp only [List.cons.injEq, Value.slice.injEq, and_true] at hcs
    obtain ⟨rfl, rfl, rfl⟩ := hcs
    exact ⟨Nat.zero_le _, [], rfl, fun j t h => by simp at h⟩
  · simp only [List.cons.injEq, Value.slice.injEq, and_true] at hcs
    obtain ⟨rfl, rfl, rfl⟩ := hcs
    simp only [if_true] at hmm
    subst hmm
    have e26 : Tryz.prog.cellsOf 60 = 34 := by kernel_rfl
    rw [e26] at hr
    refine ⟨by omega, ?_⟩
    have each : ∀ r, r < len → ∃ t : Raw, (t.2.1.length = 32 ∧ ∀ y ∈ t.2.1, 0 ≤ y ∧ y ≤ 255) ∧ InRow W t.2.2.1 t.2.2.2.1 t.2.2.2.2 ∧ ∀ i, i < 34 → W.cell? ((a.add (r * 34)).add i) = (rawC t)[i]? := by
      intro r hr1
      obtain ⟨cs', h1, h2⟩ := hr r (by omega)
      obtain ⟨k, nm, b, l', c', rfl, w1, w2, hb⟩ := rec_cells h2
      exact ⟨(k, nm, b, l', c'), ⟨w1, w2⟩, hb, fun i hi => cells_get h1 i hi⟩
    obtain ⟨y, hy⟩ := Go.Deep.choose_lt each
    refine ⟨(List.range len).map y, by simp, fun j t hj => ?_⟩
    have hjl : j < len := by
      have := (List.getElem?_eq_some_iff.1 hj).1
      simpa using this
    simp only [List.getElem?_map, List.getElem?_range hjl, Option.map_some, Option.some.injEq] at hj
    subst hj
    obtain ⟨h1, h2, h3⟩ := hy j hjl
    refine ⟨h1, h2, ?_⟩
    have h00 := (hy 0 (by omega)).2.2 0 (by omega)
    have ha : a.spot = none := by
      rw [Nat.zero_mul] at h00
      have e : (a.add 0) = a := rfl
      rw [e] at h00
      exact spot_none h00
    obtain ⟨b, o, s⟩ := a
    simp only at ha
    subst ha
    refine ⟨b, o, rfl, ?_, fun i v hv => ?_⟩
    · rw [addr_plus, addr_plus] at h00
      exact World.block_lt_of_cell? W _ h00
    · have hi : i < 34 := by
        have := (List.getElem?_eq_some_iff.1 hv).1
        rw [rawC, recA_length _ _ _ h1.1] at this
        exact this
      have h := h3 i hi
      rw [addr_plus, addr_plus, hv] at h
      exact h

/-- The same list, where no body is long. -/
theorem els_of {W : World} {a0 : Option Addr} {ts : List Raw} (h : ∀ j t, ts[j]? = some t → (t.2.1.length = 32 ∧ ∀ y ∈ t.2.1, 0 ≤ y ∧ y ≤ 255) ∧ InRow W t.2.2.1 t.2.2.2.1 t.2.2.2.2 ∧ ∃ g o, a0 = some ⟨g, o, none⟩ ∧ g < W.heap.size ∧ W.rangeAt g (o + j * 34) (rawC t))
    (hs : ∀ t ∈ ts, t.2.2.2.1 ≤ 140737488355328) :
    ∃ ys : List El, ys.length = ts.length ∧ (ys.map fun y => y.1.2.2.length) = (ts.map fun t => t.2.2.2.1) ∧ (∀ y ∈ ys, elOk y) ∧ (∀ j y, ys[j]? = some y → ∃ g o, a0 = some ⟨g, o, none⟩ ∧ g < W.heap.size ∧ W.rangeAt g (o + j * 34) (elC y)) ∧ ∀ y ∈ ys, Tlv.BySl 0 W.heap.size W (elV y) y.1.2.2 := by
  have each : ∀ r, r < ts.length → ∃ bs : List Int, ∀ t, ts[r]? = some t → bs.length = t.2.2.2.1 ∧ Tlv.BySl 0 W.heap.size W (.slice t.2.2.1 t.2.2.2.1 t.2.2.2.2) bs := fun r hr => by
    obtain ⟨bs, b1, b2⟩ := (h r ts[r] (List.getElem?_eq_getElem hr)).2.1.bytes (hs _ (List.getElem_mem hr))
    refine ⟨bs, fun t ht => ?_⟩
    rw [List.getElem?_eq_getElem hr, Option.some.injEq] at ht
    subst ht
    exact ⟨b1, b2⟩
  obtain ⟨f, hf⟩ := Go.Deep.choose_lt each
  have key : ∀ (j : Nat) (y : El), ((List.range ts.length).map fun j => (((ts.getD j (0, [], none, 0, 0)).1, (ts.getD j (0, [], none, 0, 0)).2.1, f j), (ts.getD j (0, [], none, 0, 0)).2.2.1, (ts.getD j (0, [], none, 0, 0)).2.2.2.2))[j]? = some y →
      ∃ t, ts[j]? = some t ∧ y = ((t.1, t.2.1, f j), t.2.2.1, t.2.2.2.2) ∧ (f j).length = t.2.2.2.1 ∧ Tlv.BySl 0 W.heap.size W (.slice t.2.2.1 t.2.2.2.1 t.2.2.2.2) (f j) := fun j y hy => by
    have hjl : j < ts.length := by
      have := (List.getElem?_eq_some_iff.1 hy).1
      simpa using this
    simp only [List.getElem?_map, List.getElem?_range hjl, Option.map_some, Option.some.injEq] at hy
    subst hy
    refine ⟨ts[j], List.getElem?_eq_getElem hjl, ?_, hf j hjl _ (List.getElem?_eq_getElem hjl)⟩
    rw [List.getD_eq_getElem?_getD, List.getElem?_eq_getElem hjl]
    rfl
  refine ⟨(List.range ts.length).map fun j => (((ts.getD j (0, [], none, 0, 0)).1, (ts.getD j (0, [], none, 0, 0)).2.1, f j), (ts.getD j (0, [], none, 0, 0)).2.2.1, (ts.getD j (0, [], none, 0, 0)).2.2.2.2), by simp, ?_, fun y hy => ?_, fun j y hj => ?_, fun y hy => ?_⟩
  · apply List.ext_getElem?
    intro j
    by_cases hjl : j < ts.length
    · obtain ⟨b1, _⟩ := hf j hjl _ (List.getElem?_eq_getElem hjl)
      simp [hjl, b1]
    · rw [List.getElem?_eq_none (by simp; omega), List.getElem?_eq_none (by simp; omega)]
  · obtain ⟨j, hj⟩ := List.mem_iff_getElem?.1 hy
    obtain ⟨t, ht, rfl, _⟩ := key j y hj
    exact (h j t ht).1
  · obtain ⟨t, ht, rfl, e, _⟩ := key j y hj
    obtain ⟨g, o, h1, h2, h3⟩ := (h j t ht).2.2
    refine ⟨g, o, h1, h2, ?_⟩
    have : elC ((t.1, t.2.1, f j), t.2.2.1, t.2.2.2.2) = rawC t := by
      show recA t.1 t.2.1 (.slice t.2.2.1 (f j).length t.2.2.2.2) = _
      rw [e]
      rfl
    rw [this]
    exact h3
  · obtain ⟨j, hj⟩ := List.mem_iff_getElem?.1 hy
    obtain ⟨t, ht, rfl, e, hb⟩ := key j y hj
    show Tlv.BySl 0 W.heap.size W (.slice t.2.2.1 (f j).length t.2.2.2.2) (f j)
    rw [e]
    exact hb

end Go.Proofs.YtkpibphalhhkdaaGreatDoor
end

section
/-
  A world that holds the listed variables: two errors, three tables.
-/
namespace Go.Proofs.YtkpibphalhhkdaaGreatDoor
open Go.ChangeShapes Go.WideShapes Go.ChangeAt Go.RowKit

theorem own : ownKnob Tryz.prog.godebug = none := by kernel_rfl
theorem laidOut : laidOutB Tryz.prog = true := by kernel_rfl
abbrev laidFive : List (String × DataW Unit) := Rows.shelfNilsRow.laid
def lay (cells : Array Value) : Obj → Obj
  | .cells _ t frozen => .cells cells t frozen
  | o => o
def tab32 : Array Value := (Lib.deBruijn32tab.map fun n : Nat => Value.int .u8 (n : Int)).toArray
def tab64 : Array Value := (Lib.deBruijn64tab.map fun n : Nat => Value.int .u8 (n : Int)).toArray
def tab10 : Array Value := ((List.range 20).map fun n : Nat => Value.int .u64 ((10 ^ n : Nat) : Int)).toArray
def synS : ByteArray := { data := #[105, 110, 118, 97, 108, 105, 100, 32, 115, 121, 110, 116, 97, 120] }
def rngS : ByteArray := { data := #[118, 97, 108, 117, 101, 32, 111, 117, 116, 32, 111, 102, 32, 114, 97, 110, 103, 101] }
theorem low10 : (World.holding Tryz.prog default ⟨#[], #[], []⟩).heap.size = 10 := by kernel_rfl
theorem laid_met (os : Os) (args : Array Value) : laidMet Tryz.prog laidFive (({ World.holding Tryz.prog os ⟨#[.cells #[.string synS] 272, .cells #[.string rngS] 272], #[], []⟩ with heap := (((((World.holding Tryz.prog os ⟨#[.cells #[.string synS] 272, .cells #[.string rngS] 272], #[], []⟩).heap.modify 0 (lay #[.iface 270 (.pointer (some ⟨10, 0, none⟩))])).modify 1 (lay #[.iface 270 (.pointer (some ⟨11, 0, none⟩))])).modify 2 (lay tab10)).modify 3 (lay tab32)).modify 4 (lay tab64) } : World).forCall (fun _ _ => 0) ⟨#[], args, []⟩).memory :=
  laidMet_of_run' 8 (by kernel_rfl) (by kernel_rfl)
end Go.Proofs.YtkpibphalhhkdaaGreatDoor
end

section
/-
  The listed variables, as the walks want them.
-/
namespace Go.Proofs.YtkpibphalhhkdaaGreatDoor
open Go.ChangeShapes Go.WideShapes Go.ChangeAt Go.RowKit

theorem star : "*" ++ "errors.errorString" = "*errors.errorString" := by decide
theorem errRow (u : TypeId) (h : Tryz.prog.typeName? 3 u = some "*errors.errorString") : u = 270 :=
  typeName_ptr_named (nm := "errors.errorString") (by rw [star]; kernel_rfl) (by kernel_rfl) (by decide) u (by rw [star]; exact h)
theorem gSyn : Tryz.prog.globalNamed "strconv.ErrSyntax" = some 0 := by kernel_rfl
theorem gRng : Tryz.prog.globalNamed "strconv.ErrRange" = some 1 := by kernel_rfl
theorem gPow : Tryz.prog.globalNamed "internal/strconv.uint64pow10" = some 2 := by kernel_rfl
theorem tSyn : (Tryz.prog.globals[0]?).map (·.type) = some 167 := by kernel_rfl
theorem tRng : (Tryz.prog.globals[1]?).map (·.type) = some 167 := by kernel_rfl
theorem tPow : (Tryz.prog.globals[2]?).map (·.type) = some 264 := by kernel_rfl
theorem cErr : Tryz.prog.cellsOf 272 = 1 := by kernel_rfl
theorem cStr : Tryz.prog.cellsOf 9 = 1 := by kernel_rfl
theorem cU64 : Tryz.prog.cellsOf 119 = 1 := by kernel_rfl
theorem cPow : Tryz.prog.cellsOf 264 = 20 := by kernel_rfl
theorem powIs : (Rows.laid_internal_strconv_uint64pow10 : DataW Unit) = Lib.tabData .u64 Lib.pow10Tab := rfl

theorem vars_of_laid {W : World} (h : laidMetH Tryz.prog laidFive W) : Vars W := by
  rw [MakeChecks.laidMetH_plain _ _ _ (by kernel_rfl)] at h
  have h0 : laidMet Tryz.prog (("math/bits.deBruijn32tab", Rows.laid_math_bits_deBruijn32tab) :: ("math/bits.deBruijn64tab", Rows.laid_math_bits_deBruijn64tab) :: ("internal/strconv.uint64pow10", Rows.laid_internal_strconv_uint64pow10) :: ("strconv.ErrRange", Rows.laid_strconv_ErrRange) :: ("strconv.ErrSyntax", Rows.laid_strconv_ErrSyntax) :: []) W := h
  have h2 := h0.tail.tail
  have h3 := h2.tail
  have h4 := h3.tail
  rw [powIs] at h2
  have t := Lib.tabIs_of_head gPow tPow Tryz.underlying264 Tryz.underlying119 cU64 cPow h2
  obtain ⟨a1, s1, v1, _⟩ := laid_sentinel h3 gRng tRng Tryz.underlying167 errRow Tryz.underlying270 Tryz.underlying272 rfl rfl Tryz.underlying9 cErr cStr
  obtain ⟨a2, s2, v2, _⟩ := laid_sentinel h4 gSyn tSyn Tryz.underlying167 errRow Tryz.underlying270 Tryz.underlying272 rfl rfl Tryz.underlying9 cErr cStr
  exact ⟨t, ⟨_, _, v2⟩, ⟨_, _, v1⟩⟩

end Go.Proofs.YtkpibphalhhkdaaGreatDoor
end

section
/-
  The closed facts of ShelfNils's row, one by one: which functions her road reaches.
-/
namespace Go.Proofs.YtkpibphalhhkdaaGreatDoor.shelfNils
open Go.ChangeShapes Go.WideShapes Go.ChangeAt Go.RowKit

theorem f10 : (Rows.shelfNilsRow.inPlace == Tryz.prog.inPlace 3) = true := by kernel_rfl
theorem f11 : (Rows.shelfNilsRow.unfollowed == Tryz.prog.unfollowed 3) = true := by kernel_rfl
theorem f12 : (Rows.shelfNilsRow.recurses == Tryz.prog.recurses 3) = true := by kernel_rfl
theorem f13 : (Rows.shelfNilsRow.named == Tryz.prog.varsNamed 3) = true := by kernel_rfl
theorem closed : joinedFacts Tryz.prog 3 Tryz.f3 (OpenSpec.ofChange Rows.shelfNilsSpec).bare Rows.shelfNilsRow = true := by
  unfold joinedFacts
  rw [f10, f11, f12, f13]
  kernel_rfl
end Go.Proofs.YtkpibphalhhkdaaGreatDoor.shelfNils
end
