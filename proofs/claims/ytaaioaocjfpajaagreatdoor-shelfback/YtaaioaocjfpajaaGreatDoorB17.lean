/- Of the proof: the texts ShWalk, ShOwn, ShWalksM, ShBackS, ShWalksS, ShBackU, ShAliveM, ShAlive, one behind the other. -/
import Derived.Test.YtaaioaocjfpajaaGreatDoorB15
import Derived.Test.YtaaioaocjfpajaaGreatDoorB14
import Derived.Test.YtaaioaocjfpajaaGreatDoorB13
import Derived.Test.YtaaioaocjfpajaaGreatDoorB7
import Derived.Test.YtaaioaocjfpajaaGreatDoorB16
import Derived.Test.YtaaioaocjfpajaaGreatDoorB3
import Derived.Test.YtaaioaocjfpajaaGreatDoorB11
import Derived.Test.YtaaioaocjfpajaaGreatDoorB12
import Derived.Test.YtaaioaocjfpajaaGreatDoorB6
section
/-
  What Walk tells.
-/
namespace Go.Proofs.YtaaioaocjfpajaaGreatDoor.Sh
open Go.RowKit Go.Shelf
open Tlv (BySlS)
open Crc (Kept)
open Sim (hid Kp No PS Blk nm finds pBytes pList Row)
attribute [local go_sem] Oper.semAt_some

/-- A find of nothing. -/
def zF : List Value := fC 0 noIt (.slice none 0 0)
theorem zeroS (w : World) : (zeroValue 58).run Tryz.prog w = .ok (.agg zF.toArray) w := by kernel_rfl
theorem infoS3 : (Tryz.prog.info? 58).map (fun i => (i.zero, i.size, i.bytes)) = some (some (.agg zF.toArray), 37, 88) := by kernel_rfl
theorem Tryz.infoSF : (Tryz.prog.info? 58).map (·.size) = some 37 := by kernel_rfl
theorem run_oneS (i p n : Nat) (k : Int) (nm : List Int) (a : Option Addr) (l c : Nat) (hn : nm.length = 32) (w : World) :
    (Instr.buildSlice 43 1 #[(0, .agg (.int .i64 (i : Int) :: .int .i64 (p : Int) :: .int .i64 (n : Int) :: recA k nm (.slice a l c)).toArray)]).run Tryz.prog w =
      .ok (.slice (some ⟨w.heap.size, 0, none⟩) 1 1) (w.alloc (.cells (.int .i64 (i : Int) :: .int .i64 (p : Int) :: .int .i64 (n : Int) :: recA k nm (.slice a l c)).toArray 58)) := by
  obtain ⟨x0, x1, x2, x3, x4, x5, x6, x7, x8, x9, x10, x11, x12, x13, x14, x15, x16, x17, x18, x19, x20, x21, x22, x23, x24, x25, x26, x27, x28, x29, x30, x31, rfl⟩ := ex32 hn
  kernel_rfl

/-- The loop's variable, as it is made anew for each round. -/
def asgF (vs : Array Value) (U : World) : World := (U.alloc (.cells zF.toArray 58)).setCells U.heap.size 0 (aggL vs)
theorem asgF_below (vs : Array Value) (U : World) : Below U.heap.size U (asgF vs U) := ((Below.refl _ _).alloc (Nat.le_refl _) _).trans (setCells_below (Nat.le_refl _) _ _ _)
theorem asgF_size (vs : Array Value) (U : World) : (asgF vs U).heap.size = U.heap.size + 1 := by rw [asgF, setCells_size]; simp

/-- What a walk answers: of the items X the first K. -/
def Walked (m b : Nat) (w W : World) (X : List WI) (e : Ending) : Prop :=
  ∃ (K : Nat) (Us : List UI) (u1 u2 : Value), e = .returned (.tuple #[u1, u2]) ∧ K ≤ X.length ∧ Us.map (·.1) = fsOf X K ∧ Row W 58 37 u1 Us.length (fcs Us) ∧ RowZ W u2 (lsOf X K) ∧
    (∀ z ∈ Us, nmOk z.1.2.2 ∧ BySlS (fun g => g ≠ b ∧ g < W.heap.size) W (uV z) (uB z)) ∧ (∀ x, u1.ownBlock = some x → w.heap.size ≤ x) ∧ (∀ x, u2.ownBlock = some x → w.heap.size ≤ x) ∧ Kp (fun x => x = b) w W ∧ TabX W b ∧
    ((K = X.length ∧ Us.length < m) ∨ (Us.length = m ∧ 1 ≤ K ∧ ∃ y, X[K - 1]? = some y ∧ y.2.1 = 0))

/-- The way out of a loop over an iterator: the deferred calls are taken. -/
theorem walked_end {w W : World} {B b m K D : Nat} {X : List WI} {O : Nat → Prop} {Us : List UI} {u1 u2 : Value} (h : WkS w B b m X K O W Us u1 u2) (hx : TabX W b) (hd : W.heap[D]? = some (.deferred (some []))) (hD : w.heap.size ≤ D) (hb : b < w.heap.size) (hB : w.heap.size ≤ B) (hK : K ≤ X.length)
    (hc : (K = X.length ∧ Us.length < m) ∨ (Us.length = m ∧ 1 ≤ K ∧ ∃ y, X[K - 1]? = some y ∧ y.2.1 = 0)) : Walked m b w (W.drew.putObj D (.deferred none)) X (.returned (.tuple #[u1, u2])) := by
  have hd' : W.drew.heap[D]? = some (.deferred (some [])) := hd
  have hDl := (Array.getElem?_eq_some_iff.1 hd').1
  have hpb := put_below (B := w.heap.size) W.drew (.deferred none) (l := D) hD hDl
  have hsz : (W.drew.putObj D (.deferred none)).heap.size = W.heap.size := by simp [World.putObj]
  have kd : Kp (fun x => x = D) W (W.drew.putObj D (.deferred none)) := by
    have k : Kp (fun x => x = D) W.drew (W.drew.putObj D (.deferred none)) := ⟨rfl, rfl, rfl, by simp [World.putObj], fun i _ hi => World.putObj_heap_other (fun e => hi e)⟩
    exact (Kp.refl _ W).drew.trans k (fun x hx => .inl hx)
  have hne : ∀ {e : TypeId} {sz n : Nat} {v : Value} {xs : List Value}, Row W e sz v n xs → ∀ x, v.ownBlock = some x → ¬ x = D := fun hr x hx e => by
    obtain ⟨cs, fr, hcs⟩ := Row.isCells hr hx
    rw [e, hd] at hcs
    cases hcs
  refine ⟨K, Us, u1, u2, rfl, hK, h.us, Sim.Row.kp h.r1 kd (hne h.r1), Sim.Row.kp h.r2 kd (hne h.r2), fun z hz => ⟨(h.bs z hz).1, ?_⟩, fun x hx => Nat.le_trans hB (h.o1 x hx).2, fun x hx => Nat.le_trans hB (h.o2 x hx).2.1, ?_, tabX_below hx ((Below.refl _ _).drew.trans hpb) hb, hc⟩
  · refine BySlS.mono (bySlS_cells (base := 0) (b := b) (w := W.drew) (show BySlS (fun g => ¬ O g ∧ g ≠ b ∧ g < W.heap.size) W.drew (uV z) (uB z) from (h.bs z hz).2) (put_kept (F := W.drew) hd') (fun g hg => ⟨Nat.zero_le _, hg.2.1⟩)) (fun g hg => ⟨hg.2.1, by rw [hsz]; exact hg.2.2⟩)
  · exact h.kp.drew.trans (L := fun x => x = b) (M := fun x => x = D) ⟨rfl, rfl, rfl, by simp [World.putObj], fun i _ hi => World.putObj_heap_other (fun e => hi e)⟩ (fun x hx => .inr (by omega))

set_option maxHeartbeats 8000000 in
set_option maxRecDepth 100000 in
theorem walk_over (w : World) (h s b m : Nat) (n : Int) (ps : PS) (P : Nat → Prop) (N : Nat) (ids : List Nat) (F : Nat → Nat) (S : Nat → List Item × Nat × Int) (hm1 : 1 ≤ m) (hm2 : m ≤ 1000) (hH : ShAt w h s b n) (hS : Sim.Sys P N w s ps) (hT : TabX w b) (hPb : ¬ P b) (hhb : h ≠ b)
    (hI : ∀ V, Kp No w V → Calls Tryz.prog 15 #[.pointer (some ⟨h, 0, none⟩)] V fun e w' => ∃ u, e = .returned u ∧ RowZ w' u (ids.map fun (i : Nat) => (i : Int)) ∧ (∀ x, u.ownBlock = some x → V.heap.size ≤ x) ∧ Kp No V w')
    (hL : ∀ (W : World) (id : Nat), ShAt W h s b n → Sim.Sys P N W s ps → TabX W b → id ∈ ids → Calls Tryz.prog 16 #[.pointer (some ⟨h, 0, none⟩), .int .i64 (id : Int)] W fun e W' => Loaded W W' b e (F id) (S id))
    (hn : ids.length ≤ 1000) (hsl : ∀ id ∈ ids, (S id).1.length ≤ 20000000) (hX : (allI F S ids).length ≤ 100000000000) :
    Calls Tryz.prog 14 #[.pointer (some ⟨h, 0, none⟩), .int .i64 (m : Int)] w fun e w' => Walked m b w w' (allI F S ids) e := by
  have hm0 : ¬ ((m : Int) < 1) := by omega
  have HI := hid hI
  have HL := hid hL
  have HX := hid hX
  have HN := hid hn
  have HSL := hid hsl
  have hhl := hH.lt
  have hbl := hT.lt
  have HP : Hid (∀ x, P x → x < w.heap.size) := hS.lt
  have HPB := hid hPb
  have HST := hid (And.intro hH (And.intro hS hT))
  have hmf : ∀ (fn : Fn) (first cap : Array Value) (w : World), (Instr.makeFunc fn first cap).run Tryz.prog w = .ok (.func fn first cap) w := fun _ _ _ _ => rfl
  obtain ⟨X, hXX⟩ : ∃ X, allI F S ids = X := ⟨_, rfl⟩
  have HXX := hid hXX
  rw [hXX] at HX ⊢
  clear hI hL hX hn hsl hPb hH hS hT hXX
  refine (callsIn_wide (n := 3)).1 ?_
  refine callsIn_of_wp_marks Tryz.func14 rfl trivial ?_ rfl
  simp only [Tryz.ntmps14, List.size_toArray, List.length_cons, List.length_nil, Nat.reduceAdd, Nat.reduceSub, Array.replicate_succ, Array.replicate_zero, List.push_toArray, List.append_toArray, List.nil_append, List.cons_append]
  gi_wp2_with fail
  obtain ⟨W1, hW1⟩ : ∃ W1, ((w.alloc (.cells #[.int .i64 (m : Int)] 3)).alloc (.cells #[.slice none 0 0] 43)).alloc (.cells #[.slice none 0 0] 23) = W1 := ⟨_, rfl⟩
  have k1 : Kp No w W1 := by rw [← hW1]; exact (((Kp.refl _ w).alloc _).alloc _).alloc _
  have hsz1 : W1.heap.size = w.heap.size + 3 := by rw [← hW1]; simp
  have b0 : Boxed W1 w.heap.size 3 (.int .i64 (m : Int)) := by
    rw [← hW1]
    exact ((Boxed.new w 3 (.int .i64 (m : Int))).alloc _).alloc _
  have b1 : Boxed W1 (w.heap.size + 1) 43 (.slice none 0 0) := by
    rw [← hW1]
    have h := (Boxed.new (w.alloc (.cells #[.int .i64 (m : Int)] 3)) 43 (.slice none 0 0)).alloc (.cells #[.slice none 0 0] 23)
    simpa only [World.size_alloc] using h
  have b2 : Boxed W1 (w.heap.size + 2) 23 (.slice none 0 0) := by
    rw [← hW1]
    have h := Boxed.new ((w.alloc (.cells #[.int .i64 (m : Int)] 3)).alloc (.cells #[.slice none 0 0] 43)) 23 (.slice none 0 0)
    simpa only [World.size_alloc] using h
  rw [hW1]
  refine ⟨trivial, (callsIn_wide.2 (HI.out W1 k1)).mono ?_⟩
  clear hW1 HI
  rintro e W2 ⟨u, rfl, hu, huo, k2⟩
  obtain ⟨ai, ci, rfl, _, _, hform⟩ := hu.form
  rw [List.length_map] at *
  have hsz2 : w.heap.size + 3 ≤ W2.heap.size := by have := k2.size; omega
  have HW2 := hid (And.intro (Boxed.kp b0 k2 (fun h => h)) (And.intro (Boxed.kp b1 k2 (fun h => h)) (And.intro (Boxed.kp b2 k2 (fun h => h)) (And.intro hu (And.intro huo (And.intro hform (k1.andNone k2)))))))
  clear b0 b1 b2 k1 k2 hu huo hform
  gi_wp2_with fail
  refine ⟨trivial, (callsIn_wide.2 (records_any W2 _ _ _ _ _ _)).mono ?_⟩
  rintro e W3 ⟨rfl, hW3⟩
  obtain ⟨b0, b1, b2, hu, huo, hform, k12⟩ := HW2.out
  have hsz3 : W3.heap.size = W2.heap.size + 2 := by rw [hW3]; simp
  have b3 : Boxed W3 W2.heap.size 23 (.slice ai ids.length ci) := by rw [hW3]; exact (Boxed.new W2 23 _).alloc _
  have b4 : Boxed W3 (W2.heap.size + 1) 49 (.func (.func 16) #[.pointer (some ⟨h, 0, none⟩)] #[]) := by
    rw [hW3]
    have h := Boxed.new (W2.alloc (.cells #[.slice ai ids.length ci] 23)) 49 (.func (.func 16) #[.pointer (some ⟨h, 0, none⟩)] #[])
    simpa only [World.size_alloc] using h
  have k3 : Kp No W2 W3 := by rw [hW3]; exact ((Kp.refl _ _).alloc _).alloc _
  have k13 : Kp No w W3 := k12.andNone k3
  obtain ⟨hH, hS, hT⟩ := HST.out
  have hO0 : ∀ x, (x = w.heap.size + 1 ∨ x = w.heap.size + 2) → x < W3.heap.size := fun x hx => by omega
  have hTW : TW P N h s b W2.heap.size (W2.heap.size + 1) W3.heap.size n ps ids ai ci (fun x => x = w.heap.size + 1 ∨ x = w.heap.size + 2) W3 := by
    refine ⟨hH.kp k13 (fun x => x), hS.kept k13, hT.kp k13 (fun x => x), b3.cell, b4.cell, fun i id hi => ?_⟩
    have hne : (ids.map fun (i : Nat) => (i : Int)) ≠ [] := fun e => by
      rw [List.map_eq_nil_iff] at e
      rw [e] at hi
      simp at hi
    obtain ⟨g, rfl, hg⟩ := hform hne
    have hgo := huo g rfl
    refine ⟨g, 0, rfl, ⟨by omega, by omega, by omega⟩, ?_⟩
    rw [Nat.zero_add]
    exact (k3.cell (p := ⟨g, i, none⟩) hg (fun h => h)).trans (hu.cell (by rw [List.length_map]) i (by rw [List.getElem?_map, hi]; rfl))
  have hWk0 : WkS w W3.heap.size b m X 0 (fun x => x = w.heap.size + 1 ∨ x = w.heap.size + 2) W3 [] (.slice none 0 0) (.slice none 0 0) :=
    ⟨Boxed.kp b0 k3 (fun h => h), Boxed.kp b1 k3 (fun h => h), Boxed.kp b2 k3 (fun h => h), by simp [fsOf], Sim.Row.nil _ _ _, Sim.Row.nil _ _ _, by simp, by simp [Value.ownBlock], by simp [Value.ownBlock], .inl rfl, .inr rfl, fun x hx => by rcases hx with e | e; exact .inl e; exact .inr (.inl e), k13.ofNo⟩
  have HKP : Hid (∀ L U W, TW P N h s b W2.heap.size (W2.heap.size + 1) W3.heap.size n ps ids ai ci (fun x => x = w.heap.size + 1 ∨ x = w.heap.size + 2) U → Kp L U W → TabX W b → (∀ x, x < W3.heap.size → x ≠ b → ¬ (x = w.heap.size + 1 ∨ x = w.heap.size + 2) → ¬ L x) → TW P N h s b W2.heap.size (W2.heap.size + 1) W3.heap.size n ps ids ai ci (fun x => x = w.heap.size + 1 ∨ x = w.heap.size + 2) W) := fun L U W hT k hx hL =>
    TW.kp hT k hx hL ⟨by omega, hhb, by omega⟩ (fun x hx => by have := HP.out x hx; exact ⟨by omega, fun e => HPB.out (e ▸ hx), by omega⟩) ⟨by omega, by omega, by omega⟩ ⟨by omega, by omega, by omega⟩
  have HWK0 := hid hWk0
  have hbW : b < w.heap.size := hbl
  clear b0 b1 b2 b3 b4 hu huo hform k12 k3 k13 hH hS hT hW3 HW2 HST hWk0
  gi_wp2_with fail
  refine over_funcO (gf := 59) (lb := #[.pointer (some ⟨W2.heap.size, 0, none⟩), .pointer (some ⟨W2.heap.size + 1, 0, none⟩)]) rfl (enters_of Tryz.func59 (by kernel_rfl) rfl) (b := b)
    (T := TW P N h s b W2.heap.size (W2.heap.size + 1) W3.heap.size n ps ids ai ci (fun x => x = w.heap.size + 1 ∨ x = w.heap.size + 2)) (V := Vr b X) (N := X.length) (O0 := fun x => x = w.heap.size + 1 ∨ x = w.heap.size + 2) hO0 ?tells (fun k m vs U h => by obtain ⟨y, a, c, _, rfl, _⟩ := h; rfl) (by omega) ?ht hTW
    (fun k O W => ∃ Us u1 u2, WkS w W3.heap.size b m X k O W Us u1 u2 ∧ Us.length < m)
    (fun c k W => c = .exit 0 ∧ (∃ O Us u1 u2, WkS w W3.heap.size b m X k O W Us u1 u2 ∧ Us.length = m) ∧ TabX W b ∧ 1 ≤ k ∧ ∃ y, X[k - 1]? = some y ∧ y.2.1 = 0)
    ?ik ?ii ?ix ?i0 asgF asgF_below ?va ?ia
    (fun k vs U => { tmps := #[.pointer (some ⟨h, 0, none⟩), .int .i64 (m : Int), undef, .pointer (some ⟨w.heap.size, 0, none⟩), .slice none 0 0, .slice none 0 0, .pointer (some ⟨w.heap.size + 1, 0, none⟩), .pointer (some ⟨w.heap.size + 1 + 1, 0, none⟩), .pointer (some ⟨U.heap.size, 0, none⟩), vs.getD 1 undef, .int .i64 (m : Int), .bool false, .pointer (some ⟨h, 0, none⟩), .slice ai ids.length ci, .pointer (some ⟨h, 0, none⟩), .func (.func 16) #[.pointer (some ⟨h, 0, none⟩)] #[], .func (.func 59) #[] #[.pointer (some ⟨W2.heap.size, 0, none⟩), .pointer (some ⟨W2.heap.size + 1, 0, none⟩)], vs.getD 0 undef, vs.getD 1 undef, undef, undef, undef, undef, undef, undef, undef, undef, undef, undef, undef, undef, undef, undef, undef, undef, undef, undef], defers := [] })
    ?vv ?assign ?body ?done ?stop
  case tells =>
    have h := tells_recs 2 b W2.heap.size (W2.heap.size + 1) h ids ai ci F S (TW P N h s b W2.heap.size (W2.heap.size + 1) W3.heap.size n ps ids ai ci (fun x => x = w.heap.size + 1 ∨ x = w.heap.size + 2)) (fun x => x = w.heap.size + 1 ∨ x = w.heap.size + 2)
      (fun W hT => ⟨hT.2.2.2.1, hT.2.2.2.2.1⟩) (fun W hT i id hi => by obtain ⟨g, o, e, _, hc⟩ := hT.2.2.2.2.2 i id hi; exact ⟨g, o, e, hc⟩)
      (fun U W hT hk hx => HKP.out (fun x => x = b) U W hT (kp_kept hk) hx (fun x _ hx _ e => hx e)) (fun U W hT hB => HKP.out No U W hT (Kp.below hB) (hT.2.2.1.kp (Kp.below (L := No) hB) (fun x => x)) (fun _ _ _ _ h => h))
      (fun W id hT hi => HL.out W id hT.1 hT.2.1 hT.2.2.1 hi) HN.out HSL.out
    rw [HXX.out] at h
    exact h
  case ht => exact fun U W hT hB => HKP.out (fun x => W3.heap.size ≤ x) U W hT ⟨hB.os, hB.tape, hB.output, hB.size, fun k _ hk => hB.block k (by omega)⟩ (tabX_below hT.2.2.1 hB (by omega)) (fun x h1 _ _ h2 => by omega)
  case ik =>
    rintro k O U W ⟨Us, u1, u2, h1, h2⟩ _ hk
    exact ⟨Us, u1, u2, h1.kept hk hbW (by omega), h2⟩
  case ii =>
    rintro k O U W ⟨Us, u1, u2, h1, h2⟩ hp
    exact ⟨Us, u1, u2, h1.putl hp (by omega), h2⟩
  case ix =>
    rintro c k U W ⟨rfl, ⟨O, Us, u1, u2, h1, h2⟩, h3, h4⟩ hp
    exact ⟨rfl, ⟨O, Us, u1, u2, h1.putl hp (by omega), h2⟩, tabX_below h3 hp.below (by omega), h4⟩
  case i0 =>
    intro W hB _
    exact ⟨[], _, _, HWK0.out.kept (Kept.below hB) hbW (by omega), by simp; omega⟩
  case va =>
    rintro k O vs U ⟨y, a, c, h1, h2, h3, h4⟩
    have hbl := asgF_below vs U
    exact ⟨y, a, c, h1, h2, BySlS.mono (BySlS.below h3 hbl (fun g hg => hg.2.2)) (fun g hg => ⟨hg.1, hg.2.1, Nat.lt_of_lt_of_le hg.2.2 hbl.size⟩), h4⟩
  case ia =>
    rintro k O vs U _ ⟨Us, u1, u2, h1, h2⟩
    exact ⟨Us, u1, u2, h1.kept (Kept.below (asgF_below vs U)) hbW (by omega), h2⟩
  case vv =>
    rintro k O vs U W ⟨y, a, c, h1, h2, h3, h4⟩ hp
    exact ⟨y, a, c, h1, h2, BySlS.mono (BySlS.putl h3 hp) (fun g hg => ⟨hg.1, hg.2.1, by rw [hp.size]; exact hg.2.2⟩), h4⟩
  case assign =>
    rintro l k O vs W K _ ⟨y, a, c, h1, rfl, h3, h4⟩ hK
    have hz := zeroS
    have hAS : aggL #[.agg (fC y.1 y.2.2 (.slice a y.2.2.2.2.1.2.2.length c)).toArray, .int .i64 (y.2.1 : Int)] = fC y.1 y.2.2 (.slice a y.2.2.2.2.1.2.2.length c) := rfl
    have HK := hid hK
    unfold asgF at HK
    rw [hAS] at HK
    have HPL := hid (fC_len y.1 y.2.2 (.slice a y.2.2.2.2.1.2.2.length c) h4)
    have HPO := hid (fC_one y.1 y.2.2 a y.2.2.2.2.1.2.2.length c)
    obtain ⟨PA, hPA⟩ : ∃ PA, fC y.1 y.2.2 (.slice a y.2.2.2.2.1.2.2.length c) = PA := ⟨_, rfl⟩
    rw [hPA] at HK HPL HPO
    rw [hPA]
    obtain ⟨ZP, hZP⟩ : ∃ ZP, zF = ZP := ⟨_, rfl⟩
    have HZL : Hid (ZP.length = 37) := by rw [← hZP]; rfl
    rw [hZP] at hz HK
    have HTH : Hid (World.there (W.alloc (.cells ZP.toArray 58)) W.heap.size 0 PA.toArray.size) := by
      have h := there_new W ZP 58
      rw [HZL.out] at h
      have e : PA.toArray.size = 37 := HPL.out
      rw [Hid, e]
      exact h
    have HI : Hid ((Tryz.prog.info? 58).map (·.size) = some PA.toArray.size) := by rw [Hid, show PA.toArray.size = 37 from HPL.out]; exact Tryz.infoSF
    have HO : Hid (PA.toArray.all (·.oneCell') = true) := all_oneCell_toArray HPO.out
    clear hPA hZP hAS h1 h3 h4 hK HKP HWK0
    generalize y.2.1 = f at *
    gi_wp2_with (refine wpListIn_skip (by rfl) (fun _ h => by cases h) (fun _ => trivial) (exec_store 58 _ _ (by rfl) W.heap.size 0 PA.toArray (by rfl) (by rfl) HTH.out HI.out HO.out) ?_)
    exact HK.out
  case body =>
    rintro l k O vs U W hkN hOU ⟨y, a, c, hy, rfl, hby, hnm⟩ ⟨Us, u1, u2, hS, hlt⟩ hT hWz hWU hU3
    have hUW : W.heap.size = U.heap.size + 1 := by rw [hWz, asgF_size]
    have hOW : ∀ x, O x → x < W.heap.size := fun x hx => by have := hOU x hx; omega
    have HRG : Hid (W.rangeAt U.heap.size 0 (fC y.1 y.2.2 (.slice a y.2.2.2.2.1.2.2.length c))) := by
      intro j q hq
      rw [World.cell?_of_block (w := asgF _ U) (a := ⟨U.heap.size, 0 + j, none⟩) (hWU U.heap.size (Nat.le_refl _))]
      have ht := there_new U zF 58
      have hlen := fC_len y.1 y.2.2 (.slice a y.2.2.2.2.1.2.2.length c) hnm
      have h := World.rangeAt_setCells_same (U.alloc (.cells zF.toArray 58)) U.heap.size 0 (fC y.1 y.2.2 (.slice a y.2.2.2.2.1.2.2.length c)) (by rw [hlen]; exact ht)
      exact h j q hq
    have c80 : W.cell? ⟨U.heap.size, 0, none⟩ = some (.int .i64 (y.1 : Int)) := HRG.out 0 _ rfl
    have cm := hS.bm.cell
    have c1 := hS.b1.cell
    have c2 := hS.b2.cell
    have f1 := hS.b1.frozen
    have f2 := hS.b2.frozen
    change W.cell? ⟨w.heap.size + 1 + 1, 0, none⟩ = _ at c2
    change W.frozen? ⟨w.heap.size + 1 + 1, 0, none⟩ = _ at f2
    have HS := hid hS
    have HY := hid (And.intro hy (And.intro hby hnm))
    have HT := hid hT
    have HOW := hid hOW
    have hfin : ∀ V, Kp (fun x => O x) W V → TabX V b ∧ TW P N h s b W2.heap.size (W2.heap.size + 1) W3.heap.size n ps ids ai ci (fun x => x = w.heap.size + 1 ∨ x = w.heap.size + 2) V := fun V k => by
      have hx : TabX V b := HT.out.2.2.1.kp k (fun e => by have := HS.out.oo b e; omega)
      exact ⟨hx, HKP.out _ W V HT.out k hx (fun x h1 h2 h3 e => by have := HS.out.oo x e; omega)⟩
    have HFIN := hid hfin
    have HLT := hid hlt
    have hlt2 : Us.length < 1000 := by omega
    have hll : (lsOf X k).length ≤ 100000000000 := Nat.le_trans (lsOf_len X k) HX.out
    obtain ⟨a1, d1, rfl, _⟩ := Sim.Row.shape hS.r1
    obtain ⟨a2, d2, rfl, _⟩ := hS.r2.form
    have hr1 := hS.r1
    have hr2 : Row W 3 1 (.slice a2 (lsOf X k).length d2) (lsOf X k).length (ic (lsOf X k)) := hS.r2
    have ho1 := hS.o1
    have ho2 := hS.o2
    have hmW := hS.bm.lt
    have h1W := hS.b1.lt
    have h2W := hS.b2.lt
    clear hy hby hnm hT hOW hfin hWU hWz hS HKP HWK0
    by_cases hf0 : y.2.1 = 0
    · have HF0 := hid hf0
      obtain ⟨hy, hby, hnm⟩ := HY.out
      have HPL := hid (fC_len y.1 y.2.2 (.slice a y.2.2.2.2.1.2.2.length c) hnm)
      have HPO := hid (fC_one y.1 y.2.2 a y.2.2.2.2.1.2.2.length c)
      have HBS := hid (run_oneS y.1 y.2.2.1 y.2.2.2.2.2 y.2.2.2.2.1.1 y.2.2.2.2.1.2.1 a y.2.2.2.2.1.2.2.length c hnm.1 W)
      have hPA' : (.int .i64 (y.1 : Int) :: .int .i64 (y.2.2.1 : Int) :: .int .i64 (y.2.2.2.2.2 : Int) :: recA y.2.2.2.2.1.1 y.2.2.2.2.1.2.1 (.slice a y.2.2.2.2.1.2.2.length c) : List Value) = fC y.1 y.2.2 (.slice a y.2.2.2.2.1.2.2.length c) := rfl
      rw [hPA'] at HBS
      obtain ⟨PA, hPA⟩ : ∃ PA, fC y.1 y.2.2 (.slice a y.2.2.2.2.1.2.2.length c) = PA := ⟨_, rfl⟩
      have HPA := hid hPA
      rw [hPA] at HBS HPL HPO HRG
      have hal : Kp No W (W.alloc (.cells PA.toArray 58)) := (Kp.refl _ _).alloc _
      obtain ⟨i, hi, hiz⟩ : ∃ i, Tryz.prog.info? 58 = some i ∧ (i.zero, i.size, i.bytes) = (some (.agg zF.toArray), 37, 88) := Option.map_eq_some_iff.1 infoS3
      simp only [Prod.mk.injEq] at hiz
      obtain ⟨z1, z2, z3⟩ := hiz
      obtain ⟨g, cap, W4, hap, hown2, hgrow, hat, hg⟩ := run_append_lies (P := Tryz.prog) (W.alloc (.cells PA.toArray 58)) 43 43 0 58 i (.agg zF.toArray) 37 88 Tryz.underlying43 hi z1 z2 z3 rfl (by omega)
        (.slice a1 Us.length d1) Us.length (fcs Us) (Sim.Row.kept hr1 hal) ⟨W.heap.size, 0, none⟩ 1 1 PA (by rw [HPL.out]) (fun j u h => by rw [Addr.add_lit]; exact range_new W PA 58 j u h) HPO.out (by omega) (by unfold maxLen; omega) (by omega) (Nat.zero_le _) _ rfl
      have HAP := hid hap
      have k4 : Kp (fun x => (Value.slice a1 Us.length d1).ownBlock = some x) W W4 := hal.ofNo.trans (Kp.ofGrown hgrow) (fun x hx => .inl hx)
      have c1' := (k4.cell (p := ⟨w.heap.size + 1, 0, none⟩) h1W (fun e => by have h9 : W3.heap.size ≤ w.heap.size + 1 := (ho1 _ e).2; omega)).trans c1
      have f1' := (k4.frozen (p := ⟨w.heap.size + 1, 0, none⟩) h1W (fun e => by have h9 : W3.heap.size ≤ w.heap.size + 1 := (ho1 _ e).2; omega)).trans f1
      have cm' := (k4.cell (p := ⟨w.heap.size, 0, none⟩) hmW (fun e => by have h9 : W3.heap.size ≤ w.heap.size := (ho1 _ e).2; omega)).trans cm
      have HI : Hid ((Tryz.prog.info? 58).map (·.size) = some PA.length) := by rw [Hid, HPL.out]; exact Tryz.infoSF
      have HALL := hid (And.intro hown2 (And.intro hgrow (And.intro hat hg)))
      have HCM := hid cm'
      clear hown2 hgrow hat hg hap hal hPA' hPA hi z1 z2 z3 k4 hr1 hr2 ho1 ho2 hy hby hnm c80
      simp only [hf0]
      gi_wp2_with (first
        | (refine wpListIn_val (by rfl) (fun _ h => by cases h) (fun _ => trivial) (exec_load 58 _ (by rfl) U.heap.size 0 (by rfl) PA _ HRG.out Tryz.underlying58 rfl HI.out) ?_)
        | (refine wpListIn_val (by rfl) (fun _ h => by cases h) (fun _ => trivial) (exec_slice1 43 _ (by rfl) (.agg PA.toArray) _ (by rfl) HBS.out) ?_)
        | (refine wpListIn_val (by rfl) (fun _ h => by cases h) (fun _ => trivial) (exec_append _ _ 43 (by rfl) (.slice a1 Us.length d1) (.slice (some ⟨W.heap.size, 0, none⟩) 1 1) _ (by rfl) (by rfl) HAP.out) ?_))
      all_goals
        obtain ⟨hown2, hgrow, hat, hg⟩ := HALL.out
        obtain ⟨hy, hby, hnm⟩ := HY.out
        have hPA := HPA.out
        subst hPA
        obtain ⟨V, hV⟩ : ∃ V, W4.setCell ⟨w.heap.size + 1, 0, none⟩ (.slice (some ⟨g, 0, none⟩) (Us.length + 1) cap) = V := ⟨_, rfl⟩
        rw [hV]
        obtain ⟨q1, q2, q3, q4, q5⟩ := WkS.found HS.out hy HF0.out hnm hby hbW (by omega) (by omega) HOW.out hgrow (by simpa using hat) hg hown2 hV
        obtain ⟨q6, q7⟩ := HFIN.out V q5
      · rename_i hcmp
        have hcmp' : Us.length + 1 = m := by
          have := eq_of_beq hcmp
          omega
        exact ⟨q1, rfl, ⟨_, _, _, _, q2, by rw [List.length_append, List.length_singleton]; exact hcmp'⟩, q6, by omega, y, hy, HF0.out⟩
      · rename_i hcmp
        have hcmp' : Us.length + 1 ≠ m := fun e => by
          have h2 : ((Us.length : Int) + 1 == (m : Int)) = true := by
            rw [beq_iff_eq]
            omega
          rw [hcmp] at h2
          cases h2
        have hlt' := HLT.out
        exact ⟨q1, ⟨_, ⟨_, _, _, q2, by rw [List.length_append, List.length_singleton]; omega⟩, q3, q4⟩, q7⟩
    · have HF0 := hid hf0
      have hf0I : ¬ ((y.2.1 : Int) = 0) := by omega
      have HBS := hid (run_oneI (y.1 : Int) W)
      have hal : Kp No W (W.alloc (.cells #[.int .i64 (y.1 : Int)] 3)) := (Kp.refl _ _).alloc _
      obtain ⟨i, hi, hiz⟩ : ∃ i, Tryz.prog.info? 3 = some i ∧ (i.zero, i.size, i.bytes) = (some (.int .i64 0), 1, 8) := Option.map_eq_some_iff.1 infoI
      simp only [Prod.mk.injEq] at hiz
      obtain ⟨z1, z2, z3⟩ := hiz
      obtain ⟨ln, hln⟩ : ∃ ln, (lsOf X k).length = ln := ⟨_, rfl⟩
      have HLN := hid hln
      rw [hln] at hll c2 hr2 ho2 HS
      obtain ⟨g, cap, W4, hap, hown2, hgrow, hat, hg⟩ := run_append_lies (P := Tryz.prog) (W.alloc (.cells #[.int .i64 (y.1 : Int)] 3)) 23 23 0 3 i (.int .i64 0) 1 8 Tryz.underlying23 hi z1 z2 z3 rfl (by omega)
        (.slice a2 ln d2) ln (ic (lsOf X k)) (Sim.Row.kept hr2 hal) ⟨W.heap.size, 0, none⟩ 1 1 [.int .i64 (y.1 : Int)] rfl (fun j u h => by rw [Addr.add_lit]; exact range_new W [.int .i64 (y.1 : Int)] 3 j u h) (by intro u hu; rw [List.mem_singleton.1 hu]; rfl) (by omega) (by unfold maxLen; omega) (by omega) (Nat.zero_le _) _ rfl
      have HAP := hid hap
      have k4 : Kp (fun x => (Value.slice a2 ln d2).ownBlock = some x) W W4 := hal.ofNo.trans (Kp.ofGrown hgrow) (fun x hx => .inl hx)
      have c2' := (k4.cell (p := ⟨w.heap.size + 1 + 1, 0, none⟩) h2W (fun e => by have h9 : W3.heap.size ≤ w.heap.size + 1 + 1 := (ho2 _ e).2.1; omega)).trans c2
      have f2' := (k4.frozen (p := ⟨w.heap.size + 1 + 1, 0, none⟩) h2W (fun e => by have h9 : W3.heap.size ≤ w.heap.size + 1 + 1 := (ho2 _ e).2.1; omega)).trans f2
      have HALL := hid (And.intro hown2 (And.intro hgrow (And.intro hat hg)))
      clear hown2 hgrow hat hg hap hal hi z1 z2 z3 k4 hr1 hr2 ho1 ho2 HRG hln
      gi_wp2_with (first
        | (refine wpListIn_val (by rfl) (fun _ h => by cases h) (fun _ => trivial) (exec_slice1 23 _ (by rfl) (.int .i64 (y.1 : Int)) _ (by rfl) HBS.out) ?_)
        | (refine wpListIn_val (by rfl) (fun _ h => by cases h) (fun _ => trivial) (exec_append _ _ 23 (by rfl) (.slice a2 ln d2) (.slice (some ⟨W.heap.size, 0, none⟩) 1 1) _ (by rfl) (by rfl) HAP.out) ?_))
      obtain ⟨hown2, hgrow, hat, hg⟩ := HALL.out
      obtain ⟨hy, hby, hnm⟩ := HY.out
      have hln := HLN.out
      subst hln
      obtain ⟨V, hV⟩ : ∃ V, W4.setCell ⟨w.heap.size + 1 + 1, 0, none⟩ (.slice (some ⟨g, 0, none⟩) ((lsOf X k).length + 1) cap) = V := ⟨_, rfl⟩
      rw [hV]
      obtain ⟨q1, q2, q3, q4, q5⟩ := WkS.lost HS.out hy HF0.out hbW (by omega) (by omega) HOW.out hgrow (by simpa using hat) hg hown2 hV
      obtain ⟨q6, q7⟩ := HFIN.out V q5
      exact ⟨q1, ⟨_, ⟨_, _, _, q2, HLT.out⟩, q3, q4⟩, q7⟩
  case done =>
    rintro D O W hD ⟨Us, u1, u2, hS, hlt⟩ hT hd
    have HS := hid hS
    have HT := hid hT.2.2.1
    obtain ⟨a1, d1, rfl, _⟩ := Sim.Row.shape hS.r1
    obtain ⟨a2, d2, rfl, _⟩ := hS.r2.form
    have c1 := hS.b1.cell
    have c2 := hS.b2.cell
    change W.cell? ⟨w.heap.size + 1 + 1, 0, none⟩ = _ at c2
    clear hS hT HKP HWK0
    gi_wp2_with fail
    refine wpIn_wide.2 ?_
    go_region
    gi_wp2_with fail
    have hd' : W.drew.heap[D]? = some (.deferred (some [])) := hd
    refine ⟨by simp, .inl ⟨_, _, rfl, run_takeDeferred hd', ?_⟩⟩
    refine ⟨.tuple #[.slice a1 Us.length d1, .slice a2 (lsOf X X.length).length d2], by simp [results, Tryz.results14, go_sem], ?_⟩
    exact walked_end HS.out HT.out hd (by omega) hbW (by omega) (Nat.le_refl _) (.inl ⟨rfl, hlt⟩)
  case stop =>
    rintro D c k W hD hk ⟨rfl, ⟨O, Us, u1, u2, hS, hlt⟩, hT, h1k, hyk⟩ hd
    have HS := hid hS
    have HT := hid hT
    have HLT := hid hlt
    obtain ⟨a1, d1, rfl, _⟩ := Sim.Row.shape hS.r1
    obtain ⟨a2, d2, rfl, _⟩ := hS.r2.form
    have c1 := hS.b1.cell
    have c2 := hS.b2.cell
    change W.cell? ⟨w.heap.size + 1 + 1, 0, none⟩ = _ at c2
    clear hS hT hlt HKP HWK0
    gi_wp2_with fail
    refine wpIn_wide.2 ?_
    go_region
    gi_wp2_with fail
    have hd' : W.drew.heap[D]? = some (.deferred (some [])) := hd
    refine ⟨by simp, .inl ⟨_, _, rfl, run_takeDeferred hd', ?_⟩⟩
    refine ⟨.tuple #[.slice a1 Us.length d1, .slice a2 (lsOf X k).length d2], by simp [results, Tryz.results14, go_sem], ?_⟩
    exact walked_end HS.out HT.out hd (by omega) hbW (by omega) hk (.inr ⟨HLT.out, h1k, hyk⟩)

end Go.Proofs.YtaaioaocjfpajaaGreatDoor.Sh
end

section
/-
  law09's Own: records as the program's.
-/
namespace Go.Proofs.YtaaioaocjfpajaaGreatDoor.Sh
open Go.RowKit Go.Shelf
open Tlv (BySlS)
open Sim (hid Kp No Blk Row)

def elS (zs : List El) : List Value := zs.flatMap elC
theorem elS_snoc (zs : List El) (z : El) : elS (zs ++ [z]) = elS zs ++ elC z := by simp [elS]
theorem infoF : (Tryz.prog.info? 56).map (fun i => (i.zero, i.size, i.bytes)) = some (some (.agg zRec.toArray), 34, 64) := by kernel_rfl
theorem run_oneF (z : El) (hz : elOk z) (w : World) : (Instr.buildSlice 39 1 #[(0, .agg (elC z).toArray)]).run Tryz.prog w = .ok (.slice (some ⟨w.heap.size, 0, none⟩) 1 1) (w.alloc (.cells (elC z).toArray 56)) := by
  obtain ⟨⟨k, nmr, bs⟩, a, c⟩ := z
  have hn : nmr.length = 32 := hz.1
  show (Instr.buildSlice 39 1 #[(0, .agg (recA k nmr (.slice a bs.length c)).toArray)]).run Tryz.prog w = .ok (.slice (some ⟨w.heap.size, 0, none⟩) 1 1) (w.alloc (.cells (recA k nmr (.slice a bs.length c)).toArray 56))
  clear hz
  generalize bs.length = l
  obtain ⟨x0, x1, x2, x3, x4, x5, x6, x7, x8, x9, x10, x11, x12, x13, x14, x15, x16, x17, x18, x19, x20, x21, x22, x23, x24, x25, x26, x27, x28, x29, x30, x31, rfl⟩ := ex32 hn
  kernel_rfl
theorem elS_get (zs : List El) (hz : ∀ z ∈ zs, elOk z) : ∀ i z, zs[i]? = some z → ∀ j u, (elC z)[j]? = some u → (elS zs)[i * 34 + j]? = some u := by
  induction zs with
  | nil => intro i z h; simp at h
  | cons y zs ih =>
    intro i z h j u hu
    have hy := elC_length (hz y List.mem_cons_self)
    have e : elS (y :: zs) = elC y ++ elS zs := by simp [elS]
    rw [e]
    cases i with
    | zero =>
      simp at h
      subst h
      have hj := (List.getElem?_eq_some_iff.1 hu).1
      rw [Nat.zero_mul, Nat.zero_add, List.getElem?_append_left hj]
      exact hu
    | succ i =>
      rw [List.getElem?_append_right (by omega), hy, show (i + 1) * 34 + j - 34 = i * 34 + j by omega]
      exact ih (fun z hz' => hz z (List.mem_cons_of_mem _ hz')) i z (by simpa using h) j u hu
theorem elS_length (zs : List El) (hz : ∀ z ∈ zs, elOk z) : (elS zs).length = zs.length * 34 := by
  induction zs with
  | nil => rfl
  | cons y zs ih =>
    have e : elS (y :: zs) = elC y ++ elS zs := by simp [elS]
    rw [e, List.length_append, elC_length (hz y List.mem_cons_self), ih (fun z hz' => hz z (List.mem_cons_of_mem _ hz')), List.length_cons]
    omega
/-- A row of one's own, as records that are read. -/
theorem row_rv {S : Nat → Prop} {w : World} {u : Value} {zs : List El} (h : Row w 56 34 u zs.length (elS zs)) (hz : ∀ z ∈ zs, elOk z ∧ BySlS (fun g => S g ∧ g < w.heap.size) w (elV z) z.1.2.2) : RV (fun g => S g ∨ u.ownBlock = some g) w u zs := by
  obtain ⟨a, c, rfl, h1, h2, h3, h4⟩ := h.shape
  refine ⟨a, c, rfl, h1, h2, fun e => ⟨List.length_eq_zero_iff.1 (h3 e).1, (h3 e).2⟩, fun z hz' => ⟨(hz z hz').1, BySlS.mono (hz z hz').2 (S' := fun g' => (S g' ∨ (Value.slice a zs.length c).ownBlock = some g') ∧ g' < w.heap.size) (fun g hg => ⟨.inl hg.1, hg.2⟩)⟩, fun hne => ?_⟩
  cases a with
  | none => exact absurd (List.length_eq_zero_iff.1 (h3 rfl).1) hne
  | some x =>
    obtain ⟨g, o, sp⟩ := x
    obtain ⟨rfl, rfl⟩ : sp = none ∧ o = 0 := h4 _ rfl
    refine ⟨g, 0, rfl, .inr rfl, h.lt g rfl, fun i z hz' j v hv => ?_⟩
    have hj := elS_get zs (fun z hz => ((‹∀ z ∈ zs, elOk z ∧ _› z hz).1)) i z hz' j v hv
    rw [Nat.zero_add, h.cellAt _ (by have := (List.getElem?_eq_some_iff.1 hj).1; have := h.1; omega)]
    exact hj

/-- Records that are read, wherever their row ends. -/
def RW (S : Nat → Prop) (w : World) (v : Value) (zs : List El) : Prop :=
  ∃ a c, v = .slice a zs.length c ∧ (∀ z ∈ zs, elOk z ∧ BySlS (fun g => S g ∧ g < w.heap.size) w (elV z) z.1.2.2) ∧ (∀ i z, zs[i]? = some z → ∃ g o, a = some ⟨g, o, none⟩ ∧ S g ∧ g < w.heap.size ∧ w.rangeAt g (o + i * 34) (elC z))
theorem RV.rw {S : Nat → Prop} {w : World} {v : Value} {zs : List El} (h : RV S w v zs) : RW S w v zs := by
  obtain ⟨a, c, rfl, _, _, _, h4, h5⟩ := h
  refine ⟨a, c, rfl, h4, fun i z hz => ?_⟩
  obtain ⟨g, o, e, hg, hl, hr⟩ := h5 (fun e => by rw [e] at hz; simp at hz)
  exact ⟨g, o, e, hg, hl, hr i z hz⟩
theorem RW.kept {S : Nat → Prop} {w w' : World} {v : Value} {zs : List El} (h : RW S w v zs) (k : Kp No w w') : RW S w' v zs := by
  obtain ⟨a, c, rfl, h4, h5⟩ := h
  refine ⟨a, c, rfl, fun z hz => ⟨(h4 z hz).1, (h4 z hz).2.agree (fun g hg => k.block g hg.2 (fun e => e)) (fun g hg => ⟨hg.1, Nat.lt_of_lt_of_le hg.2 k.size⟩)⟩, fun i z hz => ?_⟩
  obtain ⟨g, o, e, hg, hl, hr⟩ := h5 i z hz
  exact ⟨g, o, e, hg, Nat.lt_of_lt_of_le hl k.size, rangeAt_below hr k.toBelow' hl⟩

set_option maxHeartbeats 4000000 in
set_option maxRecDepth 100000 in
theorem own9_any {S : Nat → Prop} (w : World) (v : Value) (zs : List El) (hv : RW S w v zs) (hl : zs.length ≤ 100000) :
    Calls Tryz.prog 11 #[v] w fun e w' => ∃ u, e = .returned u ∧ Row w' 56 34 u zs.length (elS zs) ∧ (∀ x, u.ownBlock = some x → w.heap.size ≤ x) ∧ Kp No w w' := by
  have HV := hid hv
  obtain ⟨a, c, rfl, _⟩ := hv
  obtain ⟨n, hn⟩ : ∃ n, zs.length = n := ⟨_, rfl⟩
  have HN := hid hn
  rw [hn] at HV hl ⊢
  clear hn
  go_enter Tryz.func11, Tryz.ntmps11
  go_wp2_with fail
  go_loopw [3, 4] (fun vo vi wr => ∃ (k : Nat) (ad : Option Addr) (cap : Nat), k ≤ n ∧ vi = .int .i64 (k : Int) ∧ vo = .slice ad k cap ∧ Hid (Row wr 56 34 (.slice ad k cap) k (elS (zs.take k)) ∧ (∀ x, (Value.slice ad k cap).ownBlock = some x → w.heap.size ≤ x) ∧ Kp No w wr)) (fun _ vi _ => n - (intOf vi).toNat)
  case atStart => exact ⟨0, none, 0, Nat.zero_le _, rfl, rfl, Sim.Row.nil _ _ _, by intro x hx; simp [Value.ownBlock] at hx, Kp.refl _ _⟩
  case round =>
    obtain ⟨k, ad, cap, hk, rfl, rfl, HS⟩ := hrel
    by_cases hlt : k < n
    · have hltI : (k : Int) < (n : Int) := by omega
      obtain ⟨z, hz⟩ : ∃ z, zs[k]? = some z := ⟨_, List.getElem?_eq_getElem (by rw [HN.out]; exact hlt)⟩
      have hvr := HV.out.kept HS.out.2.2
      obtain ⟨a', c', e', h4, h5⟩ := id hvr
      simp only [Value.slice.injEq] at e'
      obtain ⟨rfl, en, rfl⟩ := e'
      obtain ⟨g, o, rfl, _, hgl, hrg⟩ := h5 k z hz
      have HRG := hid hrg
      have hzo := (h4 z (List.mem_of_getElem? hz)).1
      have hcl := elC_length hzo
      have HOW := hid (fun V => own11_any z.1.1 z.1.2.1 z.2.1 z.1.2.2.length z.2.2 V hzo.1)
      have HN1 := hid (fun V => run_oneF z hzo V)
      have HO1 := hid (elC_one z)
      have HTK : Hid (elS (zs.take (k + 1)) = elS (zs.take k) ++ elC z) := by rw [Hid, List.take_add_one, hz]; exact elS_snoc _ _
      obtain ⟨cx, hcx⟩ : ∃ cx, elC z = cx := ⟨_, rfl⟩
      have hcx' : recA z.1.1 z.1.2.1 (.slice z.2.1 z.1.2.2.length z.2.2) = cx := hcx
      rw [hcx] at HRG HN1 HO1 hcl HTK
      rw [hcx'] at HOW
      have HI : Hid ((Tryz.prog.info? 68).map (·.size) = some cx.length) := by rw [Hid, hcl]; exact Tryz.info26
      clear en hz hvr h4 h5 hrg hzo hcx hcx'
      go_wp2_with (refine wpList_load_mid (by rfl) 68 _ (by rfl) g (o + k * 34) (by rfl) cx _ HRG.out Tryz.underlying68 rfl HI.out ?_)
      refine (HOW.out _).mono ?_
      rintro e w2 ⟨rfl, hB⟩
      have hk2 : Kp No wr w2 := Kp.below hB
      have hal : Kp No w2 (w2.alloc (.cells cx.toArray 56)) := (Kp.refl No w2).alloc _
      have HK2 := hid (And.intro hk2 hal)
      have HR5 := hid ((HS.out.1.kept hk2).kept hal)
      have HSRC : Hid (Sim.Src (w2.alloc (.cells cx.toArray 56)) (.slice (some ⟨w2.heap.size, 0, none⟩) 1 1) 1 34 cx) := Sim.Src.one w2 cx 34 56 hcl HO1.out
      clear hB hk2 hal HOW
      go_wp2_with (first
        | (refine wpList_val (by rfl) (exec_slice1 39 _ (by rfl) (.agg cx.toArray) _ (by rfl) (HN1.out _)) ?_)
        | (refine Sim.app_row _ (by rfl) _ _ 39 56 (.agg zRec.toArray) 34 64 (by rfl) Tryz.underlying39 infoF rfl (by omega) (.slice ad k cap) (.slice (some ⟨w2.heap.size, 0, none⟩) 1 1) k 1 (elS (zs.take k)) cx (by rfl) (by rfl) HR5.out HSRC.out (by omega) (by omega) ?_; intro ad2 cap2 w6 hrow6 hgr6 hown6))
      refine ⟨⟨k + 1, ad2, cap2, by omega, by go_num, rfl, ?_, ?_, ?_⟩, by simp [intOf]; omega⟩
      · rw [HTK.out]; exact hrow6
      · intro x hx
        have h1 := HK2.out.1.size
        have h2 := HK2.out.2.size
        have h3 := HS.out.2.2.size
        rcases hown6 with e | e
        · rw [e] at hx; exact HS.out.2.1 x hx
        · rw [e] at hx
          have : (w2.alloc (.cells cx.toArray 56)).heap.size = x := by simpa using hx
          omega
      · exact ((HS.out.2.2.andNone HK2.out.1).andNone HK2.out.2).grown hgr6 (fun x hx => .inr (HS.out.2.1 x hx))
    · have hltI : ¬ (k : Int) < (n : Int) := by omega
      have hkn : k = n := by omega
      subst hkn
      have HTK : Hid (zs.take k = zs) := by rw [← HN.out]; exact List.take_length
      go_wp2_with fail
      go_ret
      rw [HTK.out] at HS
      exact ⟨_, rfl, HS.out⟩

end Go.Proofs.YtaaioaocjfpajaaGreatDoor.Sh
end

section
/-
  ShelfWalks, purely: how many packs a Lay makes; what a walk tells, item by item.
-/
namespace Go.Proofs.YtaaioaocjfpajaaGreatDoor.Sh
open Go.RowKit Go.Shelf
open Tlv (BySlS)
open Sim (hid Kp No PS Blk nm Row)

theorem szE_ok {z : El} (h : okR z = true) : szE z ≤ 5049 := by
  unfold okR rightB at h
  simp at h
  unfold szE
  omega
theorem dl_two (zs : List El) (hz : ∀ z ∈ zs, szE z ≤ 5049) : 2 * (dl zs).1.length + (dl zs).2.length ≤ zs.length ∧ szs (dl zs).2 ≤ 5049 * (dl zs).2.length := by
  revert hz
  refine list_snoc (p := fun zs => (∀ z ∈ zs, szE z ≤ 5049) → 2 * (dl zs).1.length + (dl zs).2.length ≤ zs.length ∧ szs (dl zs).2 ≤ 5049 * (dl zs).2.length) zs (fun _ => by simp [dl, szs]) (fun zs z h hz => ?_)
  obtain ⟨h1, h2⟩ := h (fun y hy => hz y (by simp [hy]))
  have hzz := hz z (by simp)
  rw [dl_snoc, dlStep]
  split
  · simp only [List.length_append, List.length_singleton, szs_snoc]
    omega
  · rename_i hs
    have e : szs [z] = szE z := by simp [szs]
    simp only [List.length_append, List.length_singleton, e]
    omega
theorem parts_two (zs : List El) (h : zs.all okR = true) : 2 * (parts zs).length ≤ zs.length + 1 := by
  obtain ⟨h1, _⟩ := dl_two zs (fun z hz => szE_ok (List.all_eq_true.1 h z hz))
  unfold parts
  split
  · omega
  · rename_i hne
    have := List.length_pos_iff.2 hne
    rw [List.length_append, List.length_singleton]
    omega

/-- Where a walk ends. -/
def WD (X : List WI) (K M : Nat) : Prop := K ≤ X.length ∧ ((K = X.length ∧ (fsOf X K).length < M) ∨ ((fsOf X K).length = M ∧ (K = 0 ∨ ∃ y, X[K - 1]? = some y ∧ y.2.1 = 0)))
/-- What a walk leaves. -/
def WalkR (M b : Nat) (w W : World) (X : List WI) (u1 u2 : Value) : Prop :=
  ∃ (K : Nat) (Us : List UI), WD X K M ∧ Us.map (·.1) = fsOf X K ∧ Row W 58 37 u1 Us.length (fcs Us) ∧ RowZ W u2 (lsOf X K) ∧ (∀ z ∈ Us, nmOk z.1.2.2 ∧ BySlS (fun g => g ≠ b ∧ g < W.heap.size) W (uV z) (uB z)) ∧
    (∀ x, u1.ownBlock = some x → w.heap.size ≤ x) ∧ (∀ x, u2.ownBlock = some x → w.heap.size ≤ x) ∧ Kp (fun x => x = b) w W ∧ TabX W b
theorem Walked.r {m b : Nat} {w W : World} {X : List WI} {e : Ending} (h : Walked m b w W X e) : ∃ u1 u2, e = .returned (.tuple #[u1, u2]) ∧ WalkR m b w W X u1 u2 := by
  obtain ⟨K, Us, u1, u2, he, h1, h2, h3, h4, h5, h6, h7, h8, h9, h10⟩ := h
  have hl : Us.length = (fsOf X K).length := by rw [← h2, List.length_map]
  refine ⟨u1, u2, he, K, Us, ⟨h1, ?_⟩, h2, h3, h4, h5, h6, h7, h8, h9⟩
  rcases h10 with ⟨a, c⟩ | ⟨a, _, c⟩
  · exact .inl ⟨a, by omega⟩
  · exact .inr ⟨by omega, .inr c⟩
end Go.Proofs.YtaaioaocjfpajaaGreatDoor.Sh
end

section
/-
  ShelfBack: the shelf's state through Lays, a crash, and another Open.
-/
namespace Go.Proofs.YtaaioaocjfpajaaGreatDoor.Sh
open Go.RowKit Go.Shelf
open Tlv (BySlS)
open Sim (hid Kp No PS Blk nm Row finds pBytes pList pUp pArm IntsAt)

theorem RW.kp {S L : Nat → Prop} {w w' : World} {v : Value} {zs : List El} (h : RW S w v zs) (k : Kp L w w') (hS : ∀ g, S g → ¬ L g) : RW S w' v zs := by
  obtain ⟨a, c, rfl, h4, h5⟩ := h
  refine ⟨a, c, rfl, fun z hz => ⟨(h4 z hz).1, (h4 z hz).2.agree (fun g hg => k.block g hg.2 (hS g hg.1)) (fun g hg => ⟨hg.1, Nat.lt_of_lt_of_le hg.2 k.size⟩)⟩, fun i z hz => ?_⟩
  obtain ⟨g, o, e, hg, hl, hr⟩ := h5 i z hz
  exact ⟨g, o, e, hg, Nat.lt_of_lt_of_le hl k.size, fun j u hu => (k.cell (p := ⟨g, _, none⟩) hl (hS g hg)).trans (hr j u hu)⟩

/-- What a step may write: blocks made since w, but none of Kb. -/
abbrev Free (w : World) (Kb : Nat → Prop) (x : Nat) : Prop := w.heap.size ≤ x ∧ ¬ Kb x
/-- The shelf h, of files that may go down, all made since w; Kb: blocks that are the caller's. -/
def SC (w : World) (h s b m N : Nat) (Kb : Nat → Prop) (V : World) (n : Int) (H : List (Nat × List Nat)) : Prop :=
  ∃ p P, CG Wh m n H p ∧ ShAt V h s b n ∧ TabX V b ∧ Sim.Sys P N V s p ∧ (∀ x, P x → Free w Kb x) ∧ ¬ P b ∧ ¬ P h ∧ Kp No w V ∧ (∀ x, Kb x → x < V.heap.size ∧ x ≠ b ∧ x ≠ h)
theorem SC.kp {w V W : World} {h s b m N : Nat} {Kb Kb' L : Nat → Prop} {n : Int} {H : List (Nat × List Nat)} (hs : SC w h s b m N Kb V n H) (k : Kp L V W) (hL : ∀ x, L x → w.heap.size ≤ x ∧ Kb x) (hK : ∀ x, Kb' x → (Kb x ∨ V.heap.size ≤ x) ∧ x < W.heap.size) : SC w h s b m N Kb' W n H := by
  obtain ⟨p, P, h1, h2, h3, h4, h5, h6, h7, h8, h9⟩ := hs
  have hhl := h2.lt
  have hbl := h3.lt
  refine ⟨p, P, h1, h2.kp k (fun e => (h9 h (hL h e).2).2.2 rfl), h3.kp k (fun e => (h9 b (hL b e).2).2.1 rfl), h4.kp k (fun x hx hp => (h5 x hp).2 (hL x hx).2), fun x hx => ⟨(h5 x hx).1, fun e => ?_⟩, h6, h7, h8.trans k (fun x hx => .inr (hL x hx).1), fun x hx => ?_⟩
  · rcases (hK x e).1 with e | e
    · exact (h5 x hx).2 e
    · have := h4.lt x hx; omega
  · refine ⟨(hK x hx).2, ?_⟩
    rcases (hK x hx).1 with e | e
    · exact (h9 x e).2
    · exact ⟨by omega, by omega⟩
theorem SC.kept {w V W : World} {h s b m N : Nat} {Kb : Nat → Prop} {n : Int} {H : List (Nat × List Nat)} (hs : SC w h s b m N Kb V n H) (k : Kp No V W) : SC w h s b m N Kb W n H := hs.kp k (fun _ e => e.elim) (fun x e => ⟨.inl e, by obtain ⟨p, P, h1, h2, h3, h4, h5, h6, h7, h8, h9⟩ := hs; exact Nat.lt_of_lt_of_le (h9 x e).1 k.size⟩)
theorem SC.no {w V : World} {h s b m N : Nat} {Kb : Nat → Prop} {n : Int} {H : List (Nat × List Nat)} (hs : SC w h s b m N Kb V n H) : Kp No w V := by
  obtain ⟨p, P, h1, h2, h3, h4, h5, h6, h7, h8, h9⟩ := hs
  exact h8

set_option maxHeartbeats 1000000 in
theorem lay_sc {w V0 V : World} {h s b m N : Nat} {Kb : Nat → Prop} {n : Int} {H : List (Nat × List Nat)} (hst : SC w h s b m N Kb V0 n H) (k : Kp No V0 V) (hhb : h ≠ b) (hb : w.heap.size ≤ b) (hh : w.heap.size ≤ h) (hV : Vars w) (u : Value) (ys : List El) (hn : ys.length ≤ 20)
    (hrow : Row V 56 34 u ys.length (elS ys)) (hown : ∀ x, u.ownBlock = some x → V0.heap.size ≤ x) (hz : ∀ z ∈ ys, elOk z ∧ BySlS (fun g => g < w.heap.size) V (elV z) z.1.2.2) (hm : m + 10 < 100) (hN : N + 120 ≤ 1000) :
    Calls Tryz.prog 10 #[.pointer (some ⟨h, 0, none⟩), u] V fun e w' => ∃ (v : Value) (φ : Nat) (n' : Int) (H' : List (Nat × List Nat)), e = .returned (.tuple #[v, .int .i64 (φ : Int)]) ∧
      SC w h s b (m + 10) (N + 120) (fun x => Kb x ∨ v.ownBlock = some x) w' n' H' ∧ (∀ x ∈ H, x ∈ H') ∧ (φ ≠ 0 → v = .slice none 0 0) ∧ (φ = 0 → ∃ qs, PlOk H' ys qs ∧ Row w' 51 3 v qs.length (plS qs) ∧ ∀ x, v.ownBlock = some x → V.heap.size ≤ x) ∧ Kp (Free w Kb) V w' := by
  obtain ⟨p, P, hG, hH, hT, hS, hP, hPb, hPh, hk, hKb⟩ := hst
  have hkV := hk.andNone k
  have hs0 := hk.size
  have hs1 := k.size
  have hPl := hS.lt
  have hbl := hT.lt
  have hhl := hH.lt
  have hrv := row_rv (S := fun g => g < w.heap.size) hrow (fun z hz' => ⟨(hz z hz').1, BySlS.mono (hz z hz').2 (fun g hg => ⟨hg, by omega⟩)⟩)
  have hnn := hG.2.1
  have hnm := hG.2.2.1
  by_cases hok : ys.all okR = true
  · have hp2 := parts_two ys hok
    obtain ⟨i, hi⟩ : ∃ i : Nat, (i : Int) = n + 1 := ⟨(n + 1).toNat, by omega⟩
    have hRt : ∀ z ∈ parts ys, z ≠ [] ∧ ∀ y ∈ z, RtE y := fun z hz' => by
      refine ⟨parts_ne ys (fun y hy => by have := szE_ok (List.all_eq_true.1 hok y hy); omega) z hz', fun y hy => ?_⟩
      have hy' : y ∈ ys := by rw [← parts_flat ys]; exact List.mem_flatten.2 ⟨z, hz', hy⟩
      have h1 := List.all_eq_true.1 hok y hy'
      exact ⟨h1, right_of h1 (hz y hy').1.1 (hz y hy').1.2 (by obtain ⟨_, _, _, _, _, _, _, hb, _⟩ := (hz y hy').2; exact hb)⟩
    have hCG0 : CG (fun _ => True) m n [] p := ⟨⟨hG.1.se, hG.1.rs, fun k e he => by
      rcases hG.1.pk k e he with g | ⟨j, bs, g1, g2, g3, g4, _⟩
      · exact .inl g
      · exact .inr ⟨j, bs, g1, g2, g3, g4, trivial⟩, fun k x hx => by simp at hx, fun x hx => by simp at hx, hG.1.nb⟩, hG.2⟩
    have hlist := hG.list
    refine (lay_yes (P := P) (S := fun g => g < w.heap.size ∨ u.ownBlock = some g) (N := N) (K := 10) (G := fun k p n => CG (fun _ => True) (m + k) n [] p) V h s b n p i u ys (CG.pre m 10 hm) (by omega) hCG0 (hH.kp k (fun x => x)) (hS.kept k) (hT.kp k (fun x => x)) hPb hPh hhb
      (fun V' k' => Vars.kept hV (hkV.trans k' (fun y hy => .inr (by
        rcases hy with hy | hy | hy
        · exact (hP y hy).1
        · omega
        · omega)))) (fun x hx => by have := hlist.1 x hx; omega) (by
          have h3 := List.length_filterMap_le idN (pList p)
          unfold idsP
          rw [List.length_mergeSort]
          omega) (by rw [hG.max]; omega) (by omega) hrv (fun y hy => ?_) hok (by omega)).mono ?_
    · rcases hy with hy | hy
      · refine ⟨fun e => ?_, by omega⟩
        rcases e with e | e | e
        · have := (hP y e).1; omega
        · omega
        · omega
      · have h1 := hown y hy
        have h2 := hrow.lt y hy
        refine ⟨fun e => ?_, h2⟩
        rcases e with e | e | e
        · have := hPl y e; omega
        · omega
        · omega
    · rintro e w' ⟨u', φ, rfl, hA⟩
      obtain ⟨hy, hno⟩ := hA
      have fin : ∀ (p2 : PS) (n2 : Int) (P2 : Nat → Prop) (H2 : List (Nat × List Nat)) (v : Value), CG Wh (m + 10) n2 H2 p2 → ShAt w' h s b n2 → TabX w' b → Sim.Sys P2 (N + 6 * ys.length) w' s p2 → (∀ x, P2 x → P x ∨ V.heap.size ≤ x) → Kp (fun y => P y ∨ y = b ∨ y = h) V w' → (∀ x, v.ownBlock = some x → V.heap.size ≤ x ∧ ¬ P2 x) → (∀ x, v.ownBlock = some x → x < w'.heap.size) →
          SC w h s b (m + 10) (N + 120) (fun x => Kb x ∨ v.ownBlock = some x) w' n2 H2 ∧ Kp (Free w Kb) V w' := fun p2 n2 P2 H2 v g1 g2 g3 g4 g5 g6 g7 g7' => by
        have g8 : Kp (Free w Kb) V w' := g6.mono (fun y hy => .inl (by
          rcases hy with hy | hy | hy
          · exact hP y hy
          · exact ⟨by omega, fun e => (hKb y e).2.1 hy⟩
          · exact ⟨by omega, fun e => (hKb y e).2.2 hy⟩))
        refine ⟨⟨p2, P2, g1, g2, g3, g4.more (by omega) hN, fun x hx => ⟨?_, fun e => ?_⟩, fun e => ?_, fun e => ?_, hkV.trans g8 (fun y hy => .inr hy.1), fun x hx => ?_⟩, g8⟩
        · rcases g5 x hx with e | e
          · exact (hP x e).1
          · omega
        · rcases e with e | e
          · rcases g5 x hx with e' | e'
            · exact (hP x e').2 e
            · have := (hKb x e).1
              omega
          · exact (g7 x e).2 hx
        · rcases g5 b e with e | e
          · exact hPb e
          · omega
        · rcases g5 h e with e | e
          · exact hPh e
          · omega
        · rcases hx with e | e
          · exact ⟨by have := (hKb x e).1; have := g6.size; omega, (hKb x e).2⟩
          · have := (g7 x e).1
            exact ⟨g7' x e, by omega, by omega⟩
      by_cases hφ : φ = 0
      · obtain ⟨p2, n2, qs, P2, h1, h2, h3, h4, h5, h6, h7, h8, h9⟩ := hy hφ
        obtain ⟨H2, g1, g2, g3, _⟩ := CG.layR hG h1 (by omega) hRt
        rw [parts_flat] at g3
        obtain ⟨f1, f2⟩ := fin p2 n2 P2 H2 u' (g1.up (by omega)) h3 h4 h5 h6 h7 h9 (fun x hx => h8.lt x hx)
        exact ⟨u', φ, n2, H2, rfl, f1, g2, fun e => absurd hφ e, fun _ => ⟨qs, g3, h8, fun x hx => (h9 x hx).1⟩, f2⟩
      · obtain ⟨rfl, ps, p1, n1, qs, i1, x1, z1, P2, h1, h2, h3, h4, h5, h6, h7, h8, h9, r, hr⟩ := hno hφ
        have hlen : ps.length + 1 ≤ (parts ys).length := by rw [hr, List.length_append, List.length_cons]; omega
        obtain ⟨H2, g1, g2, _, _⟩ := CG.layR hG h1 (by omega) (fun z hz => hRt z (by rw [hr]; simp [hz]))
        rw [g1.max] at h2
        have gn := g1.2.2.1
        obtain ⟨c1, c2⟩ := hRt z1 (by rw [hr]; simp)
        have g4 := (g1.lpF (i := i1) h2.symm (by omega) h3 z1 (wh_zb c1 c2)).1 (by rw [h4]; exact hφ)
        obtain ⟨f1, f2⟩ := fin _ _ P2 H2 (.slice none 0 0) (g4.up (by omega)) h5 h6 h7 h8 h9 (by simp [Value.ownBlock]) (by simp [Value.ownBlock])
        exact ⟨_, φ, _, H2, rfl, f1, g2, fun _ => rfl, fun e => absurd e hφ, f2⟩
  · have hok' : ys.all okR = false := by simpa using hok
    refine (lay_no V h s b n u ys (hH.kp k (fun x => x)) hrv hok' (by omega)).mono ?_
    rintro e w' ⟨rfl, k2⟩
    have hsc : SC w h s b m N Kb w' n H := SC.kept ⟨p, P, hG, hH, hT, hS, hP, hPb, hPh, hk, hKb⟩ (k.andNone k2)
    obtain ⟨p', P', g1, g2, g3, g4, g5, g6, g7, g8, g9⟩ := hsc
    refine ⟨_, 1, n, H, rfl, ⟨p', P', g1.up (by omega), g2, g3, g4.more (by omega) hN, fun x hx => ⟨(g5 x hx).1, fun e => ?_⟩, g6, g7, g8, fun x hx => ?_⟩, fun x hx => hx, fun _ => rfl, fun e => by omega, k2.ofNo⟩
    · rcases e with e | e
      · exact (g5 x hx).2 e
      · simp [Value.ownBlock] at e
    · rcases hx with e | e
      · exact g9 x e
      · simp [Value.ownBlock] at e

end Go.Proofs.YtaaioaocjfpajaaGreatDoor.Sh
end

section
/-
  ShelfWalks: the shelf's state through Lays and Flips, and the walk over it.
-/
namespace Go.Proofs.YtaaioaocjfpajaaGreatDoor.Sh
open Go.RowKit Go.Shelf
open Tlv (BySlS)
open Crc (Kept)
open Sim (hid Kp No PS Blk nm Row finds pBytes pList pFlip)
/-! ### The walk -/
def fP (p : PS) (id : Nat) : Nat := finds p (nm (nameP id))
def sP (p : PS) (id : Nat) : List Item × Nat × Int := scanF (ints (pBytes (nm (nameP id)) p))
def idsN (p : PS) : List Nat := (idsP p).map Int.toNat
theorem sys_bytes {P : Nat → Prop} {N : Nat} {w : World} {s : Nat} {p : PS} (h : Sim.Sys P N w s p) (n : Sim.Nm) : (∀ x ∈ pBytes n p, x < 256) ∧ (pBytes n p).length ≤ 20000000 := by
  have hI := h.inv
  obtain ⟨vs, vf, vc, u, h⟩ := h
  have hb := hI.big
  unfold pBytes
  split
  · simp
  · unfold Sim.fileAt
    cases hf : p.files (Sim.blockOf p n) with
    | none => simp
    | some f =>
      have h1 := (h.file _ f hf).2.1.byt
      have h2 := hI.lfile _ f hf
      exact ⟨h1, by show f.b.length ≤ _; omega⟩
theorem ints_len (l : List Nat) : (ints l).length = l.length := by simp [ints]
theorem sP_len {P : Nat → Prop} {N : Nat} {w : World} {s : Nat} {p : PS} (h : Sim.Sys P N w s p) (id : Nat) : (sP p id).1.length ≤ 20000000 := by
  have h1 := (sys_bytes h (nm (nameP id))).2
  have h2 := tl_length_le (ints (pBytes (nm (nameP id)) p)) (ints (pBytes (nm (nameP id)) p)).length 0 (by omega)
  have h3 : ∀ (L : List Item) (q : Nat), (scanR L q).1.length ≤ L.length := fun L => by
    induction L with
    | nil => intro q; simp [scanR]
    | cons x L ih =>
      intro q
      rw [scanR]
      split
      · have := ih (x.1 + x.2.2.2)
        simp only [List.length_cons]
        omega
      · simp
  have h4 := h3 (tl (ints (pBytes (nm (nameP id)) p)) 0) 0
  rw [ints_len] at h2
  unfold sP scanF
  omega
theorem allI_len (F : Nat → Nat) (S : Nat → List Item × Nat × Int) (B : Nat) (hB : 1 ≤ B) : ∀ ids : List Nat, (∀ id ∈ ids, (S id).1.length ≤ B) → (allI F S ids).length ≤ ids.length * B
  | [], _ => by simp [allI]
  | id :: r, h => by
    have ih := allI_len F S B hB r (fun i hi => h i (by simp [hi]))
    have h1 := h id (by simp)
    have e : allI F S (id :: r) = packI id (F id) (S id) ++ allI F S r := by simp [allI]
    have h2 : (packI id (F id) (S id)).length ≤ B := by
      unfold packI
      split
      · simpa using hB
      · split
        · simpa using hB
        · rw [List.length_map]; exact h1
    rw [e, List.length_append, List.length_cons, Nat.succ_mul]
    omega

end Go.Proofs.YtaaioaocjfpajaaGreatDoor.Sh
end

section
/-
  ShelfBack: Arm, Up, another Open; what is then read, walked, and not there.
-/
namespace Go.Proofs.YtaaioaocjfpajaaGreatDoor.Sh
open Go.RowKit Go.Shelf
open Tlv (BySlS)
open Sim (hid Kp No PS Blk nm Row finds pBytes pList pUp pArm IntsAt)

theorem free_kp {w V W : World} {Kb P : Nat → Prop} (hP : ∀ x, P x → Free w Kb x) (k : Kp P V W) : Kp (Free w Kb) V W := k.mono (fun x hx => .inl (hP x hx))

theorem arm_sc {w V : World} {h s b m N : Nat} {Kb : Nat → Prop} {n : Int} {H : List (Nat × List Nat)} (hst : SC w h s b m N Kb V n H) (k : Int) (hk : k ≤ 9223372036854775807) (hN : N + 1 ≤ 1000) :
    Calls Tryz.prog 18 #[.pointer (some ⟨s, 0, none⟩), .int .i64 k] V fun e w' => (∃ z, e = .returned (.int .i64 z)) ∧ SC w h s b m (N + 1) Kb w' n H ∧ Kp (Free w Kb) V w' := by
  obtain ⟨p, P, hG, hH, hT, hS, hP, hPb, hPh, hkp, hKb⟩ := hst
  have hbl := hT.lt
  have hhl := hH.lt
  refine (Sim.arm_any V s p k hk hS hN).mono ?_
  rintro e w' ⟨rfl, P2, g1, g2, g3⟩
  have hs0 := hkp.size
  refine ⟨⟨_, rfl⟩, ⟨(pArm k p).2, P2, hG.arm k, hH.kp g2 hPh, hT.kp g2 hPb, g1, fun x hx => ?_, fun e => ?_, fun e => ?_, hkp.trans g2 (fun x hx => .inr (hP x hx).1), fun x hx => ⟨Nat.lt_of_lt_of_le (hKb x hx).1 g2.size, (hKb x hx).2⟩⟩, free_kp hP g2⟩
  · rcases g3 x hx with e | e
    · exact hP x e
    · exact ⟨by omega, fun e' => by have := (hKb x e').1; omega⟩
  · rcases g3 b e with e | e
    · exact hPb e
    · omega
  · rcases g3 h e with e | e
    · exact hPh e
    · omega

/-- The files, up again. -/
def UC (w : World) (s b N : Nat) (Kb : Nat → Prop) (V : World) (n : Int) (H : List (Nat × List Nat)) : Prop :=
  ∃ p P, (CInv Wh n H p ∧ Up p) ∧ TabX V b ∧ Sim.Sys P N V s p ∧ (∀ x, P x → Free w Kb x) ∧ ¬ P b ∧ Kp No w V ∧ (∀ x, Kb x → x < V.heap.size ∧ x ≠ b)
theorem up_sc {w V : World} {h s b m N : Nat} {Kb : Nat → Prop} {n : Int} {H : List (Nat × List Nat)} (hst : SC w h s b m N Kb V n H) (k : Int) (v : Value) (cuts : List Int) (hv : IntsAt (· < w.heap.size) w v cuts) :
    Calls Tryz.prog 19 #[.pointer (some ⟨s, 0, none⟩), .int .i64 k, v] V fun e w' => e = .returned (.int .i64 0) ∧ UC w s b N Kb w' n H ∧ Kp (Free w Kb) V w' := by
  obtain ⟨p, P, hG, hH, hT, hS, hP, hPb, hPh, hkp, hKb⟩ := hst
  have hbl := hT.lt
  have hs0 := hkp.size
  refine (Sim.up_any (Q := (· < w.heap.size)) V s p k v cuts hS (hv.kp hkp (fun _ e => e.elim)) (fun x hx hp => by have := (hP x hp).1; omega)).mono ?_
  rintro e w' ⟨rfl, P2, g1, g2, g3⟩
  refine ⟨rfl, ⟨pUp k cuts p, P2, hG.1.up k cuts, hT.kp g2 hPb, g1, fun x hx => ?_, fun e => ?_, hkp.trans g2 (fun x hx => .inr (hP x hx).1), fun x hx => ⟨Nat.lt_of_lt_of_le (hKb x hx).1 g2.size, (hKb x hx).2.1⟩⟩, free_kp hP g2⟩
  · rcases g3 x hx with e | e
    · exact hP x e
    · exact ⟨by omega, fun e' => by have := (hKb x e').1; omega⟩
  · rcases g3 b e with e | e
    · exact hPb e
    · omega

/-- Another shelf, over whole packs. -/
def FC (w : World) (h s b N : Nat) (Kb : Nat → Prop) (V : World) (n : Int) (H : List (Nat × List Nat)) : Prop :=
  ∃ p P, Clean Wh n H p ∧ ShAt V h s b 0 ∧ TabX V b ∧ Sim.Sys P N V s p ∧ (∀ x, P x → Free w Kb x) ∧ ¬ P b ∧ ¬ P h ∧ Kp No w V ∧ (∀ x, Kb x → x < V.heap.size ∧ x ≠ b ∧ x ≠ h) ∧ h ≠ b ∧ w.heap.size ≤ h
theorem open_sc {w V : World} {s b N : Nat} {Kb : Nat → Prop} {n : Int} {H : List (Nat × List Nat)} (hst : UC w s b N Kb V n H) (hN : 2 * N + 1 ≤ 1000) :
    Calls Tryz.prog 7 #[.pointer (some ⟨s, 0, none⟩), .pointer (some ⟨b, 0, none⟩)] V fun e w' => ∃ h, e = .returned (.tuple #[.pointer (some ⟨h, 0, none⟩), .int .i64 0]) ∧ FC w h s b (2 * N + 1) Kb w' n H ∧ Kp (Free w Kb) V w' := by
  obtain ⟨p, P, ⟨hC, hU⟩, hT, hS, hP, hPb, hkp, hKb⟩ := hst
  have hbl := hT.lt
  have hs0 := hkp.size
  obtain ⟨c1, c2, c3, c4⟩ := hC.opened hU
  have hll : (pList p).length ≤ N := by
    have h1 := hS.inv.lseen
    unfold pList
    split
    · simp
    · rw [List.length_map]; exact h1
  have hnl : ∀ x ∈ pList p, x.length ≤ 20000000 := fun x hx => by
    rw [pList, hU.1, if_neg (by simp)] at hx
    obtain ⟨e, he, rfl⟩ := List.mem_map.1 hx
    have hnb := hC.nb
    rcases hC.seenPk e he with ⟨j, hj, e'⟩ | ⟨j, bs, h1, h2, e', _⟩
    · rw [e']
      have := nB_T j hj
      simp [Sim.nameB] at this
      omega
    · rw [e']
      have := len_P j (by omega)
      omega
  refine (open_any V s b p hS (by omega) hnl).mono ?_
  intro e w' ho
  rcases ho with ⟨h, _⟩ | ⟨_, g, P', rfl, h2, h3, h4, h5, h6, h7⟩
  · exact absurd c1 h
  refine ⟨g, rfl, ⟨_, P', ⟨c2, c3, c4⟩, h2, hT.kp h4 hPb, h3.more (by omega) hN, fun x hx => ?_, fun e => ?_, h6, hkp.trans h4 (fun x hx => .inr (hP x hx).1), fun x hx => ⟨Nat.lt_of_lt_of_le (hKb x hx).1 h4.size, (hKb x hx).2, by have := (hKb x hx).1; omega⟩, by omega, by omega⟩, free_kp hP h4⟩
  · rcases h5 x hx with e | e
    · exact hP x e
    · exact ⟨by omega, fun e' => by have := (hKb x e').1; omega⟩
  · rcases h5 b e with e | e
    · exact hPb e
    · omega
theorem FC.kb {w V W : World} {h s b N : Nat} {Kb : Nat → Prop} {n : Int} {H : List (Nat × List Nat)} (hs : FC w h s b N Kb V n H) (k : Kp (fun x => x = b) V W) (hx : TabX W b) (hb : w.heap.size ≤ b) : FC w h s b N Kb W n H := by
  obtain ⟨p, P, h1, h2, h3, h4, h5, h6, h7, h8, h9, h10, h11⟩ := hs
  exact ⟨p, P, h1, h2.kp k h10, hx, h4.kp k (fun x hx hp => h6 (hx ▸ hp)), h5, h6, h7, h8.trans k (fun x hx => .inr (by omega)), fun x hx => ⟨Nat.lt_of_lt_of_le (h9 x hx).1 k.size, (h9 x hx).2⟩, h10, h11⟩
theorem FC.kept {w V W : World} {h s b N : Nat} {Kb : Nat → Prop} {n : Int} {H : List (Nat × List Nat)} (hs : FC w h s b N Kb V n H) (k : Kp No V W) (hb : w.heap.size ≤ b) : FC w h s b N Kb W n H := by
  have hx : TabX V b := by obtain ⟨p, P, h1, h2, h3, _⟩ := hs; exact h3
  exact hs.kb k.ofNo (hx.kp k (fun x => x)) hb
theorem read_fc {w V : World} {h s b N : Nat} {Kb : Nat → Prop} {n : Int} {H : List (Nat × List Nat)} (hs : FC w h s b N Kb V n H) (hb : w.heap.size ≤ b) {zs : List El} {qs : List Pl} (hp : PlOk H zs qs) (k : Nat) (q : Pl) (hq : qs[k]? = some q) :
    Calls Tryz.prog 20 #[.pointer (some ⟨h, 0, none⟩), .agg #[.int .i64 (q.1 : Int), .int .i64 (q.2.1 : Int), .int .i64 (q.2.2 : Int)]] V fun e w' => ∃ (z y : El), zs[k]? = some z ∧ e = .returned (.tuple #[.agg (elC y).toArray, .int .i64 0]) ∧ y.1 = z.1 ∧ elOk y ∧
      BySlS (fun g => V.heap.size ≤ g ∧ g < w'.heap.size) w' (elV y) y.1.2.2 ∧ FC w h s b N Kb w' n H ∧ Kp (fun x => x = b) V w' := by
  have hs' := hs
  obtain ⟨p, P, h1, h2, h3, h4, h5, h6, h7, h8, h9, h10, h11⟩ := hs
  obtain ⟨y0, z, pre, r, g1, g2, g3, g4, g5, g6⟩ := hp.2 k q hq
  obtain ⟨c1, c2, c3, c4⟩ := h1.held g2
  have hbts := sys_bytes h4 (nm (nameP q.1))
  refine (read_any V h s b 0 p q.1 (q.2.1 : Int) (q.2.2 : Int) c1 c2 h2 h4 h3 h10 hbts.1 hbts.2).mono ?_
  rintro e w' ⟨y, f, rfl, r1, r2, r3, r4, r5⟩
  have c3' : finds p (nm (nameP q.1)) = 0 := c3
  have c4' : pBytes (nm (nameP q.1)) p = zb z := c4
  rw [c3', c4', g4, g5] at r3
  obtain ⟨rfl, hy⟩ := read_held g6 g3 r3
  exact ⟨y0, y, g1, rfl, hy, r1, r2, hs'.kb r4 r5 hb, r4⟩

theorem walk_fc {w V : World} {h s b N : Nat} {Kb : Nat → Prop} {n : Int} {H : List (Nat × List Nat)} (hs : FC w h s b N Kb V n H) (hb : w.heap.size ≤ b) (hV : Vars w) :
    Calls Tryz.prog 14 #[.pointer (some ⟨h, 0, none⟩), .int .i64 1000] V fun e w' => ∃ u1 a c, e = .returned (.tuple #[u1, .slice a 0 c]) ∧ FC w h s b N Kb w' n H := by
  have hs' := hs
  obtain ⟨p, P, h1, h2, h3, h4, h5, h6, h7, h8, h9, h10, h11⟩ := hs
  have hids := h1.ids
  have hcast : (idsN p).map (fun (i : Nat) => (i : Int)) = idsP p := by
    unfold idsN
    rw [List.map_map]
    conv => rhs; rw [← List.map_id (idsP p)]
    apply List.map_congr_left
    intro z hz
    obtain ⟨j, bs, rfl, _⟩ := hids z hz
    simp
  have hmem : ∀ id ∈ idsN p, 1 ≤ id ∧ id < 100 := fun id hid' => by
    obtain ⟨z, hz, rfl⟩ := List.mem_map.1 hid'
    obtain ⟨j, bs, rfl, g1, g2, _⟩ := hids z hz
    simp only [Int.toNat_natCast]
    exact ⟨g1, g2⟩
  have hlen : (idsN p).length ≤ 1000 := by
    have g1 := h4.inv.lseen
    have g2 := h4.inv.big
    have g3 := List.length_filterMap_le idN (pList p)
    have g4 : (pList p).length ≤ p.seen.length := by
      unfold pList
      split
      · simp
      · simp
    unfold idsN idsP
    rw [List.length_map, List.length_mergeSort]
    omega
  have hXl := allI_len (fP p) (sP p) 20000000 (by omega) (idsN p) (fun id _ => sP_len h4 id)
  refine (walk_over V h s b 1000 0 p P N (idsN p) (fP p) (sP p) (by omega) (by omega) h2 h4 h3 h6 h10 (fun V' k' => ?_) (fun W id g1 g2 g3 g4 => ?_) hlen (fun id _ => sP_len h4 id) (by omega)).mono ?_
  · rw [hcast]
    exact ids_any V' h s b 0 p (h2.kp k' (fun x => x)) (h4.kept k') (Vars.kept hV (h8.andNone k')) (fun x hx => by have := h1.nlen x hx; omega)
  · obtain ⟨q1, q2⟩ := hmem id g4
    exact sload_any W h s b 0 p id q1 q2 g1 g2 g3 (sys_bytes g2 _).1 (sys_bytes g2 _).2
  · intro e w' hw
    obtain ⟨u1, u2, rfl, hR⟩ := Walked.r hw
    obtain ⟨K, Us, _, _, _, g4, _, _, _, g8, g9⟩ := hR
    have e0 : lsOf (allI (fP p) (sP p) (idsN p)) K = [] := clean_lost h1 K
    rw [e0] at g4
    obtain ⟨a, c, rfl, _⟩ := g4.form
    exact ⟨u1, a, c, rfl, hs'.kb g8 g9 hb⟩

theorem temps_fc {w V : World} {h s b N : Nat} {Kb : Nat → Prop} {n : Int} {H : List (Nat × List Nat)} (hs : FC w h s b N Kb V n H) :
    Calls Tryz.prog 23 #[.pointer (some ⟨s, 0, none⟩)] V fun e w' => ∃ a c, e = .returned (.slice a 0 c) ∧ Kp No w w' := by
  obtain ⟨p, P, h1, h2, h3, h4, h5, h6, h7, h8, h9, h10, h11⟩ := hs
  refine (temps_any V s p h4).mono ?_
  rintro e w' ⟨u, rfl, g1, _, g3⟩
  rw [h1.temps] at g1
  obtain ⟨a, c, rfl, _⟩ := Sim.Row.shape g1
  exact ⟨a, c, rfl, h8.andNone g3⟩

end Go.Proofs.YtaaioaocjfpajaaGreatDoor.Sh
end

section
/-
  What alive of the ninth law comes to, purely: one record laid on a fresh disk.
-/
namespace Go.Proofs.YtaaioaocjfpajaaGreatDoor.Sh
open Go.RowKit Go.Shelf
open Tlv (BySlS)
open Sim (hid Kp No PS Blk nm finds pBytes pList startPS q1 q2 q5 nameB)

theorem nameP_1 : nameP 1 = ⟨#[112, 97, 99, 107, 46, 49]⟩ := by
  rw [nameP, sortB, Lib.decDigits_one (by omega)]
  rfl
theorem nameT_1 : nameT 1 = ⟨#[116, 109, 112, 46, 49]⟩ := by
  rw [nameT, sortB, Lib.decDigits_one (by omega)]
  rfl
theorem nT1 : nameB (nm (nameT 1)) = true := by rw [nameT_1]; decide
theorem nP1 : nameB (nm (nameP 1)) = true := by rw [nameP_1]; decide
/-- The record. -/
def rX : Rec := (1, List.replicate 32 0, [120])
theorem rX_ok : Rt rX := rightX
theorem rX_len : (frOf rX).length = 50 := frOf_length rX_ok
/-- The disk with one pack of one record. -/
def dX (x : Nat) : PS := q5 (nm (nameT 1)) (nm (nameP 1)) 1000 x (nats (frOf rX))

theorem lpF_x (x : Nat) (a : Option Addr) (c : Nat) : lpF 1 x (startPS 1000) [((rX, a, c) : El)] = (0, dX x) := by
  have e1 : Sim.pCreate (nm (nameT 1)) x (startPS 1000) = (0, q1 (nm (nameT 1)) 1000 x) := Sim.start_create nT1
  have e2 : aps 1 (q1 (nm (nameT 1)) 1000 x) [((rX, a, c) : El)] = (0, q2 (nm (nameT 1)) 1000 x (nats (frOf rX))) := by
    rw [aps, List.foldl_cons, List.foldl_nil, if_neg (by simp)]
    show Sim.pAppend (nm (nameT 1)) (nats (frOf rX)) _ = _
    exact Sim.q1_append nT1 (by rw [nats_length]; have h := rX_len; omega)
  have e3 : sealF 1 (q2 (nm (nameT 1)) 1000 x (nats (frOf rX))) = (0, dX x) := by
    rw [sealF, Sim.q2_fsync nT1, if_neg (by simp), Sim.q3_rename nT1 nP1, if_neg (by simp), Sim.q4_sync]
    rfl
  rw [lpF, e1, if_neg (by simp), e2, if_neg (by simp), e3, if_neg (by simp)]
theorem list_start (r : Nat) : pList (startPS r) = [] := rfl
theorem ids_start : idsP (startPS 1000) = [] := by simp [idsP, list_start]
theorem list_x (x : Nat) : pList (dX x) = [nm (nameP 1)] := by
  rw [pList, if_neg (by simp [dX, q5, Sim.settle, Sim.tick, Sim.q4, Sim.chgd, Sim.q3, Sim.setF, Sim.q2, Sim.q1, startPS]), dX, Sim.q5_seen]
  rfl
theorem ids_x (x : Nat) : idsP (dX x) = [1] := by
  have e : idN (nm (nameP 1)) = some 1 := by
    have h := idOf_name (p := packS) (u := 1) (by omega) (by omega)
    have h2 : (⟨(nm (nameP 1)).toArray⟩ : ByteArray) = nameZ packS ((1 : Nat) : Int) := by
      rw [nameP_1, nameZ_of (p := packS) (by omega) (by omega), Lib.decDigits_one (by omega)]
      rfl
    rw [idN, h2, h]
    rfl
  simp [idsP, list_x, e]
theorem max_x : maxZ ([1] ++ [1]) = 1 := by decide
theorem max_start : maxZ (idsP (startPS 1000) ++ [0]) + 1 = ((1 : Nat) : Int) := by rw [ids_start]; decide
theorem parts_x (a : Option Addr) (c : Nat) : parts [((rX, a, c) : El)] = [[((rX, a, c) : El)]] := by
  simp [parts, dl, dlStep, szs, szE, rX]

/-- What is known of a state behind k packs. -/
def GX (k : Nat) (p : PS) (n : Int) : Prop := k = 0 → p = startPS 1000 ∧ n = 0
theorem pre_x : Pre GX 1 := fun k p n hk hG => by
  obtain rfl : k = 0 := by omega
  obtain ⟨rfl, rfl⟩ := hG rfl
  refine ⟨1, max_start, by omega, by omega, ?_, by simp [list_start], by simp [ids_start], fun x z _ _ _ _ _ h => absurd h (by omega)⟩
  rw [Sim.start_finds nP1]
  omega
theorem one_part {z y : List El} {ps r : List (List El)} (h : [z] = ps ++ y :: r) : ps = [] ∧ y = z := by
  cases ps with
  | nil => simp at h; exact ⟨rfl, h.1.symm⟩
  | cons a ps => simp at h
theorem layR_x {a : Option Addr} {c : Nat} {p : PS} {n : Int} {qs : List Pl} (h : LayR (startPS 1000) 0 [[((rX, a, c) : El)]] p n qs) : ∃ x, p = dX x ∧ n = 1 ∧ qs = [(1, 0, 50)] := by
  generalize hps : [[((rX, a, c) : El)]] = ps at h
  cases h with
  | nil => simp at hps
  | snoc h hi hx h0 =>
    rename_i ps p' n' qs' i x z
    obtain ⟨rfl, rfl⟩ := one_part hps
    generalize he : ([] : List (List El)) = ps at h
    cases h with
    | nil =>
      rw [max_start] at hi
      have hi1 : i = 1 := by omega
      subst hi1
      rw [lpF_x]
      exact ⟨x, rfl, rfl, rfl⟩
    | snoc => simp at he
theorem lay_x {P : Nat → Prop} {M : Nat} {w w' : World} {h s b φ : Nat} {ps : List (List El)} {a : Option Addr} {c : Nat} (e : LE P M w h s b (startPS 1000) 0 (parts [((rX, a, c) : El)]) w' ps φ) : φ = 0 := by
  obtain ⟨p, n, qs, i, x, z, P', hL, hi, _, hφ, _, _, _, _, _, r, hr⟩ := e
  rw [parts_x] at hr
  obtain ⟨rfl, rfl⟩ := one_part hr
  generalize hps : ([] : List (List El)) = ps at hL
  cases hL with
  | nil =>
    rw [max_start] at hi
    have hi1 : i = 1 := by omega
    subst hi1
    rw [lpF_x] at hφ
    exact hφ.symm
  | snoc => simp at hps
theorem read_x {x : Nat} {y : El} {f : Nat} (h : ReadA (finds (dX x) (nm (nameP 1))) (ints (pBytes (nm (nameP 1)) (dX x))) 0 50 y f) : f = 0 ∧ y.1 = rX := by
  have e1 : pBytes (nm (nameP 1)) (dX x) = nats (frOf rX) := Sim.q5_bytes nP1
  have e2 : finds (dX x) (nm (nameP 1)) = 0 := Sim.q5_finds nP1
  have e3 : takeF (frOf rX) = (0, rX, 50) := by
    have h := take_frame (k := 1) (nm := List.replicate 32 0) (bs := [120]) rightX []
    rw [List.append_nil] at h
    exact h
  rw [e1, e2, ints_nats (frOf rX) (frameR_bd rX_ok)] at h
  rcases h with ⟨h, _⟩ | ⟨_, y0, f0, hg, h⟩
  · omega
  have hg' : f0 = 0 ∧ y0.1 = rX := by
    rcases hg with ⟨h1, _⟩ | ⟨_, h1, _⟩ | ⟨k, _, h1, _, h2, _⟩ | ⟨k, _, h1, _, _, h2, h3⟩
    · exact absurd rfl h1
    · have := rX_len; omega
    · have hk : k = 0 := by omega
      subst hk
      rw [List.drop_zero, e3] at h2
      exact absurd rfl h2
    · have hk : k = 0 := by omega
      subst hk
      rw [List.drop_zero, e3] at h3
      exact ⟨h2, h3⟩
  obtain ⟨rfl, hy⟩ := hg'
  rcases h with ⟨h, _⟩ | ⟨_, h, _⟩ | ⟨_, _, h1, h2⟩
  · exact absurd rfl h
  · exact absurd (by rw [hy]; rfl) h
  · exact ⟨h1, by rw [h2]; exact hy⟩
end Go.Proofs.YtaaioaocjfpajaaGreatDoor.Sh
end

section
/-
  alive of the ninth law.
-/
namespace Go.Proofs.YtaaioaocjfpajaaGreatDoor.Sh
open Go.RowKit Go.Shelf
open Tlv (BySlS)
open Sim (hid Kp No PS Blk nm finds pBytes pList startPS Row)

theorem builtX (k : Int) (a : Option Addr) (l c : Nat) : Tryz.prog.built 68 [(0, .int .i64 k), (2, .slice a l c)] = some (recA k (List.replicate 32 0) (.slice a l c)).toArray := by kernel_rfl
theorem run_oneX (a : Option Addr) (w : World) : (Instr.buildSlice 35 1 #[(0, .agg (recA 1 (List.replicate 32 0) (.slice a 1 1)).toArray)]).run Tryz.prog w = .ok (.slice (some ⟨w.heap.size, 0, none⟩) 1 1) (w.alloc (.cells (recA 1 (List.replicate 32 0) (.slice a 1 1)).toArray 68)) := by kernel_rfl
theorem lit_x (w : World) (fr : Nat × Nat) : BySlS (fun g => g = w.heap.size) (w.alloc (.cells #[.int .u8 120] 5 fr)) (.slice (some ⟨w.heap.size, 0, none⟩) 1 1) [120] := by
  refine ⟨_, 1, rfl, Nat.le_refl _, by unfold maxLen; omega, by simp, by simp, by simp, fun _ => ⟨w.heap.size, 0, rfl, rfl, fun i hi => ?_⟩⟩
  have hi0 : i = 0 := by simpa using hi
  subst hi0
  rw [Nat.zero_add, World.cell?_alloc_mark]
  rfl
theorem rX_elok (a : Option Addr) (c : Nat) : elOk ((rX, a, c) : El) := ⟨by simp [rX], fun y hy => by have := List.eq_of_mem_replicate (show y ∈ List.replicate 32 (0 : Int) from hy); omega⟩
theorem rX_okR (a : Option Addr) (c : Nat) : [((rX, a, c) : El)].all okR = true := by simp [okR, rX, rightB]
/-- The record as it comes in. -/
theorem rv_x (w w1 : World) (k : Kp No w w1) (W : World) (x : Nat) (hx : BySlS (fun g => g = x) w1 (.slice (some ⟨x, 0, none⟩) 1 1) [120]) (hx2 : w.heap.size ≤ x ∧ x < w1.heap.size) (hW : W = w1.alloc (.cells (recA 1 (List.replicate 32 0) (.slice (some ⟨x, 0, none⟩) 1 1)).toArray 68)) :
    RV (fun g => w.heap.size ≤ g ∧ g < W.heap.size) W (.slice (some ⟨w1.heap.size, 0, none⟩) 1 1) [((rX, some ⟨x, 0, none⟩, 1) : El)] := by
  have hk : Kp No w1 W := by rw [hW]; exact (Kp.refl No w1).alloc _
  have hs : W.heap.size = w1.heap.size + 1 := by rw [hW]; simp
  have hsz := k.size
  refine ⟨_, 1, rfl, Nat.le_refl _, by unfold maxLen; omega, by simp, fun z hz => ?_, fun _ => ⟨w1.heap.size, 0, rfl, ⟨by omega, by omega⟩, by omega, fun i z hz j v hv => ?_⟩⟩
  · obtain rfl := List.mem_singleton.1 hz
    exact ⟨rX_elok _ _, bySlS_kp hx hk (fun g hg => ⟨fun e => e, by omega, ⟨by omega, by omega⟩, by omega⟩)⟩
  · have hi0 : i = 0 := by
      have := (List.getElem?_eq_some_iff.1 hz).1
      simp at this
      omega
    subst hi0
    simp at hz
    subst hz
    rw [hW, World.cell?_alloc_at _ _ _ _ rfl]
    simpa [elC, elV, rX] using hv

set_option maxHeartbeats 8000000 in
set_option maxRecDepth 100000 in
theorem alive_any (w : World) (hV : Vars w) : Calls Tryz.prog 5 #[] w fun e w' => e = .returned (.bool true) ∧ Kp No w w' := by
  have HV := hid hV
  clear hV
  have hz0 := zero35
  obtain ⟨Z, hZ⟩ : ∃ Z, zRec = Z := ⟨_, rfl⟩
  have HZL : Hid (Z.length = 34) := by rw [← hZ]; exact zRec_length
  rw [hZ] at hz0
  clear hZ
  have kc := fun (w : World) (C : Array Value) (n c : Nat) => Lib.run_convert_bytes_const (P := Tryz.prog) w 54 5 C n c Tryz.underlying54 Tryz.underlying5
  go_enter Tryz.func5, Tryz.ntmps5
  go_wp2_with fail
  refine (Sim.new_yes 1000 (by omega) w).mono ?_
  rintro e w1 ⟨rfl, hS1, hK1⟩
  have HS1 := hid hS1
  have HK1 := hid hK1
  have hl1 : w.heap.size < w1.heap.size := hS1.lt _ rfl
  clear hS1 hK1
  go_wp2_with fail
  refine (Crc.new_any w1).mono ?_
  rintro e w2 ⟨rfl, hb2, hs2, ht2⟩
  have HS2 : Hid (Sim.Sys (· = w.heap.size) 0 w2 w.heap.size (startPS 1000)) := HS1.out.kept (Kp.below hb2)
  have HT2 : Hid (TabX w2 w1.heap.size) := ⟨0, 0, .inl rfl, ht2⟩
  have HK2 : Hid (Kp No w w2) := HK1.out.andNone (Kp.below hb2)
  have hl2 : w1.heap.size < w2.heap.size := by omega
  clear hb2 hs2 ht2 HS1 HK1
  go_wp2_with fail
  refine (open_any w2 w.heap.size w1.heap.size (startPS 1000) HS2.out (by simp [list_start]) (by simp [list_start])).mono ?_
  rintro e w3 ho
  have ho' : ∃ g P', e = .returned (.tuple #[.pointer (some ⟨g, 0, none⟩), .int .i64 0]) ∧ ShAt w3 g w.heap.size w1.heap.size 0 ∧ Sim.Sys P' 1 w3 w.heap.size (startPS 1000) ∧ Kp (· = w.heap.size) w2 w3 ∧ (∀ y, P' y → y = w.heap.size ∨ w2.heap.size ≤ y) ∧ ¬ P' g ∧ w2.heap.size ≤ g := by
    rcases ho with ⟨h, _⟩ | ⟨_, g, P', h1, h2, h3, h4, h5, h6, h7⟩
    · exact absurd rfl h
    · exact ⟨g, P', h1, h2, h3, h4, h5, h6, h7⟩
  clear ho
  obtain ⟨g, P', rfl, hH, hS3, hK3, hP3, hPg, hg2⟩ := ho'
  have hgl := hH.lt
  have HPB : Hid (¬ P' w1.heap.size ∧ ¬ P' g) := ⟨fun e => by rcases hP3 _ e with e | e <;> omega, hPg⟩
  have HPL : Hid (∀ y, P' y → w.heap.size ≤ y ∧ y < w3.heap.size) := fun y hy => ⟨by rcases hP3 y hy with e | e <;> omega, hS3.lt y hy⟩
  have HT3 : Hid (TabX w3 w1.heap.size) := HT2.out.kp hK3 (fun e => by have e' : w1.heap.size = w.heap.size := e; omega)
  have HK3 : Hid (Kp No w w3) := HK2.out.trans hK3 (fun y hy => .inr (by have e' : y = w.heap.size := hy; omega))
  have HH3 := hid (And.intro hH hS3)
  have hl3 := hK3.size
  have hgb : g ≠ w1.heap.size := by omega
  clear hH hS3 hK3 hP3 hPg HS2 HT2 HK2
  obtain ⟨W3, hW3⟩ : ∃ W3, w3.alloc (Obj.cells #[Value.int IntKind.u8 120] 5 (1, 2)) = W3 := ⟨_, rfl⟩
  have HX3 : Hid (BySlS (fun g => g = w3.heap.size) W3 (.slice (some ⟨w3.heap.size, 0, none⟩) 1 1) [120]) := by rw [Hid, ← hW3]; exact lit_x w3 (1, 2)
  have HKW : Hid (Kp No w3 W3) := by rw [Hid, ← hW3]; exact (Kp.refl No _).alloc _
  have HSW : Hid (W3.heap.size = w3.heap.size + 1) := by rw [Hid, ← hW3]; simp
  have HBU := hid (builtX 1 (some ⟨w3.heap.size, 0, none⟩) 1 1)
  have HRUN := hid (run_oneX (some ⟨w3.heap.size, 0, none⟩) W3)
  obtain ⟨C2, hC2⟩ : ∃ C2, recA 1 (List.replicate 32 0) (.slice (some ⟨w3.heap.size, 0, none⟩) 1 1) = C2 := ⟨_, rfl⟩
  have HC2 := hid hC2
  have HRV : Hid (RV (fun g => w3.heap.size ≤ g ∧ g < (W3.alloc (.cells C2.toArray 68)).heap.size) (W3.alloc (.cells C2.toArray 68)) (.slice (some ⟨W3.heap.size, 0, none⟩) 1 1) [((rX, some ⟨w3.heap.size, 0, none⟩, 1) : El)]) :=
    rv_x w3 W3 HKW.out _ w3.heap.size HX3.out (by have := HSW.out; omega) (by rw [hC2])
  have HOWN := hid (own9_any (W3.alloc (.cells C2.toArray 68)) _ _ HRV.out.rw (by simp))
  rw [hC2] at HBU HRUN
  clear hC2
  go_wp2_with (first
    | (refine wpList_build2 (by rfl) 68 _ _ _ _ (by rfl) _ _ (by rfl) (by rfl) _ HBU.out ?_)
    | (refine wpList_val (by rfl) (exec_slice1 35 _ (by rfl) (.agg C2.toArray) _ (by rfl) HRUN.out) ?_))
  clear hW3 kc
  refine HOWN.out.mono ?_
  rintro e w5 ⟨u, rfl, hrow, hou, hk5⟩
  obtain ⟨W4, hW4⟩ : ∃ W4, W3.alloc (.cells C2.toArray 68) = W4 := ⟨_, rfl⟩
  rw [hW4] at hk5 hou
  have hs4 : W4.heap.size = w3.heap.size + 2 := by
    rw [← hW4]
    have := HSW.out
    simp
    omega
  have k34 : Kp No W3 W4 := by rw [← hW4]; exact (Kp.refl No W3).alloc _
  have k35 : Kp No w3 w5 := (HKW.out.andNone k34).andNone hk5
  have hs5 := hk5.size
  have hrv := row_rv (S := fun x => w3.heap.size ≤ x ∧ x < w5.heap.size) hrow (fun z hz => by
    obtain rfl := List.mem_singleton.1 hz
    exact ⟨rX_elok _ _, bySlS_kp HX3.out (k34.andNone hk5) (fun y hy => ⟨fun e => e, by have := HSW.out; omega, ⟨by omega, by omega⟩, by omega⟩)⟩)
  have hK5 : Kp No w w5 := HK3.out.andNone k35
  have HLAY := hid (lay_yes (P := P') (N := 1) w5 g w.heap.size w1.heap.size 0 (startPS 1000) 1 u _ pre_x (by rw [parts_x]; exact Nat.le_refl _) (fun _ => ⟨rfl, rfl⟩)
    (HH3.out.1.kp k35 (fun h => h)) (HH3.out.2.kept k35) (HT3.out.kp k35 (fun h => h)) HPB.out.1 HPB.out.2 hgb (fun V k => Vars.kept HV.out (hK5.trans k (fun y hy => .inr (by
      rcases hy with e | e | e
      · exact (HPL.out y e).1
      · omega
      · omega)))) (by simp [list_start]) (by simp [ids_start]) max_start (by omega) hrv (fun y hy => by
      have h1 : w3.heap.size ≤ y ∧ y < w5.heap.size := by
        rcases hy with e | e
        · exact e
        · have h1 := hou y e
          have h2 := hrow.lt y e
          omega
      refine ⟨?_, h1.2⟩
      rintro (e | e | e)
      · have := (HPL.out y e).2
        omega
      · omega
      · omega) (rX_okR _ _) (by simp))
  have HK5 := hid hK5
  have hs35 := k35.size
  obtain ⟨au, cu, rfl, _⟩ := hrow.shape
  clear hW4 hk5 hou hs4 k34 k35 hs5 hrv hK5 hrow HRV HOWN HX3 HT3 HH3 HBU HRUN
  go_wp2_with fail
  refine HLAY.out.mono ?_
  rintro e w6 ⟨u6, φ, rfl, hA⟩
  obtain rfl : φ = 0 := Classical.byContradiction fun hφ => by
    obtain ⟨_, ps, hps⟩ := hA.2 hφ
    exact hφ (lay_x hps)
  obtain ⟨p, n, qs, P6, hLR, _, hH6, hT6, hS6, hP6, hK6, hR6, ho6⟩ := hA.1 rfl
  rw [parts_x] at hLR
  obtain ⟨x, rfl, rfl, rfl⟩ := layR_x hLR
  obtain ⟨a6, c6, rfl, _, _, hn6, hsp6⟩ := hR6.shape
  obtain ⟨gW, rfl⟩ : ∃ gW, a6 = some ⟨gW, 0, none⟩ := by
    cases a6 with
    | none => exact absurd (hn6 rfl).1 (by simp)
    | some y =>
      obtain ⟨h1, h2⟩ := hsp6 y rfl
      obtain ⟨gy, oy, sy⟩ := y
      simp only at h1 h2
      subst h1
      subst h2
      exact ⟨gy, rfl⟩
  have HRG : Hid (w6.rangeAt gW 0 [.int .i64 1, .int .i64 0, .int .i64 50]) := fun j v hv => by
    have hj := (List.getElem?_eq_some_iff.1 hv).1
    rw [Nat.zero_add, hR6.cellAt j (by simpa using hj)]
    exact hv
  have HIW : Hid ((Tryz.prog.info? 51).map (·.size) = some [Value.int .i64 1, .int .i64 0, .int .i64 50].length) := hid (by kernel_rfl)
  have eb : pBytes (nm (nameP 1)) (dX x) = nats (frOf rX) := Sim.q5_bytes nP1
  have HRD : Hid (Calls Tryz.prog 20 #[.pointer (some ⟨g, 0, none⟩), .agg #[.int .i64 1, .int .i64 0, .int .i64 50]] w6 _) := read_any w6 g w.heap.size w1.heap.size 1 (dX x) 1 0 50 (by omega) (by omega) hH6 hS6 hT6 hgb (by rw [eb]; exact nats_lt _ (frameR_bd rX_ok)) (by rw [eb, nats_length]; have := rX_len; omega)
  have HK6 : Hid (Kp No w w6) := HK5.out.trans hK6 (fun y hy => .inr (by
    rcases hy with e | e | e
    · exact (HPL.out y e).1
    · omega
    · omega))
  have hp6 : ¬ P6 w1.heap.size := fun e => by
    rcases hP6 _ e with e | e
    · exact HPB.out.1 e
    · omega
  have hs6 := hK6.size
  have HH6 := hid (And.intro hH6 (And.intro hS6 hp6))
  clear hA hLR hn6 hsp6 hR6 ho6 hH6 hT6 hS6 hP6 hK6 eb HLAY hp6
  go_wp2_with (refine wpList_load_mid (by rfl) 51 _ (by rfl) gW 0 (by rfl) [.int .i64 1, .int .i64 0, .int .i64 50] _ HRG.out Tryz.underlying51 rfl HIW.out ?_)
  refine HRD.out.mono ?_
  rintro e w7 ⟨y, f, rfl, hyo, hyb, hra, hk7, hT7⟩
  obtain ⟨rfl, hy⟩ := read_x hra
  obtain ⟨yr, ya, yc⟩ := y
  dsimp only at hy
  subst hy
  have HCL : Hid ((elC ((rX, ya, yc) : El)).length = 34) := elC_length hyo
  have HC1 : Hid ((elC ((rX, ya, yc) : El)).toArray.all (·.oneCell') = true) := all_oneCell_toArray (elC_one _)
  have HC3 : Hid ((elC ((rX, ya, yc) : El))[33]? = some (.slice ya 1 yc)) := by rfl
  obtain ⟨cy, hcy⟩ : ∃ cy, elC ((rX, ya, yc) : El) = cy := ⟨_, rfl⟩
  rw [hcy] at HCL HC1 HC3 ⊢
  have HICA : Hid ((Tryz.prog.info? 56).map (·.size) = some cy.toArray.size) := by
    have h := Tryz.info35
    show _ = some cy.length
    rw [HCL.out]
    exact h
  have HT7 : Hid (World.there (w7.alloc (.cells Z.toArray 56)) w7.heap.size 0 cy.toArray.size) := by
    have h := there_new w7 Z 56
    rw [HZL.out] at h
    show World.there _ _ _ cy.length
    rw [HCL.out]
    exact h
  obtain ⟨W8, hW8⟩ : ∃ W8, (w7.alloc (.cells Z.toArray 56)).setCells w7.heap.size 0 cy = W8 := ⟨_, rfl⟩
  have k78 : Kp No w7 W8 := by rw [← hW8]; exact kp_set ((Kp.refl No w7).alloc _) (Or.inr (Nat.le_refl _)) _ _
  have c8 : W8.cell? ⟨w7.heap.size, 33, none⟩ = some (.slice ya 1 yc) := by
    rw [← hW8]
    have h := World.rangeAt_setCells_same _ _ _ _ HT7.out 33 _ HC3.out
    simpa using h
  have hs7 := hk7.size
  have hcv : (convert 54 9 (.slice ya 1 yc)).run Tryz.prog W8 = .ok (.string ⟨#[120]⟩) W8 := by
    have hse : strOfNums [120] = ⟨#[120]⟩ := by decide +kernel
    rw [← hse]
    exact Tlv.conv_bytes ((bySlS_kp hyb k78 (S' := fun x => x < W8.heap.size) (fun g hg => ⟨fun e => e, hg.2, Nat.lt_of_lt_of_le hg.2 k78.size⟩)).to (B := W8.heap.size) (fun g hg => hg))
  have k68 : Kp (fun x => x = w1.heap.size) w6 W8 := hk7.andNone k78
  have K8 : Hid (Kp No w W8) := HK6.out.trans k68 (fun y hy => .inr (by have e' : y = w1.heap.size := hy; omega))
  have HNX := hid (next_any W8 g w.heap.size w1.heap.size 1 (dX x) (HH6.out.1.kp k68 hgb) (HH6.out.2.1.kp k68 (fun y hy e => HH6.out.2.2 (hy ▸ e))) (Vars.kept HV.out K8.out) (by rw [list_x, nameP_1]; intro n hn; obtain rfl := List.mem_singleton.1 hn; decide) (by rw [ids_x]; decide) (by rw [ids_x, max_x]; decide))
  rw [ids_x, max_x] at HNX
  clear hyo hyb hra hk7 hT7 k78 k68 hcy
  go_wp2_with (first
    | (refine wpList_store_mid (by rfl) 56 _ _ (by rfl) w7.heap.size 0 cy.toArray (by rfl) (by rfl) HT7.out HICA.out HC1.out ?_)
    | (go_at_call 24; refine (HNX.out).mono ?_; rintro e w9 ⟨rfl, hk9⟩; have HK9 := hid hk9; clear hk9))
  go_ret
  exact ⟨rfl, K8.out.andNone HK9.out⟩
end Go.Proofs.YtaaioaocjfpajaaGreatDoor.Sh
end
