/- Of the proof: the texts FrScanE, FrAlive, TlvRForm, TlvRefForm, FrRPut, FrLight, FrRow, one behind the other. -/
import Derived.Test.YtkekajmmcjacgaaGreatDoorB9
import Derived.RangeFuncBox
import Derived.Test.YtkekajmmcjacgaaGreatDoorB6
import Derived.Test.YtkekajmmcjacgaaGreatDoorB5
import Derived.Deep.LoopGhost
import Derived.Test.YtkekajmmcjacgaaGreatDoorB7
import Derived.Deep.AppendLies
section
/-
  Scan of no table, and of no byte; Take and At of no table.
-/
namespace Go.Proofs.YtkekajmmcjacgaaGreatDoor
open Go.RowKit Go.Shelf
open Tlv (Tr BySlS AgreeS Agree)
open Crc (hid Kept Tab)
attribute [local go_sem] Oper.semAt_some

set_option maxHeartbeats 1000000 in
set_option maxRecDepth 100000 in
theorem take_nil (a : Option Addr) (l c : Nat) (w : World) :
    Calls Tryz.prog 144 #[.pointer none, .slice a l c] w fun e w' => e = .returned (.tuple #[.agg zRec.toArray, .int .i64 0, .int .i64 18]) ∧ Below w.heap.size w w' := by
  have hz := zero35
  obtain ⟨Z, hZ⟩ : ∃ Z, zRec = Z := ⟨_, rfl⟩
  have HZ := hid hZ
  rw [hZ] at hz
  rw [hZ]
  clear hZ
  have HZS : Hid (Z.toArray.size = 34) := by rw [← HZ.out]; rfl
  have HI2 : Hid ((Tryz.prog.info? 52).map (·.size) = some Z.toArray.size) := by rw [← HZ.out]; exact Tryz.info35
  have H1 : Hid (Z.toArray.all (·.oneCell') = true) := by rw [← HZ.out]; exact all_oneCell_toArray zRec_one
  have HT : Hid (World.there (w.alloc (.cells Z.toArray 52)) w.heap.size 0 Z.toArray.size) := there_new w Z 52
  go_enter Tryz.func144, Tryz.ntmps144
  go_wp2_with (refine wpList_store_mid (by rfl) 52 _ _ (by rfl) w.heap.size 0 Z.toArray (by rfl) (by rfl) HT.out HI2.out H1.out ?_)
  have hr : World.rangeAt ((w.alloc (.cells Z.toArray 52)).setCells w.heap.size 0 Z) w.heap.size 0 Z := World.rangeAt_setCells_same _ _ _ _ HT.out
  exact bodyPost_ret (v := .tuple #[.agg Z.toArray, .int .i64 0, .int .i64 18]) (results_cell_mid3 Tryz.results144 _ _ w.heap.size 0 _ _ rfl hr Tryz.underlying52 rfl HI2.out) rfl ⟨rfl, ((Below.refl _ _).alloc (Nat.le_refl _) _).trans (setCells_below (Nat.le_refl _) _ _ _)⟩

set_option maxHeartbeats 1000000 in
set_option maxRecDepth 100000 in
theorem at_nil (a : Option Addr) (l c : Nat) (z : Int) (w : World) :
    Calls Tryz.prog 87 #[.pointer none, .slice a l c, .int .i64 z] w fun e w' => e = .returned (.tuple #[.agg zRec.toArray, .int .i64 18]) ∧ Below w.heap.size w w' := by
  have hz := zero35
  obtain ⟨Z, hZ⟩ : ∃ Z, zRec = Z := ⟨_, rfl⟩
  have HZ := hid hZ
  rw [hZ] at hz
  rw [hZ]
  clear hZ
  have HI2 : Hid ((Tryz.prog.info? 52).map (·.size) = some Z.toArray.size) := by rw [← HZ.out]; exact Tryz.info35
  have H1 : Hid (Z.toArray.all (·.oneCell') = true) := by rw [← HZ.out]; exact all_oneCell_toArray zRec_one
  have HT : Hid (World.there (w.alloc (.cells Z.toArray 52)) w.heap.size 0 Z.toArray.size) := there_new w Z 52
  go_enter Tryz.func87, Tryz.ntmps87
  go_wp2_with (refine wpList_store_mid (by rfl) 52 _ _ (by rfl) w.heap.size 0 Z.toArray (by rfl) (by rfl) HT.out HI2.out H1.out ?_)
  have hr : World.rangeAt ((w.alloc (.cells Z.toArray 52)).setCells w.heap.size 0 Z) w.heap.size 0 Z := World.rangeAt_setCells_same _ _ _ _ HT.out
  exact bodyPost_ret (v := .tuple #[.agg Z.toArray, .int .i64 18]) (results_cell_mid2 Tryz.results87 _ _ w.heap.size 0 _ _ rfl hr Tryz.underlying52 rfl HI2.out) rfl ⟨rfl, ((Below.refl _ _).alloc (Nat.le_refl _) _).trans (setCells_below (Nat.le_refl _) _ _ _)⟩

set_option maxHeartbeats 1000000 in
set_option maxRecDepth 100000 in
theorem scan_nil (a : Option Addr) (l c : Nat) (w : World) :
    Calls Tryz.prog 85 #[.pointer none, .slice a l c] w fun e w' => e = .returned (.tuple #[.slice none 0 0, .int .i64 0, .int .i64 18]) ∧ Below w.heap.size w w' := by
  go_enter Tryz.func85, Tryz.ntmps85
  go_wp2
  refine bodyPost_ret (v := .tuple #[.slice none 0 0, .int .i64 0, .int .i64 18]) (by simp [results, Tryz.results85, go_sem]) rfl ⟨rfl, ?_⟩
  exact (((Below.refl _ _).alloc (Nat.le_refl _) _).alloc (by simp) _).alloc (by simp; omega) _

/-- The three results are stored. -/
theorem scan_set {W F : World} {s D : Nat} {t0 t1 t2 : TypeId} {u0 u1 u2 v0 v1 v2 : Value} (h0 : Boxed W s t0 u0) (h1 : Boxed W (s + 1) t1 u1) (h2 : Boxed W (s + 2) t2 u2) (hd : W.heap[D]? = some (.deferred (some []))) (hD : s + 3 ≤ D)
    (hF : (((W.setCell ⟨s, 0, none⟩ v0).setCell ⟨s + 1, 0, none⟩ v1).setCell ⟨s + 1 + 1, 0, none⟩ v2).drew = F) :
    Boxed F s t0 v0 ∧ Boxed F (s + 1) t1 v1 ∧ Boxed F (s + 2) t2 v2 ∧ F.heap[D]? = some (.deferred (some [])) ∧ Below s W F ∧ F.heap.size = W.heap.size := by
  have o : ∀ (U : World) (g k : Nat) (u : Value), k ≠ g → (U.setCell ⟨g, 0, none⟩ u).heap[k]? = U.heap[k]? := fun U g k u h => Below.heap_setCell _ _ _ _ (by simp; omega)
  subst hF
  refine ⟨?_, ?_, ?_, ?_, ?_, ?_⟩
  · show (((W.setCell ⟨s, 0, none⟩ v0).setCell ⟨s + 1, 0, none⟩ v1).setCell ⟨s + 1 + 1, 0, none⟩ v2).heap[s]? = _
    rw [o _ _ _ _ (by omega), o _ _ _ _ (by omega)]
    exact h0.set v0
  · show (((W.setCell ⟨s, 0, none⟩ v0).setCell ⟨s + 1, 0, none⟩ v1).setCell ⟨s + 1 + 1, 0, none⟩ v2).heap[s + 1]? = _
    rw [o _ _ _ _ (by omega)]
    have h : Boxed (W.setCell ⟨s, 0, none⟩ v0) (s + 1) t1 u1 := (o _ _ _ _ (by omega)).trans h1
    exact h.set v1
  · have h : Boxed ((W.setCell ⟨s, 0, none⟩ v0).setCell ⟨s + 1, 0, none⟩ v1) (s + 1 + 1) t2 u2 := ((o _ _ _ _ (by omega)).trans (o _ _ _ _ (by omega))).trans h2
    exact h.set v2
  · show (((W.setCell ⟨s, 0, none⟩ v0).setCell ⟨s + 1, 0, none⟩ v1).setCell ⟨s + 1 + 1, 0, none⟩ v2).heap[D]? = _
    rw [o _ _ _ _ (by omega), o _ _ _ _ (by omega), o _ _ _ _ (by omega)]
    exact hd
  · exact ((((Below.refl s W).setCell (p := ⟨s, 0, none⟩) (Nat.le_refl _) _).setCell (p := ⟨s + 1, 0, none⟩) (by simp) _).setCell (p := ⟨s + 1 + 1, 0, none⟩) (by simp; omega) _).drew
  · simp

set_option maxHeartbeats 2000000 in
set_option maxRecDepth 100000 in
theorem scan_empty (b : Nat) (w : World) (hT : TabX w b) :
    Calls Tryz.prog 85 #[.pointer (some ⟨b, 0, none⟩), .slice none 0 0] w fun e w' => e = .returned (.tuple #[.slice none 0 0, .int .i64 0, .int .i64 0]) ∧ Kept b w w' ∧ TabX w' b := by
  have HT := hid hT
  have hb := hT.lt
  clear hT
  refine (callsIn_wide (n := 3)).1 ?_
  refine callsIn_of_wp_marks Tryz.func85 rfl trivial ?_ rfl
  simp only [Tryz.ntmps85, List.size_toArray, List.length_cons, List.length_nil, Nat.reduceAdd, Nat.reduceSub, Array.replicate_succ, Array.replicate_zero, List.push_toArray, List.append_toArray, List.nil_append, List.cons_append]
  gi_wp2_with fail
  refine ⟨trivial, (callsIn_wide.2 (frames_any _ _ _ _ _)).mono ?_⟩
  rintro e w' ⟨rfl, rfl⟩
  gi_wp2_with fail
  obtain ⟨W0, hW0⟩ : ∃ W0, ((((w.alloc (.cells #[.slice none 0 0] 56)).alloc (.cells #[.int .i64 0] 3)).alloc (.cells #[.int .i64 0] 26)).alloc (.cells #[.pointer (some ⟨b, 0, none⟩)] 32)).alloc (.cells #[.slice none 0 0] 38) = W0 := ⟨_, rfl⟩
  have bel : Below w.heap.size w W0 := by rw [← hW0]; exact (((((Below.refl _ w).alloc (Nat.le_refl _) _).alloc (by simp) _).alloc (by simp; omega) _).alloc (by simp; omega) _).alloc (by simp; omega) _
  have hsz : W0.heap.size = w.heap.size + 5 := by rw [← hW0]; simp
  have b0 : Boxed W0 w.heap.size 56 (.slice none 0 0) := by rw [← hW0]; exact ((((Boxed.new w 56 (.slice none 0 0)).alloc _).alloc _).alloc _).alloc _
  have b1 : Boxed W0 (w.heap.size + 1) 3 (.int .i64 0) := by
    rw [← hW0]
    have h := (((Boxed.new (w.alloc (.cells #[.slice none 0 0] 56)) 3 (.int .i64 0)).alloc (.cells #[.int .i64 0] 26)).alloc (.cells #[.pointer (some ⟨b, 0, none⟩)] 32)).alloc (.cells #[.slice none 0 0] 38)
    simpa only [World.size_alloc] using h
  have b2 : Boxed W0 (w.heap.size + 2) 26 (.int .i64 0) := by
    rw [← hW0]
    have h := ((Boxed.new ((w.alloc (.cells #[.slice none 0 0] 56)).alloc (.cells #[.int .i64 0] 3)) 26 (.int .i64 0)).alloc (.cells #[.pointer (some ⟨b, 0, none⟩)] 32)).alloc (.cells #[.slice none 0 0] 38)
    simpa only [World.size_alloc] using h
  have bq : Boxed W0 (w.heap.size + 3) 32 (.pointer (some ⟨b, 0, none⟩)) := by
    rw [← hW0]
    have h := (Boxed.new (((w.alloc (.cells #[.slice none 0 0] 56)).alloc (.cells #[.int .i64 0] 3)).alloc (.cells #[.int .i64 0] 26)) 32 (.pointer (some ⟨b, 0, none⟩))).alloc (.cells #[.slice none 0 0] 38)
    simpa only [World.size_alloc] using h
  have bp : Boxed W0 (w.heap.size + 4) 38 (.slice none 0 0) := by
    rw [← hW0]
    have h := Boxed.new ((((w.alloc (.cells #[.slice none 0 0] 56)).alloc (.cells #[.int .i64 0] 3)).alloc (.cells #[.int .i64 0] 26)).alloc (.cells #[.pointer (some ⟨b, 0, none⟩)] 32)) 38 (.slice none 0 0)
    simpa only [World.size_alloc] using h
  rw [hW0]
  clear hW0
  have hT0 : Ts W0.heap.size b (w.heap.size + 4) (w.heap.size + 3) (.slice none 0 0) [] W0 := ⟨⟨Nat.le_refl _, by omega, by omega, by omega, by omega, by omega⟩, HT.out.below bel, Tlv.BySlS.none _ _, bp.cell, bq.cell⟩
  have hno : ∀ k m vs U, ¬ Vs b [] k m vs U := by
    rintro k m vs U ⟨x, a, c, h, _⟩
    rw [tl_end (by simp)] at h
    simp at h
  refine over_func (gf := 181) (lb := #[.pointer (some ⟨w.heap.size + 4, 0, none⟩), .pointer (some ⟨w.heap.size + 3, 0, none⟩)]) rfl (enters_of Tryz.func181 (by kernel_rfl) rfl)
    (tells_frames 2 W0.heap.size b (w.heap.size + 4) (w.heap.size + 3) (.slice none 0 0) []) (fun k m vs U h => absurd h (hno k m vs U)) (by omega) (fun U W h k => h.below k) hT0
    (fun _ _ W => Boxed W w.heap.size 56 (.slice none 0 0) ∧ Boxed W (w.heap.size + 1) 3 (.int .i64 0) ∧ Boxed W (w.heap.size + 2) 26 (.int .i64 0) ∧ Kept b w W) (fun _ _ _ => False)
    ?ik ?ii (fun _ _ _ _ h _ => h) ?i0 (fun _ W => W) (fun _ W => Below.refl _ W) (fun k m vs U h => h) (fun k m vs U h _ => absurd h (hno k m vs U)) (fun _ _ _ => { tmps := #[], defers := [] }) (fun k m vs U W h _ => absurd h (hno k m vs U)) ?assign ?body ?done ?stop
  case ik =>
    rintro k m U W ⟨h0, h1, h2, h3⟩ _ hk
    have hz := h3.size
    have lt : ∀ g, g < w.heap.size + 3 → w.heap.size ≤ g → (∃ ty v, Boxed U g ty v) → W.heap[g]? = U.heap[g]? := fun g h1 h2 ⟨ty, v, hb'⟩ => hk.block g (Array.getElem?_eq_some_iff.1 hb').1 (by omega)
    exact ⟨(lt _ (by omega) (by omega) ⟨_, _, h0⟩).trans h0, (lt _ (by omega) (by omega) ⟨_, _, h1⟩).trans h1, (lt _ (by omega) (by omega) ⟨_, _, h2⟩).trans h2, h3.trans hk⟩
  case ii =>
    rintro k m U W ⟨h0, h1, h2, h3⟩ hp
    exact ⟨hp.block h0, hp.block h1, hp.block h2, Kept.then h3 (hp.below.mono (by omega))⟩
  case i0 =>
    intro W hB _
    exact ⟨(hB.block _ (by omega)).trans b0, (hB.block _ (by omega)).trans b1, (hB.block _ (by omega)).trans b2, Kept.then (Kept.below bel) (hB.mono (by omega))⟩
  case assign => exact fun l k m vs W K _ h _ => absurd h (hno k m vs W)
  case body => exact fun l k m vs U W _ _ h _ _ _ _ _ => absurd h (hno k m vs W)
  case stop => exact fun D c k W _ _ h _ => h.elim
  case done =>
    rintro D m W hD ⟨h0, h1, h2, h3⟩ hT hd
    have c0 := h0.cell
    have c1 := h1.cell
    have c2 := h2.cell
    have f0 := h0.frozen
    have f1 := h1.frozen
    have f2 := h2.frozen
    change W.cell? ⟨w.heap.size + 1 + 1, 0, none⟩ = _ at c2
    change W.frozen? ⟨w.heap.size + 1 + 1, 0, none⟩ = _ at f2
    gi_wp2_with fail
    refine wpIn_wide.2 ?_
    go_region
    gi_wp2_with fail
    obtain ⟨F, hF⟩ : ∃ F, (((W.setCell ⟨w.heap.size, 0, none⟩ (.slice none 0 0)).setCell ⟨w.heap.size + 1, 0, none⟩ (.int .i64 0)).setCell ⟨w.heap.size + 1 + 1, 0, none⟩ (.int .i64 0)).drew = F := ⟨_, rfl⟩
    rw [hF]
    obtain ⟨g0, g1, g2, gd, gk, gs⟩ := scan_set (v0 := .slice none 0 0) (v1 := .int .i64 0) (v2 := .int .i64 0) h0 h1 h2 hd (by omega) hF
    refine ⟨by simp, .inl ⟨_, _, rfl, run_takeDeferred gd, ?_⟩⟩
    have hpb := put_below (B := w.heap.size + 3) F (.deferred none) (l := D) (by omega) (by rw [gs]; exact (Array.getElem?_eq_some_iff.1 hd).1)
    have e0 := (hpb.cell (p := ⟨w.heap.size, 0, none⟩) (by simp)).trans g0.cell
    have e1 := (hpb.cell (p := ⟨w.heap.size + 1, 0, none⟩) (by simp)).trans g1.cell
    have e2 := (hpb.cell (p := ⟨w.heap.size + 1 + 1, 0, none⟩) (by simp)).trans g2.cell
    refine ⟨.tuple #[.slice none 0 0, .int .i64 0, .int .i64 0], by simp [results, Tryz.results85, go_sem, e0, e1, e2], rfl, Kept.then h3 (gk.trans (hpb.mono (by omega))), ?_⟩
    exact tabX_below hT.2.1 (gk.trans (hpb.mono (by omega))) hb
end Go.Proofs.YtkekajmmcjacgaaGreatDoor
end

section
/-
  What must come at any rate: the chapter's example, and a record.
-/
namespace Go.Proofs.YtkekajmmcjacgaaGreatDoor
open Go.RowKit
open Tlv (Tr BySlS AgreeS Agree)
open Crc (hid Kept Tab)

/-- A frame that Put has just made, as bytes. -/
theorem own_bytes {w : World} {b base : Nat} {v : Value} {xs : List Int} (h : Crc.Own w base v (nats xs)) (hb : b < base) (hl : xs.length ≤ 100000) (hx : ∀ x ∈ xs, 0 ≤ x ∧ x ≤ 255) : BySlS (fun g => g ≠ b ∧ g < w.heap.size) w v xs := by
  have h1 := ofCrc (h.bySl hb (by rw [nats_length]; exact hl) (nats_lt _ hx))
  rwa [ints_nats _ hx] at h1

theorem wpList_build2 {P : Program} {ops : Array Oper} {rest : List Oper} {o : Oper} {a : Act} {w : World} {Q : Exit → Act → World → Prop} (hg : o.guard = none) (ty : TypeId) (i j : Nat) (x y : Operand) (ho : o.op = .build ty #[(i, x), (j, y)])
    (vx vy : Value) (hx : a.eval x = vx) (hy : a.eval y = vy) (C : Array Value) (hb : P.built ty [(i, vx), (j, vy)] = some C)
    (h : wpList P ops Q rest (a.put o.dst (.agg C)) w) : wpList P ops Q (o :: rest) a w := by
  have e : P.built ty ((#[(i, x), (j, y)] : Array (Nat × Operand)).map fun (i, x) => (i, a.eval x)).toList = some C := by
    rw [← hb]
    simp only [List.map_toArray, List.map_cons, List.map_nil, hx, hy]
  refine wpList_build hg ty _ ho (by rw [e]; rfl) ?_
  rw [e]
  exact h

theorem zeros32 : ∀ y ∈ List.replicate 32 (0 : Int), 0 ≤ y ∧ y ≤ 255 := by
  intro y hy
  rw [(List.mem_replicate.1 hy).2]
  omega
theorem rightX : RightR 1 (List.replicate 32 0) [120] := ⟨by omega, by omega, by simp, by simp, zeros32, by simp⟩

/-- What a store of a whole record into a variable just made asks. -/
theorem store_facts (w : World) {Z C : List Value} (hZ : Z.length = 34) (hC : C.length = 34) : World.there (w.alloc (.cells Z.toArray 52)) w.heap.size 0 C.toArray.size := by
  have h := there_new w Z 52
  rw [hZ] at h
  have e : C.toArray.size = 34 := hC
  rw [e]
  exact h

end Go.Proofs.YtkekajmmcjacgaaGreatDoor
end

section
/-
  Plain mathematics: the form as the reference makes it is the form.
-/
namespace Go.Proofs.YtkekajmmcjacgaaGreatDoor.Tlv

/-- A list's forms behind one another, as the reference puts them together. -/
def rformL {α : Type} (f : α → Option (List Int)) : List Int → List α → Option (List Int)
  | acc, [] => some acc
  | acc, k :: ks => match f k with
    | none => none
    | some x => if 65535 < acc.length then none else rformL f (acc ++ x) ks

/-- What is behind the first three bytes, as the reference makes it. -/
def rbody {n : Nat} (f : Tr n → Option (List Int)) (t : Tr (n + 1)) (deep : Nat) : Option (List Int) :=
  if t.hd.1 = 1 then (if t.hd.2.2 ≠ [] ∨ t.kd ≠ [] then none else some (numB (nsz t.hd.2.1).toNat t.hd.2.1))
  else if t.hd.1 = 2 then (if t.hd.2.1 ≠ 0 ∨ t.kd ≠ [] then none else some t.hd.2.2)
  else if t.hd.1 = 3 then (if t.hd.2.1 ≠ 0 ∨ t.hd.2.2 ≠ [] ∨ deep = 0 then none else rformL f [] t.kd)
  else none

/-- The form, as the reference makes it. -/
def rform : (n : Nat) → Tr n → Nat → Option (List Int)
  | 0, t, _ => by cases t
  | n + 1, t, deep => match rbody (fun k => rform n k (deep - 1)) t deep with
    | none => none
    | some b => if 65535 < b.length then none else some (t.hd.1 :: ((b.length : Int) / 256) :: ((b.length : Int) % 256) :: b)

theorem form_len (n : Nat) (t : Tr n) : (formOf n t).length = 3 + (bodyOf n t).length := by simp [formOf]; omega

theorem rformL_le {α : Type} {f : α → Option (List Int)} : ∀ (ks : List α) (acc r : List Int), rformL f acc ks = some r → acc.length ≤ r.length
  | [], acc, r, h => by simp only [rformL, Option.some.injEq] at h; subst h; exact Nat.le_refl _
  | k :: ks, acc, r, h => by
    simp only [rformL] at h
    split at h
    · simp at h
    · rename_i x hx
      split at h
      · simp at h
      · have := rformL_le ks _ _ h
        simp at this
        omega

theorem rformL_yes {n d : Nat} {f : Tr n → Option (List Int)} (hf : ∀ k, f k = if (bsz n k 65535 d).2 then some (formOf n k) else none) : ∀ (ks : List (Tr n)) (acc : List Int),
    (lszGo (bsz n) 65535 ((d : Int) + 1) acc.length ks).2 = true → rformL f acc ks = some (acc ++ (ks.map (formOf n)).flatten)
  | [], acc, _ => by simp [rformL]
  | k :: ks, acc, h => by
    simp only [lszGo] at h
    split at h
    · rename_i hk
      rw [show (d : Int) + 1 - 1 = d by omega] at hk h
      have hfit := bsz_fits _ _ _ _ hk
      have hlen := bsz_len _ _ _ _ hk
      have hk2 := bsz_mono n k _ 65535 d hk (by omega) (by omega)
      have hl := form_len n k
      simp only [rformL]
      rw [hf k, if_pos hk2]
      simp only
      have e : (((acc.length + (3 + (bodyOf n k).length) : Nat)) : Int) = (acc.length : Int) + (3 + (bsz n k (65535 - (acc.length : Int) - 3) d).1) := by omega
      rw [if_neg (by omega), rformL_yes hf ks (acc ++ formOf n k) (by rw [List.length_append, hl, e]; exact h)]
      simp
    · simp at h

theorem rformL_no {n d : Nat} {f : Tr n → Option (List Int)} (hf : ∀ k, f k = if (bsz n k 65535 d).2 then some (formOf n k) else none) : ∀ (ks : List (Tr n)) (acc r : List Int),
    rformL f acc ks = some r → r.length ≤ 65535 → (lszGo (bsz n) 65535 ((d : Int) + 1) acc.length ks).2 = true
  | [], _, _, _, _ => rfl
  | k :: ks, acc, r, h, hr => by
    simp only [rformL] at h
    rw [hf k] at h
    by_cases hk : (bsz n k 65535 d).2 = true
    · rw [if_pos hk] at h
      simp only at h
      split at h
      · simp at h
      · have hle := rformL_le ks _ _ h
        have ih := rformL_no hf ks _ _ h hr
        have hl := form_len n k
        rw [List.length_append, hl] at hle ih
        have hk2 := bsz_mono n k _ (65535 - (acc.length : Int) - 3) d hk (by omega) (by omega)
        have hlen := bsz_len _ _ _ _ hk2
        simp only [lszGo]
        rw [show (d : Int) + 1 - 1 = d by omega, if_pos hk2]
        have e : (((acc.length + (3 + (bodyOf n k).length) : Nat)) : Int) = (acc.length : Int) + (3 + (bsz n k (65535 - (acc.length : Int) - 3) d).1) := by omega
        rw [← e]
        exact ih
    · rw [if_neg hk] at h
      simp at h

theorem rform_eq : ∀ (n : Nat) (t : Tr n) (d : Nat), rform n t d = if (bsz n t 65535 d).2 then some (formOf n t) else none
  | 0, t, _ => by cases t
  | n + 1, t, d => by
    have fin : ∀ b, bodyOf (n + 1) t = b → (t.hd.1 :: ((b.length : Int) / 256) :: ((b.length : Int) % 256) :: b) = formOf (n + 1) t := by
      intro b e
      simp only [formOf]
      rw [e]
    by_cases ho : oeB t.hd.1 t.hd.2.1 t.hd.2.2.length t.kd.length = true
    · obtain ⟨o1, o2, o3⟩ := oeB_iff.1 ho
      have hbs : t.hd.1 ≠ 2 → t.hd.2.2 = [] := fun h => List.eq_nil_of_length_eq_zero (by omega)
      have hkd : t.hd.1 ≠ 3 → t.kd = [] := fun h => List.eq_nil_of_length_eq_zero (by omega)
      rw [bsz_yes (by omega) ho]
      simp only [rform, rbody]
      by_cases h1 : t.hd.1 = 1
      · rw [if_pos h1, if_pos h1, if_neg (by simp [hbs (by omega), hkd (by omega)])]
        have hb := bodyOf_1 h1
        have := nsz_bd t.hd.2.1
        simp only
        rw [if_neg (by rw [numB_length]; omega), fin _ hb, if_pos (by simp; omega)]
      · rw [if_neg h1, if_neg h1]
        by_cases h2 : t.hd.1 = 2
        · rw [if_pos h2, if_pos h2, if_neg (by simp [hkd (by omega)]; omega)]
          have hb := bodyOf_2 h2
          simp only
          rw [fin _ hb]
          by_cases hl : 65535 < t.hd.2.2.length
          · rw [if_pos hl, if_neg (by simp; omega)]
          · rw [if_neg hl, if_pos (by simp; omega)]
        · rw [if_neg h2, if_neg h2]
          by_cases h3 : t.hd.1 = 3
          · rw [if_pos h3, if_pos h3]
            unfold lsz
            by_cases hd : d = 0
            · subst hd
              simp
            · rw [if_neg (by simp [hbs (by omega), hd]; omega), if_neg (show ¬ ((d : Int) = 0) by omega)]
              obtain ⟨d', rfl⟩ : ∃ d', d = d' + 1 := ⟨d - 1, by omega⟩
              have hb := bodyOf_kids h3
              have hf : ∀ k, (fun k => rform n k (d' + 1 - 1)) k = if (bsz n k 65535 d').2 then some (formOf n k) else none := fun k => rform_eq n k d'
              have hcast : (((d' + 1 : Nat)) : Int) = (d' : Int) + 1 := by omega
              rw [hcast]
              by_cases hg : (lszGo (bsz n) 65535 ((d' : Int) + 1) 0 t.kd).2 = true
              · rw [if_pos hg, rformL_yes hf t.kd [] hg]
                have hbd := lszGo_bd (bsz_fits n) 65535 ((d' : Int) + 1) t.kd 0 (by omega) (by omega) hg
                have hln := (lszGo_len (bsz_len n) 65535 ((d' : Int) + 1) t.kd 0 hg).1
                simp only [List.nil_append]
                rw [if_neg (by omega), fin _ hb]
              · rw [if_neg hg]
                split
                · rfl
                · rename_i r hr
                  by_cases hl : 65535 < r.length
                  · rw [if_pos hl]
                  · exact absurd (rformL_no hf t.kd [] r hr (by omega)) hg
          · rw [if_neg h3, if_neg h3]
            rfl
    · have ho' : oeB t.hd.1 t.hd.2.1 t.hd.2.2.length t.kd.length = false := by simpa using ho
      rw [bsz_no (.inr ho'), if_neg (by simp)]
      have hno : ¬ ((t.hd.1 = 1 ∨ t.hd.2.1 = 0) ∧ (t.hd.1 = 2 ∨ t.hd.2.2.length = 0) ∧ (t.hd.1 = 3 ∨ t.kd.length = 0)) := fun h => ho (oeB_iff.2 h)
      have hb0 : t.hd.2.2 = [] ↔ t.hd.2.2.length = 0 := List.length_eq_zero_iff.symm
      have hk0 : t.kd = [] ↔ t.kd.length = 0 := List.length_eq_zero_iff.symm
      have : rbody (fun k => rform n k (d - 1)) t d = none := by
        unfold rbody
        split
        · rw [if_pos (by rw [ne_eq, ne_eq, hb0, hk0]; omega)]
        · split
          · rw [if_pos (by rw [ne_eq, ne_eq, hk0]; omega)]
          · split
            · rw [if_pos (by rw [ne_eq, ne_eq, hb0]; omega)]
            · rfl
      simp only [rform]
      rw [this]

end Go.Proofs.YtkekajmmcjacgaaGreatDoor.Tlv
end

section
/-
  What the reference's form makes of a tree.
-/
namespace Go.Proofs.YtkekajmmcjacgaaGreatDoor.Tlv
open Go.RowKit
attribute [local go_sem ↓] Go.wp_at_zero Go.wp_at_succ

/-- What is behind the first three bytes, by the value's parts. -/
def rbodyC {α : Type} (f : α → Option (List Int)) (tag num : Int) (bs : List Int) (ks : List α) (deep : Nat) : Option (List Int) :=
  if tag = 1 then (if bs ≠ [] ∨ ks ≠ [] then none else some (numB (nsz num).toNat num))
  else if tag = 2 then (if num ≠ 0 ∨ ks ≠ [] then none else some bs)
  else if tag = 3 then (if num ≠ 0 ∨ bs ≠ [] ∨ deep = 0 then none else rformL f [] ks)
  else none

theorem rform_parts {n : Nat} (t : Tr (n + 1)) (d : Nat) : rform (n + 1) t d = match rbodyC (fun k => rform n k (d - 1)) t.hd.1 t.hd.2.1 t.hd.2.2 t.kd d with
    | none => none
    | some b => if 65535 < b.length then none else some (t.hd.1 :: ((b.length : Int) / 256) :: ((b.length : Int) % 256) :: b) := rfl

def FormOk (n : Nat) : Prop := ∀ (B0 : Nat) (t : Tr n) (d : Nat) (sb sk : Value) (w : World), B0 ≤ w.heap.size → RepS (fun b => b < B0) w n t sb sk → d ≤ 8 →
  Calls Tryz.prog 179 #[.agg #[.int .i64 t.hd.1, .int .u64 t.hd.2.1, sb, sk], .int .i64 d] w fun e w' => ((rform n t d = none ∧ e = .returned (.tuple #[.slice none 0 0, .bool false])) ∨
    (∃ (r : List Int) (a : Option Addr) (c : Nat), rform n t d = some r ∧ e = .returned (.tuple #[.slice a r.length c, .bool true]) ∧ BySl 0 w'.heap.size w' (.slice a r.length c) r)) ∧ Below w.heap.size w w'

theorem ownsRow_lit (w : World) (l : List Value) (base : Nat) (hb : base ≤ w.heap.size) (hm : l.length ≤ maxLen) : (w.alloc (.cells l.toArray 5)).ownsRow base 5 1 (.slice (some ⟨w.heap.size, 0, none⟩) l.length l.length) l.length l :=
  ⟨by omega, .inr ⟨w.heap.size, l.length, l.toArray, rfl, hb, heap_alloc_new w _, Nat.le_refl _, hm, by simp, by simp⟩⟩

theorem rform_len : ∀ {n : Nat} {t : Tr n} {d : Nat} {r : List Int}, rform n t d = some r → 0 < r.length ∧ r.length ≤ 65538
  | 0, t, _, _, _ => by cases t
  | n + 1, t, d, r, h => by
    rw [rform_parts] at h
    split at h
    · cases h
    · split at h
      · cases h
      · simp only [Option.some.injEq] at h
        subst h
        simp
        omega

set_option maxHeartbeats 2000000 in
set_option maxRecDepth 100000 in
theorem form_step (n : Nat) (ih : FormOk n) : FormOk (n + 1) := by
  intro B0 t d sb sk w hB hrep hd
  have IH := hid ih
  clear ih
  obtain ⟨hn0, hn1, hby, hks⟩ := hrep
  have HB := hid hby
  have HK := hid hks
  obtain ⟨ab, cb, rfl, hrb⟩ := hby
  obtain ⟨ak, ck, rfl, hrk⟩ := hks
  have hbl : t.hd.2.2.length ≤ 140737488355328 := by obtain ⟨_, _, _, h, _⟩ := hrb; exact h
  have HBB : Hid (∀ x ∈ t.hd.2.2, 0 ≤ x ∧ x ≤ 255) := by obtain ⟨_, _, _, _, h, _⟩ := hrb; exact h
  clear hrb hrk
  have hkl : t.kd.length ≤ 2199023255552 := by obtain ⟨_, _, _, _, _, _, h, _⟩ := HK.out; exact h
  obtain ⟨R, hR⟩ : ∃ R, rform (n + 1) t d = R := ⟨_, rfl⟩
  rw [hR]
  rw [rform_parts] at hR
  have HNone : Hid (rbodyC (fun k => rform n k (d - 1)) t.hd.1 t.hd.2.1 t.hd.2.2 t.kd d = none → R = none) := fun h => by rw [h] at hR; exact hR.symm
  have HSome : Hid (∀ b, rbodyC (fun k => rform n k (d - 1)) t.hd.1 t.hd.2.1 t.hd.2.2 t.kd d = some b → R = if 65535 < b.length then none else some (t.hd.1 :: ((b.length : Int) / 256) :: ((b.length : Int) % 256) :: b)) := fun b h => by rw [h] at hR; exact hR.symm
  clear hR
  generalize t.kd = ks at *
  generalize t.hd.2.2 = bs at *
  generalize t.hd.2.1 = num at *
  generalize t.hd.1 = tag at *
  clear t
  obtain ⟨L1, hL1⟩ : ∃ L, bs.length = L := ⟨_, rfl⟩
  obtain ⟨L2, hL2⟩ : ∃ L, ks.length = L := ⟨_, rfl⟩
  have HL1 := hid hL1
  have HL2 := hid hL2
  rw [hL1] at hbl HB ⊢
  rw [hL2] at hkl HK ⊢
  clear hL1 hL2
  obtain ⟨i0, hi, hz0, hz1, hz2⟩ := info_parts Tryz.info5
  go_enter Tryz.func179, Tryz.ntmps179
  go_upto_block 0 with fail
  obtain ⟨W0, hW0⟩ : ∃ W0, W0 = w.alloc (Obj.cells #[Value.int .i64 tag, Value.int .u64 num, Value.slice ab L1 cb, Value.slice ak L2 ck] 225) := ⟨_, rfl⟩
  have x0 : W0.cell? ⟨w.heap.size, 0, none⟩ = some (.int .i64 tag) := by rw [hW0]; simp [go_sem]
  have x1 : W0.cell? ⟨w.heap.size, 1, none⟩ = some (.int .u64 num) := by rw [hW0]; simp [go_sem]
  have x2 : W0.cell? ⟨w.heap.size, 2, none⟩ = some (.slice ab L1 cb) := by rw [hW0]; simp [go_sem]
  have x3 : W0.cell? ⟨w.heap.size, 3, none⟩ = some (.slice ak L2 ck) := by rw [hW0]; simp [go_sem]
  have HZ0 : Hid (W0.heap.size = w.heap.size + 1) := by rw [Hid, hW0]; simp
  have HW0 : Hid (Below w.heap.size w W0) := by rw [Hid, hW0]; exact (Below.refl _ _).alloc (Nat.le_refl _) _
  rw [← hW0]
  clear hW0
  go_cut [6, 7, 8, 9, 10, 13, 37, 52] (fun s6 _ _ _ _ _ _ _ wx => ∃ (M : Nat) (body : List Int) (a : Option Addr) (c : Nat), s6 = .slice a M c ∧ wx.cell? ⟨w.heap.size, 0, none⟩ = some (.int .i64 tag) ∧ M ≤ 140737488355328 ∧ (tag = 1 ∨ tag = 2 ∨ tag = 3) ∧
    Hid (body.length = M ∧ rbodyC (fun k => rform n k (d - 1)) tag num bs ks d = some body ∧ BySl 0 wx.heap.size wx (.slice a M c) body ∧ Below w.heap.size w wx))
  case first =>
    by_cases h1 : tag = 1
    · as_aux_lemma =>
        obtain ⟨K, hK⟩ : ∃ K, (nsz num).toNat = K := ⟨_, rfl⟩
        have HKK := hid hK
        have hK8 : K ≤ 8 := by have := nsz_bd num; omega
        have HSP := hid (nsz_spec num hn0 hn1)
        clear hK
        subst h1
        obtain ⟨N, rfl⟩ : ∃ N : Nat, num = N := ⟨num.toNat, by omega⟩
        have hN : N ≤ 18446744073709551615 := by omega
        go_wp2_with fail
        go_loopg [6, 7] K (fun g s6 s7 wr => ∃ (k q : Nat) (a : Option Addr) (c : Nat), s6 = .slice a k c ∧ s7 = .int .u64 (q : Int) ∧ q ≤ 18446744073709551615 ∧ k ≤ K ∧ K - k ≤ g ∧
          wr.cell? ⟨w.heap.size, 0, none⟩ = some (.int .i64 1) ∧ wr.cell? ⟨w.heap.size, 2, none⟩ = some (.slice ab L1 cb) ∧ wr.cell? ⟨w.heap.size, 3, none⟩ = some (.slice ak L2 ck) ∧ Hid (q = N / 256 ^ k ∧ BySl 0 wr.heap.size wr (.slice a k c) (numB k N) ∧ Below w.heap.size w wr ∧ w.heap.size + 1 ≤ wr.heap.size))
        case atStart => exact ⟨0, N, none, 0, rfl, rfl, hN, Nat.zero_le _, Nat.le_refl _, x0, x2, x3, by simp, BySl.none _ _ _, HW0.out, Nat.le_of_eq HZ0.out.symm⟩
        case round =>
          obtain ⟨k, q, a, c, rfl, rfl, hq1, hkK, hkg, f0, f2, f3, HI⟩ := hrel
          clear x0 x1 x2 x3
          by_cases hq : 0 < q
          · have hkK' : k < K := by
              apply Nat.lt_of_le_of_ne hkK
              intro e
              subst e
              have h1 := HSP.out.1
              rw [HKK.out] at h1
              have h2 := HI.out.1
              rw [Nat.div_eq_of_lt (by exact_mod_cast h1)] at h2
              omega
            have hown := hid (ownsRow_lit wr [.int .u8 ((q : Int) % 256)] wr.heap.size (Nat.le_refl _) (by unfold maxLen; simp))
            have belT : Hid (Below wr.heap.size wr (wr.alloc (Obj.cells #[Value.int IntKind.u8 ((q : Int) % 256)] 5))) := (Below.refl _ _).alloc (Nat.le_refl _) _
            have hz1' := HI.out.2.2.2
            have hnb : Hid (numB (k + 1) N = ((q : Int) % 256) :: numB k N) := by
              rw [Hid, numB, HI.out.1]
              simp
            have hq2 : Hid (q / 256 = N / 256 ^ (k + 1)) := by rw [Hid, HI.out.1, Nat.div_div_eq_div_mul, Nat.pow_succ]
            have hq3 : q / 256 ≤ 18446744073709551615 := by omega
            have hbb : Hid (∀ x ∈ numB (k + 1) N, 0 ≤ x ∧ x ≤ 255) := numB_byte _ _
            obtain ⟨gk', rfl⟩ : ∃ g', gk = g' + 1 := ⟨gk - 1, by omega⟩
            cases a with
            | none =>
              obtain ⟨hk0, hc0⟩ : k = 0 ∧ c = 0 := by
                obtain ⟨a', c', e, _, _, h4, _⟩ := HI.out.2.1
                simp only [Value.slice.injEq] at e
                obtain ⟨rfl, e2, rfl⟩ := e
                obtain ⟨h, h'⟩ := h4 rfl
                rw [h] at e2
                exact ⟨e2, h'⟩
              subst hk0 hc0
              go_wp2_with (at_builtin; go_must (refine wpList_append_own_none rfl _ _ 38 rfl wr.heap.size 5 i0 1 Tryz.underlying38 hi _ 1 _ rfl hown.out rfl ?_))
              go_wp2_with fail
              go_roundg gk'
              case measure => omega
              case rel =>
                have h2 := BySl.own (base := wr.heap.size) (bs := numB 1 N) (by rw [numB_length, hnb.out]; exact hown.out) (by rw [numB_length]; omega) hbb.out
                exact ⟨1, q / 256, some ⟨wr.heap.size, 0, none⟩, 1, rfl, by go_num, hq3, by omega, by omega, (World.cell?_alloc_past _ _ _ (by omega)).trans f0, (World.cell?_alloc_past _ _ _ (by omega)).trans f2, (World.cell?_alloc_past _ _ _ (by omega)).trans f3, hq2.out, by have h3 := h2.agree (Agree.refl _ _ _) (Nat.zero_le _) (Nat.le_refl _); exact h3, HI.out.2.2.1.trans (belT.out.mono (by omega)), by simp; omega⟩
            | some ad =>
              have hnl : Hid (((numB k N).map (Value.int .u8)).length = k * 1) := by rw [Hid, List.length_map, numB_length]; omega
              have hnews := hid (bytes_news HI.out.2.1 belT.out)
              have hone := hid (bytes_one (numB k N))
              go_wp2_with (at_builtin; go_must (refine wpList_append_own _ rfl _ _ 38 rfl wr.heap.size 5 i0 (.int .u8 0) 1 1 Tryz.underlying38 hi hz0 hz1 hz2 rfl (by decide) _ 1 _ rfl hown.out ad k c ((numB k N).map (Value.int .u8)) rfl hnl.out hnews.out hone.out (by unfold maxLen; omega) (by omega) (by simp) ?_))
              intro v2 w5 hown5 hgrow5 hnil5
              obtain ⟨a2, c2, rfl⟩ := ownsRow_form' hown5
              have HOWN5 := hid hown5
              have bel5 : Hid (Below wr.heap.size wr w5) := belT.out.grown hgrow5 (by simp) (fun r e => by simp only [Value.ownBlock, Option.some.injEq] at e; omega)
              clear hown5 hgrow5 hnil5 hnl hnews hone
              go_wp2_with fail
              go_roundg gk'
              case measure => omega
              case rel =>
                have h2 := BySl.own (base := wr.heap.size) (w := w5) (v := .slice a2 (1 + k) c2) (bs := numB (k + 1) N) (by rw [numB_length, hnb.out, Nat.add_comm k 1]; exact HOWN5.out) (by rw [numB_length]; omega) hbb.out
                have h3 := h2.agree (Agree.refl _ _ _) (Nat.zero_le _) (Nat.le_refl _)
                have h4 := bel5.out.size
                rw [Nat.add_comm 1 k] at h3
                exact ⟨k + 1, q / 256, a2, c2, by rw [Nat.add_comm 1 k], by go_num, hq3, by omega, by omega, (bel5.out.cell (p := ⟨w.heap.size, 0, none⟩) (by simp; omega)).trans f0, (bel5.out.cell (p := ⟨w.heap.size, 2, none⟩) (by simp; omega)).trans f2, (bel5.out.cell (p := ⟨w.heap.size, 3, none⟩) (by simp; omega)).trans f3, hq2.out, h3, HI.out.2.2.1.trans (bel5.out.mono (by omega)), by omega⟩
          · have hkK' : Hid (k = K) := by
              rw [Hid]
              apply Nat.le_antisymm hkK
              apply Nat.le_of_not_lt
              intro hlt
              obtain ⟨j, hj⟩ : ∃ j, K = j + 1 := ⟨K - 1, by omega⟩
              have h1 := HSP.out.2 j (by rw [HKK.out, hj])
              have h1' : 256 ^ j ≤ N := by exact_mod_cast h1
              have h2 : 256 ^ k ≤ N := Nat.le_trans (Nat.pow_le_pow_right (by omega) (by omega)) h1'
              have h3 := Nat.div_pos h2 (Nat.pow_pos (by omega))
              have h4 := HI.out.1
              omega
            have hq0 : q = 0 := by omega
            subst hq0
            have hlk := HKK.out
            by_cases hL1 : L1 = 0
            · by_cases hL2 : L2 = 0
              · subst hL1 hL2
                have HRB : Hid (rbodyC (fun k => rform n k (d - 1)) 1 (N : Int) bs ks d = some (numB K N)) := by
                  have e1 : bs = [] := List.length_eq_zero_iff.1 HL1.out
                  have e2 : ks = [] := List.length_eq_zero_iff.1 HL2.out
                  rw [Hid, rbodyC, if_pos rfl, if_neg (by simp [e1, e2]), HKK.out]
                clear hlk
                go_wp2_with fail
                go_meet
                exact ⟨k, numB K N, a, c, rfl, f0, by omega, by simp, by rw [numB_length, hkK'.out], HRB.out, by have h := HI.out.2.1; rw [hkK'.out] at h ⊢; exact h, HI.out.2.2.1⟩
              · have HR : Hid (R = none) := HNone.out (by rw [rbodyC, if_pos rfl, if_pos (.inr (fun e => by have := HL2.out; rw [e] at this; simp at this; omega))])
                have hkI : 0 < L2 := by omega
                subst hL1
                clear hlk
                go_wp2_with fail
                go_ret2
                exact ⟨.inl ⟨HR.out, rfl⟩, HI.out.2.2.1⟩
            · have HR : Hid (R = none) := HNone.out (by rw [rbodyC, if_pos rfl, if_pos (.inl (fun e => by have := HL1.out; rw [e] at this; simp at this; omega))])
              have hkI : 0 < L1 := by omega
              clear hlk
              go_wp2_with fail
              go_ret2
              exact ⟨.inl ⟨HR.out, rfl⟩, HI.out.2.2.1⟩
    · by_cases h2 : tag = 2
      · as_aux_lemma =>
          subst h2
          have hown := hid (World.ownsRow_nil W0 W0.heap.size 5 1)
          by_cases hn : num = 0
          case neg =>
            have HR : Hid (R = none) := HNone.out (by rw [rbodyC, if_neg (by omega), if_pos rfl, if_pos (.inl hn)])
            cases ab with
            | none =>
              obtain ⟨hl0, hb0, hc0⟩ : L1 = 0 ∧ bs = [] ∧ cb = 0 := by
                obtain ⟨a', c', e, _, _, h4, _⟩ := HB.out
                simp only [Value.slice.injEq] at e
                obtain ⟨rfl, e2, rfl⟩ := e
                obtain ⟨h, h'⟩ := h4 rfl
                subst h
                exact ⟨e2, rfl, h'⟩
              subst hl0 hb0 hc0
              go_wp2_with (at_builtin; go_must (refine wpList_append_own_none rfl _ _ 38 rfl W0.heap.size 5 i0 1 Tryz.underlying38 hi _ 0 _ rfl hown.out rfl ?_))
              go_wp2_with fail
              go_ret2
              exact ⟨.inl ⟨HR.out, rfl⟩, HW0.out⟩
            | some ad =>
              have hnl : Hid ((bs.map (Value.int .u8)).length = L1 * 1) := by rw [Hid, List.length_map, HL1.out]; omega
              have hnews := hid (bytes_news (HB.out.to (B := w.heap.size) (fun b h => by omega)) HW0.out)
              have hone := hid (bytes_one bs)
              go_wp2_with (at_builtin; go_must (refine wpList_append_own _ rfl _ _ 38 rfl W0.heap.size 5 i0 (.int .u8 0) 1 1 Tryz.underlying38 hi hz0 hz1 hz2 rfl (by decide) _ 0 _ rfl hown.out ad L1 cb (bs.map (Value.int .u8)) rfl hnl.out hnews.out hone.out (by unfold maxLen; omega) (by omega) (Nat.le_refl _) ?_))
              intro v2 w5 hown5 hgrow5 hnil5
              obtain ⟨a2, c2, rfl⟩ := ownsRow_form' hown5
              have HOWN5 := hid hown5
              have bel5 : Hid (Below w.heap.size w w5) := HW0.out.grown hgrow5 HW0.out.size (fun r e => by simp [Value.ownBlock] at e)
              have v0 := hgrow5.cell x0 (by simp [Value.ownBlock])
              have v1 := hgrow5.cell x1 (by simp [Value.ownBlock])
              have v3 := hgrow5.cell x3 (by simp [Value.ownBlock])
              clear hown5 hgrow5 hnil5 hnl hnews hone x0 x1 x2 x3
              go_wp2_with fail
              go_ret2
              exact ⟨.inl ⟨HR.out, rfl⟩, bel5.out⟩
          subst hn
          by_cases hk : L2 = 0
          case neg =>
            have hkn : Hid (ks ≠ []) := fun e => by have := HL2.out; rw [e] at this; simp at this; omega
            have hkI : 0 < L2 := by omega
            have HR : Hid (R = none) := HNone.out (by rw [rbodyC, if_neg (by omega), if_pos rfl, if_pos (.inr hkn.out)])
            cases ab with
            | none =>
              obtain ⟨hl0, hb0, hc0⟩ : L1 = 0 ∧ bs = [] ∧ cb = 0 := by
                obtain ⟨a', c', e, _, _, h4, _⟩ := HB.out
                simp only [Value.slice.injEq] at e
                obtain ⟨rfl, e2, rfl⟩ := e
                obtain ⟨h, h'⟩ := h4 rfl
                subst h
                exact ⟨e2, rfl, h'⟩
              subst hl0 hb0 hc0
              go_wp2_with (at_builtin; go_must (refine wpList_append_own_none rfl _ _ 38 rfl W0.heap.size 5 i0 1 Tryz.underlying38 hi _ 0 _ rfl hown.out rfl ?_))
              go_wp2_with fail
              go_ret2
              exact ⟨.inl ⟨HR.out, rfl⟩, HW0.out⟩
            | some ad =>
              have hnl : Hid ((bs.map (Value.int .u8)).length = L1 * 1) := by rw [Hid, List.length_map, HL1.out]; omega
              have hnews := hid (bytes_news (HB.out.to (B := w.heap.size) (fun b h => by omega)) HW0.out)
              have hone := hid (bytes_one bs)
              go_wp2_with (at_builtin; go_must (refine wpList_append_own _ rfl _ _ 38 rfl W0.heap.size 5 i0 (.int .u8 0) 1 1 Tryz.underlying38 hi hz0 hz1 hz2 rfl (by decide) _ 0 _ rfl hown.out ad L1 cb (bs.map (Value.int .u8)) rfl hnl.out hnews.out hone.out (by unfold maxLen; omega) (by omega) (Nat.le_refl _) ?_))
              intro v2 w5 hown5 hgrow5 hnil5
              obtain ⟨a2, c2, rfl⟩ := ownsRow_form' hown5
              have HOWN5 := hid hown5
              have bel5 : Hid (Below w.heap.size w w5) := HW0.out.grown hgrow5 HW0.out.size (fun r e => by simp [Value.ownBlock] at e)
              have v0 := hgrow5.cell x0 (by simp [Value.ownBlock])
              have v1 := hgrow5.cell x1 (by simp [Value.ownBlock])
              have v3 := hgrow5.cell x3 (by simp [Value.ownBlock])
              clear hown5 hgrow5 hnil5 hnl hnews hone x0 x1 x2 x3
              go_wp2_with fail
              go_ret2
              exact ⟨.inl ⟨HR.out, rfl⟩, bel5.out⟩
          subst hk
          have hkn : ks = [] := List.length_eq_zero_iff.1 HL2.out
          have HRB : Hid (rbodyC (fun k => rform n k (d - 1)) 2 0 bs ks d = some bs) := by rw [Hid, rbodyC, if_neg (by omega), if_pos rfl, if_neg (by simp [hkn])]
          clear hkn
          cases ab with
          | none =>
            obtain ⟨hl0, hb0, hc0⟩ : L1 = 0 ∧ bs = [] ∧ cb = 0 := by
              obtain ⟨a', c', e, _, _, h4, _⟩ := HB.out
              simp only [Value.slice.injEq] at e
              obtain ⟨rfl, e2, rfl⟩ := e
              obtain ⟨h, h'⟩ := h4 rfl
              subst h
              exact ⟨e2, rfl, h'⟩
            subst hl0 hb0 hc0
            go_wp2_with (at_builtin; go_must (refine wpList_append_own_none rfl _ _ 38 rfl W0.heap.size 5 i0 1 Tryz.underlying38 hi _ 0 _ rfl hown.out rfl ?_))
            go_wp2_with fail
            go_meet
            exact ⟨0, [], none, 0, rfl, x0, Nat.zero_le _, by simp, rfl, HRB.out, BySl.none _ _ _, HW0.out⟩
          | some ad =>
            have hnl : Hid ((bs.map (Value.int .u8)).length = L1 * 1) := by rw [Hid, List.length_map, HL1.out]; omega
            have hnews := hid (bytes_news (HB.out.to (B := w.heap.size) (fun b h => by omega)) HW0.out)
            have hone := hid (bytes_one bs)
            go_wp2_with (at_builtin; go_must (refine wpList_append_own _ rfl _ _ 38 rfl W0.heap.size 5 i0 (.int .u8 0) 1 1 Tryz.underlying38 hi hz0 hz1 hz2 rfl (by decide) _ 0 _ rfl hown.out ad L1 cb (bs.map (Value.int .u8)) rfl hnl.out hnews.out hone.out (by unfold maxLen; omega) (by omega) (Nat.le_refl _) ?_))
            intro v2 w5 hown5 hgrow5 hnil5
            obtain ⟨a2, c2, rfl⟩ := ownsRow_form' hown5
            have HOWN5 := hid hown5
            have bel5 : Hid (Below w.heap.size w w5) := HW0.out.grown hgrow5 HW0.out.size (fun r e => by simp [Value.ownBlock] at e)
            have v0 := hgrow5.cell x0 (by simp [Value.ownBlock])
            have v1 := hgrow5.cell x1 (by simp [Value.ownBlock])
            have v3 := hgrow5.cell x3 (by simp [Value.ownBlock])
            clear hown5 hgrow5 hnil5 hnl hnews hone x0 x1 x2 x3
            go_wp2_with fail
            go_meet
            exact ⟨L1, bs, a2, c2, rfl, v0, hbl, by simp, HL1.out, HRB.out, (BySl.own (by rw [HL1.out]; exact HOWN5.out) (by rw [HL1.out]; exact hbl) HBB.out).agree (Agree.refl _ _ _) (Nat.zero_le _) (Nat.le_refl _), bel5.out⟩
      · by_cases h3 : tag = 3
        · as_aux_lemma =>
            subst h3
            by_cases hn : num = 0
            case neg =>
              have HR : Hid (R = none) := HNone.out (by rw [rbodyC, if_neg (by omega), if_neg (by omega), if_pos rfl, if_pos (.inl hn)])
              go_wp2_with fail
              go_ret2
              exact ⟨.inl ⟨HR.out, rfl⟩, HW0.out⟩
            subst hn
            by_cases hL1 : L1 = 0
            case neg =>
              have HR : Hid (R = none) := HNone.out (by rw [rbodyC, if_neg (by omega), if_neg (by omega), if_pos rfl, if_pos (.inr (.inl (fun e => by have := HL1.out; rw [e] at this; simp at this; omega)))])
              have hkI : 0 < L1 := by omega
              go_wp2_with fail
              go_ret2
              exact ⟨.inl ⟨HR.out, rfl⟩, HW0.out⟩
            subst hL1
            by_cases hd0 : d = 0
            case pos =>
              have HR : Hid (R = none) := HNone.out (by rw [rbodyC, if_neg (by omega), if_neg (by omega), if_pos rfl, if_pos (.inr (.inr hd0))])
              have hdb : ((d : Int) == 0) = true := by simp; omega
              go_wp2_with fail
              go_ret2
              exact ⟨.inl ⟨HR.out, rfl⟩, HW0.out⟩
            have hdb : ((d : Int) == 0) = false := by simp; omega
            obtain ⟨d', HD⟩ : ∃ d', Hid (d = d' + 1) := ⟨d - 1, by rw [Hid]; omega⟩
            have hdw : IntKind.i64.wrap ((d : Int) - 1) = d' := by have := HD.out; rw [IntKind.wrap_i64]; omega
            have hd8 : d' ≤ 8 := by have := HD.out; omega
            obtain ⟨RB, hRB⟩ : ∃ RB, rbodyC (fun k => rform n k (d - 1)) 3 0 bs ks d = RB := ⟨_, rfl⟩
            have HRL : Hid (rformL (fun k => rform n k d') [] ks = RB) := by
              have e : bs = [] := List.length_eq_zero_iff.1 HL1.out
              rw [Hid, ← hRB, rbodyC, if_neg (by omega), if_neg (by omega), if_pos rfl, if_neg (by simp [e, hd0]), HD.out, Nat.add_sub_cancel]
            have HRB := hid hRB
            rw [hRB] at HNone
            have hown0 := hid (World.ownsRow_nil W0 (w.heap.size + 1) 5 1)
            clear hRB hd0 HSome
            go_wp2_with fail
            go_loopw [6, 8] (fun s6 s8 wr => ∃ (i M : Nat) (a : Option Addr) (c : Nat) (acc : List Int), s6 = .slice a M c ∧ s8 = .int .i64 i ∧ i ≤ L2 ∧ M ≤ 140000 ∧ wr.cell? ⟨w.heap.size, 0, none⟩ = some (.int .i64 3) ∧ wr.cell? ⟨w.heap.size, 3, none⟩ = some (.slice ak L2 ck) ∧
              Hid (acc.length = M ∧ rformL (fun k => rform n k d') acc (ks.drop i) = RB ∧ wr.ownsRow (w.heap.size + 1) 5 1 (.slice a M c) M (acc.map (Value.int .u8)) ∧ (∀ x ∈ acc, 0 ≤ x ∧ x ≤ 255) ∧ Below w.heap.size w wr ∧ w.heap.size + 1 ≤ wr.heap.size)) (fun _ s8 _ => L2 - (intOf s8).toNat)
            case atStart => exact ⟨0, 0, none, 0, [], rfl, rfl, Nat.zero_le _, Nat.zero_le _, x0, x3, rfl, HRL.out, hown0.out, by simp, HW0.out, Nat.le_of_eq HZ0.out.symm⟩
            case round =>
              obtain ⟨i, M, a, c, acc, rfl, rfl, hiL, hM, f0, f3, HI⟩ := hrel
              clear x0 x1 x2 x3
              have hws := HI.out.2.2.2.2.2
              have hbelw := hid HI.out.2.2.2.2.1
              by_cases hlt : i < L2
              · have hlt' : i < ks.length := by rw [HL2.out]; exact hlt
                obtain ⟨_, _, ea, _, _, _, _, h7⟩ := HK.out
                simp only [Value.slice.injEq] at ea
                obtain ⟨rfl, hx, rfl⟩ := ea
                clear hx
                obtain ⟨b, o, rfl, hSb, hc⟩ := h7 (by intro e; subst e; simp at hlt')
                obtain ⟨sb, sk, c0, c1, c2, c3, hrep⟩ := hc i ks[i] (List.getElem?_eq_getElem hlt')
                clear hc h7
                obtain ⟨a1, l1, q1, a2, l2, q2, rfl, rfl⟩ := hrep.sl
                have hbw : b < w.heap.size := by omega
                have hR := hid (hrep.agree (AgreeS.below hbelw.out (fun b hb => by omega)) (fun _ h => h))
                clear hrep
                have d0 := (hbelw.out.cell (p := ⟨b, o + i * 4, none⟩) hbw).trans c0
                have d1 := (hbelw.out.cell (p := ⟨b, o + i * 4 + 1, none⟩) hbw).trans c1
                have d2 := (hbelw.out.cell (p := ⟨b, o + i * 4 + 2, none⟩) hbw).trans c2
                have d3 := (hbelw.out.cell (p := ⟨b, o + i * 4 + 3, none⟩) hbw).trans c3
                clear c0 c1 c2 c3
                have hdrop : Hid (ks.drop i = ks[i] :: ks.drop (i + 1)) := List.drop_eq_getElem_cons hlt'
                generalize ks[i] = t1 at *
                have hiI0 : (0 : Int) ≤ (i : Int) := by omega
                have hiI1 : (i : Int) < (L2 : Int) := by omega
                go_wp2_with fail
                refine (IH.out B0 t1 d' _ _ wr (by omega) hR.out hd8).mono ?_
                rintro e w2 ⟨hres, hb2⟩
                have HB2 := hid hb2
                have hs2 := hb2.size
                have F0 := (hb2.cell (p := ⟨w.heap.size, 0, none⟩) (by show w.heap.size < wr.heap.size; omega)).trans f0
                have F3 := (hb2.cell (p := ⟨w.heap.size, 3, none⟩) (by show w.heap.size < wr.heap.size; omega)).trans f3
                clear hb2 d0 d1 d2 d3 f0 f3
                have belw2 : Hid (Below w.heap.size w w2) := hbelw.out.trans (HB2.out.mono (by omega))
                rcases hres with ⟨hn, rfl⟩ | ⟨r, ar, cr, hs, rfl, hr⟩
                · have HR : Hid (R = none) := HNone.out (by rw [← HI.out.2.1, hdrop.out, rformL, hn])
                  clear hn
                  go_wp2_with fail
                  go_ret2
                  exact ⟨.inl ⟨HR.out, rfl⟩, belw2.out⟩
                obtain ⟨hr0, hr1⟩ := rform_len hs
                obtain ⟨Q, hQ⟩ : ∃ Q, r.length = Q := ⟨_, rfl⟩
                have HQ := hid hQ
                have HSS := hid hs
                have HRR := hid hr
                rw [hQ] at hr0 hr1 HRR ⊢
                clear hQ hs hr
                by_cases h65 : 65535 < M
                · have HR : Hid (R = none) := HNone.out (by rw [← HI.out.2.1, hdrop.out, rformL, HSS.out]; simp only; rw [if_pos (by rw [HI.out.1]; exact h65)])
                  have hq : decide ((65535 : Int) < M) = true := by simp; omega
                  go_wp2_with fail
                  go_ret2
                  exact ⟨.inl ⟨HR.out, rfl⟩, belw2.out⟩
                have hq : decide ((65535 : Int) < M) = false := by simp; omega
                obtain ⟨ad, rfl⟩ : ∃ ad, ar = some ad := by
                  cases ar with
                  | some ad => exact ⟨ad, rfl⟩
                  | none =>
                    obtain ⟨a', c', e, _, _, h4, _⟩ := HRR.out
                    simp only [Value.slice.injEq] at e
                    obtain ⟨e1, _, _⟩ := e
                    obtain ⟨h, _⟩ := h4 e1.symm
                    have := HQ.out
                    rw [h] at this
                    simp at this
                    omega
                have hown := hid (ownsRow_agree HI.out.2.2.1 (Agree.below HB2.out))
                have ltA := hid hown.out.lt
                have hnl : Hid ((r.map (Value.int .u8)).length = Q * 1) := by rw [Hid, List.length_map, HQ.out]; omega
                have hnews := hid (bytes_news HRR.out (Below.refl _ _))
                have hone := hid (bytes_one r)
                go_wp2_with (at_builtin; go_must (refine wpList_append_own _ rfl _ _ 38 rfl (w.heap.size + 1) 5 i0 (.int .u8 0) 1 1 Tryz.underlying38 hi hz0 hz1 hz2 rfl (by decide) _ M _ rfl hown.out ad Q cr (r.map (Value.int .u8)) rfl hnl.out hnews.out hone.out (by unfold maxLen; omega) (by omega) (by omega) ?_))
                intro v2 w5 hown5 hgrow5 hnil5
                obtain ⟨a5, c5, rfl⟩ := ownsRow_form' hown5
                have HOWN5 := hid hown5
                have hs5 := hgrow5.size
                have bel5 : Hid (Below (w.heap.size + 1) w2 w5) := (Below.refl _ _).grown hgrow5 (by omega) (fun r e => (ltA.out r e).1)
                have G0 := (bel5.out.cell (p := ⟨w.heap.size, 0, none⟩) (by simp)).trans F0
                have G3 := (bel5.out.cell (p := ⟨w.heap.size, 3, none⟩) (by simp)).trans F3
                clear hown5 hgrow5 hnil5 hnl hnews hone F0 F3 hown
                go_wp2_with fail
                go_roundw
                case rel =>
                  refine ⟨i + 1, M + Q, a5, c5, acc ++ r, rfl, by go_num, by omega, by omega, G0, G3, by rw [List.length_append, HI.out.1, HQ.out], ?_, by rw [List.map_append]; exact HOWN5.out, ?_, belw2.out.trans (bel5.out.mono (by omega)), by omega⟩
                  · have h := HI.out.2.1
                    rw [hdrop.out, rformL, HSS.out] at h
                    simp only at h
                    rw [if_neg (by rw [HI.out.1]; omega)] at h
                    exact h
                  · intro x hx
                    rcases List.mem_append.1 hx with hx | hx
                    · exact HI.out.2.2.2.1 x hx
                    · exact HRR.out.bytes x hx
                case measure => simp [intOf]; omega
              · have hi2 : i = L2 := by omega
                have HRBs : Hid (rbodyC (fun k => rform n k (d - 1)) 3 0 bs ks d = some acc) := by
                  have h := HI.out.2.1
                  rw [List.drop_of_length_le (by rw [HL2.out]; omega), rformL] at h
                  rw [Hid, HRB.out, ← h]
                have hiI1 : ¬ (i : Int) < (L2 : Int) := by omega
                have HBY : Hid (BySl 0 wr.heap.size wr (.slice a M c) acc) := by
                  have h2 := BySl.own (base := w.heap.size + 1) (w := wr) (v := .slice a M c) (bs := acc) (by rw [HI.out.1]; exact HI.out.2.2.1) (by rw [HI.out.1]; omega) HI.out.2.2.2.1
                  exact h2.agree (Agree.refl _ _ _) (Nat.zero_le _) (Nat.le_refl _)
                clear hi2
                go_wp2_with fail
                go_meet
                exact ⟨M, acc, a, c, rfl, f0, by omega, by simp, HI.out.1, HRBs.out, HBY.out, hbelw.out⟩
        · have HR : Hid (R = none) := HNone.out (by rw [rbodyC, if_neg h1, if_neg h2, if_neg h3])
          go_wp2_with fail
          go_ret2
          exact ⟨.inl ⟨HR.out, rfl⟩, HW0.out⟩
  case rest =>
    obtain ⟨M, body, a, c, rfl, y0, hM, htag, HC⟩ := hcut
    as_aux_lemma =>
      by_cases hlt : 65535 < M
      · have hq : decide ((65535 : Int) < M) = true := by simp; omega
        have HR : Hid (R = none) := by rw [Hid, HSome.out _ HC.out.2.1, HC.out.1, if_pos hlt]
        go_wp2_with fail
        go_ret2
        exact ⟨.inl ⟨HR.out, rfl⟩, HC.out.2.2.2⟩
      · have hq : decide ((65535 : Int) < M) = false := by simp; omega
        have HR : Hid (R = some (tag :: ((M : Int) / 256) :: ((M : Int) % 256) :: body)) := by rw [Hid, HSome.out _ HC.out.2.1, HC.out.1, if_neg hlt]
        have hlen : Hid ((tag :: ((M : Int) / 256) :: ((M : Int) % 256) :: body).length = 3 + M) := by rw [Hid]; simp only [List.length_cons, HC.out.1]; omega
        have hown := hid (ownsRow_lit wc [.int .u8 tag, .int .u8 ((M : Int) / 256), .int .u8 ((M : Int) % 256)] wc.heap.size (Nat.le_refl _) (by unfold maxLen; simp))
        have hbytes : Hid (∀ x ∈ (tag :: ((M : Int) / 256) :: ((M : Int) % 256) :: body), 0 ≤ x ∧ x ≤ 255) := by
          intro x hx
          simp only [List.mem_cons] at hx
          rcases hx with rfl | rfl | rfl | hx
          · omega
          · omega
          · omega
          · exact HC.out.2.2.1.bytes x hx
        have belT : Hid (Below wc.heap.size wc (wc.alloc (Obj.cells #[Value.int IntKind.u8 tag, Value.int IntKind.u8 ((M : Int) / 256), Value.int IntKind.u8 ((M : Int) % 256)] 5))) := (Below.refl _ _).alloc (Nat.le_refl _) _
        have HBC := hid HC.out.2.2.2
        cases a with
        | none =>
          obtain ⟨hM0, hb0, hc0⟩ : M = 0 ∧ body = [] ∧ c = 0 := by
            obtain ⟨a', c', e, _, _, h4, _⟩ := HC.out.2.2.1
            simp only [Value.slice.injEq] at e
            obtain ⟨rfl, e2, rfl⟩ := e
            obtain ⟨h, h'⟩ := h4 rfl
            subst h
            exact ⟨e2, rfl, h'⟩
          subst hM0 hb0 hc0
          go_wp2_with (at_builtin; go_must (refine wpList_append_own_none rfl _ _ 38 rfl wc.heap.size 5 i0 1 Tryz.underlying38 hi _ 3 _ rfl hown.out rfl ?_))
          go_wp2_with fail
          go_ret2
          refine ⟨.inr ⟨_, some ⟨wc.heap.size, 0, none⟩, 3, HR.out, rfl, ?_⟩, HBC.out.trans (belT.out.mono HBC.out.size)⟩
          have h2 := BySl.own (base := wc.heap.size) (bs := tag :: (((0 : Nat) : Int) / 256) :: (((0 : Nat) : Int) % 256) :: []) hown.out (by simp) hbytes.out
          exact h2.agree (Agree.refl _ _ _) (Nat.zero_le _) (Nat.le_refl _)
        | some ad =>
          have hnl : Hid ((body.map (Value.int .u8)).length = M * 1) := by rw [Hid, List.length_map, HC.out.1]; omega
          have hnews := hid (bytes_news HC.out.2.2.1 belT.out)
          have hone := hid (bytes_one body)
          go_wp2_with (at_builtin; go_must (refine wpList_append_own _ rfl _ _ 38 rfl wc.heap.size 5 i0 (.int .u8 0) 1 1 Tryz.underlying38 hi hz0 hz1 hz2 rfl (by decide) _ 3 _ rfl hown.out ad M c (body.map (Value.int .u8)) rfl hnl.out hnews.out hone.out (by unfold maxLen; omega) (by omega) (by simp) ?_))
          intro v2 w5 hown5 hgrow5 hnil5
          obtain ⟨a2, c2, rfl⟩ := ownsRow_form' hown5
          have HOWN5 := hid hown5
          have bel5 : Hid (Below wc.heap.size wc w5) := belT.out.grown hgrow5 (by simp) (fun r e => by simp only [Value.ownBlock, Option.some.injEq] at e; omega)
          clear hown5 hgrow5 hnil5 hnl hnews hone
          go_wp2_with fail
          go_ret2
          refine ⟨.inr ⟨_, a2, c2, HR.out, by rw [hlen.out]; rfl, ?_⟩, HBC.out.trans (bel5.out.mono HBC.out.size)⟩
          rw [hlen.out]
          have h2 := BySl.own (base := wc.heap.size) (w := w5) (v := .slice a2 (3 + M) c2) (bs := tag :: ((M : Int) / 256) :: ((M : Int) % 256) :: body) (by rw [hlen.out]; exact HOWN5.out) (by rw [hlen.out]; omega) hbytes.out
          exact h2.agree (Agree.refl _ _ _) (Nat.zero_le _) (Nat.le_refl _)

theorem form_any : ∀ n, FormOk n
  | 0 => fun _ t => by cases t
  | n + 1 => form_step n (form_any n)

end Go.Proofs.YtkekajmmcjacgaaGreatDoor.Tlv
end

section
/-
  What the reference's Put answers.
-/
namespace Go.Proofs.YtkekajmmcjacgaaGreatDoor
open Go.RowKit
open Tlv (Tr BySlS AgreeS Agree)
open Crc (hid Kept Tab)

/-- Bytes leave some block alone. -/
theorem anyCrc {L B : Nat} {w : World} {v : Value} {xs : List Int} (h : Tlv.BySl L B w v xs) (h2 : 2 ≤ w.heap.size) (hB : B ≤ w.heap.size) : ∃ b, b < w.heap.size ∧ Crc.BySl b w v (nats xs) := by
  by_cases hx : xs = []
  · subst hx
    obtain ⟨a, cap, rfl, h2', h3, h4, h5, h6, h7⟩ := h
    exact ⟨0, by omega, a, cap, rfl, by simp [nats], h3, fun e => ⟨rfl, (h4 e).2⟩, by simp [nats], by simp [nats], fun h => absurd rfl h⟩
  · obtain ⟨a, cap, e, _, _, _, _, _, h7⟩ := id h
    obtain ⟨g, o, e2, _, hg, _⟩ := h7 hx
    have key : ∀ b, b ≠ g → Crc.BySl b w v (nats xs) := by
      intro b hb
      refine toCrc (S := fun x => x = g) ?_ (fun x hx => by subst hx; exact ⟨fun e => hb e.symm, by omega⟩)
      obtain ⟨a1, cap1, e1, q2, q3, q4, q5, q6, q7⟩ := h
      refine ⟨a1, cap1, e1, q2, q3, q4, q5, q6, fun hne => ?_⟩
      obtain ⟨g1, o1, r1, _, _, r3⟩ := q7 hne
      refine ⟨g1, o1, r1, ?_, r3⟩
      rw [e1] at e
      simp only [Value.slice.injEq] at e
      rw [e.1, e2] at r1
      simp only [Option.some.injEq, Addr.mk.injEq] at r1
      exact r1.1.symm
    by_cases h0 : g = 0
    · exact ⟨1, by omega, key 1 (by omega)⟩
    · exact ⟨0, by omega, key 0 (by omega)⟩

set_option maxHeartbeats 1000000 in
theorem refPut01 {n : Nat} (t : Tr n) (sb sk : Value) (w : World) (h : Tlv.RepS (fun b => b < w.heap.size) w n t sb sk) (hr : (Tlv.bsz n t 65535 8).2 = true) :
    Calls Tryz.prog 139 #[.agg #[.int .i64 t.hd.1, .int .u64 t.hd.2.1, sb, sk]] w fun e w' => ∃ a c, e = .returned (.tuple #[.slice a (Tlv.formOf n t).length c, .int .i64 0]) ∧ Tlv.BySl 0 w'.heap.size w' (.slice a (Tlv.formOf n t).length c) (Tlv.formOf n t) ∧ Below w.heap.size w w' := by
  obtain ⟨a1, l1, p1, a2, l2, p2, rfl, rfl⟩ := h.sl
  have H := hid h
  clear h
  have HE : Hid (Tlv.rform n t 8 = some (Tlv.formOf n t)) := by rw [Hid]; have := Tlv.rform_eq n t 8; rwa [if_pos (by simpa using hr)] at this
  clear hr
  go_enter Tryz.func139, Tryz.ntmps139
  go_wp2_with fail
  have k1 : Below w.heap.size w (w.alloc (Obj.cells #[.int .i64 t.hd.1, .int .u64 t.hd.2.1, .slice a1 l1 p1, .slice a2 l2 p2] 225)) := (Below.refl _ _).alloc (Nat.le_refl _) _
  refine (Tlv.form_any n w.heap.size t 8 _ _ _ (by simp) (H.out.agree (AgreeS.below k1 (fun _ h => h)) (fun _ h => h)) (by omega)).mono ?_
  rintro e w1 ⟨hres, hb1⟩
  have HB : Hid (Below w.heap.size w w1) := k1.trans (hb1.mono (by simp))
  clear k1 hb1
  rcases hres with ⟨hn, rfl⟩ | ⟨r, a, c, hs, rfl, hr⟩
  · have e := HE.out
    rw [hn] at e
    cases e
  · have HX : Hid (r = Tlv.formOf n t) := by
      have e := HE.out
      rw [hs] at e
      exact Option.some.inj e
    have HRR := hid hr
    clear hs hr
    go_wp2_with fail
    go_ret2
    rw [← HX.out]
    exact ⟨a, c, rfl, HRR.out, HB.out⟩

set_option maxHeartbeats 1000000 in
set_option maxRecDepth 100000 in
theorem rput_no (k : Int) (nm bs : List Int) (a : Option Addr) (cap : Nat) (w : World) (hn : nm.length = 32) (hR : rightB k bs.length = false) :
    Calls Tryz.prog 76 #[.agg (recA k nm (.slice a bs.length cap)).toArray] w fun e w' => e = .returned (.tuple #[.slice none 0 0, .int .i64 1]) ∧ Below w.heap.size w w' := by
  have HC0 := hid (recA_0 k nm (.slice a bs.length cap))
  have HC33 := hid (recA_33 k nm (.slice a bs.length cap) hn)
  have HL := hid (recA_length k nm (.slice a bs.length cap) hn)
  have HRR := hid hR
  clear hR
  obtain ⟨C, hC⟩ : ∃ C, recA k nm (.slice a bs.length cap) = C := ⟨_, rfl⟩
  rw [hC] at HC0 HC33 HL
  rw [hC]
  clear hC hn
  have HR := hid (range_new w C 40)
  have HI : Hid ((Tryz.prog.info? 40).map (·.size) = some C.length) := by rw [Hid, HL.out]; exact Tryz.info26
  go_enter Tryz.func76, Tryz.ntmps76
  go_wp2_with (refine wpList_load_mid (by rfl) 40 _ (by rfl) w.heap.size 0 (by rfl) C _ ?hc Tryz.underlying40 rfl HI.out ?_; (case hc => exact HR.out))
  refine (right14_any C k _ _ _ _ HC0.out HC33.out).mono ?_
  rintro e w1 ⟨rfl, hb1⟩
  rw [HRR.out]
  have HB1 : Hid (Below w.heap.size w w1) := ((Below.refl _ _).alloc (Nat.le_refl _) _).trans (hb1.mono (by simp))
  clear hb1
  go_wp2_with fail
  go_ret2
  exact ⟨rfl, HB1.out⟩

/-- A record's value of the reference's, as it was just laid: at g its own cells, at gs the three. -/
def Laid3 (w W : World) (k : Int) (nm bs : List Int) (g gs : Nat) : Prop :=
  Below w.heap.size w W ∧ w.heap.size + 2 ≤ W.heap.size ∧ W.cell? ⟨g, 0, none⟩ = some (.int .i64 3) ∧ W.cell? ⟨g, 1, none⟩ = some (.int .u64 0) ∧ W.cell? ⟨g, 2, none⟩ = some (.slice none 0 0) ∧ W.cell? ⟨g, 3, none⟩ = some (.slice (some ⟨gs, 0, none⟩) 3 3) ∧
    Tlv.RepS (fun b => b < W.heap.size) W 2 (recT k nm bs) (.slice none 0 0) (.slice (some ⟨gs, 0, none⟩) 3 3)

theorem laid3_of {w W : World} {k : Int} {nm bs : List Int} {vn vb : Value} {g gs : Nat} (hb : Below w.heap.size w W) (h0 : 0 ≤ k) (h1 : k ≤ 9) (hgs : gs < W.heap.size) (h2 : w.heap.size + 2 ≤ W.heap.size)
    (c4 : ∀ j u, (#[.int .i64 3, .int .u64 0, .slice none 0 0, .slice (some ⟨gs, 0, none⟩) 3 3] : Array Value)[j]? = some u → W.cell? ⟨g, j, none⟩ = some u)
    (c12 : ∀ j u, (#[.int .i64 1, .int .u64 k, .slice none 0 0, .slice none 0 0, .int .i64 2, .int .u64 0, vn, .slice none 0 0, .int .i64 2, .int .u64 0, vb, .slice none 0 0] : Array Value)[j]? = some u → W.cell? ⟨gs, j, none⟩ = some u)
    (bn : Tlv.BySl 0 w.heap.size w vn nm) (bb : Tlv.BySl 0 w.heap.size w vb bs) : Laid3 w W k nm bs g gs := by
  have hA : Agree 0 w.heap.size w W := Agree.below hb
  have hz := hb.size
  refine ⟨hb, h2, c4 0 _ rfl, c4 1 _ rfl, c4 2 _ rfl, c4 3 _ rfl, ?_⟩
  have z : Tlv.Rep 0 W.heap.size W 2 (recT k nm bs) (.slice none 0 0) (.slice (some ⟨gs, 0, none⟩) 3 3) := by
    refine ⟨by simp [recT, Tr.mk, Tlv.Tr.hd], by simp [recT, Tr.mk, Tlv.Tr.hd], Tlv.BySl.none _ _ _, _, 3, rfl, Nat.le_refl _, by decide, by simp, (by decide : (3 : Nat) ≤ 2199023255552), fun _ => ⟨gs, 0, rfl, Nat.zero_le _, hgs, fun j t hj => ?_⟩⟩
    have hj' : [(Tr.mk 1 k [] [] : Tr 1), Tr.mk 2 0 nm [], Tr.mk 2 0 bs []][j]? = some t := hj
    match j, hj' with
    | 0, hj =>
      simp only [List.getElem?_cons_zero, Option.some.injEq] at hj
      subst hj
      exact ⟨_, _, c12 0 _ rfl, c12 1 _ rfl, c12 2 _ rfl, c12 3 _ rfl, rep1 _ h0 (by omega)⟩
    | 1, hj =>
      simp only [List.getElem?_cons_succ, List.getElem?_cons_zero, Option.some.injEq] at hj
      subst hj
      exact ⟨_, _, c12 4 _ rfl, c12 5 _ rfl, c12 6 _ rfl, c12 7 _ rfl, rep2 (bn.agree hA (Nat.le_refl _) hz)⟩
    | 2, hj =>
      simp only [List.getElem?_cons_succ, List.getElem?_cons_zero, Option.some.injEq] at hj
      subst hj
      exact ⟨_, _, c12 8 _ rfl, c12 9 _ rfl, c12 10 _ rfl, c12 11 _ rfl, rep2 (bb.agree hA (Nat.le_refl _) hz)⟩
  exact z.toS.agree (fun _ _ => rfl) (fun b hb => hb.2)

set_option maxHeartbeats 2000000 in
set_option maxRecDepth 100000 in
theorem rput_yes (k : Int) (nm bs : List Int) (v : Value) (w : World) (hb : Tlv.BySl 0 w.heap.size w v bs) (hR : RightR k nm bs) :
    Calls Tryz.prog 76 #[.agg (recA k nm v).toArray] w fun e w' => ∃ v', e = .returned (.tuple #[v', .int .i64 0]) ∧ Crc.Own w' w.heap.size v' (nats (frameR k nm bs)) ∧ Below w.heap.size w w' := by
  obtain ⟨a, cap, rfl, hr⟩ := id hb
  clear hr
  have HB := hid hb
  have hn := hR.2.2.2.1
  have hc0 := recA_0 k nm (.slice a bs.length cap)
  have hc33 := recA_33 k nm (.slice a bs.length cap) hn
  have HL := hid (recA_length k nm (.slice a bs.length cap) hn)
  have HRR := hid hR
  have HFL := hid (formR_length hR)
  have hk0 := hR.1
  have hk1 := hR.2.1
  clear hR hb
  obtain ⟨C, hC⟩ : ∃ C, recA k nm (.slice a bs.length cap) = C := ⟨_, rfl⟩
  rw [hC] at hc0 hc33 HL
  rw [hC]
  have HC := hid hC
  clear hC
  have HR := hid (range_new w C 40)
  have HI : Hid ((Tryz.prog.info? 40).map (·.size) = some C.length) := by rw [Hid, HL.out]; exact Tryz.info26
  have HN := hid hn
  clear hn
  go_enter Tryz.func76, Tryz.ntmps76
  go_wp2_with (refine wpList_load_mid (by rfl) 40 _ (by rfl) w.heap.size 0 (by rfl) C _ ?hc Tryz.underlying40 rfl HI.out ?_; (case hc => exact HR.out))
  refine (right14_any C k _ _ _ _ hc0 hc33).mono ?_
  rintro e w1 ⟨rfl, hb1⟩
  rw [rightB_of HRR.out]
  have HB1 : Hid (Below w.heap.size w w1) := ((Below.refl _ _).alloc (Nat.le_refl _) _).trans (hb1.mono (by simp))
  have HR1 := hid (rangeAt_below HR.out hb1 (by simp))
  have hz1 : w.heap.size < w1.heap.size := by have := hb1.size; simp at this; omega
  have q0 := HR1.out 0 _ hc0
  have q33 := HR1.out 33 _ hc33
  simp only [Nat.zero_add] at q33
  have hwk : IntKind.u64.wrap k = k := by rw [IntKind.wrap_u64]; omega
  have HNM : Hid (Tlv.BySl 0 w1.heap.size w1 (.slice (some ⟨w.heap.size, 1, none⟩) 32 32) nm) := by
    have h := name_in (W := w1) (g := w.heap.size) (o := 0) (by rw [HC.out]; exact HR1.out) HN.out HRR.out.2.2.2.2.1
    rwa [Nat.zero_add] at h
  have HBB := hid (HB.out.agree (Agree.below HB1.out) (Nat.le_refl _) HB1.out.size)
  clear hb1 hc0 hc33
  go_wp2_with fail
  go_cut [4] (fun p wx => ∃ g gs, p = .pointer (some ⟨g, 0, none⟩) ∧ Hid (Laid3 w1 wx k nm bs g gs))
  case first =>
    go_region
    all_goals (go_wp2_with fail; go_meet)
    · have hbl := fun (A B : Obj) => (((Below.refl w1.heap.size w1).alloc (Nat.le_refl _) A).alloc (by simp) B).drew
      refine ⟨_, w1.heap.size, rfl, laid3_of (hbl _ _) (by omega) hk1 (by simp; omega) (by simp) (fun j u hj => ?_) (fun j u hj => ?_) HNM.out HBB.out⟩
      · rw [World.cell?_drew, World.cell?_alloc_at _ _ _ _ (by simp)]; exact hj
      · rw [World.cell?_drew, World.cell?_alloc_lt _ _ _ (by simp), World.cell?_alloc_at _ _ _ _ rfl]; exact hj
    · have hbl := fun (A B : Obj) => (((Below.refl w1.heap.size w1).alloc (Nat.le_refl _) A).alloc (by simp) B).drew
      refine ⟨_, w1.heap.size + 1, rfl, laid3_of (hbl _ _) (by omega) hk1 (by simp) (by simp) (fun j u hj => ?_) (fun j u hj => ?_) HNM.out HBB.out⟩
      · rw [World.cell?_drew, World.cell?_alloc_lt _ _ _ (by simp), World.cell?_alloc_at _ _ _ _ rfl]; exact hj
      · rw [World.cell?_drew, World.cell?_alloc_at _ _ _ _ (by simp)]; exact hj
  case rest =>
    obtain ⟨g, gs, rfl, HX⟩ := hcut
    obtain ⟨hbx, hbz, x0, x1, x2, x3, hrp⟩ := HX.out
    have HBX := hid hbx
    have HRP := hid hrp
    clear HX hbx hrp q0 q33
    go_wp2_with fail
    refine (refPut01 (recT k nm bs) _ _ _ HRP.out (recT_right HRR.out)).mono ?_
    rintro e w2 ⟨af, cf, rfl, hf2, hb2⟩
    have HF2 := hid hf2
    have HB2 := hid hb2
    clear hf2 hb2
    go_wp2_with fail
    have hz2 := HB2.out.size
    have hzx := HBX.out.size
    obtain ⟨b, hbw, hcb⟩ := anyCrc HF2.out (by omega) (Nat.le_refl _)
    refine (Crc.refSeal_any b _ _ w2 hbw hcb (by have h1 := HFL.out; have h2 := HRR.out.2.2.1; unfold formR at h1; rw [nats_length, h1]; omega)).mono ?_
    rintro e w3 ⟨v', rfl, ho, hb3⟩
    have HO := hid ho
    have HB3 := hid hb3
    clear ho hb3 hcb
    go_wp2_with fail
    go_ret2
    refine ⟨v', rfl, ?_, ((HB1.out.trans (HBX.out.mono HB1.out.size)).trans (HB2.out.mono (by have := HB1.out.size; omega))).trans (HB3.out.mono (by have := HB1.out.size; omega))⟩
    rw [frameR, sealI_nats]
    exact HO.out.mono (by have := HB1.out.size; omega)
end Go.Proofs.YtkekajmmcjacgaaGreatDoor
end

section
/-
  Are records few, and short? Put, Size and the reference's Put of any record.
-/
namespace Go.Proofs.YtkekajmmcjacgaaGreatDoor
open Go.RowKit
open Tlv (Tr BySlS AgreeS Agree)
open Crc (hid Kept Tab)

/-- Few, and short. -/
def lightB (ls : List Nat) : Bool := decide (ls.length ≤ 20) && ls.all (fun l => decide (l ≤ 5100))

set_option maxHeartbeats 1000000 in
set_option maxRecDepth 100000 in
theorem light_any (a : Option Addr) (cap : Nat) (ls : List Nat) (w : World) (hm : ls.length ≤ 4611686018427387904) (hls : ∀ l ∈ ls, l ≤ 9223372036854775807)
    (h : ∀ i, i < ls.length → ∃ g o x c, a = some ⟨g, o, none⟩ ∧ w.cell? ⟨g, o + i * 34 + 33, none⟩ = some (.slice x (ls.getD i 0) c)) :
    Calls Tryz.prog 45 #[.slice a ls.length cap] w fun e w' => e = .returned (.bool (lightB ls)) ∧ w' = w := by
  have H := hid h
  have HM := hid hls
  clear h hls
  by_cases h20 : ls.length ≤ 20
  · have h20' : ¬ ((20 : Int) < ls.length) := by omega
    go_enter Tryz.func45, Tryz.ntmps45
    go_wp2
    go_loop [3] (fun i => ∃ k : Nat, k ≤ ls.length ∧ i = .int .i64 k ∧ Hid (∀ j, j < k → ls.getD j 0 ≤ 5100)) (fun i => ls.length - (intOf i).toNat)
    case atStart => exact ⟨0, Nat.zero_le _, rfl, fun j hj => absurd hj (by omega)⟩
    case round =>
      obtain ⟨k, hk, rfl, HJ⟩ := hrel
      by_cases hlt : k < ls.length
      · obtain ⟨g, o, x, c, rfl, hc⟩ := H.out k hlt
        have hx : ls.getD k 0 ≤ 9223372036854775807 := HM.out _ (by rw [List.getD_eq_getElem?_getD, List.getElem?_eq_getElem hlt]; simp)
        have HN : Hid (ls.getD k 0 ≤ 5100 → ∀ j, j < k + 1 → ls.getD j 0 ≤ 5100) := by
          intro h j hj
          by_cases e : j = k
          · rw [e]; exact h
          · exact HJ.out j (by omega)
        have HB : Hid (¬ ls.getD k 0 ≤ 5100 → lightB ls = false) := by
          intro h
          rw [lightB]
          have : ls.all (fun l => decide (l ≤ 5100)) = false := by
            rw [List.all_eq_false]
            refine ⟨ls[k], List.getElem_mem hlt, ?_⟩
            rw [List.getD_eq_getElem?_getD, List.getElem?_eq_getElem hlt] at h
            simpa using h
          rw [this, Bool.and_false]
        generalize ls.getD k 0 = l at *
        by_cases hl : l ≤ 5100
        · have hl' : ¬ ((5100 : Int) < l) := by omega
          go_wp2
          go_round
          case rel => exact ⟨k + 1, by omega, by go_num, HN.out hl⟩
          case measure => simp [intOf]; omega
        · have hl' : (5100 : Int) < l := by omega
          have HBB := hid (HB.out hl)
          clear hl
          go_wp2
          go_ret
          exact ⟨by rw [HBB.out]; rfl, rfl⟩
      · have HBB : Hid (lightB ls = true) := by
          have hk' : k = ls.length := by omega
          rw [Hid, lightB]
          simp only [Bool.and_eq_true, decide_eq_true_eq, List.all_eq_true]
          refine ⟨h20, fun l hl => ?_⟩
          obtain ⟨i, hi, rfl⟩ := List.getElem_of_mem hl
          have := HJ.out i (by omega)
          rwa [List.getD_eq_getElem?_getD, List.getElem?_eq_getElem hi, Option.getD_some] at this
        go_wp2
        go_ret
        exact ⟨by rw [HBB.out]; rfl, rfl⟩
  · have h20' : (20 : Int) < ls.length := by omega
    have HBB : Hid (lightB ls = false) := by rw [Hid, lightB, decide_eq_false h20, Bool.false_and]
    clear h20
    go_enter Tryz.func45, Tryz.ntmps45
    go_wp2
    go_ret
    exact ⟨by rw [HBB.out]; rfl, rfl⟩

/-- What Put answers of any record. -/
def putX (k : Int) (nm bs : List Int) : List Int := if rightB k bs.length then frameR k nm bs else []
def putF (k : Int) (l : Nat) : Int := if rightB k l then 0 else 1

theorem BySlS.len {S : Nat → Prop} {w : World} {v : Value} {xs : List Int} (h : BySlS S w v xs) : ∃ a c, v = .slice a xs.length c := by
  obtain ⟨a, c, rfl, _⟩ := h
  exact ⟨a, c, rfl⟩

theorem own_all {w : World} {base : Nat} {v : Value} {xs : List Int} (h : Crc.Own w base v (nats xs)) (hl : xs.length ≤ 100000) (hx : ∀ x ∈ xs, 0 ≤ x ∧ x ≤ 255) : BySlS (fun g => base ≤ g ∧ g < w.heap.size) w v xs := by
  rcases h.2 with ⟨rfl, h0⟩ | ⟨g, cap, cur, rfl, hb, hg, hn, hc, hs, ht⟩
  · rw [nats_length] at h0
    have : xs = [] := List.length_eq_zero_iff.1 h0
    subst this
    exact Tlv.BySlS.none _ _
  · rw [nats_length] at hn ⊢
    refine ⟨_, cap, rfl, hn, hc, by simp, by omega, hx, fun _ => ⟨g, 0, rfl, ⟨hb, (Array.getElem?_eq_some_iff.1 hg).1⟩, fun i hi => ?_⟩⟩
    have hi2 : i < (nats xs).length := by rw [nats_length]; exact hi
    rw [Nat.zero_add, World.ownsRow.cellAt (show w.ownsRow base 5 1 _ (nats xs).length (Crc.cl (nats xs)) from h) i (by omega), Crc.cl_at _ i hi2]
    have hb2 := hx (xs.getD i 0) (by rw [List.getD_eq_getElem?_getD, List.getElem?_eq_getElem hi]; simp)
    simp only [nats, List.getD_eq_getElem?_getD, List.getElem?_map, List.getElem?_eq_getElem hi, Option.map_some, Option.getD_some] at hb2 ⊢
    congr 2
    omega

theorem put_one (b : Nat) (k : Int) (nm bs : List Int) (v : Value) (w : World) (hT : TabX w b) (hb : Tlv.BySl 0 w.heap.size w v bs) (hn : nm.length = 32) (hx : ∀ x ∈ nm, 0 ≤ x ∧ x ≤ 255) :
    Calls Tryz.prog 74 #[.pointer (some ⟨b, 0, none⟩), .agg (recA k nm v).toArray] w fun e w' => ∃ a c, e = .returned (.tuple #[.slice a (putX k nm bs).length c, .int .i64 (putF k bs.length)]) ∧ BySlS (fun g => w.heap.size ≤ g ∧ g < w'.heap.size) w' (.slice a (putX k nm bs).length c) (putX k nm bs) ∧ Kept b w w' ∧ TabX w' b := by
  obtain ⟨av, cv, rfl, _, _, _, _, h6, _⟩ := id hb
  unfold putX putF
  cases hr : rightB k bs.length with
  | false =>
    refine (put_no _ k nm bs av cv w hn hr).mono ?_
    rintro e w1 ⟨rfl, hb1⟩
    exact ⟨none, 0, rfl, Tlv.BySlS.none _ _, Kept.below hb1, hT.below hb1⟩
  | true =>
    have hR := right_of hr hn hx h6
    refine (put_yes b k nm bs _ w hT hb hR).mono ?_
    rintro e w1 ⟨v', rfl, ho, hk, ht⟩
    have h1 := own_all ho (by rw [frameR_length hR]; have := hR.2.2.1; omega) (frameR_bd hR)
    obtain ⟨a, c, rfl⟩ := BySlS.len h1
    exact ⟨a, c, rfl, h1, hk, ht⟩

theorem rput_one (k : Int) (nm bs : List Int) (v : Value) (w : World) (hb : Tlv.BySl 0 w.heap.size w v bs) (hn : nm.length = 32) (hx : ∀ x ∈ nm, 0 ≤ x ∧ x ≤ 255) :
    Calls Tryz.prog 76 #[.agg (recA k nm v).toArray] w fun e w' => ∃ a c, e = .returned (.tuple #[.slice a (putX k nm bs).length c, .int .i64 (putF k bs.length)]) ∧ BySlS (fun g => w.heap.size ≤ g ∧ g < w'.heap.size) w' (.slice a (putX k nm bs).length c) (putX k nm bs) ∧ Below w.heap.size w w' := by
  obtain ⟨av, cv, rfl, _, _, _, _, h6, _⟩ := id hb
  unfold putX putF
  cases hr : rightB k bs.length with
  | false =>
    refine (rput_no k nm bs av cv w hn hr).mono ?_
    rintro e w1 ⟨rfl, hb1⟩
    exact ⟨none, 0, rfl, Tlv.BySlS.none _ _, hb1⟩
  | true =>
    have hR := right_of hr hn hx h6
    refine (rput_yes k nm bs _ w hb hR).mono ?_
    rintro e w1 ⟨v', rfl, ho, hk⟩
    have h1 := own_all ho (by rw [frameR_length hR]; have := hR.2.2.1; omega) (frameR_bd hR)
    obtain ⟨a, c, rfl⟩ := BySlS.len h1
    exact ⟨a, c, rfl, h1, hk⟩

theorem size_one (k : Int) (nm bs : List Int) (v : Value) (w : World) (hb : Tlv.BySl 0 w.heap.size w v bs) (hn : nm.length = 32) (hx : ∀ x ∈ nm, 0 ≤ x ∧ x ≤ 255) :
    Calls Tryz.prog 123 #[.agg (recA k nm v).toArray] w fun e w' => e = .returned (.int .i64 ((putX k nm bs).length : Nat)) ∧ Below w.heap.size w w' := by
  obtain ⟨av, cv, rfl, _, _, _, _, h6, _⟩ := id hb
  unfold putX
  cases hr : rightB k bs.length with
  | false => exact size_no k nm bs av cv w hn hr
  | true =>
    have hR := right_of hr hn hx h6
    have h := size_yes k nm bs _ w hb hR
    rw [if_pos rfl, frameR_length hR]
    exact h

end Go.Proofs.YtkekajmmcjacgaaGreatDoor
end

section
/-
  A slice of placed records that a call builds by append: how it lies in memory.
-/
namespace Go.Proofs.YtkekajmmcjacgaaGreatDoor
open Go.RowKit
open Tlv (Tr BySlS AgreeS Agree)
open Crc (hid Kept Tab)

/-- A told record's cells, its body behind u. -/
def recI (x : Item) (u : Value) : List Value := recA x.2.2.1.1 x.2.2.1.2.1 u
def plI (x : Item) (u : Value) : List Value := placedA x.1 x.2.2.2 (recI x u)
def nmOk (x : Item) : Prop := x.2.2.1.2.1.length = 32 ∧ ∀ y ∈ x.2.2.1.2.1, 0 ≤ y ∧ y ≤ 255

theorem plI_length {x : Item} (h : nmOk x) (u : Value) : (plI x u).length = 36 := by rw [plI, placedA, List.length_cons, List.length_cons, recI, recA_length _ _ _ h.1]
theorem plI_one (x : Item) (a : Option Addr) (l c : Nat) : ∀ v ∈ plI x (.slice a l c), v.oneCell' = true := by
  intro v hv
  rcases List.mem_cons.1 hv with rfl | hv
  · rfl
  · rcases List.mem_cons.1 hv with rfl | hv
    · rfl
    · exact recA_one _ _ _ _ _ v hv

def cellsP : List Item → List Value → List Value
  | x :: L, u :: us => plI x u ++ cellsP L us
  | _, _ => []

theorem cellsP_snoc (x : Item) (u : Value) : ∀ (L : List Item) (us : List Value), us.length = L.length → cellsP (L ++ [x]) (us ++ [u]) = cellsP L us ++ plI x u
  | [], [], _ => by simp [cellsP]
  | [], _ :: _, h => by simp at h
  | _ :: _, [], h => by simp at h
  | y :: L, v :: us, h => by
    simp only [List.cons_append, cellsP, List.append_assoc]
    rw [cellsP_snoc x u L us (by simpa using h)]

theorem cellsP_at : ∀ (L : List Item) (us : List Value) (j : Nat) (x : Item) (u : Value) (r : Nat), (∀ y ∈ L, nmOk y) → L[j]? = some x → us[j]? = some u → r < 36 → (cellsP L us)[j * 36 + r]? = (plI x u)[r]?
  | [], _, _, _, _, _, _, h, _, _ => by simp at h
  | _ :: _, [], _, _, _, _, _, _, h, _ => by simp at h
  | y :: L, v :: us, 0, x, u, r, hn, h1, h2, h3 => by
    simp only [List.getElem?_cons_zero, Option.some.injEq] at h1 h2
    subst h1 h2
    simp only [cellsP, Nat.zero_mul, Nat.zero_add]
    rw [List.getElem?_append_left (by rw [plI_length (hn _ (List.mem_cons_self ..))]; exact h3)]
  | y :: L, v :: us, j + 1, x, u, r, hn, h1, h2, h3 => by
    simp only [List.getElem?_cons_succ] at h1 h2
    simp only [cellsP]
    have hl := plI_length (hn y (List.mem_cons_self ..)) v
    rw [List.getElem?_append_right (by rw [hl]; omega), hl, ← cellsP_at L us j x u r (fun z hz => hn z (List.mem_cons_of_mem _ hz)) h1 h2 h3]
    congr 1
    omega

/-- Cells from base on, b left out, stand. -/
structure CellsKept (base b : Nat) (w w' : World) : Prop where
  size : w.heap.size ≤ w'.heap.size
  block : ∀ g cs t fr, base ≤ g → g ≠ b → w.heap[g]? = some (.cells cs t fr) → w'.heap[g]? = some (.cells cs t fr)
  cell : ∀ g o v, base ≤ g → g ≠ b → w.cell? ⟨g, o, none⟩ = some v → w'.cell? ⟨g, o, none⟩ = some v

theorem CellsKept.of_kept {base b : Nat} {w w' : World} (k : Kept b w w') : CellsKept base b w w' :=
  ⟨k.size, fun g _ _ _ _ h2 h3 => (k.block g (Array.getElem?_eq_some_iff.1 h3).1 h2).trans h3, fun g o _ _ h2 h3 => (k.cell (p := ⟨g, o, none⟩) (World.block_lt_of_cell? _ _ h3) h2).trans h3⟩
theorem CellsKept.of_putl {base b B : Nat} {w w' : World} (k : Putl B w w') : CellsKept base b w w' :=
  ⟨by have := k.size; omega, fun _ _ _ _ _ _ h3 => k.block h3, fun _ _ _ _ _ h3 => k.cell h3⟩
/-- A store below base. -/
theorem CellsKept.of_set {base b z o : Nat} (w : World) (x : Value) (hz : z < base) : CellsKept base b w (w.setCell ⟨z, o, none⟩ x) :=
  ⟨by simp, fun g _ _ _ h1 _ h3 => (Below.heap_setCell _ _ _ _ (by simp; omega)).trans h3, fun g _ _ h1 _ h3 => (World.cell?_setCell_other _ _ _ _ (by simp only [ne_eq, Addr.mk.injEq, and_true, not_and]; omega)).trans h3⟩
theorem CellsKept.trans {base b : Nat} {u v w : World} (h : CellsKept base b u v) (k : CellsKept base b v w) : CellsKept base b u w :=
  ⟨Nat.le_trans h.size k.size, fun g cs t fr h1 h2 h3 => k.block g cs t fr h1 h2 (h.block g cs t fr h1 h2 h3), fun g o x h1 h2 h3 => k.cell g o x h1 h2 (h.cell g o x h1 h2 h3)⟩

/-- v is a slice of the placed records L that the call itself has built, in blocks from base on. -/
def PRow (ty : TypeId) (base b : Nat) (w : World) (v : Value) (L : List Item) : Prop :=
  ∃ us : List Value, us.length = L.length ∧ w.ownsRow base ty 36 v L.length (cellsP L us) ∧ (∀ x ∈ L, nmOk x) ∧
    ∀ (j : Nat) (x : Item) (u : Value), L[j]? = some x → us[j]? = some u → BySlS (fun g => base ≤ g ∧ g ≠ b ∧ g < w.heap.size ∧ v.ownBlock ≠ some g) w u x.2.2.1.2.2

theorem PRow.nil (ty : TypeId) (base b : Nat) (w : World) : PRow ty base b w (.slice none 0 0) [] := ⟨[], rfl, World.ownsRow_nil _ _ _ _, by simp, by simp⟩

theorem PRow.form {ty : TypeId} {base b : Nat} {w : World} {v : Value} {L : List Item} (h : PRow ty base b w v L) : ∃ a c, v = .slice a L.length c := by
  obtain ⟨us, _, hown, _⟩ := h
  rcases hown.2 with ⟨rfl, h0⟩ | ⟨g, cap, cur, rfl, _⟩
  · exact ⟨_, _, by rw [h0]⟩
  · exact ⟨_, _, rfl⟩
theorem PRow.lt {ty : TypeId} {base b : Nat} {w : World} {v : Value} {L : List Item} (h : PRow ty base b w v L) : ∀ r, v.ownBlock = some r → base ≤ r ∧ r < w.heap.size := by
  obtain ⟨us, _, hown, _⟩ := h
  exact hown.lt

theorem bySlS_cells {base b : Nat} {S : Nat → Prop} {w w' : World} {u : Value} {xs : List Int} (h : BySlS S w u xs) (k : CellsKept base b w w') (hS : ∀ g, S g → base ≤ g ∧ g ≠ b) : BySlS S w' u xs := by
  obtain ⟨a, cap, h1, h2, h3, h4, h5, h6, h7⟩ := h
  refine ⟨a, cap, h1, h2, h3, h4, h5, h6, fun hne => ?_⟩
  obtain ⟨g, o, e, hg, hc⟩ := h7 hne
  exact ⟨g, o, e, hg, fun i hi => k.cell g _ _ (hS g hg).1 (hS g hg).2 (hc i hi)⟩

theorem PRow.cells {ty : TypeId} {base b : Nat} {w w' : World} {v : Value} {L : List Item} (h : PRow ty base b w v L) (k : CellsKept base b w w') (hb : b < base) : PRow ty base b w' v L := by
  obtain ⟨us, hl, hown, hn, hk⟩ := h
  have hz := k.size
  refine ⟨us, hl, ⟨hown.1, ?_⟩, hn, fun j x u hj hu => BySlS.mono (bySlS_cells (hk j x u hj hu) k (fun g hg => ⟨hg.1, hg.2.1⟩)) (fun g hg => ⟨hg.1, hg.2.1, by omega, hg.2.2.2⟩)⟩
  rcases hown.2 with h2 | ⟨g, cap, cur, hv, hg, hh, r⟩
  · exact Or.inl h2
  · exact Or.inr ⟨g, cap, cur, hv, hg, k.block g _ _ _ hg (by omega) hh, r⟩

/-- One record more, behind the append that lays it. -/
theorem PRow.push {ty : TypeId} {base b g cap : Nat} {L : List Item} {x : Item} {v u : Value} {us : List Value} {w w' : World} (hl : us.length = L.length) (hn : ∀ y ∈ L, nmOk y) (hx : nmOk x)
    (hk : ∀ (j : Nat) (x : Item) (u : Value), L[j]? = some x → us[j]? = some u → BySlS (fun g => base ≤ g ∧ g ≠ b ∧ g < w.heap.size ∧ v.ownBlock ≠ some g) w u x.2.2.1.2.2)
    (hu : BySlS (fun g => base ≤ g ∧ g ≠ b ∧ g < w.heap.size ∧ v.ownBlock ≠ some g) w u x.2.2.1.2.2)
    (hown : w'.ownsRow base ty 36 (.slice (some ⟨g, 0, none⟩) (L.length + 1) cap) (L.length + 1) (cellsP L us ++ plI x u)) (hgrow : w.grownBy w' v.ownBlock) (hat : v.ownBlock = some g ∨ g = w.heap.size) :
    PRow ty base b w' (.slice (some ⟨g, 0, none⟩) (L.length + 1) cap) (L ++ [x]) := by
  have old : ∀ {u : Value} {xs : List Int}, BySlS (fun g => base ≤ g ∧ g ≠ b ∧ g < w.heap.size ∧ v.ownBlock ≠ some g) w u xs → BySlS (fun q => base ≤ q ∧ q ≠ b ∧ q < w'.heap.size ∧ (Value.slice (some ⟨g, 0, none⟩) (L.length + 1) cap).ownBlock ≠ some q) w' u xs := by
    intro u xs h
    have hz := hgrow.size
    refine BySlS.mono (h.agree (fun q hq => hgrow.block q hq.2.2.1 (fun e => hq.2.2.2 e.symm)) (fun _ h => h)) (fun q hq => ⟨hq.1, hq.2.1, by omega, ?_⟩)
    intro e
    simp only [Value.ownBlock, Option.some.injEq] at e
    subst e
    rcases hat with h1 | h1
    · exact hq.2.2.2 h1
    · omega
  refine ⟨us ++ [u], by simp [hl], ?_, ?_, ?_⟩
  · rw [cellsP_snoc _ _ _ _ hl]
    simpa using hown
  · intro y hy
    rcases List.mem_append.1 hy with hy | hy
    · exact hn y hy
    · rw [List.mem_singleton.1 hy]; exact hx
  · intro j y q hj hq
    by_cases hlt : j < L.length
    · rw [List.getElem?_append_left hlt] at hj
      rw [List.getElem?_append_left (by omega)] at hq
      exact old (hk j y q hj hq)
    · have : j = L.length := by
        have := (List.getElem?_eq_some_iff.1 hj).1
        simp at this
        omega
      subst this
      rw [List.getElem?_append_right (Nat.le_refl _)] at hj
      rw [List.getElem?_append_right (by omega)] at hq
      simp [hl] at hj hq
      subst hj hq
      exact old hu

/-- One record of it. -/
theorem PRow.get {ty : TypeId} {base b : Nat} {w : World} {v : Value} {L : List Item} (h : PRow ty base b w v L) (j : Nat) (x : Item) (hj : L[j]? = some x) : ∃ g cap a c, v = .slice (some ⟨g, 0, none⟩) L.length cap ∧ base ≤ g ∧ g < w.heap.size ∧ nmOk x ∧
    w.rangeAt g (j * 36) (plI x (.slice a x.2.2.1.2.2.length c)) ∧ BySlS (fun q => base ≤ q ∧ q ≠ b ∧ q < w.heap.size ∧ q ≠ g) w (.slice a x.2.2.1.2.2.length c) x.2.2.1.2.2 := by
  obtain ⟨us, hl, hown, hn, hk⟩ := h
  have hjl := (List.getElem?_eq_some_iff.1 hj).1
  obtain ⟨u, hu⟩ : ∃ u, us[j]? = some u := ⟨us[j]'(by omega), List.getElem?_eq_getElem (by omega)⟩
  have hb := hk j x u hj hu
  obtain ⟨a, c, rfl, _⟩ := id hb
  rcases id hown.2 with ⟨_, h0⟩ | ⟨g, cap, cur, rfl, hg, hh, _⟩
  · omega
  · have hnx : nmOk x := hn x (List.mem_of_getElem? hj)
    refine ⟨g, cap, a, c, rfl, hg, (Array.getElem?_eq_some_iff.1 hh).1, hnx, fun r q hq => ?_, BySlS.mono hb (fun q hq => ⟨hq.1, hq.2.1, hq.2.2.1, fun e => hq.2.2.2 (by rw [e]; rfl)⟩)⟩
    have hr : r < 36 := by have := (List.getElem?_eq_some_iff.1 hq).1; rwa [plI_length hnx] at this
    rw [hown.cellAt (j * 36 + r) (by omega), cellsP_at L us j x _ r hn hj hu hr]
    exact hq

end Go.Proofs.YtkekajmmcjacgaaGreatDoor
end
