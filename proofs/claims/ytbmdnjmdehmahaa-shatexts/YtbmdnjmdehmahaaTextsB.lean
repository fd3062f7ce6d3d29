/-
  Hashes that came in, as bytes of the walks; ShaTexts, at each input.
-/
import Derived.Test.YtbmdnjmdehmahaaTexts
import Derived.Test.YtbmdnjmdehmahaaRow
import Derived.WideKeyArr2
namespace Go.Proofs.Ytbmdnjmdehmahaa
open Go.RowKit

section
variable {H : Type} {enc : TypeId × Value → H} {P : Program} {W : World} {base : Nat} {sp : Nat → Bool} {held : Bool} {t e : TypeId} {n : Nat} {q : IntKind}

theorem mapM_each {α β : Type} {f : α → Option β} : ∀ (L : List α) (ys : List β), L.mapM f = some ys → ∀ i ∈ L, ∃ y, f i = some y
  | [], _, _, i, hi => by simp at hi
  | a :: L, ys, h, i, hi => by
    rw [List.mapM_cons] at h
    simp only [bind, Option.bind_eq_some_iff, pure, Option.some.injEq] at h
    obtain ⟨y, hy, zs, hzs, _⟩ := h
    rcases List.mem_cons.1 hi with rfl | hi
    · exact ⟨y, hy⟩
    · exact mapM_each L zs hzs i hi

/-- An array of integers that came in. -/
theorem open_arr_ints (hu : P.underlying t = some (.array n e)) (he : P.underlying e = some (.int q)) (h1 : P.cellsOf e = 1) (hs : P.cellsOf t = n) {r : Reach} {b0 : Nat} {v : Value} {d : DataW H} {ps : List MemPlace}
    (hval : Value.okWide P W r b0 t v) (hd : DataW.Trod enc P W base sp held t v d ps) :
    ∃ zs : List Int, v = .agg (zs.map fun z => Value.int q z).toArray ∧ zs.length = n ∧ ∀ z ∈ zs, (Lit.int q z).wf = true := by
  simp only [Value.okWide, hu] at hval
  obtain ⟨xs, rfl, hn, _⟩ := hval
  rw [hs] at hn
  obtain ⟨fuel, hf⟩ := hd
  cases fuel with
  | zero => simp [DataW.trod] at hf
  | succ m =>
    rw [DataW.trod_step] at hf
    unfold DataW.trodStep at hf
    simp only [hu, Value.cells] at hf
    rw [if_pos (by rw [hs]; simpa using hn)] at hf
    simp only [Option.map_eq_some_iff] at hf
    obtain ⟨ys, hy, _⟩ := hf
    have hE : ∀ i, i < n → ∃ z, xs.toList[i]? = some (.int q z) ∧ (Lit.int q z).wf = true := fun i hi => by
      obtain ⟨y, hy⟩ := mapM_each _ ys hy i (List.mem_range.2 hi)
      obtain ⟨a, ea, _, wa⟩ := DataW.trod_int he hy
      rw [h1, Nat.mul_one] at ea
      refine ⟨a, ?_, wa⟩
      have h := congrArg (fun l : List Value => l[0]?) ea
      simpa [List.getElem?_take, List.getElem?_drop] using h
    refine ⟨xs.toList.map intOf, ?_, by simpa using hn, ?_⟩
    · congr 1
      apply Array.ext_getElem?
      intro i
      by_cases hi : i < n
      · obtain ⟨z, hz, _⟩ := hE i hi
        have hz' : xs[i]? = some (.int q z) := by simpa using hz
        simp [hz', intOf]
      · have : xs[i]? = none := Array.getElem?_eq_none (by omega)
        simp [this]
    · intro z hz
      obtain ⟨x, hx, rfl⟩ := List.mem_map.1 hz
      obtain ⟨i, hi, rfl⟩ := List.getElem_of_mem hx
      have hin : i < n := by simpa [hn] using hi
      obtain ⟨z, hz, wz⟩ := hE i hin
      rw [List.getElem?_eq_getElem hi, Option.some.injEq] at hz
      rw [hz]
      exact wz
end

/-- A hash that came in. -/
theorem hash_in {zs : List Int} (hl : zs.length = 32) (hw : ∀ z ∈ zs, (Lit.int .u8 z).wf = true) :
    ∃ A : List Nat, (zs.map fun z => Value.int .u8 z) = u8s A ∧ A.length = 32 ∧ ∀ x ∈ A, x < 256 := by
  refine ⟨zs.map Int.toNat, ?_, by simpa using hl, ?_⟩
  · unfold u8s
    rw [List.map_map]
    apply List.map_congr_left
    intro z hz
    have := bounds_u8 (hw z hz)
    simp
    omega
  · intro x hx
    obtain ⟨z, hz, rfl⟩ := List.mem_map.1 hx
    have := bounds_u8 (hw z hz)
    omega

theorem texts_main (A B : List Nat) (s : ByteArray) (w : World) (hA : A.length = 32) (hA' : ∀ x ∈ A, x < 256) (hB : B.length = 32) (hB' : ∀ x ∈ B, x < 256) (hs : s.size ≤ 200) :
    Calls Try.prog 5 #[.agg (u8s A).toArray, .agg (u8s B).toArray, .string s] w fun e w' => e = .returned (.bool true) ∧ Below w.heap.size w w' := by
  refine texts_walk (u8s A) (u8s B) (u8s (parseOf s).1) s (strB (hexOf A)) (parseOf s).2 (cmpL A B) (lessL A B) (lessL B A) w hs rfl (by rw [Hid, u8s_length, hA]) (by rw [Hid, u8s_length, hB]) (by rw [Hid, u8s_length, parse_length]) (u8s_one _) (u8s_one _)
    (eq30_same A hA hA') (eq30_same _ (parse_length s) (parse_lt s)) (parse_any s) (rparse_any s) ?_ (fun W => text_any A W hA hA') (fun W => rtext_any A W hA hA') (fun W => rless_any A B W hA hB) (fun W => rless_any B A W hB hA) (fun W => compare_any A B W hA hB hA' hB') alive_any
  intro W
  have h := parse_any (strB (hexOf A)) W
  rw [parse_trip A hA hA'] at h
  exact h

set_option maxHeartbeats 400000 in
theorem texts_other (ca cb : List Value) (s : ByteArray) (w : World) (h : 200 < s.size) :
    Calls Try.prog 5 #[.agg ca.toArray, .agg cb.toArray, .string s] w fun e w' => e = .returned (.bool true) ∧ Below w.heap.size w w' := by
  have C7 : Hid (∀ W, Calls Try.prog 7 #[] W fun e w' => e = .returned (.bool true) ∧ Hid (Below W.heap.size W w')) := alive_any
  go_enter Try.func5, Try.ntmps5
  go_wp2_with fail
  obtain ⟨W1, hW1⟩ : ∃ W1, (w.alloc (.cells ca.toArray 30)).alloc (.cells cb.toArray 30) = W1 := ⟨_, rfl⟩
  have HW : Hid (Below w.heap.size w W1) := by
    rw [Hid, ← hW1]
    exact ((Below.refl _ _).alloc (Nat.le_refl _) _).alloc (by simp) _
  rw [hW1]
  clear hW1
  refine (C7.out W1).mono ?_
  rintro e w2 ⟨rfl, HB⟩
  go_wp2_with fail
  go_ret
  exact ⟨rfl, HW.out.trans (HB.out.mono HW.out.size)⟩
end Go.Proofs.Ytbmdnjmdehmahaa
