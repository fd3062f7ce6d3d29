/-
  What follows a text: tail, walked.
-/
import Derived.Test.YtbmdnjmdehmahaaStream
namespace Go.Proofs.Ytbmdnjmdehmahaa
open Go.RowKit

theorem Try.info5' : (Try.prog.info? 5).map (fun i => (i.zero, i.size, i.bytes)) = some (some (.int .u8 0), 1, 1) := by kernel_rfl

/-- v is a row of bytes of the call's own, from block base on. -/
def OwnB (w : World) (base : Nat) (v : Value) (l : List Nat) : Prop := w.ownsRow base 5 1 v l.length (u8s l)

theorem OwnB.ge {w : World} {base : Nat} {v : Value} {xs : List Nat} (h : OwnB w base v xs) : ∀ k, v.ownBlock = some k → base ≤ k := by
  intro k hk
  rcases h.2 with ⟨rfl, _⟩ | ⟨g, cap, cur, rfl, hb, _⟩
  · simp [Value.ownBlock] at hk
  · simp [Value.ownBlock] at hk
    omega
theorem OwnB.alloc {w : World} {base : Nat} {v : Value} {xs : List Nat} (h : OwnB w base v xs) (o : Obj) : OwnB (w.alloc o) base v xs :=
  World.ownsRow.kept h (World.grownBy_alloc w o none) (by cases v.ownBlock <;> simp)
theorem OwnB.bySl {w : World} {base : Nat} {l : List Nat} {v : Value} {xs : List Nat} (h : OwnB w base v xs) (hb : ∀ x ∈ l, x < base) (hl : xs.length ≤ 140737488355328) (hx : ∀ x ∈ xs, x < 256) : BySl l w v xs := by
  rcases h.2 with ⟨rfl, h0⟩ | ⟨g, cap, cur, rfl, hg, hh, hn, hc, hs, ht⟩
  · have : xs = [] := List.length_eq_zero_iff.1 h0
    subst this
    exact BySl.none _ _
  · refine ⟨_, cap, rfl, hn, hc, by simp, hl, hx, fun _ => ⟨g, 0, rfl, fun hm => by have := hb g hm; omega, (Array.getElem?_eq_some_iff.1 hh).1, fun i hi => ?_⟩⟩
    have h1 : w.ownsRow base 5 1 (.slice (some ⟨g, 0, none⟩) xs.length cap) xs.length (u8s xs) := h
    rw [Nat.zero_add, h1.cellAt i (by omega)]
    exact u8s_at xs i hi

theorem OwnB.form {w : World} {base : Nat} {v : Value} {xs : List Nat} (h : OwnB w base v xs) : ∃ a l c, v = .slice a l c := by
  rcases h.2 with ⟨rfl, _⟩ | ⟨g, cap, cur, rfl, _⟩
  · exact ⟨_, _, _, rfl⟩
  · exact ⟨_, _, _, rfl⟩
/-- append(v, x...), v of the call's own. -/
theorem app_bytes {ops : Array Oper} {rest : List Oper} {o : Oper} {a : Act} {Q : Exit → Act → World → Prop} (w : World) (hgd : o.guard = none) (s x : Operand)
    (ho : o.op = .call { callee := .builtin .append, args := #[s, x], argTypes := #[28, 28] }) (base : Nat) (v vx : Value) (xs ys : List Nat) (hs : a.eval s = v) (hx : a.eval x = vx)
    (hown : OwnB w base v xs) (hy : BySl [] w vx ys) (hlen : xs.length + ys.length ≤ 140737488355328) (hbase : base ≤ w.heap.size)
    (h : ∀ v' w', OwnB w' base v' (xs ++ ys) → Below base w w' → wpList Try.prog ops Q rest (a.put o.dst v') w') : wpList Try.prog ops Q (o :: rest) a w := by
  obtain ⟨i0, hi, hz0, hz1, hz2⟩ := info_parts Try.info5'
  obtain ⟨ad, cap, rfl, h2, h3, h4, h5, h6, h7⟩ := hy
  cases ad with
  | none =>
    obtain ⟨rfl, rfl⟩ := h4 rfl
    refine wpList_append_own_none hgd s x 28 ho base 5 i0 1 Try.underlying28 hi v xs.length (u8s xs) hs hown hx ?_
    exact h v w (by rw [List.append_nil]; exact hown) (Below.refl _ _)
  | some ad =>
    refine wpList_append_own w hgd s x 28 ho base 5 i0 (.int .u8 0) 1 1 Try.underlying28 hi hz0 hz1 hz2 rfl (by decide) v xs.length (u8s xs) hs hown ad ys.length cap (u8s ys) hx ?_ ?_ ?_ ?_ ?_ hbase ?_
    · rw [u8s_length, Nat.mul_one]
    · intro j u hj
      have hjn : j < ys.length := by
        have := (List.getElem?_eq_some_iff.1 hj).1
        rwa [u8s_length] at this
      obtain ⟨g, o, e, _, hb, hc⟩ := h7 (by intro e; subst e; simp at hjn)
      simp only [Option.some.injEq] at e
      subst e
      rw [Addr.add_mid, hc j hjn, ← u8s_at ys j hjn]
      exact hj
    · exact u8s_one ys
    · unfold maxLen; omega
    · omega
    · intro v' w' h8 h9 _
      refine h v' w' ?_ ((Below.refl _ w).grown h9 hbase hown.ge)
      unfold OwnB
      rw [u8s_append, List.length_append]
      exact h8

/-- One byte in a block of its own. -/
theorem bySl_one (w : World) (x : Nat) (hx : x < 256) : BySl [] (w.alloc (.cells #[.int .u8 (x : Int)] 5)) (.slice (some ⟨w.heap.size, 0, none⟩) 1 1) [x] := by
  refine ⟨_, 1, rfl, by simp, by decide, by simp, by simp, by simpa using hx, fun _ => ⟨w.heap.size, 0, rfl, by simp, by simp, fun i hi => ?_⟩⟩
  have : i = 0 := by simp at hi; omega
  subst this
  rw [World.cell?_alloc_at _ _ _ _ rfl]
  rfl

theorem made_zeros (n : Nat) : madeCells #[Value.int .u8 0] n = (u8s (List.replicate n 0)).toArray := by
  apply Array.ext
  · simp [madeCells, u8s]
  · intro i h1 h2
    simp [madeCells, u8s, Nat.mod_one]

/-- The row that tail makes. -/
theorem own_tail (w : World) (Z : Nat) (hZ : Z < 64) (C : Array Value) (hC : C = (u8s (List.replicate (1 + Z + 8) 0)).toArray) :
    OwnB (w.alloc (.cells (C.setIfInBounds 0 (.int .u8 128)) 5)) w.heap.size (.slice (some ⟨w.heap.size, 0, none⟩) (1 + Z) (1 + Z + 8)) (128 :: List.replicate Z 0) := by
  have hl : (128 :: List.replicate Z 0).length = 1 + Z := by simp; omega
  unfold OwnB
  rw [hl]
  refine ⟨by rw [u8s_length, hl, Nat.mul_one], .inr ⟨w.heap.size, 1 + Z + 8, _, rfl, Nat.le_refl _, heap_alloc_new _ _, by omega, by unfold maxLen; omega, ?_, ?_⟩⟩
  · rw [hC]; simp [u8s]
  · rw [hC, Nat.mul_one]
    rw [show 1 + Z + 8 = (Z + 8) + 1 by omega, List.replicate_succ, show 1 + Z = Z + 1 by omega]
    simp [u8s, List.take_replicate, show min Z (Z + 8) = Z by omega]

/-- A length's byte. -/
theorem len_byte (n i : Nat) : (n * 8) >>> (8 * (7 - i)) % 256 = n * 8 / 2 ^ (8 * (7 - i)) % 256 := by rw [Nat.shiftRight_eq_div_pow]

set_option maxHeartbeats 1000000 in
set_option maxRecDepth 100000 in
theorem tail_any (n : Nat) (w : World) (hn : n ≤ 1125899906842624) :
    Calls Try.prog 32 #[.int .i64 (n : Int)] w fun e w' => ∃ v, e = .returned v ∧ OwnB w' w.heap.size v (tailOf n) ∧ Below w.heap.size w w' := by
  obtain ⟨Z, hZ⟩ : ∃ Z, (119 - n % 64) % 64 = Z := ⟨_, rfl⟩
  have hZ64 : Z < 64 := by omega
  have hz1 : ((119 : Int) - (n : Int) % 64) % 64 = (Z : Int) := by omega
  have HZ := hid hZ
  clear hZ
  have e1 : ((1 + Z : Nat) : Int) = 1 + (Z : Int) := by omega
  have e2 : ((1 + Z + 8 : Nat) : Int) = 1 + (Z : Int) + 8 := by omega
  obtain ⟨C, hC⟩ : ∃ C, (u8s (List.replicate (1 + Z + 8) 0)).toArray = C := ⟨_, rfl⟩
  have hmk : ∀ w, (Instr.makeSlice 28 (.int .i64 (1 + (Z : Int))) (.int .i64 (1 + (Z : Int) + 8))).run Try.prog w = .ok (.slice (some ⟨w.heap.size, 0, none⟩) (1 + Z) (1 + Z + 8)) (w.alloc (.cells C 5)) := by
    intro w
    obtain ⟨i0, hi, hz0, hz1, hz2⟩ := info_parts Try.info5'
    have h := run_make (P := Try.prog) w 28 5 i0 (.int .u8 0) Try.underlying28 hi hz0 .i64 .i64 (1 + (Z : Int)) (1 + (Z : Int) + 8) (by omega) (by omega) (by rw [hz2]; omega) (by omega)
    rw [h, hz1, show (1 + (Z : Int)).toNat = 1 + Z by omega, show (1 + (Z : Int) + 8).toNat = 1 + Z + 8 by omega]
    rw [← hC, ← made_zeros]
    simp [Value.cells]
  have HC := hid hC
  have c0 : C[0]? = some (.int .u8 0) := by rw [← hC, show 1 + Z + 8 = (Z + 8) + 1 by omega, List.replicate_succ]; rfl
  clear hC
  go_enter Try.func32, Try.ntmps32
  go_wp2_with fail
  have HO := hid (own_tail w Z hZ64 C HC.out.symm)
  obtain ⟨W1, hW1⟩ : ∃ W1, w.alloc (.cells (C.setIfInBounds 0 (.int .u8 128)) 5) = W1 := ⟨_, rfl⟩
  have HB : Hid (Below w.heap.size w W1) := by rw [Hid, ← hW1]; exact (Below.refl _ _).alloc (Nat.le_refl _) _
  rw [hW1] at HO ⊢
  clear hW1 HC c0 hmk hz1 e1 e2
  generalize ((119 : Int) - (n : Int) % 64) % 64 = zz
  go_loopw [4, 22] (fun s4 s22 wr => ∃ (i : Nat) (A : Option Addr) (l c : Nat), s4 = .slice A l c ∧ s22 = .int .i64 i ∧ i ≤ 8 ∧ Hid (OwnB wr w.heap.size s4 (128 :: (List.replicate Z 0 ++ (List.range i).map fun i => (n * 8) >>> (8 * (7 - i)) % 256)) ∧ Below w.heap.size w wr)) (fun _ s _ => 8 - (intOf s).toNat)
  case atStart => exact ⟨0, _, _, _, rfl, rfl, by omega, by simpa using HO.out, HB.out⟩
  case round =>
    obtain ⟨i, A, l, c, rfl, rfl, hi, HI⟩ := hrel
    by_cases hlt : i < 8
    · have hbs : Hid ((128 :: (List.replicate Z 0 ++ (List.range i).map fun i => (n * 8) >>> (8 * (7 - i)) % 256)) ++ [n * 8 / 2 ^ (8 * (7 - i)) % 256] = 128 :: (List.replicate Z 0 ++ (List.range (i + 1)).map fun i => (n * 8) >>> (8 * (7 - i)) % 256)) := by
        rw [Hid, List.range_succ, List.map_append, ← len_byte]
        simp
      have hll : Hid ((128 :: (List.replicate Z 0 ++ (List.range i).map fun i => (n * 8) >>> (8 * (7 - i)) % 256)).length ≤ 1000) := by rw [Hid]; simp; omega
      obtain ⟨xs, hxs⟩ : ∃ xs, 128 :: (List.replicate Z 0 ++ (List.range i).map fun i => (n * 8) >>> (8 * (7 - i)) % 256) = xs := ⟨_, rfl⟩
      rw [hxs] at HI hbs hll
      clear hxs
      obtain ⟨V, hV⟩ : ∃ V, n * 8 / 2 ^ (8 * (7 - i)) % 256 = V := ⟨_, rfl⟩
      have hVI : ((n : Int) * 8 / 2 ^ (8 * (7 - i))) % 256 = (V : Int) := by rw [← hV]; simp
      have hV256 : V < 256 := by rw [← hV]; exact Nat.mod_lt _ (by decide)
      rw [hV] at hbs
      clear hV
      have hltI : (i : Int) < 8 := by omega
      have h0I : (0 : Int) ≤ (i : Int) := by omega
      have hsub : ((7 : Int) - (i : Int)).toNat = 7 - i := by omega
      have hsh : ((8 : Int) * (7 - (i : Int))).toNat = 8 * (7 - i) := by omega
      go_wp2_with (at_builtin; go_must (refine app_bytes _ (by rfl) _ _ (by rfl) w.heap.size _ _ xs [V] (by rfl) (by rfl) (HI.out.1.alloc _) (bySl_one wr V hV256) ?hl ?hb ?_); (case hl => (have h := hll.out; simp; omega)); (case hb => (have h := HI.out.2.size; simp; omega)); intro v' w2 hown hbel)
      go_roundw
      case rel =>
        obtain ⟨A', l', c', hv⟩ := hown.form
        rw [hbs.out] at hown
        have hfin : Below w.heap.size w w2 := (HI.out.2.alloc HI.out.2.size _).trans hbel
        exact ⟨i + 1, A', l', c', hv, by go_num, by omega, hown, hfin⟩
      case measure => simp [intOf]; omega
    · have hi8 : i = 8 := by omega
      have HT : Hid (128 :: (List.replicate Z 0 ++ (List.range i).map fun i => (n * 8) >>> (8 * (7 - i)) % 256) = tailOf n) := by rw [Hid, hi8, tailOf, HZ.out]
      have hge : (8 : Int) ≤ (i : Int) := by omega
      clear hi8
      go_wp2_with fail
      go_ret
      rw [HT.out] at HI
      exact ⟨_, rfl, HI.out.1, HI.out.2⟩
end Go.Proofs.Ytbmdnjmdehmahaa
