/-
  firstPrimes, walked.
-/
import Derived.Test.YtbmdnjmdehmahaaPrimes
namespace Go.Proofs.Ytbmdnjmdehmahaa
open Go.RowKit

/-- append(v, x) of one number. -/
theorem app_num {ops : Array Oper} {rest : List Oper} {o : Oper} {a : Act} {Q : Exit → Act → World → Prop} (w : World) (hgd : o.guard = none) (s x : Operand)
    (ho : o.op = .call { callee := .builtin .append, args := #[s, x], argTypes := #[112, 112] }) (base g p : Nat) (v : Value) (l : List Nat) (hs : a.eval s = v) (hx : a.eval x = .slice (some ⟨g, 0, none⟩) 1 1)
    (hown : OwnN w base v l) (hc : w.cell? ⟨g, 0, none⟩ = some (.int .u64 p)) (hlen : l.length ≤ 1000) (hbase : base ≤ w.heap.size)
    (h : ∀ v' w', OwnN w' base v' (l ++ [p]) → w.grownBy w' v.ownBlock → (v'.ownBlock = v.ownBlock ∨ v'.ownBlock = some w.heap.size) → wpList Try.prog ops Q rest (a.put o.dst v') w') : wpList Try.prog ops Q (o :: rest) a w := by
  obtain ⟨i0, hi, hz0, hz1, hz2⟩ := info_parts Try.info96
  refine wpList_append_own_at w hgd s x 112 ho base 96 i0 (.int .u64 0) 1 8 Try.underlying112 hi hz0 hz1 hz2 rfl (by decide) v l.length (u64s l) hs hown ⟨g, 0, none⟩ 1 1 (u64s [p]) hx rfl ?_ ?_ ?_ ?_ hbase ?_
  · intro j u hj
    have hj0 : j < 1 := (List.getElem?_eq_some_iff.1 hj).1
    have : j = 0 := by omega
    subst this
    rw [Addr.add_mid, Nat.zero_add, hc]
    exact hj
  · intro u hu; obtain ⟨x, _, rfl⟩ := List.mem_map.1 hu; rfl
  · unfold maxLen; omega
  · omega
  · intro v' w' h1 h2 _ h4
    refine h v' w' ?_ h2 h4
    unfold OwnN
    rw [List.length_append, u64s, List.map_append]
    exact h1

theorem OwnN.mem {w w' : World} {base : Nat} {v : Value} {l : List Nat} (h : OwnN w base v l) (hb : ∀ r, v.ownBlock = some r → w'.heap[r]? = w.heap[r]?) : OwnN w' base v l := by
  refine ⟨h.1, ?_⟩
  rcases h.2 with h1 | ⟨g, cap, cur, rfl, hg, hh, r⟩
  · exact .inl h1
  · exact .inr ⟨g, cap, cur, rfl, hg, (hb g rfl).trans hh, r⟩

set_option maxHeartbeats 2000000 in
set_option maxRecDepth 100000 in
theorem primes_any (w : World) :
    Calls Try.prog 55 #[.int .i64 64] w fun e w' => ∃ r c, e = .returned (.slice (some ⟨r, 0, none⟩) 64 c) ∧ w.heap.size ≤ r ∧ r < w'.heap.size ∧ 64 ≤ c ∧ c ≤ maxLen ∧ NumsAt w' r 0 primes64 ∧ Below w.heap.size w w' := by
  obtain ⟨i0, hi, hz0, hz1, hz2⟩ := info_parts Try.info96
  have hnot : ∀ (x : Bool) (w : World), (Op.unary .not (.bool x)).run Try.prog w = .ok (.bool (!x)) w := fun _ _ => rfl
  have hmf : ∀ (fn : Fn) (first cap : Array Value) (w : World), (Instr.makeFunc fn first cap).run Try.prog w = .ok (.func fn first cap) w := fun _ _ _ _ => rfl
  have HI : Hid (Try.prog.info? 96 = some i0 ∧ i0.zero = some (.int .u64 0) ∧ i0.size = 1 ∧ i0.bytes = 8) := ⟨hi, hz0, hz1, hz2⟩
  clear hi hz0 hz1 hz2
  go_enter Try.func55, Try.ntmps55
  go_wp2
  go_loopw [3, 4] (fun s3 s4 wr => ∃ (p g : Nat), s4 = .pointer (some ⟨g, 0, none⟩) ∧ 2 ≤ p ∧ p ≤ 312 ∧ wr.cell? ⟨g, 0, none⟩ = some (.int .u64 p) ∧ wr.frozen? ⟨g, 0, none⟩ = false ∧ w.heap.size ≤ g ∧ Hid (OwnN wr w.heap.size s3 (ahead p) ∧ (∀ r, s3.ownBlock = some r → r ≠ g) ∧ Below w.heap.size w wr)) (fun _ s4 wr => 312 - ptrNat wr s4)
  case atStart =>
    refine ⟨2, w.heap.size, rfl, by omega, by omega, by simp [go_sem], by simp [go_sem], Nat.le_refl _, ?_, by simp [Value.ownBlock], (Below.refl _ _).alloc (Nat.le_refl _) _⟩
    rw [ahead_two]
    exact World.ownsRow_nil _ _ _ _
  case round =>
    obtain ⟨p, g, rfl, hp2, hp, hcg, hfg, hgb, HR⟩ := hrel
    obtain ⟨a, c, hs3, hat, hown, hcm, hlc⟩ := HR.out.1.at
    have HO := hid HR.out.1
    have HB := hid HR.out.2.2
    have HNE := hid HR.out.2.1
    subst hs3
    clear HR
    have HAT := hid hat
    have HOWN := hid hown
    have HCM := hid hcm
    have hc63 : c ≤ 9223372036854775807 := by unfold maxLen at hcm; omega
    clear hat hown hcm
    obtain ⟨L, hL⟩ : ∃ L, (ahead p).length = L := ⟨_, rfl⟩
    have HL := hid hL
    rw [hL] at hlc HO HOWN HNE ⊢
    clear hL
    by_cases hlt : p < 312
    · have hfew : L < 64 := by rw [← HL.out]; exact ahead_few p hlt
      have HC := hid (contains_any (ahead p) a c p g wr (ahead_le p) (ahead_pos p) (by omega) hcg (fun h => by obtain ⟨r, h1, _, _, h2⟩ := HAT.out h; exact ⟨r, h1, h2⟩))
      rw [HL.out] at HC
      by_cases hd : divided p (ahead p) = true
      · rw [hd] at HC
        go_wp2_with fail
        refine HC.out.mono ?_
        rintro e w1 ⟨rfl, hw⟩
        subst hw
        go_wp2_with fail
        go_roundw
        case rel =>
          refine ⟨p + 1, w1.heap.size, rfl, by omega, by omega, by simp [go_sem], by simp [go_sem], HB.out.size, ?_, fun r hr => by have := HOWN.out r hr; omega, HB.out.alloc HB.out.size _⟩
          rw [ahead_next p hlt hp2, if_pos hd]
          exact HO.out.mem fun r hr => heap_alloc_old _ _ (HOWN.out r hr).2
        case measure => simp [ptrNat, hcg, go_sem]; omega
      · have hd' : divided p (ahead p) = false := by simpa using hd
        rw [hd'] at HC
        go_wp2_with fail
        refine HC.out.mono ?_
        rintro e w1 ⟨rfl, hw⟩
        subst hw
        have hgw : g < w1.heap.size := block_lt_of_cell hcg
        have HGN : Hid (some g ≠ (Value.slice a L c).ownBlock) := fun e => HNE.out g e.symm rfl
        go_wp2_with (at_builtin; go_must (refine app_num _ rfl _ _ rfl w.heap.size w1.heap.size p _ (ahead p) rfl rfl (HO.out.mem fun r hr => heap_alloc_old _ _ (HOWN.out r hr).2) (by simp [go_sem]) (by rw [HL.out]; omega) (by have := HB.out.size; simp; omega) ?_); intro v' w2 hown2 hgrow hat2; have hcg2 : w2.cell? ⟨g, 0, none⟩ = some (.int .u64 p) := (World.cell?_of_block (w := w1.alloc (Obj.cells #[Value.int IntKind.u64 (p : Int)] 96)) (hgrow.block g (by simp; omega) HGN.out)).trans (by rw [World.cell?_alloc_past _ _ _ hgw]; exact hcg))
        have HOWN2 := hid hown2.at
        have HO2 := hid hown2
        have HB2 : Hid (Below w.heap.size w w2) := (HB.out.alloc HB.out.size _).grown hgrow (by have := HB.out.size; simp; omega) (fun r e => (HOWN.out r e).1)
        clear hown2 hgrow hat2
        go_wp2_with fail
        go_roundw
        case rel =>
          obtain ⟨a2, c2, h1, h2, h3, h4, h5⟩ := HOWN2.out
          refine ⟨p + 1, w2.heap.size, rfl, by omega, by omega, by simp [go_sem], by simp [go_sem], HB2.out.size, ?_, fun r hr => by have := h3 r hr; omega, HB2.out.alloc HB2.out.size _⟩
          rw [ahead_next p hlt hp2, if_neg hd]
          exact HO2.out.mem fun r hr => heap_alloc_old _ _ (h3 r hr).2
        case measure => simp [ptrNat, hcg, go_sem]; omega
    · have : p = 312 := by omega
      subst this
      have h64 : L = 64 := by rw [← HL.out, ahead_all]; rfl
      subst h64
      go_wp2_with fail
      go_ret
      obtain ⟨r, h1, h2, h3, h4⟩ := HAT.out (by rw [ahead_all]; decide)
      subst h1
      rw [ahead_all] at h4
      exact ⟨r, c, rfl, h2, h3, hlc, HCM.out, h4, HB.out⟩
end Go.Proofs.Ytbmdnjmdehmahaa
