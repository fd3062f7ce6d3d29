/-
  A step: whether it goes down here, or what is done.
-/
import Derived.Test.YtmiipifhbliamaaGreatSimDo
namespace Go.Proofs.YtmiipifhbliamaaGreat.Sim
open Go.RowKit Go.Maps

theorem Kp.set1 (w : World) (s j : Nat) (x : Value) : Kp (· = s) w (w.setCell ⟨s, j, none⟩ x) := (Kp.refl (· = s) w).setCell (p := ⟨s, j, none⟩) (.inl rfl) x
theorem PInv.tick {N : Nat} {p : PS} (h : PInv N p) (hb : N + 1 ≤ 1000) : PInv (N + 1) (tick p) :=
  { (h.mono (M := N + 1) (by omega) hb) with
    steps := by have := h.steps; show p.steps + 1 ≤ N + 1; omega
    left := by have := h.left; show (if p.armed then p.left - 1 else p.left) ≤ _; split <;> omega }
theorem PInv.fall {N : Nat} {p : PS} (h : PInv N p) : PInv N (fall p) := { h with }

/-- Other scalars in the struct. -/
theorem Rp.cells {P : Nat → Prop} {I J : PS → Prop} {w W : World} {s : Nat} {p q : PS} {vs vf vc : Value} {u : Nat → Value} (h : Rp P I w s p vs vf vc u) (k : Kp (· = s) w W) (hb : Blk W s 63 (fsCells q vs vf vc))
    (e1 : q.made = p.made) (e2 : q.seen = p.seen) (e3 : q.safe = p.safe) (e4 : q.chg = p.chg) (e5 : q.files = p.files) (hi : J q) : Rp P J W s q vs vf vc u where
  lt x hx := Nat.lt_of_lt_of_le (h.lt x hx) k.size
  ps := h.ps
  blk := hb
  seen := by
    rw [e2]
    rcases h.seen with ⟨h1, h2⟩ | ⟨b, h1, h2⟩
    · exact .inl ⟨h1, h2⟩
    · exact .inr ⟨b, h1, h2.kp k (h2.blk h.blk)⟩
  safe := by
    rw [e3]
    rcases h.safe with ⟨h1, h2⟩ | ⟨b, h1, h2⟩
    · exact .inl ⟨h1, h2⟩
    · exact .inr ⟨b, h1, h2.kp k (h2.blk h.blk)⟩
  unmade := by rw [e1]; exact h.unmade
  mades := by rw [e1]; exact h.mades
  chg := by rw [e4]; exact h.chg.kp k (fun x hx e => (h.chg.ne h.blk (by decide)) (by rw [hx, e]))
  pc := h.pc
  file b f hf := by
    rw [e5] at hf
    obtain ⟨h1, h2, h3⟩ := h.file b f hf
    exact ⟨h1, h2.kp k (fun e => (h2.blk.ne h.blk (by decide)) e) (fun x hx e => (h2.own.row.ne h.blk (by decide)) (by rw [hx, e])), h3⟩
  sep := by rw [e5]; exact h.sep
  inv := hi

theorem add_any (a : Addr) (n d : Int) (w : World) (hc : w.cell? a = some (.int .i64 n)) (hz : w.frozen? a = false) :
    Calls Tryz.prog 72 #[.pointer (some a), .int .i64 d] w fun e w' => e = .returned (.int .i64 (wrap64 (n + d))) ∧ w' = w.setCell a (.int .i64 (wrap64 (n + d))) := by
  have hadd := run_call_add (P := Tryz.prog) Tryz.func80 (by kernel_rfl) (by kernel_rfl) (by kernel_rfl) .i64 (by kernel_rfl) (y := d) (s := wrap64 (n + d)) hc hz (by simp [go_sem, wrap64, IntKind.wrap_i64])
  go_enter Tryz.func72, Tryz.ntmps72
  go_wp2
  go_ret
  exact ⟨rfl, rfl⟩
theorem wrap_small (n : Nat) (h : n ≤ 1000000) : wrap64 ((n : Int) + 1) = ((n + 1 : Nat) : Int) := by unfold wrap64; omega

set_option maxHeartbeats 1000000 in
theorem step_dead {P : Nat → Prop} {N : Nat} (w : World) (s : Nat) (p : PS) (h : Sys P N w s p) (hd : dead p = true) (fv : Value) :
    Calls Tryz.prog 52 #[.pointer (some ⟨s, 0, none⟩), fv] w fun e w' => e = .returned (.int .i64 12) ∧ Sys P N w' s (fall p) ∧ Kp (· = s) w w' := by
  obtain ⟨vs, vf, vc, u, h⟩ := h
  have h' : p.armed = true ∧ p.left = 0 := by simpa [dead] using hd
  have q4 : w.cell? ⟨s, 4, none⟩ = some (.bool p.down) := h.c 4
  have q5 : w.cell? ⟨s, 5, none⟩ = some (.bool p.armed) := h.c 5
  have q6 : w.cell? ⟨s, 6, none⟩ = some (.int .i64 (p.left : Int)) := h.c 6
  have f4 := h.blk.frozen 4
  rw [h'.1] at q5
  rw [h'.2] at q6
  have H := hid h
  clear h h' hd
  go_enter Tryz.func52, Tryz.ntmps52
  go_wp2
  go_ret
  have k : Kp (· = s) w (w.setCell ⟨s, 4, none⟩ (.bool true)) := Kp.set1 _ _ _ _
  exact ⟨rfl, ⟨vs, vf, vc, u, H.out.cells k (H.out.blk.setCell 4 (.bool true)) rfl rfl rfl rfl rfl H.out.inv.fall⟩, k⟩

set_option maxHeartbeats 2000000 in
theorem step_live {P : Nat → Prop} {N : Nat} (w : World) (s : Nat) (p : PS) (h : Sys P N w s p) (hd : dead p = false) (hN : N + 1 ≤ 1000) (f : FuncId) (caps : Array Value)
    (ent : ∀ args w, (callFunc f args).run Tryz.prog w = .ok (.enter f args) w) (T : World → Prop)
    (hc : ∀ W, Kp (· = s) w W → Sys P (N + 1) W s (tick p) → Calls Tryz.prog f caps W fun e w' => e = .returned (.tuple #[]) ∧ T w') :
    Calls Tryz.prog 52 #[.pointer (some ⟨s, 0, none⟩), .func (.func f) #[] caps] w fun e w' => e = .returned (.int .i64 0) ∧ T w' := by
  obtain ⟨vs, vf, vc, u, h⟩ := h
  have hst := Nat.le_trans h.inv.steps h.inv.big
  have hle := h.inv.left
  have q5 : w.cell? ⟨s, 5, none⟩ = some (.bool p.armed) := h.c 5
  have q6 : w.cell? ⟨s, 6, none⟩ = some (.int .i64 (p.left : Int)) := h.c 6
  have q7 : w.cell? ⟨s, 7, none⟩ = some (.int .i64 (p.steps : Int)) := h.c 7
  have f6 := h.blk.frozen 6
  have f7 := h.blk.frozen 7
  have H := hid h
  have HT := hid (h.inv.tick hN)
  have HC := hid hc
  clear h hc
  cases ha : p.armed with
  | true =>
    have hl : p.left ≠ 0 := by intro e; simp [dead, ha, e] at hd
    rw [ha] at q5
    have hne : ((p.left : Int) == 0) = false := by simp; omega
    have hl1 : (1 : Int) ≤ (p.left : Int) := by omega
    have k1 : Hid (Kp (· = s) w (w.setCell ⟨s, 6, none⟩ (.int .i64 ((p.left : Int) - 1)))) := Kp.set1 _ _ _ _
    have q7' : (w.setCell ⟨s, 6, none⟩ (.int .i64 ((p.left : Int) - 1))).cell? ⟨s, 7, none⟩ = some (.int .i64 (p.steps : Int)) := (cell_other (by decide)).trans q7
    have f7' : (w.setCell ⟨s, 6, none⟩ (.int .i64 ((p.left : Int) - 1))).frozen? ⟨s, 7, none⟩ = false := by simpa using f7
    have HA := add_any ⟨s, 7, none⟩ p.steps 1 _ q7' f7'
    rw [wrap_small _ (by omega)] at HA
    have HA := hid HA
    have k2 : Hid (Kp (· = s) w ((w.setCell ⟨s, 6, none⟩ (.int .i64 ((p.left : Int) - 1))).setCell ⟨s, 7, none⟩ (.int .i64 ((p.steps + 1 : Nat) : Int)))) := k1.out.trans (Kp.set1 _ _ _ _) (fun x hx => .inl hx)
    have hS : Hid (Sys P (N + 1) ((w.setCell ⟨s, 6, none⟩ (.int .i64 ((p.left : Int) - 1))).setCell ⟨s, 7, none⟩ (.int .i64 ((p.steps + 1 : Nat) : Int))) s (tick p)) := by
      refine ⟨vs, vf, vc, u, H.out.cells k2.out ?_ rfl rfl rfl rfl rfl HT.out⟩
      have := (H.out.blk.setCell 6 (.int .i64 ((p.left : Int) - 1))).setCell 7 (.int .i64 ((p.steps + 1 : Nat) : Int))
      have hcast : ((p.left - 1 : Nat) : Int) = (p.left : Int) - 1 := by omega
      simpa [fsCells, tick, ha, hcast] using this
    generalize (w.setCell ⟨s, 6, none⟩ (.int .i64 ((p.left : Int) - 1))).setCell ⟨s, 7, none⟩ (.int .i64 ((p.steps + 1 : Nat) : Int)) = W at *
    clear ha hd q7' f7' k1
    go_enter Tryz.func52, Tryz.ntmps52
    go_wp2_with (first | (go_at_call 72; refine (HA.out).mono ?_; rintro e w1 ⟨rfl, h1⟩; subst w1) | (go_at_fn f; refine (HC.out W k2.out hS.out).mono ?_; rintro e w2 ⟨rfl, ht⟩; have HT2 := hid ht; clear ht))
    go_ret
    exact ⟨rfl, HT2.out⟩
  | false =>
    rw [ha] at q5
    have HA := add_any ⟨s, 7, none⟩ p.steps 1 w q7 f7
    rw [wrap_small _ (by omega)] at HA
    have HA := hid HA
    have k1 : Hid (Kp (· = s) w (w.setCell ⟨s, 7, none⟩ (.int .i64 ((p.steps + 1 : Nat) : Int)))) := Kp.set1 _ _ _ _
    have hS : Hid (Sys P (N + 1) (w.setCell ⟨s, 7, none⟩ (.int .i64 ((p.steps + 1 : Nat) : Int))) s (tick p)) := by
      refine ⟨vs, vf, vc, u, H.out.cells k1.out ?_ rfl rfl rfl rfl rfl HT.out⟩
      have := H.out.blk.setCell 7 (.int .i64 ((p.steps + 1 : Nat) : Int))
      simpa [fsCells, tick, ha] using this
    generalize w.setCell ⟨s, 7, none⟩ (.int .i64 ((p.steps + 1 : Nat) : Int)) = W at *
    clear ha hd
    go_enter Tryz.func52, Tryz.ntmps52
    go_wp2_with (first | (go_at_call 72; refine (HA.out).mono ?_; rintro e w1 ⟨rfl, h1⟩; subst w1) | (go_at_fn f; refine (HC.out W k1.out hS.out).mono ?_; rintro e w2 ⟨rfl, ht⟩; have HT2 := hid ht; clear ht))
    go_ret
    exact ⟨rfl, HT2.out⟩

end Go.Proofs.YtmiipifhbliamaaGreat.Sim
