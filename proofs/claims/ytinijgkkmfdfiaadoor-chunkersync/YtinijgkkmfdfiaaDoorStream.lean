/-
  Write and Close of a stream.
-/
import Derived.Test.YtinijgkkmfdfiaaDoorApi
namespace Go.Proofs.YtinijgkkmfdfiaaDoor
open Go.RowKit

/-! ### Write -/
theorem write_nil (b : Value) (w : World) : Calls Tryd.prog 21 #[.pointer none, b] w fun e w' => e = .returned (.tuple #[.slice none 0 0, .int .i64 18]) ∧ w' = w := by
  go_enter Tryd.func21, Tryd.ntmps21
  go_wp2_with (go_at_call 33; refine (fault_nil _).mono ?_; rintro e w2 ⟨rfl, h2⟩; subst w2)
  go_ret2
  exact ⟨rfl, rfl⟩
theorem write_closed (b : Value) (w : World) (sb : Nat) (h : w.cell? ⟨sb, 8, none⟩ = some (.bool true)) : Calls Tryd.prog 21 #[.pointer (some ⟨sb, 0, none⟩), b] w fun e w' => e = .returned (.tuple #[.slice none 0 0, .int .i64 13]) ∧ w' = w := by
  go_enter Tryd.func21, Tryd.ntmps21
  go_wp2_with (go_at_call 33; refine (fault_closed _ sb h).mono ?_; rintro e w2 ⟨rfl, h2⟩; subst w2)
  go_ret2
  exact ⟨rfl, rfl⟩

set_option maxHeartbeats 2000000 in
theorem write_any (w : World) (sb gb s mn av mx m : Nat) (wt : List Nat) (v : Value) (b : Value) (bs : List Nat) (S : StX w sb gb s mn av mx m (hashOf s wt) wt v false) (hb : ByP (· ∉ fp sb gb v) w b bs) (hn : wt.length + bs.length ≤ 50000) :
    Calls Tryd.prog 21 #[.pointer (some ⟨sb, 0, none⟩), b] w fun e w' => ∃ a cap v', e = .returned (.tuple #[.slice a (feed (endB s mn mx m) [] wt bs).1.length cap, .int .i64 0]) ∧
      StX w' sb gb s mn av mx m (hashOf s (feed (endB s mn mx m) [] wt bs).2) (feed (endB s mn mx m) [] wt bs).2 v' false ∧
      OwnL (fun x => w.heap.size ≤ x ∧ x ∉ fp sb gb v') w' (.slice a (feed (endB s mn mx m) [] wt bs).1.length cap) (feed (endB s mn mx m) [] wt bs).1 ∧ Kp (fp sb gb v) w w' ∧ ∀ x ∈ fp sb gb v', x ∈ fp sb gb v ∨ w.heap.size ≤ x := by
  have HS := hid S
  have HBY := hid hb
  obtain ⟨a, cap, rfl, _⟩ := hb
  have c8 := S.c8
  have c0 := S.c0
  have hsb := S.lt
  clear S
  have hm := hmf
  go_enter Tryd.func21, Tryd.ntmps21
  go_wp2_with (go_at_call 33; refine (fault_open _ sb gb c8 c0).mono ?_; rintro e w2 ⟨rfl, h2⟩; subst w2)
  have ka : Hid (Kp [] w (w.alloc (.cells #[.slice none 0 0] 27))) := (Kp.refl _ _).alloc _
  have hnew : Hid (TL w.heap.size (w.alloc (.cells #[.slice none 0 0] 27)) [w.heap.size] []) := TL.new w
  have S1 := hid (HS.out.kp ka.out (by simp))
  have hfl := hid HS.out.fplt
  have HB1 : Hid (ByP (fun g => g ∉ fp sb gb v ∧ g ∉ [w.heap.size]) (w.alloc (.cells #[.slice none 0 0] 27)) (.slice a bs.length cap) bs) := by
    have h1 := (HBY.out.mono (Q := fun g => g ∉ fp sb gb v ∧ g ∉ [w.heap.size]) (fun x hx hp => ⟨hp, by simp; omega⟩))
    exact h1.kp ka.out (by simp)
  generalize w.alloc (.cells #[.slice none 0 0] 27) = W at *
  clear c8 c0 HS
  refine (feed_any (tell36 w.heap.size) W sb gb s mn av mx m wt v false [w.heap.size] [] _ bs S1.out hnew.out ?_ HB1.out hn (by simp; omega)).mono ?_
  · intro x hx hf
    simp only [List.mem_cons, List.not_mem_nil, or_false] at hx
    have := hfl.out x hf
    omega
  · rintro e w3 ⟨rfl, hF⟩
    have hF' : FI (TL w.heap.size) W (fp sb gb v) [w.heap.size] sb gb s mn av mx m false w3 (hashOf s (feed (endB s mn mx m) [] wt bs).2) (feed (endB s mn mx m) [] wt bs).1 (feed (endB s mn mx m) [] wt bs).2 := hF
    obtain ⟨v3, lk, S3, T3, K3, hF3, hl3, hd3⟩ := hF'
    obtain ⟨u, hu, hO⟩ := T3.ls
    obtain ⟨au, cu, rfl, _⟩ := hO.slice
    have hsz := ka.out.size
    have hO' := hid (hO.mono (Q := fun x => w.heap.size ≤ x ∧ x ∉ fp sb gb v3) (fun x _ hx => by
      refine ⟨?_, hd3 x hx⟩
      rcases hl3 x hx with h | h
      · simp only [List.mem_cons, List.not_mem_nil, or_false] at h
        omega
      · omega))
    have HS3 := hid S3
    have HK3 : Hid (Kp (fp sb gb v) w w3) := (ka.out.mono (m := fp sb gb v) (by simp)).trans K3 (fun x hx => by
      rcases List.mem_append.1 hx with h | h
      · exact .inl h
      · simp only [List.mem_cons, List.not_mem_nil, or_false] at h
        exact .inr (by omega))
    have HF3 : Hid (∀ x ∈ fp sb gb v3, x ∈ fp sb gb v ∨ w.heap.size ≤ x) := fun x hx => by
      rcases hF3 x hx with h | h
      · exact .inl h
      · exact .inr (by omega)
    clear S3 T3 K3 hF3 hl3 hd3 hO hF
    go_wp2
    go_ret2
    exact ⟨au, cu, v3, rfl, HS3.out, hO'.out, HK3.out, HF3.out⟩

/-! ### Close -/
theorem close_nil (w : World) : Calls Tryd.prog 23 #[.pointer none] w fun e w' => e = .returned (.tuple #[.slice none 0 0, .int .i64 18]) ∧ w' = w := by
  go_enter Tryd.func23, Tryd.ntmps23
  go_wp2_with (go_at_call 33; refine (fault_nil _).mono ?_; rintro e w2 ⟨rfl, h2⟩; subst w2)
  go_ret2
  exact ⟨rfl, rfl⟩
theorem close_closed (w : World) (sb : Nat) (h : w.cell? ⟨sb, 8, none⟩ = some (.bool true)) : Calls Tryd.prog 23 #[.pointer (some ⟨sb, 0, none⟩)] w fun e w' => e = .returned (.tuple #[.slice none 0 0, .int .i64 13]) ∧ w' = w := by
  go_enter Tryd.func23, Tryd.ntmps23
  go_wp2_with (go_at_call 33; refine (fault_closed _ sb h).mono ?_; rintro e w2 ⟨rfl, h2⟩; subst w2)
  go_ret2
  exact ⟨rfl, rfl⟩

set_option maxHeartbeats 2000000 in
theorem close_any (w : World) (sb gb s mn av mx m : Nat) (wt : List Nat) (v : Value) (S : StX w sb gb s mn av mx m (hashOf s wt) wt v false) (hn : wt.length ≤ 50000) :
    Calls Tryd.prog 23 #[.pointer (some ⟨sb, 0, none⟩)] w fun e w' => ∃ a cap, e = .returned (.tuple #[.slice a wt.length cap, .int .i64 0]) ∧ ByP (w.heap.size ≤ ·) w' (.slice a wt.length cap) wt ∧
      sb < w'.heap.size ∧ w'.cell? ⟨sb, 8, none⟩ = some (.bool true) ∧ w'.cell? ⟨sb, 7, none⟩ = some (.slice none 0 0) ∧ Kp (fp sb gb v) w w' := by
  have HS := hid S
  have c8 := S.c8
  have c0 := S.c0
  have f8 := S.fz 8
  have hsb := S.lt
  clear S
  have hm := hmf
  go_enter Tryd.func23, Tryd.ntmps23
  go_upto_region 5 with (go_at_call 33; refine (fault_open _ sb gb c8 c0).mono ?_; rintro e w2 ⟨rfl, h2⟩; subst w2)
  have ks : Hid (Kp [sb] w (w.setCell ⟨sb, 8, none⟩ (.bool true))) := (Kp.refl _ _).setCell (p := ⟨sb, 8, none⟩) (.inl (by simp)) _
  have hss : Hid ((w.setCell ⟨sb, 8, none⟩ (.bool true)).heap.size = w.heap.size) := by simp [Hid]
  have HS1 := hid (HS.out.shut true)
  have hfl := hid HS.out.fplt
  generalize w.setCell ⟨sb, 8, none⟩ (.bool true) = W0 at *
  clear c8 c0 f8
  go_wp2_with fail
  have ka : Hid (Kp [] W0 (W0.alloc (.cells #[.slice none 0 0] 25))) := (Kp.refl _ _).alloc _
  have hnew : Hid (TX W0.heap.size (W0.alloc (.cells #[.slice none 0 0] 25)) [W0.heap.size] []) := TX.new W0
  have S1 := hid (HS1.out.kp ka.out (by simp))
  have hsz : W0.heap.size < (W0.alloc (.cells #[.slice none 0 0] 25)).heap.size := by simp
  generalize W0.alloc (.cells #[.slice none 0 0] 25) = W at *
  refine (feed_any (tell37 W0.heap.size) W sb gb s mn av mx m wt v true [W0.heap.size] [] _ [] S1.out hnew.out ?_ (ByP.nil _ _) (by simp; omega) (by simp)).mono ?_
  · intro x hx hf
    simp only [List.mem_cons, List.not_mem_nil, or_false] at hx
    have := hfl.out x hf
    have := hss.out
    omega
  · rintro e w3 ⟨rfl, hF⟩
    have hss' := hss.out
    have hF' : FI (TX W0.heap.size) W (fp sb gb v) [W0.heap.size] sb gb s mn av mx m true w3 (hashOf s []) (shutL ([], wt)) [] := hF
    obtain ⟨v3, lk, S3, ⟨u, t1, t2, t3, t4, t5, t6⟩, K3, hF3, hl3, hd3⟩ := hF'
    have hlast : (shutL ([], wt)).getLastD [] = wt := by
      unfold shutL
      by_cases e : wt = []
      · simp [e]
      · simp [e]
    rw [hlast] at t2 t3 t4
    obtain ⟨au, cu, rfl, _⟩ := t2.slice
    have d0 := S3.c0
    have d1 := S3.c1
    have d2 := S3.c2
    have d3 := S3.c3
    have d4 := S3.c4
    have d5 := S3.c5
    have d6 := S3.c6
    have d7 := S3.c7
    have d8 := S3.c8
    have hfz := S3.fz
    have hs3 := S3.lt
    obtain ⟨a3, c3', rfl, _⟩ := S3.own.slice
    have dp := cell_of_one t1
    have hpne : W0.heap.size ≠ sb := by omega
    have HU := hid (t2.byP (P := fun x => w.heap.size ≤ x ∧ x ≠ sb) (fun x hx => by
      have hxl : x ∈ lk := by rw [t6]; simp [hx]
      refine ⟨?_, fun e => hd3 x hxl (mem_fp.2 (.inl e))⟩
      rcases hl3 x hxl with h | h
      · simp only [List.mem_cons, List.not_mem_nil, or_false] at h
        omega
      · omega) (by omega) t3)
    have HK3 : Hid (Kp (fp sb gb v) w w3) := ((ks.out.mono (m := fp sb gb v) (fun x hx => .inl (by simp only [List.mem_cons, List.not_mem_nil, or_false] at hx; exact mem_fp.2 (.inl hx)))).trans ka.out (by simp)).trans K3 (fun x hx => by
      rcases List.mem_append.1 hx with h | h
      · exact .inl h
      · simp only [List.mem_cons, List.not_mem_nil, or_false] at h
        exact .inr (by omega))
    clear hss' S3 K3 hF3 hl3 hd3 hF t1 t2 t3 t4 t5 t6 hlast HS HS1 S1 hnew
    go_wp2_with fail
    go_ret2
    refine ⟨au, cu, rfl, (HU.out.kp (m := [sb]) ?_ (by simp)).mono (fun x _ hx => hx.1), by simpa using hs3, ?_, ?_, HK3.out.trans (m := [sb]) ?_ (fun x hx => .inl (by simp only [List.mem_cons, List.not_mem_nil, or_false] at hx; exact mem_fp.2 (.inl hx)))⟩
    · repeat (refine Kp.setCell ?_ (.inl (by simp)) _)
      exact Kp.refl _ _
    · repeat rw [cell_other (by decide)]
      exact d8
    · refine World.cell?_setCell_same _ _ _ (u := .slice a3 0 c3') ?_
      repeat rw [cell_other (by decide)]
      exact d7
    · repeat (refine Kp.setCell ?_ (.inl (by simp)) _)
      exact Kp.refl _ _

end Go.Proofs.YtinijgkkmfdfiaaDoor
