/-
  TreeWrites: at any changes that came in.
-/
import Derived.Test.YtdooiflmjeibdaaDoorTrWrites
namespace Go.Proofs.YtdooiflmjeibdaaDoor.Tr
open Go.RowKit

set_option maxHeartbeats 4000000 in
theorem ops_big (w : World) (a0 : Option Addr) (len cap k : Nat) (h : k < len) :
    Calls Tryd.prog 4 #[.slice a0 len cap, .int .i64 (k : Int)] w fun e w' => e = .returned (.bool false) ∧ Kp No w w' := by
  have hkI : (k : Int) < (len : Int) := by omega
  clear h
  go_enter Tryd.func4, Tryd.ntmps4
  go_wp2
  go_ret
  exact ⟨rfl, Kp.refl _ _⟩

set_option maxHeartbeats 4000000 in
theorem ops_nil (w : World) (a0 : Option Addr) (cap k : Nat) :
    Calls Tryd.prog 4 #[.slice a0 0 cap, .int .i64 (k : Int)] w fun e w' => e = .returned (.bool true) ∧ Kp No w w' := by
  have hkI : ¬ (k : Int) < ((0 : Nat) : Int) := by omega
  have hkJ : ¬ (k : Int) < 0 := by omega
  go_enter Tryd.func4, Tryd.ntmps4
  go_wp2_with fail
  go_loopw [5] (fun x wr => x = .int .i64 0 ∧ wr = w) (fun _ _ => 0)
  case atStart => exact ⟨rfl, rfl⟩
  case round =>
    obtain ⟨rfl, rfl⟩ := hrel
    go_wp2
    go_ret
    exact ⟨rfl, Kp.refl _ _⟩

set_option maxHeartbeats 4000000 in
theorem grown_nil (w : World) (a0 : Option Addr) (cap : Nat) :
    Calls Tryd.prog 6 #[.slice a0 0 cap] w fun e w' => ∃ v t, e = .returned v ∧ IOwn w' v t ∧ rightB t = true ∧ Kp No w w' := by
  go_enter Tryd.func6, Tryd.ntmps6
  go_wp2_with fail
  go_loopw [3, 4] (fun v3 x wr => v3 = .slice none 0 0 ∧ x = .int .i64 0 ∧ wr = w) (fun _ _ _ => 0)
  case atStart => exact ⟨rfl, rfl, rfl⟩
  case round =>
    obtain ⟨rfl, rfl, rfl⟩ := hrel
    go_wp2
    go_ret
    exact ⟨_, [], rfl, IOwn.nil _, right_nil, Kp.refl _ _⟩

theorem ops_all (w : World) (a0 : Option Addr) (len cap k : Nat) (l : List OpT) (hk : k ≤ 1000) (hl : l.length = len) (hne : len ≠ 0 → ∃ g o, a0 = some ⟨g, o, none⟩ ∧ OpsAt w g o l) :
    Calls Tryd.prog 4 #[.slice a0 len cap, .int .i64 (k : Int)] w fun e w' => e = .returned (.bool (opsB l k)) ∧ Kp No w w' := by
  by_cases h : k < len
  · have e : opsB l k = false := by unfold opsB; rw [hl, decide_eq_false (by omega), Bool.false_and]
    rw [e]
    exact ops_big w a0 len cap k h
  · by_cases h0 : len = 0
    · subst h0
      have e : opsB l k = true := by rw [List.length_eq_zero_iff.1 hl]; simp [opsB]
      rw [e]
      exact ops_nil w a0 cap k
    · obtain ⟨g, o, rfl, ho⟩ := hne h0
      exact ops_any w g o cap len l k hk hl (by omega) ho
theorem opsB_short {l : List OpT} {k : Nat} (h : opsB l k = true) : l.length ≤ k ∧ ∀ x ∈ l, x.2.2.1.size ≤ 250 ∧ x.2.2.2.1.size ≤ 250 ∧ x.2.2.2.2.length ≤ 2100 := by
  unfold opsB at h
  rw [Bool.and_eq_true] at h
  refine ⟨by simpa using h.1, fun x hx => ?_⟩
  have := List.all_eq_true.1 h.2 x hx
  unfold opI at this
  simpa [and_assoc] using this
theorem OpsAt.kept {w V : World} {g o : Nat} {l : List OpT} (h : OpsAt w g o l) (k : Kp No w V) : OpsAt V g o l := fun V' k' => h V' (k.andNone k')
theorem grown_all (w : World) (a0 : Option Addr) (len cap k : Nat) (l : List OpT) (hk : k ≤ 1000) (hl : l.length = len) (hne : len ≠ 0 → ∃ g o, a0 = some ⟨g, o, none⟩ ∧ OpsAt w g o l) (h : opsB l k = true) :
    Calls Tryd.prog 6 #[.slice a0 len cap] w fun e w' => ∃ v t, e = .returned v ∧ IOwn w' v t ∧ rightB t = true ∧ Kp No w w' := by
  obtain ⟨h1, h2⟩ := opsB_short h
  by_cases h0 : len = 0
  · subst h0
    exact grown_nil w a0 cap
  · obtain ⟨g, o, rfl, ho⟩ := hne h0
    exact grown_any w g o cap len l hl (by omega) ho (fun x hx => ⟨by have := (h2 x hx).1; omega, by have := (h2 x hx).2.1; omega⟩)

set_option maxHeartbeats 4000000 in
set_option maxRecDepth 100000 in
theorem writes_no (w : World) (vl vb : Value) (p q : ByteArray) (b : List Nat) (ok : Bool) (hb : ByP Any w vb b) (h : ¬ (ok = true ∧ p.size ≤ 250 ∧ q.size ≤ 250 ∧ b.length ≤ 2100))
    (HO : Hid (∀ V, Kp No w V → Calls Tryd.prog 4 #[vl, .int .i64 20] V fun e w' => e = .returned (.bool ok) ∧ Kp No V w')) :
    Calls Tryd.prog 3 #[vl, .string p, .string q, vb] w fun e w' => e = .returned (.bool true) ∧ Kp No w w' := by
  have HAL := hid alive_any
  obtain ⟨ab, cb, rfl⟩ := hb.form
  clear hb
  by_cases h1 : ok = true
  · subst h1
    by_cases h2 : p.size ≤ 250
    · have hpI : ¬ (250 : Int) < (p.size : Int) := by omega
      by_cases h3 : q.size ≤ 250
      · have hqI : ¬ (250 : Int) < (q.size : Int) := by omega
        have hbI : (2100 : Int) < (b.length : Int) := by
          have : ¬ b.length ≤ 2100 := fun h4 => h ⟨rfl, h2, h3, h4⟩
          omega
        clear h h2 h3
        go_enter Tryd.func3, Tryd.ntmps3
        go_wp2_with (first
          | (go_at_call 4; refine (HO.out _ (Kp.refl _ _)).mono ?_; rintro e w0 ⟨rfl, hk⟩; have HK0 := hid hk; clear hk)
          | (go_at_call 5; refine (HAL.out _).mono ?_; rintro e w1 ⟨rfl, hk⟩; have HK1 := hid (HK0.out.andNone hk); clear hk))
        go_ret
        exact ⟨rfl, HK1.out⟩
      · have hqI : (250 : Int) < (q.size : Int) := by omega
        clear h h2 h3
        go_enter Tryd.func3, Tryd.ntmps3
        go_wp2_with (first
          | (go_at_call 4; refine (HO.out _ (Kp.refl _ _)).mono ?_; rintro e w0 ⟨rfl, hk⟩; have HK0 := hid hk; clear hk)
          | (go_at_call 5; refine (HAL.out _).mono ?_; rintro e w1 ⟨rfl, hk⟩; have HK1 := hid (HK0.out.andNone hk); clear hk))
        go_ret
        exact ⟨rfl, HK1.out⟩
    · have hpI : (250 : Int) < (p.size : Int) := by omega
      clear h h2
      go_enter Tryd.func3, Tryd.ntmps3
      go_wp2_with (first
        | (go_at_call 4; refine (HO.out _ (Kp.refl _ _)).mono ?_; rintro e w0 ⟨rfl, hk⟩; have HK0 := hid hk; clear hk)
        | (go_at_call 5; refine (HAL.out _).mono ?_; rintro e w1 ⟨rfl, hk⟩; have HK1 := hid (HK0.out.andNone hk); clear hk))
      go_ret
      exact ⟨rfl, HK1.out⟩
  · have h1' : ok = false := by simpa using h1
    subst h1'
    clear h h1
    go_enter Tryd.func3, Tryd.ntmps3
    go_wp2_with (first
      | (go_at_call 4; refine (HO.out _ (Kp.refl _ _)).mono ?_; rintro e w0 ⟨rfl, hk⟩; have HK0 := hid hk; clear hk)
      | (go_at_call 5; refine (HAL.out _).mono ?_; rintro e w1 ⟨rfl, hk⟩; have HK1 := hid (HK0.out.andNone hk); clear hk))
    go_ret
    exact ⟨rfl, HK1.out⟩

theorem writes_main (w : World) (a0 : Option Addr) (len cap : Nat) (l : List OpT) (vb : Value) (p q : ByteArray) (b : List Nat) (hl : l.length = len) (hne : len ≠ 0 → ∃ g o, a0 = some ⟨g, o, none⟩ ∧ OpsAt w g o l) (hb : ByP Any w vb b) :
    Calls Tryd.prog 3 #[.slice a0 len cap, .string p, .string q, vb] w fun e w' => e = .returned (.bool true) ∧ Kp No w w' := by
  have hkp : ∀ V, Kp No w V → (len ≠ 0 → ∃ g o, a0 = some ⟨g, o, none⟩ ∧ OpsAt V g o l) := fun V k h0 => by
    obtain ⟨g, o, e, ho⟩ := hne h0
    exact ⟨g, o, e, ho.kept k⟩
  have HO : Hid (∀ V, Kp No w V → Calls Tryd.prog 4 #[.slice a0 len cap, .int .i64 20] V fun e w' => e = .returned (.bool (opsB l 20)) ∧ Kp No V w') := fun V k => ops_all V a0 len cap 20 l (by omega) hl (hkp V k)
  by_cases h : opsB l 20 = true ∧ p.size ≤ 250 ∧ q.size ≤ 250 ∧ b.length ≤ 2100
  · refine writes_yes w _ vb p q b hb h.2.1 h.2.2.1 h.2.2.2 (by rw [h.1] at HO; exact HO) (fun V k => grown_all V a0 len cap 20 l (by omega) hl (hkp V k) h.1)
  · exact writes_no w _ vb p q b _ hb h HO

end Go.Proofs.YtdooiflmjeibdaaDoor.Tr
