/- Of the proof: the texts TrRCh, TrRRen, TrOpen, TrGrown, TrOps, TrOpenO, TrRDo, one behind the other. -/
import Derived.Test.YtdooiflmjeibdaaGreatDoorAbb
import Derived.Test.YtdooiflmjeibdaaGreatDoorB5
import Derived.Test.YtdooiflmjeibdaaGreatDoorB6
import Derived.Test.YtdooiflmjeibdaaGreatDoorB4
import Derived.Test.YtdooiflmjeibdaaGreatDoorB3
import Derived.OpenShut
import Derived.Deep.Slices
import Derived.Deep.Strs
section
/-
  Mkdir, Write and Remove, of the document.
-/
namespace Go.Proofs.YtdooiflmjeibdaaGreatDoor.Tr
open Go.RowKit

/-- What a change of the document's leaves. -/
def RChd (w : World) (r : Int × List It) (e : Ending) (w' : World) : Prop := ∃ v', e = .returned (.tuple #[v', .int .i64 r.1]) ∧ IRow Any w' v' r.2 ∧ Kp No w w'
theorem RChd.no {w w' : World} {e : Ending} {f : Int} (h : e = .returned (.tuple #[.slice none 0 0, .int .i64 f])) (k : Kp No w w') : RChd w (f, []) e w' := ⟨_, h, IRow.nil _ _, k⟩
theorem rput_any (w : World) (v u : Value) (t : List It) (x : It) (h : IRow Any w v t) (hu : ByP Any w u x.2.2) (hl : t.length ≤ 10000) (hs : ∀ y ∈ t, y.1.size ≤ 20000000) (hx : x.1.size ≤ 20000000) :
    Calls Tryz.prog 44 #[v, .agg #[.string x.1, .bool x.2.1, u]] w fun e w' => ∃ v', e = .returned v' ∧ IRow Any w' v' (putL t x) ∧ Kp No w w' :=
  rput_B w v u t x w.heap.size h.below (hu.mono (fun _ hx _ => hx)) (Nat.le_refl _) hl hs hx
theorem rfind_all (w : World) (v : Value) (t : List It) (p : ByteArray) (h : IRow Any w v t) (hl : t.length ≤ 100000) :
    Calls Tryz.prog 40 #[v, .string p] w fun e w' => ∃ s a n c, e = .returned (.tuple #[.agg #[.string s, .bool (dirAt t p), .slice a n c], .bool (look t p).isSome]) ∧ Kp No w w' := by
  cases hx : look t p with
  | none =>
    rw [dirAt_none hx]
    exact (rfind_no w v t p h hl hx).mono fun e w' h => ⟨_, _, _, _, h.1, h.2⟩
  | some x =>
    rw [dirAt_some hx]
    refine (rfind_yes w v t p x h hl hx).mono fun e w' h => ?_
    obtain ⟨u, he, hb, hk⟩ := h
    obtain ⟨a, c, rfl⟩ := hb.form
    exact ⟨_, _, _, _, he, hk⟩

abbrev bx (w : World) (s : ByteArray) (d : Bool) (a : Option Addr) (n c : Nat) : World := w.alloc (.cells #[.string s, .bool d, .slice a n c] 41)

set_option maxHeartbeats 8000000 in
theorem rmkdir_any (w : World) (v : Value) (t : List It) (p : ByteArray) (h : IRow Any w v t) (hl : t.length ≤ 1000) (hs : ∀ y ∈ t, ShortI y) (hp : p.size ≤ 10000) :
    Calls Tryz.prog 18 #[v, .string p] w fun e w' => RChd w (mkdirR t p) e w' := by
  have HFI := hid (rfind_all w v t p h (by omega))
  have HD := hid (fun (V : World) (k : Kp No w V) => rdir_any V v t p (h.kept k) (by omega) (by omega))
  have HR := hid (fun (V : World) (k : Kp No w V) => rright_any V v t (h.kept k) (by omega) hs)
  have HP := hid (fun V => rpath_any p (by omega) V)
  have HPU := hid (fun (V : World) (k : Kp No w V) => rput_any V v (.slice none 0 0) t (p, true, []) (h.kept k) (ByP.nil _ _) (by omega) (fun y hy => by have := (hs y hy).1; omega) (by show p.size ≤ _; omega))
  have HM : Hid (mkdirR t p = if (if rightB t then (if pathB (tx p) then homeF t p else 10) else 1) = 0 then (if (look t p).isSome then (6, []) else if 60 ≤ t.length then (2, []) else (0, putL t (p, true, []))) else ((if rightB t then (if pathB (tx p) then homeF t p else 10) else 1), [])) := rfl
  obtain ⟨a, cap, rfl, _⟩ := h.form
  obtain ⟨n, hn⟩ : ∃ n, t.length = n := ⟨_, rfl⟩
  rw [hn] at HFI HD HR HPU HM ⊢
  clear h hl hs hp hn
  generalize mkdirR t p = R at *
  generalize rightB t = q1 at *
  have hpp : pathB p.data.toList = pathB (tx p) := rfl
  rw [hpp] at HP
  clear hpp
  generalize pathB (tx p) = q2 at *
  generalize homeF t p = f at *
  generalize dirAt t p = d at *
  generalize (look t p).isSome = is at *
  generalize putL t (p, true, []) = pl at *
  cases q1 with
  | false =>
    have e : R = (1, []) := HM.out
    subst e
    go_enter Tryz.func18, Tryz.ntmps18
    go_wp2_with (first
      | (go_at_call 40; refine HFI.out.mono ?_; rintro e w1 ⟨s, au, nu, cu, rfl, hk⟩; have HK1 : Hid (Kp No w (bx w1 s d au nu cu)) := hid (hk.alloc _); clear hk)
      | (go_at_call 41; refine (HD.out _ HK1.out).mono ?_; rintro e w2 ⟨rfl, hk⟩; have HK2 := hid (HK1.out.andNone hk); clear hk)
      | (go_at_call 42; refine (HR.out _ HK2.out).mono ?_; rintro e w3 ⟨rfl, hk⟩; have HK3 := hid (HK2.out.andNone hk); clear hk))
    go_ret2
    exact RChd.no rfl HK3.out
  | true =>
    cases q2 with
    | false =>
      have e : R = (10, []) := HM.out
      subst e
      go_enter Tryz.func18, Tryz.ntmps18
      go_wp2_with (first
        | (go_at_call 40; refine HFI.out.mono ?_; rintro e w1 ⟨s, au, nu, cu, rfl, hk⟩; have HK1 : Hid (Kp No w (bx w1 s d au nu cu)) := hid (hk.alloc _); clear hk)
        | (go_at_call 41; refine (HD.out _ HK1.out).mono ?_; rintro e w2 ⟨rfl, hk⟩; have HK2 := hid (HK1.out.andNone hk); clear hk)
        | (go_at_call 42; refine (HR.out _ HK2.out).mono ?_; rintro e w3 ⟨rfl, hk⟩; have HK3 := hid (HK2.out.andNone hk); clear hk)
        | (go_at_call 43; refine (HP.out _).mono ?_; rintro e w4 ⟨rfl, hk⟩; have HK4 := hid (HK3.out.andNone hk); clear hk))
      go_ret2
      exact RChd.no rfl HK4.out
    | true =>
      by_cases hf : f = 0
      · subst hf
        cases is with
        | true =>
          have e : R = (6, []) := HM.out
          subst e
          go_enter Tryz.func18, Tryz.ntmps18
          go_wp2_with (first
            | (go_at_call 40; refine HFI.out.mono ?_; rintro e w1 ⟨s, au, nu, cu, rfl, hk⟩; have HK1 : Hid (Kp No w (bx w1 s d au nu cu)) := hid (hk.alloc _); clear hk)
            | (go_at_call 41; refine (HD.out _ HK1.out).mono ?_; rintro e w2 ⟨rfl, hk⟩; have HK2 := hid (HK1.out.andNone hk); clear hk)
            | (go_at_call 42; refine (HR.out _ HK2.out).mono ?_; rintro e w3 ⟨rfl, hk⟩; have HK3 := hid (HK2.out.andNone hk); clear hk)
            | (go_at_call 43; refine (HP.out _).mono ?_; rintro e w4 ⟨rfl, hk⟩; have HK4 := hid (HK3.out.andNone hk); clear hk))
          go_ret2
          exact RChd.no rfl HK4.out
        | false =>
          by_cases h6 : 60 ≤ n
          · have e : R = (2, []) := by
              have := HM.out
              simpa [h6] using this
            subst e
            have h6I : (60 : Int) ≤ (n : Int) := by omega
            go_enter Tryz.func18, Tryz.ntmps18
            go_wp2_with (first
              | (go_at_call 40; refine HFI.out.mono ?_; rintro e w1 ⟨s, au, nu, cu, rfl, hk⟩; have HK1 : Hid (Kp No w (bx w1 s d au nu cu)) := hid (hk.alloc _); clear hk)
              | (go_at_call 41; refine (HD.out _ HK1.out).mono ?_; rintro e w2 ⟨rfl, hk⟩; have HK2 := hid (HK1.out.andNone hk); clear hk)
              | (go_at_call 42; refine (HR.out _ HK2.out).mono ?_; rintro e w3 ⟨rfl, hk⟩; have HK3 := hid (HK2.out.andNone hk); clear hk)
              | (go_at_call 43; refine (HP.out _).mono ?_; rintro e w4 ⟨rfl, hk⟩; have HK4 := hid (HK3.out.andNone hk); clear hk))
            go_ret2
            exact RChd.no rfl HK4.out
          · have e : R = (0, pl) := by
              have := HM.out
              simpa [h6] using this
            subst e
            have h6I : ¬ (60 : Int) ≤ (n : Int) := by omega
            go_enter Tryz.func18, Tryz.ntmps18
            go_wp2_with (first
              | (go_at_call 40; refine HFI.out.mono ?_; rintro e w1 ⟨s, au, nu, cu, rfl, hk⟩; have HK1 : Hid (Kp No w (bx w1 s d au nu cu)) := hid (hk.alloc _); clear hk)
              | (go_at_call 41; refine (HD.out _ HK1.out).mono ?_; rintro e w2 ⟨rfl, hk⟩; have HK2 := hid (HK1.out.andNone hk); clear hk)
              | (go_at_call 42; refine (HR.out _ HK2.out).mono ?_; rintro e w3 ⟨rfl, hk⟩; have HK3 := hid (HK2.out.andNone hk); clear hk)
              | (go_at_call 43; refine (HP.out _).mono ?_; rintro e w4 ⟨rfl, hk⟩; have HK4 := hid (HK3.out.andNone hk); clear hk)
              | (go_at_call 44; refine (HPU.out _ HK4.out).mono ?_; rintro e w5 ⟨v5, rfl, hrow, hk⟩; have HK5 := hid (HK4.out.andNone hk); have HRW := hid hrow; clear hk hrow))
            go_ret2
            exact ⟨_, rfl, HRW.out, HK5.out⟩
      · have e : R = (f, []) := by
          have := HM.out
          simp only [if_true] at this
          rw [if_neg hf] at this
          exact this
        subst e
        have hfb : (f != 0) = true := by simpa using hf
        go_enter Tryz.func18, Tryz.ntmps18
        go_wp2_with (first
          | (go_at_call 40; refine HFI.out.mono ?_; rintro e w1 ⟨s, au, nu, cu, rfl, hk⟩; have HK1 : Hid (Kp No w (bx w1 s d au nu cu)) := hid (hk.alloc _); clear hk)
          | (go_at_call 41; refine (HD.out _ HK1.out).mono ?_; rintro e w2 ⟨rfl, hk⟩; have HK2 := hid (HK1.out.andNone hk); clear hk)
          | (go_at_call 42; refine (HR.out _ HK2.out).mono ?_; rintro e w3 ⟨rfl, hk⟩; have HK3 := hid (HK2.out.andNone hk); clear hk)
          | (go_at_call 43; refine (HP.out _).mono ?_; rintro e w4 ⟨rfl, hk⟩; have HK4 := hid (HK3.out.andNone hk); clear hk))
        go_ret2
        exact RChd.no rfl HK4.out

set_option maxHeartbeats 8000000 in
theorem rwrite_any (w : World) (v vb : Value) (t : List It) (p : ByteArray) (b : List Nat) (h : IRow Any w v t) (hl : t.length ≤ 1000) (hs : ∀ y ∈ t, ShortI y) (hp : p.size ≤ 10000) (hb : ByP Any w vb b) :
    Calls Tryz.prog 19 #[v, .string p, vb] w fun e w' => RChd w (writeR t p b) e w' := by
  have HFI := hid (rfind_all w v t p h (by omega))
  have HD := hid (fun (V : World) (k : Kp No w V) => rdir_any V v t p (h.kept k) (by omega) (by omega))
  have HR := hid (fun (V : World) (k : Kp No w V) => rright_any V v t (h.kept k) (by omega) hs)
  have HP := hid (fun V => rpath_any p (by omega) V)
  have HPU := hid (fun (V : World) (k : Kp No w V) => rput_any V v vb t (p, false, b) (h.kept k) (hb.kept k) (by omega) (fun y hy => by have := (hs y hy).1; omega) (by show p.size ≤ _; omega))
  have HM : Hid (writeR t p b = if (if rightB t then (if pathB (tx p) then homeF t p else 10) else 1) = 0 then (if dirAt t p then (8, []) else if 2000 < b.length then (2, []) else if (look t p).isNone && decide (60 ≤ t.length) then (2, []) else (0, putL t (p, false, b))) else ((if rightB t then (if pathB (tx p) then homeF t p else 10) else 1), [])) := rfl
  have hno : (look t p).isNone = !(look t p).isSome := by cases look t p <;> rfl
  have hdn : (look t p).isSome = false → dirAt t p = false := fun e => dirAt_none (by simpa using e)
  rw [hno] at HM
  clear hno
  obtain ⟨a, cap, rfl, _⟩ := h.form
  obtain ⟨ab, cb, rfl⟩ := hb.form
  obtain ⟨n, hn⟩ : ∃ n, t.length = n := ⟨_, rfl⟩
  obtain ⟨m, hm⟩ : ∃ m, b.length = m := ⟨_, rfl⟩
  rw [hn] at HFI HD HR HPU HM ⊢
  rw [hm] at HPU HM ⊢
  clear h hl hs hp hn hb hm
  generalize writeR t p b = R at *
  generalize rightB t = q1 at *
  have hpp : pathB p.data.toList = pathB (tx p) := rfl
  rw [hpp] at HP
  clear hpp
  generalize pathB (tx p) = q2 at *
  generalize homeF t p = f at *
  generalize dirAt t p = d at *
  generalize (look t p).isSome = is at *
  generalize putL t (p, false, b) = pl at *
  cases q1 with
  | false =>
    have e : R = (1, []) := HM.out
    subst e
    go_enter Tryz.func19, Tryz.ntmps19
    go_wp2_with (first
      | (go_at_call 40; refine HFI.out.mono ?_; rintro e w1 ⟨s, au, nu, cu, rfl, hk⟩; have HK1 : Hid (Kp No w (bx w1 s d au nu cu)) := hid (hk.alloc _); clear hk)
      | (go_at_call 41; refine (HD.out _ HK1.out).mono ?_; rintro e w2 ⟨rfl, hk⟩; have HK2 := hid (HK1.out.andNone hk); clear hk)
      | (go_at_call 42; refine (HR.out _ HK2.out).mono ?_; rintro e w3 ⟨rfl, hk⟩; have HK3 := hid (HK2.out.andNone hk); clear hk))
    go_ret2
    exact RChd.no rfl HK3.out
  | true =>
    cases q2 with
    | false =>
      have e : R = (10, []) := HM.out
      subst e
      go_enter Tryz.func19, Tryz.ntmps19
      go_wp2_with (first
        | (go_at_call 40; refine HFI.out.mono ?_; rintro e w1 ⟨s, au, nu, cu, rfl, hk⟩; have HK1 : Hid (Kp No w (bx w1 s d au nu cu)) := hid (hk.alloc _); clear hk)
        | (go_at_call 41; refine (HD.out _ HK1.out).mono ?_; rintro e w2 ⟨rfl, hk⟩; have HK2 := hid (HK1.out.andNone hk); clear hk)
        | (go_at_call 42; refine (HR.out _ HK2.out).mono ?_; rintro e w3 ⟨rfl, hk⟩; have HK3 := hid (HK2.out.andNone hk); clear hk)
        | (go_at_call 43; refine (HP.out _).mono ?_; rintro e w4 ⟨rfl, hk⟩; have HK4 := hid (HK3.out.andNone hk); clear hk))
      go_ret2
      exact RChd.no rfl HK4.out
    | true =>
      by_cases hf : f = 0
      · subst hf
        cases is with
        | true =>
          clear hdn
          cases d with
          | true =>
            have e : R = (8, []) := HM.out
            subst e
            go_enter Tryz.func19, Tryz.ntmps19
            go_wp2_with (first
              | (go_at_call 40; refine HFI.out.mono ?_; rintro e w1 ⟨s, au, nu, cu, rfl, hk⟩; have HK1 : Hid (Kp No w (bx w1 s true au nu cu)) := hid (hk.alloc _); have HJ1 : Hid (Kp No (bx w1 s true au nu cu) (bx w1 s true au nu cu)) := Kp.refl _ _; clear hk)
              | (go_at_call 41; refine (HD.out _ HK1.out).mono ?_; rintro e w2 ⟨rfl, hk⟩; have HK2 := hid (HK1.out.andNone hk); have HJ2 := hid (HJ1.out.andNone hk); clear hk)
              | (go_at_call 42; refine (HR.out _ HK2.out).mono ?_; rintro e w3 ⟨rfl, hk⟩; have HK3 := hid (HK2.out.andNone hk); have HJ3 := hid (HJ2.out.andNone hk); clear hk)
              | (go_at_call 43; refine (HP.out _).mono ?_; rintro e w4 ⟨rfl, hk⟩; have HK4 := hid (HK3.out.andNone hk); have HJ4 := hid (HJ3.out.andNone hk); have z1 := (box_it w1 (s, true, []) (.slice au nu cu) _ _ (HJ3.out.andNone hk)).2.1; clear hk))
            go_ret2
            exact RChd.no rfl HK4.out
          | false =>
            by_cases h2 : 2000 < m
            · have e : R = (2, []) := by
                have := HM.out
                simpa [h2] using this
              subst e
              have h2I : (2000 : Int) < (m : Int) := by omega
              go_enter Tryz.func19, Tryz.ntmps19
              go_wp2_with (first
                | (go_at_call 40; refine HFI.out.mono ?_; rintro e w1 ⟨s, au, nu, cu, rfl, hk⟩; have HK1 : Hid (Kp No w (bx w1 s false au nu cu)) := hid (hk.alloc _); have HJ1 : Hid (Kp No (bx w1 s false au nu cu) (bx w1 s false au nu cu)) := Kp.refl _ _; clear hk)
                | (go_at_call 41; refine (HD.out _ HK1.out).mono ?_; rintro e w2 ⟨rfl, hk⟩; have HK2 := hid (HK1.out.andNone hk); have HJ2 := hid (HJ1.out.andNone hk); clear hk)
                | (go_at_call 42; refine (HR.out _ HK2.out).mono ?_; rintro e w3 ⟨rfl, hk⟩; have HK3 := hid (HK2.out.andNone hk); have HJ3 := hid (HJ2.out.andNone hk); clear hk)
                | (go_at_call 43; refine (HP.out _).mono ?_; rintro e w4 ⟨rfl, hk⟩; have HK4 := hid (HK3.out.andNone hk); have HJ4 := hid (HJ3.out.andNone hk); have z1 := (box_it w1 (s, false, []) (.slice au nu cu) _ _ (HJ3.out.andNone hk)).2.1; clear hk))
              go_ret2
              exact RChd.no rfl HK4.out
            · have e : R = (0, pl) := by
                have := HM.out
                simpa [h2] using this
              subst e
              have h2I : ¬ (2000 : Int) < (m : Int) := by omega
              go_enter Tryz.func19, Tryz.ntmps19
              go_wp2_with (first
                | (go_at_call 40; refine HFI.out.mono ?_; rintro e w1 ⟨s, au, nu, cu, rfl, hk⟩; have HK1 : Hid (Kp No w (bx w1 s false au nu cu)) := hid (hk.alloc _); have HJ1 : Hid (Kp No (bx w1 s false au nu cu) (bx w1 s false au nu cu)) := Kp.refl _ _; clear hk)
                | (go_at_call 41; refine (HD.out _ HK1.out).mono ?_; rintro e w2 ⟨rfl, hk⟩; have HK2 := hid (HK1.out.andNone hk); have HJ2 := hid (HJ1.out.andNone hk); clear hk)
                | (go_at_call 42; refine (HR.out _ HK2.out).mono ?_; rintro e w3 ⟨rfl, hk⟩; have HK3 := hid (HK2.out.andNone hk); have HJ3 := hid (HJ2.out.andNone hk); clear hk)
                | (go_at_call 43; refine (HP.out _).mono ?_; rintro e w4 ⟨rfl, hk⟩; have HK4 := hid (HK3.out.andNone hk); have HJ4 := hid (HJ3.out.andNone hk); have z1 := (box_it w1 (s, false, []) (.slice au nu cu) _ _ (HJ3.out.andNone hk)).2.1; clear hk)
                | (go_at_call 44; refine (HPU.out _ HK4.out).mono ?_; rintro e w5 ⟨v5, rfl, hrow, hk⟩; have HK5 := hid (HK4.out.andNone hk); have HRW := hid hrow; clear hk hrow))
              go_ret2
              exact ⟨_, rfl, HRW.out, HK5.out⟩
        | false =>
          have e := hdn rfl
          subst e
          clear hdn
          by_cases h2 : 2000 < m
          · have e : R = (2, []) := by
              have := HM.out
              simpa [h2] using this
            subst e
            have h2I : (2000 : Int) < (m : Int) := by omega
            go_enter Tryz.func19, Tryz.ntmps19
            go_wp2_with (first
              | (go_at_call 40; refine HFI.out.mono ?_; rintro e w1 ⟨s, au, nu, cu, rfl, hk⟩; have HK1 : Hid (Kp No w (bx w1 s false au nu cu)) := hid (hk.alloc _); clear hk)
              | (go_at_call 41; refine (HD.out _ HK1.out).mono ?_; rintro e w2 ⟨rfl, hk⟩; have HK2 := hid (HK1.out.andNone hk); clear hk)
              | (go_at_call 42; refine (HR.out _ HK2.out).mono ?_; rintro e w3 ⟨rfl, hk⟩; have HK3 := hid (HK2.out.andNone hk); clear hk)
              | (go_at_call 43; refine (HP.out _).mono ?_; rintro e w4 ⟨rfl, hk⟩; have HK4 := hid (HK3.out.andNone hk); clear hk))
            go_ret2
            exact RChd.no rfl HK4.out
          · have h2I : ¬ (2000 : Int) < (m : Int) := by omega
            by_cases h6 : 60 ≤ n
            · have e : R = (2, []) := by
                have := HM.out
                simpa [h2, h6] using this
              subst e
              have h6I : (60 : Int) ≤ (n : Int) := by omega
              go_enter Tryz.func19, Tryz.ntmps19
              go_wp2_with (first
                | (go_at_call 40; refine HFI.out.mono ?_; rintro e w1 ⟨s, au, nu, cu, rfl, hk⟩; have HK1 : Hid (Kp No w (bx w1 s false au nu cu)) := hid (hk.alloc _); clear hk)
                | (go_at_call 41; refine (HD.out _ HK1.out).mono ?_; rintro e w2 ⟨rfl, hk⟩; have HK2 := hid (HK1.out.andNone hk); clear hk)
                | (go_at_call 42; refine (HR.out _ HK2.out).mono ?_; rintro e w3 ⟨rfl, hk⟩; have HK3 := hid (HK2.out.andNone hk); clear hk)
                | (go_at_call 43; refine (HP.out _).mono ?_; rintro e w4 ⟨rfl, hk⟩; have HK4 := hid (HK3.out.andNone hk); clear hk))
              go_ret2
              exact RChd.no rfl HK4.out
            · have e : R = (0, pl) := by
                have := HM.out
                simpa [h2, h6] using this
              subst e
              have h6I : ¬ (60 : Int) ≤ (n : Int) := by omega
              go_enter Tryz.func19, Tryz.ntmps19
              go_wp2_with (first
                | (go_at_call 40; refine HFI.out.mono ?_; rintro e w1 ⟨s, au, nu, cu, rfl, hk⟩; have HK1 : Hid (Kp No w (bx w1 s false au nu cu)) := hid (hk.alloc _); clear hk)
                | (go_at_call 41; refine (HD.out _ HK1.out).mono ?_; rintro e w2 ⟨rfl, hk⟩; have HK2 := hid (HK1.out.andNone hk); clear hk)
                | (go_at_call 42; refine (HR.out _ HK2.out).mono ?_; rintro e w3 ⟨rfl, hk⟩; have HK3 := hid (HK2.out.andNone hk); clear hk)
                | (go_at_call 43; refine (HP.out _).mono ?_; rintro e w4 ⟨rfl, hk⟩; have HK4 := hid (HK3.out.andNone hk); clear hk)
                | (go_at_call 44; refine (HPU.out _ HK4.out).mono ?_; rintro e w5 ⟨v5, rfl, hrow, hk⟩; have HK5 := hid (HK4.out.andNone hk); have HRW := hid hrow; clear hk hrow))
              go_ret2
              exact ⟨_, rfl, HRW.out, HK5.out⟩
      · have e : R = (f, []) := by
          have := HM.out
          simp only [if_true] at this
          rw [if_neg hf] at this
          exact this
        subst e
        have hfb : (f != 0) = true := by simpa using hf
        go_enter Tryz.func19, Tryz.ntmps19
        go_wp2_with (first
          | (go_at_call 40; refine HFI.out.mono ?_; rintro e w1 ⟨s, au, nu, cu, rfl, hk⟩; have HK1 : Hid (Kp No w (bx w1 s d au nu cu)) := hid (hk.alloc _); clear hk)
          | (go_at_call 41; refine (HD.out _ HK1.out).mono ?_; rintro e w2 ⟨rfl, hk⟩; have HK2 := hid (HK1.out.andNone hk); clear hk)
          | (go_at_call 42; refine (HR.out _ HK2.out).mono ?_; rintro e w3 ⟨rfl, hk⟩; have HK3 := hid (HK2.out.andNone hk); clear hk)
          | (go_at_call 43; refine (HP.out _).mono ?_; rintro e w4 ⟨rfl, hk⟩; have HK4 := hid (HK3.out.andNone hk); clear hk))
        go_ret2
        exact RChd.no rfl HK4.out

theorem look_under {t : List It} {p : ByteArray} (hr : rightB t = true) (hp : pathB (tx p) = true) : (underL t p = []) ↔ (look t p).isSome = false := by
  constructor
  · intro e
    cases hx : look t p with
    | none => rfl
    | some x =>
      exfalso
      obtain ⟨hm, hp'⟩ := look_mem hx
      have : x ∈ underL t p := List.mem_filter.2 ⟨hm, by rw [hp']; simp [withinB]⟩
      rw [e] at this
      cases this
  · intro e
    have hn : look t p = none := by simpa using e
    unfold underL
    rw [List.filter_eq_nil_iff]
    intro x hx
    rw [under_none hr (path_ne hp) hn x.1.size x hx (Nat.le_refl _)]
    simp

set_option maxHeartbeats 8000000 in
theorem rremove_any (w : World) (v : Value) (t : List It) (p : ByteArray) (deep : Bool) (h : IRow Any w v t) (hl : t.length ≤ 1000) (hs : ∀ y ∈ t, ShortI y) (hp : p.size ≤ 10000) :
    Calls Tryz.prog 20 #[v, .string p, .bool deep] w fun e w' => RChd w (removeR t p deep) e w' := by
  have HFI := hid (rfind_all w v t p h (by omega))
  have HR := hid (fun (V : World) (k : Kp No w V) => rright_any V v t (h.kept k) (by omega) hs)
  have HP := hid (fun V => rpath_any p (by omega) V)
  have HUN := hid (fun (V : World) (k : Kp No w V) => (runder_any V v t p V.heap.size (h.kept k).below (Nat.le_refl _) (by omega)).mono fun e w' h => (show ∃ a c, e = .returned (.slice a (underL t p).length c) ∧ Kp No V w' by
    obtain ⟨a, n, c, rfl, ho, _, hk⟩ := h
    obtain ⟨_, _, e0⟩ := ho.form
    cases e0
    exact ⟨a, c, rfl, hk⟩))
  have HWO := hid (fun (V : World) (k : Kp No w V) => (rwithout_any V v t p V.heap.size (h.kept k).below (Nat.le_refl _) (by omega)).mono fun e w' h => (show ∃ v', e = .returned v' ∧ IRow Any w' v' (outL t p) ∧ Kp No V w' by
    obtain ⟨a, n, c, rfl, ho, _, hk⟩ := h
    exact ⟨_, rfl, ho.row, hk⟩))
  have HM : Hid (removeR t p deep = if (if rightB t then (if pathB (tx p) then 0 else 10) else 1) = 0 then (if (look t p).isSome = false then (5, []) else if 1 < (underL t p).length ∧ deep = false then (9, []) else (0, outL t p)) else ((if rightB t then (if pathB (tx p) then 0 else 10) else 1), [])) := by
    have ea : askedF t [p] = (if rightB t then (if pathB (tx p) then 0 else 10) else 1) := by simp [askedF]
    unfold removeR Hid
    rw [ea]
    by_cases h1 : rightB t = true
    · by_cases h2 : pathB (tx p) = true
      · have hiff := look_under h1 h2
        simp only [h1, h2, if_true]
        by_cases h3 : underL t p = []
        · rw [if_pos h3, if_pos (hiff.1 h3)]
        · rw [if_neg h3, if_neg (fun h => h3 (hiff.2 h))]
      · simp [h1, h2]
    · simp [h1]
  obtain ⟨a, cap, rfl, _⟩ := h.form
  obtain ⟨n, hn⟩ : ∃ n, t.length = n := ⟨_, rfl⟩
  obtain ⟨m, hm⟩ : ∃ m, (underL t p).length = m := ⟨_, rfl⟩
  rw [hn] at HFI HR HUN HWO ⊢
  rw [hm] at HUN HM
  clear h hl hs hp hn hm
  generalize removeR t p deep = R at *
  generalize rightB t = q1 at *
  have hpp : pathB p.data.toList = pathB (tx p) := rfl
  rw [hpp] at HP
  clear hpp
  generalize pathB (tx p) = q2 at *
  generalize dirAt t p = d at *
  generalize (look t p).isSome = is at *
  generalize outL t p = ol at *
  cases q1 with
  | false =>
    have e : R = (1, []) := HM.out
    subst e
    go_enter Tryz.func20, Tryz.ntmps20
    go_wp2_with (first
      | (go_at_call 40; refine HFI.out.mono ?_; rintro e w1 ⟨s, au, nu, cu, rfl, hk⟩; have HK1 : Hid (Kp No w (bx w1 s d au nu cu)) := hid (hk.alloc _); clear hk)
      | (go_at_call 42; refine (HR.out _ HK1.out).mono ?_; rintro e w2 ⟨rfl, hk⟩; have HK2 := hid (HK1.out.andNone hk); clear hk))
    go_ret2
    exact RChd.no rfl HK2.out
  | true =>
    cases q2 with
    | false =>
      have e : R = (10, []) := HM.out
      subst e
      go_enter Tryz.func20, Tryz.ntmps20
      go_wp2_with (first
        | (go_at_call 40; refine HFI.out.mono ?_; rintro e w1 ⟨s, au, nu, cu, rfl, hk⟩; have HK1 : Hid (Kp No w (bx w1 s d au nu cu)) := hid (hk.alloc _); clear hk)
        | (go_at_call 42; refine (HR.out _ HK1.out).mono ?_; rintro e w2 ⟨rfl, hk⟩; have HK2 := hid (HK1.out.andNone hk); clear hk)
        | (go_at_call 43; refine (HP.out _).mono ?_; rintro e w3 ⟨rfl, hk⟩; have HK3 := hid (HK2.out.andNone hk); clear hk))
      go_ret2
      exact RChd.no rfl HK3.out
    | true =>
      cases is with
      | false =>
        have e : R = (5, []) := HM.out
        subst e
        go_enter Tryz.func20, Tryz.ntmps20
        go_wp2_with (first
          | (go_at_call 40; refine HFI.out.mono ?_; rintro e w1 ⟨s, au, nu, cu, rfl, hk⟩; have HK1 : Hid (Kp No w (bx w1 s d au nu cu)) := hid (hk.alloc _); clear hk)
          | (go_at_call 42; refine (HR.out _ HK1.out).mono ?_; rintro e w2 ⟨rfl, hk⟩; have HK2 := hid (HK1.out.andNone hk); clear hk)
          | (go_at_call 43; refine (HP.out _).mono ?_; rintro e w3 ⟨rfl, hk⟩; have HK3 := hid (HK2.out.andNone hk); clear hk))
        go_ret2
        exact RChd.no rfl HK3.out
      | true =>
        cases deep with
        | true =>
          have e : R = (0, ol) := by
            have := HM.out
            simpa using this
          subst e
          go_enter Tryz.func20, Tryz.ntmps20
          go_wp2_with (first
            | (go_at_call 40; refine HFI.out.mono ?_; rintro e w1 ⟨s, au, nu, cu, rfl, hk⟩; have HK1 : Hid (Kp No w (bx w1 s d au nu cu)) := hid (hk.alloc _); clear hk)
            | (go_at_call 42; refine (HR.out _ HK1.out).mono ?_; rintro e w2 ⟨rfl, hk⟩; have HK2 := hid (HK1.out.andNone hk); clear hk)
            | (go_at_call 43; refine (HP.out _).mono ?_; rintro e w3 ⟨rfl, hk⟩; have HK3 := hid (HK2.out.andNone hk); clear hk)
            | (go_at_call 46; refine (HWO.out _ HK3.out).mono ?_; rintro e w4 ⟨v4, rfl, hrow, hk⟩; have HK4 := hid (HK3.out.andNone hk); have HRW := hid hrow; clear hk hrow))
          go_ret2
          exact ⟨_, rfl, HRW.out, HK4.out⟩
        | false =>
          by_cases h1 : 1 < m
          · have e : R = (9, []) := by
              have := HM.out
              simpa [h1] using this
            subst e
            have h1I : (1 : Int) < (m : Int) := by omega
            go_enter Tryz.func20, Tryz.ntmps20
            go_wp2_with (first
              | (go_at_call 40; refine HFI.out.mono ?_; rintro e w1 ⟨s, au, nu, cu, rfl, hk⟩; have HK1 : Hid (Kp No w (bx w1 s d au nu cu)) := hid (hk.alloc _); clear hk)
              | (go_at_call 42; refine (HR.out _ HK1.out).mono ?_; rintro e w2 ⟨rfl, hk⟩; have HK2 := hid (HK1.out.andNone hk); clear hk)
              | (go_at_call 43; refine (HP.out _).mono ?_; rintro e w3 ⟨rfl, hk⟩; have HK3 := hid (HK2.out.andNone hk); clear hk)
              | (go_at_call 45; refine (HUN.out _ HK3.out).mono ?_; rintro e w4 ⟨au4, cu4, rfl, hk⟩; have HK4 := hid (HK3.out.andNone hk); clear hk))
            go_ret2
            exact RChd.no rfl HK4.out
          · have e : R = (0, ol) := by
              have := HM.out
              simpa [h1] using this
            subst e
            have h1I : ¬ (1 : Int) < (m : Int) := by omega
            go_enter Tryz.func20, Tryz.ntmps20
            go_wp2_with (first
              | (go_at_call 40; refine HFI.out.mono ?_; rintro e w1 ⟨s, au, nu, cu, rfl, hk⟩; have HK1 : Hid (Kp No w (bx w1 s d au nu cu)) := hid (hk.alloc _); clear hk)
              | (go_at_call 42; refine (HR.out _ HK1.out).mono ?_; rintro e w2 ⟨rfl, hk⟩; have HK2 := hid (HK1.out.andNone hk); clear hk)
              | (go_at_call 43; refine (HP.out _).mono ?_; rintro e w3 ⟨rfl, hk⟩; have HK3 := hid (HK2.out.andNone hk); clear hk)
              | (go_at_call 46; refine (HWO.out _ HK4.out).mono ?_; rintro e w5 ⟨v5, rfl, hrow, hk⟩; have HK5 := hid (HK4.out.andNone hk); have HRW := hid hrow; clear hk hrow)
              | (go_at_call 45; refine (HUN.out _ HK3.out).mono ?_; rintro e w4 ⟨au4, cu4, rfl, hk⟩; have HK4 := hid (HK3.out.andNone hk); clear hk))
            go_ret2
            exact ⟨_, rfl, HRW.out, HK5.out⟩

end Go.Proofs.YtdooiflmjeibdaaGreatDoor.Tr
end

section
/-
  Rename, of the document.
-/
namespace Go.Proofs.YtdooiflmjeibdaaGreatDoor.Tr
open Go.RowKit

theorem stays_eq (t : List It) (p q : ByteArray) : staysF t p q = if rightB t then (if pathB (tx p) && pathB (tx q) then (if (look t p).isSome then (if homeF t q = 0 then (if p = q then 0 else if (look t q).isSome then 6 else if withinB (tx p) (tx q) then 1 else 0) else homeF t q) else 5) else 10) else 1 := by
  have ea : askedF t [p, q] = if rightB t then (if pathB (tx p) && pathB (tx q) then 0 else 10) else 1 := by simp [askedF]
  unfold staysF
  rw [ea]
  by_cases h1 : rightB t = true
  · by_cases h2 : (pathB (tx p) && pathB (tx q)) = true
    · simp only [h1, h2, if_true]
      cases look t p with
      | none => rfl
      | some x =>
        cases look t q with
        | none => rfl
        | some y => rfl
    · rw [if_pos h1, if_neg h2, if_pos h1, if_neg h2]
      rfl
  · rw [if_neg h1, if_neg h1]
    rfl

set_option maxHeartbeats 16000000 in
set_option maxRecDepth 100000 in
theorem rrename_any (w : World) (v : Value) (t : List It) (p q : ByteArray) (h : IRow Any w v t) (hl : t.length ≤ 1000) (hs : ∀ y ∈ t, ShortI y) (hp : p.size ≤ 10000) (hq : q.size ≤ 10000) :
    Calls Tryz.prog 21 #[v, .string p, .string q] w fun e w' => RChd w (renF t p q) e w' := by
  have HF1 := hid (rfind_all w v t p h (by omega))
  have HF2 := hid (fun (V : World) (k : Kp No w V) => rfind_all V v t q (h.kept k) (by omega))
  have HD := hid (fun (V : World) (k : Kp No w V) => rdir_any V v t q (h.kept k) (by omega) (by omega))
  have HR := hid (fun (V : World) (k : Kp No w V) => rright_any V v t (h.kept k) (by omega) hs)
  have HP := hid (fun V => rpath_any p (by omega) V)
  have HQ := hid (fun V => rpath_any q (by omega) V)
  have HWI := hid (fun V => rwithin_any p q V)
  have HUN := hid (fun (V : World) (k : Kp No w V) => (runder_any V v t p V.heap.size (h.kept k).below (Nat.le_refl _) (by omega)).mono fun e w' h => (show ∃ a c, e = .returned (.slice a (underL t p).length c) ∧ IRow Any w' (.slice a (underL t p).length c) (underL t p) ∧ Kp No V w' by
    obtain ⟨a, n, c, rfl, ho, _, hk⟩ := h
    have hrow := ho.row
    obtain ⟨_, _, e0⟩ := ho.form
    cases e0
    exact ⟨a, c, rfl, hrow, hk⟩))
  have HWO := hid (fun (V : World) (k : Kp No w V) => (rwithout_any V v t p V.heap.size (h.kept k).below (Nat.le_refl _) (by omega)).mono fun e w' h => (show ∃ v', e = .returned v' ∧ IRow Any w' v' (outL t p) ∧ Kp No V w' by
    obtain ⟨a, n, c, rfl, ho, _, hk⟩ := h
    exact ⟨_, rfl, ho.row, hk⟩))
  have HM : Hid (renF t p q = if staysF t p q = 0 then (if (underL t p).all (fun x => pathB (tx (mvP p q x).1)) then (0, ((underL t p).map (mvP p q)).foldl putL (outL t p)) else (10, [])) else (staysF t p q, [])) := rfl
  rw [stays_eq] at HM
  have HW : Hid (∀ x ∈ underL t p, p.size ≤ x.1.size) := fun x hx => within_len (List.mem_filter.1 hx).2
  have HSH : Hid (∀ x ∈ underL t p, ShortI x) := fun x hx => hs x (List.mem_filter.1 hx).1
  have HSO : Hid (∀ x ∈ outL t p, ShortI x) := fun x hx => hs x (List.mem_filter.1 hx).1
  have hul : Hid ((underL t p).length ≤ 1000) := Nat.le_trans (List.length_filter_le _ _) hl
  have hol : Hid ((outL t p).length ≤ 1000) := Nat.le_trans (List.length_filter_le _ _) hl
  have hwas : p = q → (look t q).isSome = (look t p).isSome := fun e => by rw [e]
  have hps : p.size ≤ 10000 := hp
  have hqs : q.size ≤ 10000 := hq
  obtain ⟨a, cap, rfl, _⟩ := h.form
  clear h hl hs hp hq
  generalize renF t p q = R at *
  generalize rightB t = q1 at *
  have hpp : pathB p.data.toList = pathB (tx p) := rfl
  have hqq : pathB q.data.toList = pathB (tx q) := rfl
  have hww : withinB p.data.toList q.data.toList = withinB (tx p) (tx q) := rfl
  rw [hpp] at HP
  rw [hqq] at HQ
  rw [hww] at HWI
  clear hpp hqq hww
  generalize pathB (tx p) = q2 at *
  generalize pathB (tx q) = q3 at *
  generalize withinB (tx p) (tx q) = wi at *
  generalize homeF t q = f at *
  generalize dirAt t p = d1 at *
  generalize dirAt t q = d2 at *
  generalize (look t p).isSome = is at *
  generalize (look t q).isSome = was at *
  generalize outL t p = os at *
  generalize underL t p = us at *
  obtain ⟨n, hn⟩ : ∃ n, us.length = n := ⟨_, rfl⟩
  have HN := hid hn
  have hnb : n ≤ 1000 := by rw [← hn]; exact hul.out
  rw [hn] at HUN
  clear hn
  cases q1 with
  | false =>
    have e : R = (1, []) := HM.out
    subst e
    go_enter Tryz.func21, Tryz.ntmps21
    go_wp2_with (first
      | (go_at_call 40; refine (HF2.out _ HK1.out).mono ?_; rintro e w2 ⟨s2, au2, nu2, cu2, rfl, hk⟩; have HK2 : Hid (Kp No w (bx w2 s2 d2 au2 nu2 cu2)) := hid ((HK1.out.andNone hk).alloc _); clear hk)
      | (go_at_call 40; refine HF1.out.mono ?_; rintro e w1 ⟨s1, au1, nu1, cu1, rfl, hk⟩; have HK1 : Hid (Kp No w (bx w1 s1 d1 au1 nu1 cu1)) := hid (hk.alloc _); clear hk)
      | (go_at_call 41; refine (HD.out _ HK2.out).mono ?_; rintro e w3 ⟨rfl, hk⟩; have HK3 := hid (HK2.out.andNone hk); clear hk)
      | (go_at_call 42; refine (HR.out _ HK3.out).mono ?_; rintro e w4 ⟨rfl, hk⟩; have HK4 := hid (HK3.out.andNone hk); clear hk))
    go_ret2
    exact RChd.no rfl HK4.out
  | true =>
    cases q2 with
    | false =>
      have e : R = (10, []) := HM.out
      subst e
      go_enter Tryz.func21, Tryz.ntmps21
      go_wp2_with (first
        | (go_at_call 40; refine (HF2.out _ HK1.out).mono ?_; rintro e w2 ⟨s2, au2, nu2, cu2, rfl, hk⟩; have HK2 : Hid (Kp No w (bx w2 s2 d2 au2 nu2 cu2)) := hid ((HK1.out.andNone hk).alloc _); clear hk)
        | (go_at_call 40; refine HF1.out.mono ?_; rintro e w1 ⟨s1, au1, nu1, cu1, rfl, hk⟩; have HK1 : Hid (Kp No w (bx w1 s1 d1 au1 nu1 cu1)) := hid (hk.alloc _); clear hk)
        | (go_at_call 41; refine (HD.out _ HK2.out).mono ?_; rintro e w3 ⟨rfl, hk⟩; have HK3 := hid (HK2.out.andNone hk); clear hk)
        | (go_at_call 42; refine (HR.out _ HK3.out).mono ?_; rintro e w4 ⟨rfl, hk⟩; have HK4 := hid (HK3.out.andNone hk); clear hk)
        | (go_at_call 43; refine (HP.out _).mono ?_; rintro e w5 ⟨rfl, hk⟩; have HK5 := hid (HK4.out.andNone hk); clear hk))
      go_ret2
      exact RChd.no rfl HK5.out
    | true =>
      cases q3 with
      | false =>
        have e : R = (10, []) := HM.out
        subst e
        go_enter Tryz.func21, Tryz.ntmps21
        go_wp2_with (first
          | (go_at_call 40; refine (HF2.out _ HK1.out).mono ?_; rintro e w2 ⟨s2, au2, nu2, cu2, rfl, hk⟩; have HK2 : Hid (Kp No w (bx w2 s2 d2 au2 nu2 cu2)) := hid ((HK1.out.andNone hk).alloc _); clear hk)
          | (go_at_call 40; refine HF1.out.mono ?_; rintro e w1 ⟨s1, au1, nu1, cu1, rfl, hk⟩; have HK1 : Hid (Kp No w (bx w1 s1 d1 au1 nu1 cu1)) := hid (hk.alloc _); clear hk)
          | (go_at_call 41; refine (HD.out _ HK2.out).mono ?_; rintro e w3 ⟨rfl, hk⟩; have HK3 := hid (HK2.out.andNone hk); clear hk)
          | (go_at_call 42; refine (HR.out _ HK3.out).mono ?_; rintro e w4 ⟨rfl, hk⟩; have HK4 := hid (HK3.out.andNone hk); clear hk)
          | (go_at_call 43; have hk5 := HK5.out; refine (HQ.out _).mono ?_; clear hk5; rintro e w6 ⟨rfl, hk⟩; have HK6 := hid (HK5.out.andNone hk); clear hk)
          | (go_at_call 43; refine (HP.out _).mono ?_; rintro e w5 ⟨rfl, hk⟩; have HK5 := hid (HK4.out.andNone hk); clear hk))
        go_ret2
        exact RChd.no rfl HK6.out
      | true =>
        cases is with
        | false =>
          have e : R = (5, []) := HM.out
          subst e
          go_enter Tryz.func21, Tryz.ntmps21
          go_wp2_with (first
            | (go_at_call 40; refine (HF2.out _ HK1.out).mono ?_; rintro e w2 ⟨s2, au2, nu2, cu2, rfl, hk⟩; have HK2 : Hid (Kp No w (bx w2 s2 d2 au2 nu2 cu2)) := hid ((HK1.out.andNone hk).alloc _); clear hk)
            | (go_at_call 40; refine HF1.out.mono ?_; rintro e w1 ⟨s1, au1, nu1, cu1, rfl, hk⟩; have HK1 : Hid (Kp No w (bx w1 s1 d1 au1 nu1 cu1)) := hid (hk.alloc _); clear hk)
            | (go_at_call 41; refine (HD.out _ HK2.out).mono ?_; rintro e w3 ⟨rfl, hk⟩; have HK3 := hid (HK2.out.andNone hk); clear hk)
            | (go_at_call 42; refine (HR.out _ HK3.out).mono ?_; rintro e w4 ⟨rfl, hk⟩; have HK4 := hid (HK3.out.andNone hk); clear hk)
            | (go_at_call 43; have hk5 := HK5.out; refine (HQ.out _).mono ?_; clear hk5; rintro e w6 ⟨rfl, hk⟩; have HK6 := hid (HK5.out.andNone hk); clear hk)
            | (go_at_call 43; refine (HP.out _).mono ?_; rintro e w5 ⟨rfl, hk⟩; have HK5 := hid (HK4.out.andNone hk); clear hk))
          go_ret2
          exact RChd.no rfl HK6.out
        | true =>
          by_cases hf : f = 0
          · subst hf
            have h1 := str_eq p q
            by_cases hpq : p = q
            · have heq : (p.toList == q.toList) = true := by rw [h1]; simpa using hpq
              have e := hwas hpq
              subst e
              have hm := hid (show R = if us.all (fun x => pathB (tx (mvP p q x).1)) then (0, (us.map (mvP p q)).foldl putL os) else (10, []) from HM.out.trans (by simp [hpq]))
              clear HM h1 hpq hwas
              have HM := hm
              clear hm
              go_enter Tryz.func21, Tryz.ntmps21
              go_wp2_with (first
                | (go_at_call 40; refine (HF2.out _ HK1.out).mono ?_; rintro e w2 ⟨s2, au2, nu2, cu2, rfl, hk⟩; have HK2 : Hid (Kp No w (bx w2 s2 d2 au2 nu2 cu2)) := hid ((HK1.out.andNone hk).alloc _); clear hk)
                | (go_at_call 40; refine HF1.out.mono ?_; rintro e w1 ⟨s1, au1, nu1, cu1, rfl, hk⟩; have HK1 : Hid (Kp No w (bx w1 s1 d1 au1 nu1 cu1)) := hid (hk.alloc _); clear hk)
                | (go_at_call 41; refine (HD.out _ HK2.out).mono ?_; rintro e w3 ⟨rfl, hk⟩; have HK3 := hid (HK2.out.andNone hk); clear hk)
                | (go_at_call 42; refine (HR.out _ HK3.out).mono ?_; rintro e w4 ⟨rfl, hk⟩; have HK4 := hid (HK3.out.andNone hk); clear hk)
                | (go_at_call 43; have hk5 := HK5.out; refine (HQ.out _).mono ?_; clear hk5; rintro e w6 ⟨rfl, hk⟩; have HK6 := hid (HK5.out.andNone hk); clear hk)
                | (go_at_call 43; refine (HP.out _).mono ?_; rintro e w5 ⟨rfl, hk⟩; have HK5 := hid (HK4.out.andNone hk); clear hk)
                | (go_at_call 45; refine (HUN.out _ HK8.out).mono ?_; rintro e w9 ⟨a9, c9, rfl, hrow, hk⟩; have HK9 := hid (HK8.out.andNone hk); have HUS := hid hrow; have HOS2 := hid (HOS.out.kept hk); clear hk hrow)
                | (go_at_call 46; refine (HWO.out _ HK6.out).mono ?_; rintro e w8 ⟨v8, rfl, hrow, hk⟩; have HK8 := hid (HK6.out.andNone hk); have HOS := hid hrow; clear hk hrow))
              go_loopw [13, 15] (fun v13 z wr => ∃ i : Nat, z = .int .i64 i ∧ i ≤ n ∧ Hid (IRow Any wr v13 (((us.take i).map (mvP p q)).foldl putL os) ∧ Kp No w9 wr) ∧ Hid ((us.take i).all (fun x => pathB (tx (mvP p q x).1)) = true)) (fun _ z _ => n - (intOf z).toNat)
              case atStart => exact ⟨0, rfl, Nat.zero_le _, ⟨by simpa using HOS2.out, Kp.refl _ _⟩, by simp [Hid]⟩
              case round =>
                obtain ⟨i, rfl, hi, HT, HALL⟩ := hrel
                by_cases hlt : i < n
                · have hltI : (i : Int) < (n : Int) := by omega
                  have hi0 : (0 : Int) ≤ (i : Int) := by omega
                  obtain ⟨x, hx⟩ : ∃ x, us[i]? = some x := ⟨_, List.getElem?_eq_getElem (by rw [HN.out]; omega)⟩
                  have HX := hid hx
                  have HWX := hid (HW.out x (List.mem_of_getElem? hx))
                  have HSX := hid (HSH.out x (List.mem_of_getElem? hx))
                  obtain ⟨g, o, cap', e, hc⟩ := (HUS.out.kept HT.out.2).cells (by rintro rfl; simp at hx)
                  rw [HN.out] at e
                  cases e
                  obtain ⟨u, k0, k1, k2, hb⟩ := hc _ (Kp.refl _ _) i x hx
                  obtain ⟨au, cu, e⟩ := hb.form
                  subst e
                  have HU := hid hb
                  have hpx : (p.size : Int) ≤ (x.1.size : Int) := by have := HWX.out; omega
                  have HXS : Hid (x.1.size ≤ 10000) := HSX.out.1
                  clear hx hb hc
                  have hbig : ¬ (9223372036854775807 < q.size + (x.1.size - p.size)) := by have := HXS.out; omega
                  have HPT := hid (fun W => rpath_any (q ++ x.1.extract p.size x.1.size) (by have := HXS.out; rw [ByteArray.size_append, ByteArray.size_extract]; omega) W)
                  have HZS : Hid (∀ y ∈ ((us.take i).map (mvP p q)).foldl putL os, y.1.size ≤ 20000000) := fun y hy => by
                    rcases fold_mem _ _ hy with h1 | h1
                    · have := (HSO.out y h1).1; omega
                    · obtain ⟨z, hz, rfl⟩ := List.mem_map.1 h1
                      have h2 := path_size (List.all_eq_true.1 HALL.out z hz)
                      rw [tx_len] at h2
                      omega
                  have HZL : Hid ((((us.take i).map (mvP p q)).foldl putL os).length ≤ 10000) := by
                    have h1 := fold_len ((us.take i).map (mvP p q)) os
                    rw [List.length_map] at h1
                    have h2 := List.length_take_le i us
                    have h3 := hol.out
                    unfold Hid
                    omega
                  cases hpa : pathB (tx (mvP p q x).1) with
                  | false =>
                    have hpa' : pathB (q ++ x.1.extract p.size x.1.size).data.toList = false := hpa
                    rw [hpa'] at HPT
                    have HPA := hid hpa
                    clear hpa hpa'
                    go_wp2_with (go_at_call 43; refine (HPT.out _).mono ?_; rintro e w10 ⟨rfl, hk⟩; have HK10 := hid (((Kp.refl No _).alloc _).andNone hk); have HB10 := hid ((Blk.new wr 41 [.string (q ++ x.1.extract p.size x.1.size), .bool x.2.1, .slice au x.2.2.length cu]).kp hk (fun h => h)); have b0 := HB10.out.cell 0; have b1 := HB10.out.cell 1; have b2 := HB10.out.cell 2; simp only [List.getElem?_cons_zero, List.getElem?_cons_succ] at b0 b1 b2; clear hk)
                    go_ret2
                    have e : R = (10, []) := by
                      rw [HM.out, if_neg (by
                        intro hall
                        have := List.all_eq_true.1 hall x (List.mem_of_getElem? HX.out)
                        rw [HPA.out] at this
                        cases this)]
                    rw [e]
                    exact RChd.no rfl ((HK9.out.andNone HT.out.2).andNone HK10.out)
                  | true =>
                    have hpa' : pathB (q ++ x.1.extract p.size x.1.size).data.toList = true := hpa
                    rw [hpa'] at HPT
                    have HPA := hid hpa
                    clear hpa hpa'
                    have HPU : Hid (∀ V, Kp No wr V → Calls Tryz.prog 44 #[u13, .agg #[.string (q ++ x.1.extract p.size x.1.size), .bool x.2.1, .slice au x.2.2.length cu]] V fun e w' => ∃ v', e = .returned v' ∧ IRow Any w' v' (putL (((us.take i).map (mvP p q)).foldl putL os) (mvP p q x)) ∧ Kp No V w') := fun V k =>
                      rput_any V u13 (.slice au x.2.2.length cu) _ (mvP p q x) (HT.out.1.kept k) (HU.out.kept k) HZL.out HZS.out (by
                        have h2 := path_size HPA.out
                        rw [tx_len] at h2
                        omega)
                    go_wp2_with (first | (go_at_call 43; refine (HPT.out _).mono ?_; rintro e w10 ⟨rfl, hk⟩; have HK10 := hid (((Kp.refl No _).alloc _).andNone hk); have HB10 := hid ((Blk.new wr 41 [.string (q ++ x.1.extract p.size x.1.size), .bool x.2.1, .slice au x.2.2.length cu]).kp hk (fun h => h)); have b0 := HB10.out.cell 0; have b1 := HB10.out.cell 1; have b2 := HB10.out.cell 2; simp only [List.getElem?_cons_zero, List.getElem?_cons_succ] at b0 b1 b2; clear hk) | (go_at_call 44; refine (HPU.out _ HK10.out).mono ?_; rintro e w11 ⟨v11, rfl, hrow, hk⟩; have HK11 := hid (HK10.out.andNone hk); have HZ := hid hrow; clear hk hrow))
                    go_roundw
                    case rel => exact ⟨i + 1, by go_num, by omega, ⟨by
                      rw [take_next HX.out, List.map_append, List.foldl_append]
                      exact HZ.out, HT.out.2.andNone HK11.out⟩, by
                      rw [Hid, take_next HX.out, List.all_append, HALL.out]
                      simpa using HPA.out⟩
                    case measure => simp [intOf] <;> omega
                · have hltI : ¬ (i : Int) < (n : Int) := by omega
                  have ei : us.take i = us := List.take_of_length_le (by have := HN.out; omega)
                  go_wp2
                  go_ret2
                  have h1 := HALL.out
                  have h2 := HT.out.1
                  rw [ei] at h1 h2
                  have e : R = (0, (us.map (mvP p q)).foldl putL os) := by rw [HM.out, if_pos h1]
                  rw [e]
                  exact ⟨_, rfl, h2, HK9.out.andNone HT.out.2⟩
            · have heq : (p.toList == q.toList) = false := by rw [h1]; simpa using hpq
              clear hwas
              cases was with
              | true =>
                have e : R = (6, []) := by
                  have := HM.out
                  simpa [hpq] using this
                subst e
                clear h1 hpq
                go_enter Tryz.func21, Tryz.ntmps21
                go_wp2_with (first
                  | (go_at_call 40; refine (HF2.out _ HK1.out).mono ?_; rintro e w2 ⟨s2, au2, nu2, cu2, rfl, hk⟩; have HK2 : Hid (Kp No w (bx w2 s2 d2 au2 nu2 cu2)) := hid ((HK1.out.andNone hk).alloc _); clear hk)
                  | (go_at_call 40; refine HF1.out.mono ?_; rintro e w1 ⟨s1, au1, nu1, cu1, rfl, hk⟩; have HK1 : Hid (Kp No w (bx w1 s1 d1 au1 nu1 cu1)) := hid (hk.alloc _); clear hk)
                  | (go_at_call 41; refine (HD.out _ HK2.out).mono ?_; rintro e w3 ⟨rfl, hk⟩; have HK3 := hid (HK2.out.andNone hk); clear hk)
                  | (go_at_call 42; refine (HR.out _ HK3.out).mono ?_; rintro e w4 ⟨rfl, hk⟩; have HK4 := hid (HK3.out.andNone hk); clear hk)
                  | (go_at_call 43; have hk5 := HK5.out; refine (HQ.out _).mono ?_; clear hk5; rintro e w6 ⟨rfl, hk⟩; have HK6 := hid (HK5.out.andNone hk); clear hk)
                  | (go_at_call 43; refine (HP.out _).mono ?_; rintro e w5 ⟨rfl, hk⟩; have HK5 := hid (HK4.out.andNone hk); clear hk))
                go_ret2
                exact RChd.no rfl HK6.out
              | false =>
                cases wi with
                | true =>
                  have e : R = (1, []) := by
                    have := HM.out
                    simpa [hpq] using this
                  subst e
                  clear h1 hpq
                  go_enter Tryz.func21, Tryz.ntmps21
                  go_wp2_with (first
                    | (go_at_call 40; refine (HF2.out _ HK1.out).mono ?_; rintro e w2 ⟨s2, au2, nu2, cu2, rfl, hk⟩; have HK2 : Hid (Kp No w (bx w2 s2 d2 au2 nu2 cu2)) := hid ((HK1.out.andNone hk).alloc _); clear hk)
                    | (go_at_call 40; refine HF1.out.mono ?_; rintro e w1 ⟨s1, au1, nu1, cu1, rfl, hk⟩; have HK1 : Hid (Kp No w (bx w1 s1 d1 au1 nu1 cu1)) := hid (hk.alloc _); clear hk)
                    | (go_at_call 41; refine (HD.out _ HK2.out).mono ?_; rintro e w3 ⟨rfl, hk⟩; have HK3 := hid (HK2.out.andNone hk); clear hk)
                    | (go_at_call 42; refine (HR.out _ HK3.out).mono ?_; rintro e w4 ⟨rfl, hk⟩; have HK4 := hid (HK3.out.andNone hk); clear hk)
                    | (go_at_call 43; have hk5 := HK5.out; refine (HQ.out _).mono ?_; clear hk5; rintro e w6 ⟨rfl, hk⟩; have HK6 := hid (HK5.out.andNone hk); clear hk)
                    | (go_at_call 43; refine (HP.out _).mono ?_; rintro e w5 ⟨rfl, hk⟩; have HK5 := hid (HK4.out.andNone hk); clear hk)
                    | (go_at_call 47; refine (HWI.out _).mono ?_; rintro e w7 ⟨rfl, hw7⟩; subst hw7))
                  go_ret2
                  exact RChd.no rfl HK6.out
                | false =>
                  have hm := hid (show R = if us.all (fun x => pathB (tx (mvP p q x).1)) then (0, (us.map (mvP p q)).foldl putL os) else (10, []) from HM.out.trans (by simp [hpq]))
                  clear HM h1 hpq
                  have HM := hm
                  clear hm
                  go_enter Tryz.func21, Tryz.ntmps21
                  go_wp2_with (first
                    | (go_at_call 40; refine (HF2.out _ HK1.out).mono ?_; rintro e w2 ⟨s2, au2, nu2, cu2, rfl, hk⟩; have HK2 : Hid (Kp No w (bx w2 s2 d2 au2 nu2 cu2)) := hid ((HK1.out.andNone hk).alloc _); clear hk)
                    | (go_at_call 40; refine HF1.out.mono ?_; rintro e w1 ⟨s1, au1, nu1, cu1, rfl, hk⟩; have HK1 : Hid (Kp No w (bx w1 s1 d1 au1 nu1 cu1)) := hid (hk.alloc _); clear hk)
                    | (go_at_call 41; refine (HD.out _ HK2.out).mono ?_; rintro e w3 ⟨rfl, hk⟩; have HK3 := hid (HK2.out.andNone hk); clear hk)
                    | (go_at_call 42; refine (HR.out _ HK3.out).mono ?_; rintro e w4 ⟨rfl, hk⟩; have HK4 := hid (HK3.out.andNone hk); clear hk)
                    | (go_at_call 43; have hk5 := HK5.out; refine (HQ.out _).mono ?_; clear hk5; rintro e w6 ⟨rfl, hk⟩; have HK6 := hid (HK5.out.andNone hk); clear hk)
                    | (go_at_call 43; refine (HP.out _).mono ?_; rintro e w5 ⟨rfl, hk⟩; have HK5 := hid (HK4.out.andNone hk); clear hk)
                    | (go_at_call 47; refine (HWI.out _).mono ?_; rintro e w7 ⟨rfl, hw7⟩; subst hw7)
                    | (go_at_call 45; refine (HUN.out _ HK8.out).mono ?_; rintro e w9 ⟨a9, c9, rfl, hrow, hk⟩; have HK9 := hid (HK8.out.andNone hk); have HUS := hid hrow; have HOS2 := hid (HOS.out.kept hk); clear hk hrow)
                    | (go_at_call 46; refine (HWO.out _ HK6.out).mono ?_; rintro e w8 ⟨v8, rfl, hrow, hk⟩; have HK8 := hid (HK6.out.andNone hk); have HOS := hid hrow; clear hk hrow))
                  go_loopw [13, 15] (fun v13 z wr => ∃ i : Nat, z = .int .i64 i ∧ i ≤ n ∧ Hid (IRow Any wr v13 (((us.take i).map (mvP p q)).foldl putL os) ∧ Kp No w9 wr) ∧ Hid ((us.take i).all (fun x => pathB (tx (mvP p q x).1)) = true)) (fun _ z _ => n - (intOf z).toNat)
                  case atStart => exact ⟨0, rfl, Nat.zero_le _, ⟨by simpa using HOS2.out, Kp.refl _ _⟩, by simp [Hid]⟩
                  case round =>
                    obtain ⟨i, rfl, hi, HT, HALL⟩ := hrel
                    by_cases hlt : i < n
                    · have hltI : (i : Int) < (n : Int) := by omega
                      have hi0 : (0 : Int) ≤ (i : Int) := by omega
                      obtain ⟨x, hx⟩ : ∃ x, us[i]? = some x := ⟨_, List.getElem?_eq_getElem (by rw [HN.out]; omega)⟩
                      have HX := hid hx
                      have HWX := hid (HW.out x (List.mem_of_getElem? hx))
                      have HSX := hid (HSH.out x (List.mem_of_getElem? hx))
                      obtain ⟨g, o, cap', e, hc⟩ := (HUS.out.kept HT.out.2).cells (by rintro rfl; simp at hx)
                      rw [HN.out] at e
                      cases e
                      obtain ⟨u, k0, k1, k2, hb⟩ := hc _ (Kp.refl _ _) i x hx
                      obtain ⟨au, cu, e⟩ := hb.form
                      subst e
                      have HU := hid hb
                      have hpx : (p.size : Int) ≤ (x.1.size : Int) := by have := HWX.out; omega
                      have HXS : Hid (x.1.size ≤ 10000) := HSX.out.1
                      clear hx hb hc
                      have hbig : ¬ (9223372036854775807 < q.size + (x.1.size - p.size)) := by have := HXS.out; omega
                      have HPT := hid (fun W => rpath_any (q ++ x.1.extract p.size x.1.size) (by have := HXS.out; rw [ByteArray.size_append, ByteArray.size_extract]; omega) W)
                      have HZS : Hid (∀ y ∈ ((us.take i).map (mvP p q)).foldl putL os, y.1.size ≤ 20000000) := fun y hy => by
                        rcases fold_mem _ _ hy with h1 | h1
                        · have := (HSO.out y h1).1; omega
                        · obtain ⟨z, hz, rfl⟩ := List.mem_map.1 h1
                          have h2 := path_size (List.all_eq_true.1 HALL.out z hz)
                          rw [tx_len] at h2
                          omega
                      have HZL : Hid ((((us.take i).map (mvP p q)).foldl putL os).length ≤ 10000) := by
                        have h1 := fold_len ((us.take i).map (mvP p q)) os
                        rw [List.length_map] at h1
                        have h2 := List.length_take_le i us
                        have h3 := hol.out
                        unfold Hid
                        omega
                      cases hpa : pathB (tx (mvP p q x).1) with
                      | false =>
                        have hpa' : pathB (q ++ x.1.extract p.size x.1.size).data.toList = false := hpa
                        rw [hpa'] at HPT
                        have HPA := hid hpa
                        clear hpa hpa'
                        go_wp2_with (go_at_call 43; refine (HPT.out _).mono ?_; rintro e w10 ⟨rfl, hk⟩; have HK10 := hid (((Kp.refl No _).alloc _).andNone hk); have HB10 := hid ((Blk.new wr 41 [.string (q ++ x.1.extract p.size x.1.size), .bool x.2.1, .slice au x.2.2.length cu]).kp hk (fun h => h)); have b0 := HB10.out.cell 0; have b1 := HB10.out.cell 1; have b2 := HB10.out.cell 2; simp only [List.getElem?_cons_zero, List.getElem?_cons_succ] at b0 b1 b2; clear hk)
                        go_ret2
                        have e : R = (10, []) := by
                          rw [HM.out, if_neg (by
                            intro hall
                            have := List.all_eq_true.1 hall x (List.mem_of_getElem? HX.out)
                            rw [HPA.out] at this
                            cases this)]
                        rw [e]
                        exact RChd.no rfl ((HK9.out.andNone HT.out.2).andNone HK10.out)
                      | true =>
                        have hpa' : pathB (q ++ x.1.extract p.size x.1.size).data.toList = true := hpa
                        rw [hpa'] at HPT
                        have HPA := hid hpa
                        clear hpa hpa'
                        have HPU : Hid (∀ V, Kp No wr V → Calls Tryz.prog 44 #[u13, .agg #[.string (q ++ x.1.extract p.size x.1.size), .bool x.2.1, .slice au x.2.2.length cu]] V fun e w' => ∃ v', e = .returned v' ∧ IRow Any w' v' (putL (((us.take i).map (mvP p q)).foldl putL os) (mvP p q x)) ∧ Kp No V w') := fun V k =>
                          rput_any V u13 (.slice au x.2.2.length cu) _ (mvP p q x) (HT.out.1.kept k) (HU.out.kept k) HZL.out HZS.out (by
                            have h2 := path_size HPA.out
                            rw [tx_len] at h2
                            omega)
                        go_wp2_with (first | (go_at_call 43; refine (HPT.out _).mono ?_; rintro e w10 ⟨rfl, hk⟩; have HK10 := hid (((Kp.refl No _).alloc _).andNone hk); have HB10 := hid ((Blk.new wr 41 [.string (q ++ x.1.extract p.size x.1.size), .bool x.2.1, .slice au x.2.2.length cu]).kp hk (fun h => h)); have b0 := HB10.out.cell 0; have b1 := HB10.out.cell 1; have b2 := HB10.out.cell 2; simp only [List.getElem?_cons_zero, List.getElem?_cons_succ] at b0 b1 b2; clear hk) | (go_at_call 44; refine (HPU.out _ HK10.out).mono ?_; rintro e w11 ⟨v11, rfl, hrow, hk⟩; have HK11 := hid (HK10.out.andNone hk); have HZ := hid hrow; clear hk hrow))
                        go_roundw
                        case rel => exact ⟨i + 1, by go_num, by omega, ⟨by
                          rw [take_next HX.out, List.map_append, List.foldl_append]
                          exact HZ.out, HT.out.2.andNone HK11.out⟩, by
                          rw [Hid, take_next HX.out, List.all_append, HALL.out]
                          simpa using HPA.out⟩
                        case measure => simp [intOf] <;> omega
                    · have hltI : ¬ (i : Int) < (n : Int) := by omega
                      have ei : us.take i = us := List.take_of_length_le (by have := HN.out; omega)
                      go_wp2
                      go_ret2
                      have h1 := HALL.out
                      have h2 := HT.out.1
                      rw [ei] at h1 h2
                      have e : R = (0, (us.map (mvP p q)).foldl putL os) := by rw [HM.out, if_pos h1]
                      rw [e]
                      exact ⟨_, rfl, h2, HK9.out.andNone HT.out.2⟩
          · have e : R = (f, []) := by
              have := HM.out
              simp only [if_true, Bool.and_self] at this
              rw [if_neg hf, if_neg hf] at this
              exact this
            subst e
            have hfb : (f != 0) = true := by simpa using hf
            go_enter Tryz.func21, Tryz.ntmps21
            go_wp2_with (first
              | (go_at_call 40; refine (HF2.out _ HK1.out).mono ?_; rintro e w2 ⟨s2, au2, nu2, cu2, rfl, hk⟩; have HK2 : Hid (Kp No w (bx w2 s2 d2 au2 nu2 cu2)) := hid ((HK1.out.andNone hk).alloc _); clear hk)
              | (go_at_call 40; refine HF1.out.mono ?_; rintro e w1 ⟨s1, au1, nu1, cu1, rfl, hk⟩; have HK1 : Hid (Kp No w (bx w1 s1 d1 au1 nu1 cu1)) := hid (hk.alloc _); clear hk)
              | (go_at_call 41; refine (HD.out _ HK2.out).mono ?_; rintro e w3 ⟨rfl, hk⟩; have HK3 := hid (HK2.out.andNone hk); clear hk)
              | (go_at_call 42; refine (HR.out _ HK3.out).mono ?_; rintro e w4 ⟨rfl, hk⟩; have HK4 := hid (HK3.out.andNone hk); clear hk)
              | (go_at_call 43; have hk5 := HK5.out; refine (HQ.out _).mono ?_; clear hk5; rintro e w6 ⟨rfl, hk⟩; have HK6 := hid (HK5.out.andNone hk); clear hk)
              | (go_at_call 43; refine (HP.out _).mono ?_; rintro e w5 ⟨rfl, hk⟩; have HK5 := hid (HK4.out.andNone hk); clear hk))
            go_ret2
            exact RChd.no rfl HK6.out

end Go.Proofs.YtdooiflmjeibdaaGreatDoor.Tr
end

section
/-
  Items that came in, opened.
-/
namespace Go.Proofs.YtdooiflmjeibdaaGreatDoor.Tr
open Go.RowKit Go.ChangeShapes Go.WideShapes

theorem mapM_get {α β : Type} {f : α → Option β} : ∀ (L : List α) (ys : List β), L.mapM f = some ys → ∀ i : Nat, ys[i]? = (L[i]?).bind f
  | [], ys, h, i => by
    simp only [List.mapM_nil, pure, Option.some.injEq] at h
    subst h
    simp
  | a :: L, ys, h, i => by
    rw [List.mapM_cons] at h
    simp only [bind, Option.bind_eq_some_iff, pure, Option.some.injEq] at h
    obtain ⟨y, hy, zs, hzs, rfl⟩ := h
    cases i with
    | zero => simp [hy]
    | succ i => simpa using mapM_get L zs hzs i
theorem cells_get {w : World} {base n : Nat} {a : Addr} {cs : List Value} (h : w.cells? base a n = some cs) (i : Nat) (hi : i < n) : w.cell? (a.add i) = cs[i]? := by
  unfold World.cells? at h
  split at h
  · have := mapM_get _ _ h i
    rw [List.getElem?_range hi] at this
    exact this.symm
  · cases h
theorem spot_none {w : World} {x : Addr} {v : Value} (c0 : w.cell? (x.add 0) = some v) : x.spot = none := by
  have e : x.add 0 = x := rfl
  rw [e] at c0
  unfold World.cell? at c0
  split at c0
  · split at c0
    · cases c0
    · rename_i hs; simpa using hs
  · cases c0
theorem u8_wf {y : Int} (h : (Lit.int .u8 y).wf = true) : 0 ≤ y ∧ y ≤ 255 := by
  have hmin : IntKind.u8.min = 0 := rfl
  have hmax : IntKind.u8.max = 255 := rfl
  simp only [Lit.wf, Bool.and_eq_true, decide_eq_true_eq] at h
  omega
theorem i64_wf {y : Int} (h : (Lit.int .i64 y).wf = true) : -9223372036854775808 ≤ y ∧ y ≤ 9223372036854775807 := by
  have hmin : IntKind.i64.min = -9223372036854775808 := rfl
  have hmax : IntKind.i64.max = 9223372036854775807 := rfl
  simp only [Lit.wf, Bool.and_eq_true, decide_eq_true_eq] at h
  omega

/-- A slice of numbers, as it came in. -/
def InR (q : IntKind) (W : World) (a : Option Addr) (l c : Nat) : Prop :=
  (a = none ∧ l = 0 ∧ c = 0) ∨ ∃ (y : Addr) (zs : List Int), a = some y ∧ l ≤ c ∧ c ≤ maxLen ∧ zs.length = c ∧ (∀ i, i < zs.length → W.cell? (y.add i) = some (.int q (zs.getD i 0))) ∧ ∀ n ∈ zs, (Lit.int q n).wf = true
theorem InR.le {q : IntKind} {W : World} {a : Option Addr} {l c : Nat} (h : InR q W a l c) : l ≤ 9223372036854775807 := by
  rcases h with ⟨_, rfl, _⟩ | ⟨_, _, _, h1, h2, _⟩
  · omega
  · unfold maxLen at h2; omega
/-- Its numbers, and where they lie. -/
theorem InR.nums {q : IntKind} {w : World} {a : Option Addr} {len cap : Nat} (h : InR q w a len cap) : ∃ zs : List Int, zs.length = len ∧ len ≤ cap ∧ cap ≤ maxLen ∧ (a = none → zs = [] ∧ cap = 0) ∧ (∀ z ∈ zs, (Lit.int q z).wf = true) ∧
    (zs ≠ [] → ∃ g o, a = some ⟨g, o, none⟩ ∧ g < w.heap.size ∧ ∀ i, i < zs.length → w.cell? ⟨g, o + i, none⟩ = some (.int q (zs.getD i 0))) := by
  rcases h with ⟨rfl, rfl, rfl⟩ | ⟨x, zs, rfl, h1, h2, h3, h4, h5⟩
  · exact ⟨[], rfl, Nat.le_refl _, Nat.zero_le _, fun _ => ⟨rfl, rfl⟩, by simp, fun h => absurd rfl h⟩
  · have hlen : (zs.take len).length = len := List.length_take_of_le (by omega)
    refine ⟨zs.take len, hlen, h1, h2, by simp, fun z hz => h5 z (List.mem_of_mem_take hz), fun hne => ?_⟩
    have hpos : 0 < len := by have := List.length_pos_iff.2 hne; omega
    have c0 := h4 0 (by omega)
    have hx := spot_none c0
    obtain ⟨b, o, s⟩ := x
    simp only at hx
    subst hx
    refine ⟨b, o, rfl, World.block_lt_of_cell? w _ c0, fun i hi => ?_⟩
    have := h4 i (by omega)
    rw [addr_add] at this
    rw [this]
    rw [hlen] at hi
    simp [hi]
theorem InR.bytes {w : World} {a : Option Addr} {len cap : Nat} (h : InR .u8 w a len cap) (hle : len ≤ 9223372036854775807) : ∃ bs : List Nat, bs.length = len ∧ ByP Any w (.slice a len cap) bs := by
  obtain ⟨zs, h1, h2, h3, h4, h5, h6⟩ := h.nums
  have hb : ∀ z ∈ zs, 0 ≤ z ∧ z ≤ 255 := fun z hz => u8_wf (h5 z hz)
  have hmap : (zs.map Int.toNat).length = len := by simpa using h1
  refine ⟨zs.map Int.toNat, hmap, a, cap, by rw [hmap], by omega, h3, fun ha => ?_, by omega, fun x hx => ?_, fun hne => ?_⟩
  · obtain ⟨e1, e2⟩ := h4 ha; subst e1; exact ⟨rfl, e2⟩
  · obtain ⟨z, hz, rfl⟩ := List.mem_map.1 hx
    have := hb z hz
    omega
  · obtain ⟨g, o, e, hg, hc⟩ := h6 (fun e => hne (by rw [e]; rfl))
    refine ⟨g, o, e, trivial, hg, fun i hi => ?_⟩
    have hi' : i < zs.length := by simpa using hi
    rw [hc i hi', List.getD_eq_getElem?_getD, List.getD_eq_getElem?_getD, List.getElem?_map, List.getElem?_eq_getElem hi']
    have := hb _ (List.getElem_mem hi')
    simp only [Option.getD_some, Option.map_some]
    rw [Int.toNat_of_nonneg this.1]
theorem one_at {cs : List Value} {j : Nat} {v : Value} (h : (cs.drop j).take 1 = [v]) : cs[j]? = some v := by
  have := congrArg (fun l : List Value => l[0]?) h
  simpa [List.getElem?_take, List.getElem?_drop] using this
theorem in_of {H : Type} {enc : TypeId × Value → H} {W : World} {q : IntKind} {t e : TypeId} (ht : Tryz.prog.underlying t = some (.slice e)) (he : Tryz.prog.underlying e = some (.int q)) (hc : Tryz.prog.cellsOf e = 1) {fuel : Nat} {cs : List Value} {x : DataW H × List MemPlace}
    (h : DataW.trod enc Tryz.prog W 0 (fun _ => true) true fuel t cs = some x) : ∃ a l c, cs = [.slice a l c] ∧ InR q W a l c := by
  rcases open_ints ht he hc h with ⟨hcs, _⟩ | ⟨y, l, c, zs, hcs, _, hlc, hmx, hz, _, hcell, hwz⟩
  · exact ⟨none, 0, 0, hcs, .inl ⟨rfl, rfl, rfl⟩⟩
  · exact ⟨some y, l, c, hcs, .inr ⟨y, zs, rfl, hlc, hmx, by simpa using hz, hcell, hwz⟩⟩

/-- An item as it came in. -/
structure RawIt where
  s : ByteArray
  d : Bool
  a : Option Addr
  l : Nat
  c : Nat
def RawIt.cells (o : RawIt) : List Value := [.string o.s, .bool o.d, .slice o.a o.l o.c]
structure RawIt.Ok (W : World) (o : RawIt) : Prop where
  s : o.s.size ≤ maxLen
  b : InR .u8 W o.a o.l o.c

set_option maxRecDepth 100000 in
/-- An item's cells that came in. -/
theorem it_cells {H : Type} {enc : TypeId × Value → H} {W : World} {fuel : Nat} {cs : List Value} {x : DataW H × List MemPlace} (h : DataW.trod enc Tryz.prog W 0 (fun _ => true) true fuel 41 cs = some x) :
    ∃ o : RawIt, cs = o.cells ∧ o.Ok W := by
  obtain ⟨xs, n, _, _, hl, hlen, hf⟩ := DataW.trod_struct Tryz.underlying41 h
  have e0 : Tryz.prog.cellsOf 41 = 3 := by kernel_rfl
  rw [e0] at hl
  have hx : ∀ j, j < 3 → ∃ y, xs[j]? = some y := fun j hj => ⟨xs[j]'(by rw [hlen]; exact hj), List.getElem?_eq_getElem _⟩
  have f0 := hf 0 _ rfl
  have f1 := hf 1 _ rfl
  have f2 := hf 2 _ rfl
  clear hf hlen
  obtain ⟨y0, h0⟩ := hx 0 (by omega)
  obtain ⟨y1, h1⟩ := hx 1 (by omega)
  obtain ⟨y2, h2⟩ := hx 2 (by omega)
  rw [h0] at f0
  rw [h1] at f1
  rw [h2] at f2
  obtain ⟨s, g0, _, w0⟩ := DataW.trod_string Tryz.underlying9 f0
  obtain ⟨d, g1, _⟩ := DataW.trod_bool Tryz.underlying4 f1
  obtain ⟨a, l, c, g2, w2⟩ := in_of Tryz.underlying23 Tryz.underlying5 (by kernel_rfl) f2
  refine ⟨⟨s, d, a, l, c⟩, ?_, ⟨w0, w2⟩⟩
  apply List.ext_getElem?
  intro j
  by_cases hj : j < 3
  · rcases (by omega : j = 0 ∨ j = 1 ∨ j = 2) with rfl | rfl | rfl
    · exact one_at g0
    · exact one_at g1
    · exact one_at g2
  · rw [List.getElem?_eq_none (by omega), List.getElem?_eq_none (by simp [RawIt.cells]; omega)]

set_option maxRecDepth 100000 in
/-- A tree that came in. -/
theorem raw_of {H : Type} {enc : TypeId × Value → H} {W : World} {a0 : Option Addr} {len cap fuel : Nat} {x : DataW H × List MemPlace}
    (h : DataW.trod enc Tryz.prog W 0 (fun _ => true) true fuel 22 [.slice a0 len cap] = some x) :
    len ≤ cap ∧ cap ≤ maxLen ∧ (a0 = none → len = 0 ∧ cap = 0) ∧ ∃ ts : List RawIt, ts.length = len ∧ ∀ j t, ts[j]? = some t → t.Ok W ∧ ∃ g o, a0 = some ⟨g, o, none⟩ ∧ g < W.heap.size ∧ ∀ i v, t.cells[i]? = some v → W.cell? ⟨g, o + j * 3 + i, none⟩ = some v := by
  rcases Go.Deep.open_slice Tryz.underlying22 h with ⟨hcs, _⟩ | ⟨a, l, c, m, n, D, Pl, hcs, _, hl, hm, hmm, _, hr⟩
  · simp only [List.cons.injEq, Value.slice.injEq, and_true] at hcs
    obtain ⟨rfl, rfl, rfl⟩ := hcs
    exact ⟨Nat.le_refl _, Nat.zero_le _, fun _ => ⟨rfl, rfl⟩, [], rfl, fun j t h => by simp at h⟩
  · simp only [List.cons.injEq, Value.slice.injEq, and_true] at hcs
    obtain ⟨rfl, rfl, rfl⟩ := hcs
    simp only [if_true] at hmm
    subst hmm
    have e26 : Tryz.prog.cellsOf 41 = 3 := by kernel_rfl
    rw [e26] at hr
    refine ⟨by omega, by omega, by simp, ?_⟩
    have each : ∀ r, r < len → ∃ t : RawIt, t.Ok W ∧ ∀ i, i < 3 → W.cell? ((a.add (r * 3)).add i) = t.cells[i]? := by
      intro r hr1
      obtain ⟨cs', h1, h2⟩ := hr r (by omega)
      obtain ⟨t, rfl, hb⟩ := it_cells h2
      exact ⟨t, hb, fun i hi => cells_get h1 i hi⟩
    haveI : Inhabited RawIt := ⟨⟨⟨#[]⟩, false, none, 0, 0⟩⟩
    obtain ⟨y, hy⟩ := Go.Deep.choose_lt each
    refine ⟨(List.range len).map y, by simp, fun j t hj => ?_⟩
    have hjl : j < len := by
      have := (List.getElem?_eq_some_iff.1 hj).1
      simpa using this
    simp only [List.getElem?_map, List.getElem?_range hjl, Option.map_some, Option.some.injEq] at hj
    subst hj
    obtain ⟨h1, h3⟩ := hy j hjl
    refine ⟨h1, ?_⟩
    have h00 := (hy 0 (by omega)).2 0 (by omega)
    have ha : a.spot = none := by
      rw [Nat.zero_mul] at h00
      have e : (a.add 0) = a := rfl
      rw [e] at h00
      exact spot_none h00
    obtain ⟨b, o, s⟩ := a
    simp only at ha
    subst ha
    refine ⟨b, o, rfl, ?_, fun i v hv => ?_⟩
    · rw [addr_add, addr_add] at h00
      exact World.block_lt_of_cell? W _ h00
    · have hi : i < 3 := by
        have := (List.getElem?_eq_some_iff.1 hv).1
        simpa [RawIt.cells] using this
      have h := h3 i hi
      rw [addr_add, addr_add, hv] at h
      exact h

theorem items_of {H : Type} {enc : TypeId × Value → H} {W : World} {a0 : Option Addr} {len cap fuel : Nat} {x : DataW H × List MemPlace}
    (h : DataW.trod enc Tryz.prog W 0 (fun _ => true) true fuel 22 [.slice a0 len cap] = some x) : ∃ t : List It, IRow Any W (.slice a0 len cap) t := by
  obtain ⟨h1, h2, h3, ts, h4, h5⟩ := raw_of h
  have each : ∀ r, r < len → ∃ y : It, ∀ g o, a0 = some ⟨g, o, none⟩ → ItAt Any W g (o + r * 3) y := fun r hr => by
    obtain ⟨t, ht⟩ : ∃ t, ts[r]? = some t := ⟨_, List.getElem?_eq_getElem (by omega)⟩
    obtain ⟨hok, g, o, e, hg, hc⟩ := h5 r t ht
    obtain ⟨bs, hl, hb⟩ := hok.b.bytes hok.b.le
    refine ⟨(t.s, t.d, bs), fun g' o' e' => ?_⟩
    rw [e] at e'
    cases e'
    exact ⟨_, hc 0 _ rfl, hc 1 _ rfl, hc 2 _ rfl, hb⟩
  haveI : Inhabited It := ⟨(⟨#[]⟩, false, [])⟩
  obtain ⟨y, hy⟩ := Go.Deep.choose_lt each
  have hyl : ((List.range len).map y).length = len := by simp
  refine ⟨(List.range len).map y, a0, cap, by rw [hyl], by omega, h2, fun e => ?_, fun hne => ?_⟩
  · obtain ⟨rfl, e2⟩ := h3 e
    exact ⟨rfl, e2⟩
  · have hpos : 0 < len := by
      have := List.length_pos_iff.2 hne
      omega
    obtain ⟨t, ht⟩ : ∃ t, ts[0]? = some t := ⟨_, List.getElem?_eq_getElem (by omega)⟩
    obtain ⟨_, g, o, e, hg, _⟩ := h5 0 t ht
    refine ⟨g, o, e, trivial, hg, fun i z hi => ?_⟩
    have hil : i < len := by
      have := (List.getElem?_eq_some_iff.1 hi).1
      omega
    simp only [List.getElem?_map, List.getElem?_range hil, Option.map_some, Option.some.injEq] at hi
    subst hi
    exact hy i hil g o e

end Go.Proofs.YtdooiflmjeibdaaGreatDoor.Tr
end

section
/-
  Grown, of the law: a tree that changes make of nothing.
-/
namespace Go.Proofs.YtdooiflmjeibdaaGreatDoor.Tr
open Go.RowKit

/-- A change: its kind, how deep, two paths, bytes. -/
abbrev OpT := Int × Int × ByteArray × ByteArray × List Nat
/-- At that place stand the changes l. -/
def OpsAt (w : World) (g o : Nat) (l : List OpT) : Prop := ∀ V, Kp No w V → ∀ i x, l[i]? = some x → ∃ u, V.cell? ⟨g, o + i * 5, none⟩ = some (.int .i64 x.1) ∧ V.cell? ⟨g, o + i * 5 + 1, none⟩ = some (.int .i64 x.2.1) ∧ V.cell? ⟨g, o + i * 5 + 2, none⟩ = some (.string x.2.2.1) ∧ V.cell? ⟨g, o + i * 5 + 3, none⟩ = some (.string x.2.2.2.1) ∧ V.cell? ⟨g, o + i * 5 + 4, none⟩ = some u ∧ ByP Any V u x.2.2.2.2


end Go.Proofs.YtdooiflmjeibdaaGreatDoor.Tr
end

section
/-
  Ops, of the law.
-/
namespace Go.Proofs.YtdooiflmjeibdaaGreatDoor.Tr
open Go.RowKit

def opI (x : OpT) : Bool := decide (x.2.2.1.size ≤ 250) && decide (x.2.2.2.1.size ≤ 250) && decide (x.2.2.2.2.length ≤ 2100)
def opsB (l : List OpT) (k : Nat) : Bool := decide (l.length ≤ k) && l.all opI

set_option maxHeartbeats 4000000 in
theorem ops_any (w : World) (g o cap n : Nat) (l : List OpT) (k : Nat) (hk : k ≤ 1000) (hn : l.length = n) (hmax : n ≤ 1000000000000) (ho : OpsAt w g o l) :
    Calls Tryz.prog 6 #[.slice (some ⟨g, o, none⟩) n cap, .int .i64 (k : Int)] w fun e w' => e = .returned (.bool (opsB l k)) ∧ Kp No w w' := by
  have HL : Hid (opsB l k = (decide (l.length ≤ k) && l.all opI)) := rfl
  generalize opsB l k = q at *
  have HO := hid ho
  have HN := hid hn
  rw [hn] at HL
  clear hn ho
  by_cases hkn : n ≤ k
  · have hkI : ¬ (k : Int) < (n : Int) := by omega
    rw [decide_eq_true hkn, Bool.true_and] at HL
    go_enter Tryz.func6, Tryz.ntmps6
    go_wp2_with fail
    go_loopw [5] (fun x wr => ∃ i : Nat, x = .int .i64 i ∧ i ≤ n ∧ Hid (∀ j y, j < i → l[j]? = some y → opI y = true) ∧ wr = w) (fun x _ => n - (intOf x).toNat)
    case atStart => exact ⟨0, rfl, Nat.zero_le _, fun j y hj => absurd hj (Nat.not_lt_zero _), rfl⟩
    case round =>
      obtain ⟨i, rfl, hi, HS, rfl⟩ := hrel
      by_cases hlt : i < n
      · have hltI : (i : Int) < (n : Int) := by omega
        have hi0 : (0 : Int) ≤ (i : Int) := by omega
        obtain ⟨x, hx⟩ : ∃ x, l[i]? = some x := ⟨_, List.getElem?_eq_getElem (by rw [HN.out]; omega)⟩
        obtain ⟨u, c0, c1, c2, c3, c4, hb⟩ := HO.out _ (Kp.refl _ _) i x hx
        obtain ⟨au, cu, rfl⟩ := hb.form
        have HX := hid hx
        have HLI : Hid (opI x = (decide (x.2.2.1.size ≤ 250) && decide (x.2.2.2.1.size ≤ 250) && decide (x.2.2.2.2.length ≤ 2100))) := rfl
        have HNO : Hid (opI x = false → q = false) := fun e => by rw [HL.out]; exact List.all_eq_false.2 ⟨x, List.mem_of_getElem? HX.out, by rw [e]; simp⟩
        clear hx hb
        by_cases hA : x.2.2.1.size ≤ 250
        · have hAI : ¬ (250 : Int) < (x.2.2.1.size : Int) := by omega
          by_cases hB : x.2.2.2.1.size ≤ 250
          · have hBI : ¬ (250 : Int) < (x.2.2.2.1.size : Int) := by omega
            by_cases hC : x.2.2.2.2.length ≤ 2100
            · have hCI : ¬ (2100 : Int) < (x.2.2.2.2.length : Int) := by omega
              have HOK : Hid (opI x = true) := by unfold Hid; rw [HLI.out, decide_eq_true hA, decide_eq_true hB, decide_eq_true hC]; rfl
              go_wp2
              go_roundw
              case rel => exact ⟨i + 1, by go_num, by omega, fun j y hj hy => by
                by_cases e : j = i
                · subst e
                  have := HX.out
                  rw [hy] at this
                  cases this
                  exact HOK.out
                · exact HS.out j y (by omega) hy, by first | rfl | trivial⟩
              case measure => simp [intOf] <;> omega
            · have hCI : (2100 : Int) < (x.2.2.2.2.length : Int) := by omega
              go_wp2
              go_ret
              refine ⟨?_, Kp.refl _ _⟩
              rw [HNO.out (by rw [HLI.out, decide_eq_false hC, Bool.and_false])]
              rfl
          · have hBI : (250 : Int) < (x.2.2.2.1.size : Int) := by omega
            go_wp2
            go_ret
            refine ⟨?_, Kp.refl _ _⟩
            rw [HNO.out (by rw [HLI.out, decide_eq_false hB, Bool.and_false, Bool.false_and])]
            rfl
        · have hAI : (250 : Int) < (x.2.2.1.size : Int) := by omega
          go_wp2
          go_ret
          refine ⟨?_, Kp.refl _ _⟩
          rw [HNO.out (by rw [HLI.out, decide_eq_false hA, Bool.false_and, Bool.false_and])]
          rfl
      · have hltI : ¬ (i : Int) < (n : Int) := by omega
        have e : q = true := by
          rw [HL.out]
          refine List.all_eq_true.2 (fun x hx => ?_)
          obtain ⟨j, hj⟩ := List.mem_iff_getElem?.1 hx
          exact HS.out j x (by have := (List.getElem?_eq_some_iff.1 hj).1; have := HN.out; omega) hj
        go_wp2
        go_ret
        refine ⟨?_, Kp.refl _ _⟩
        first | rfl | (rw [e]; rfl)
  · have hkI : (k : Int) < (n : Int) := by omega
    rw [decide_eq_false hkn, Bool.false_and] at HL
    rw [HL.out]
    go_enter Tryz.func6, Tryz.ntmps6
    go_wp2
    go_ret
    exact ⟨rfl, Kp.refl _ _⟩

end Go.Proofs.YtdooiflmjeibdaaGreatDoor.Tr
end

section
/-
  Changes that came in, opened.
-/
namespace Go.Proofs.YtdooiflmjeibdaaGreatDoor.Tr
open Go.RowKit Go.ChangeShapes Go.WideShapes

/-- A change as it came in. -/
structure RawOp where
  k : Int
  n : Int
  p : ByteArray
  q : ByteArray
  a : Option Addr
  l : Nat
  c : Nat
def RawOp.cells (o : RawOp) : List Value := [.int .i64 o.k, .int .i64 o.n, .string o.p, .string o.q, .slice o.a o.l o.c]

set_option maxRecDepth 100000 in
/-- A change's cells that came in. -/
theorem opc_cells {H : Type} {enc : TypeId × Value → H} {W : World} {fuel : Nat} {cs : List Value} {x : DataW H × List MemPlace} (h : DataW.trod enc Tryz.prog W 0 (fun _ => true) true fuel 25 cs = some x) :
    ∃ o : RawOp, cs = o.cells ∧ InR .u8 W o.a o.l o.c := by
  obtain ⟨xs, n, _, _, hl, hlen, hf⟩ := DataW.trod_struct Tryz.underlying25 h
  have e0 : Tryz.prog.cellsOf 25 = 5 := by kernel_rfl
  rw [e0] at hl
  have hx : ∀ j, j < 5 → ∃ y, xs[j]? = some y := fun j hj => ⟨xs[j]'(by rw [hlen]; exact hj), List.getElem?_eq_getElem _⟩
  have f0 := hf 0 _ rfl
  have f1 := hf 1 _ rfl
  have f2 := hf 2 _ rfl
  have f3 := hf 3 _ rfl
  have f4 := hf 4 _ rfl
  clear hf hlen
  obtain ⟨y0, h0⟩ := hx 0 (by omega)
  obtain ⟨y1, h1⟩ := hx 1 (by omega)
  obtain ⟨y2, h2⟩ := hx 2 (by omega)
  obtain ⟨y3, h3⟩ := hx 3 (by omega)
  obtain ⟨y4, h4⟩ := hx 4 (by omega)
  rw [h0] at f0
  rw [h1] at f1
  rw [h2] at f2
  rw [h3] at f3
  rw [h4] at f4
  obtain ⟨k, g0, _, w0⟩ := DataW.trod_int Tryz.underlying3 f0
  obtain ⟨m, g1, _, w1⟩ := DataW.trod_int Tryz.underlying3 f1
  obtain ⟨p, g2, _, w2⟩ := DataW.trod_string Tryz.underlying9 f2
  obtain ⟨q, g3, _, w3⟩ := DataW.trod_string Tryz.underlying9 f3
  obtain ⟨a, l, c, g4, w4⟩ := in_of Tryz.underlying23 Tryz.underlying5 (by kernel_rfl) f4
  refine ⟨⟨k, m, p, q, a, l, c⟩, ?_, w4⟩
  apply List.ext_getElem?
  intro j
  by_cases hj : j < 5
  · rcases (by omega : j = 0 ∨ j = 1 ∨ j = 2 ∨ j = 3 ∨ j = 4) with rfl | rfl | rfl | rfl | rfl
    · exact one_at g0
    · exact one_at g1
    · exact one_at g2
    · exact one_at g3
    · exact one_at g4
  · rw [List.getElem?_eq_none (by omega), List.getElem?_eq_none (by simp [RawOp.cells]; omega)]

set_option maxRecDepth 100000 in
/-- Changes that came in. -/
theorem rawO_of {H : Type} {enc : TypeId × Value → H} {W : World} {a0 : Option Addr} {len cap fuel : Nat} {x : DataW H × List MemPlace}
    (h : DataW.trod enc Tryz.prog W 0 (fun _ => true) true fuel 28 [.slice a0 len cap] = some x) :
    len ≤ cap ∧ cap ≤ maxLen ∧ (a0 = none → len = 0 ∧ cap = 0) ∧ ∃ ts : List RawOp, ts.length = len ∧ ∀ j t, ts[j]? = some t → InR .u8 W t.a t.l t.c ∧ ∃ g o, a0 = some ⟨g, o, none⟩ ∧ g < W.heap.size ∧ ∀ i v, t.cells[i]? = some v → W.cell? ⟨g, o + j * 5 + i, none⟩ = some v := by
  rcases Go.Deep.open_slice Tryz.underlying28 h with ⟨hcs, _⟩ | ⟨a, l, c, m, n, D, Pl, hcs, _, hl, hm, hmm, _, hr⟩
  · simp only [List.cons.injEq, Value.slice.injEq, and_true] at hcs
    obtain ⟨rfl, rfl, rfl⟩ := hcs
    exact ⟨Nat.le_refl _, Nat.zero_le _, fun _ => ⟨rfl, rfl⟩, [], rfl, fun j t h => by simp at h⟩
  · simp only [List.cons.injEq, Value.slice.injEq, and_true] at hcs
    obtain ⟨rfl, rfl, rfl⟩ := hcs
    simp only [if_true] at hmm
    subst hmm
    have e26 : Tryz.prog.cellsOf 25 = 5 := by kernel_rfl
    rw [e26] at hr
    refine ⟨by omega, by omega, by simp, ?_⟩
    have each : ∀ r, r < len → ∃ t : RawOp, InR .u8 W t.a t.l t.c ∧ ∀ i, i < 5 → W.cell? ((a.add (r * 5)).add i) = t.cells[i]? := by
      intro r hr1
      obtain ⟨cs', h1, h2⟩ := hr r (by omega)
      obtain ⟨t, rfl, hb⟩ := opc_cells h2
      exact ⟨t, hb, fun i hi => cells_get h1 i hi⟩
    haveI : Inhabited RawOp := ⟨⟨0, 0, ⟨#[]⟩, ⟨#[]⟩, none, 0, 0⟩⟩
    obtain ⟨y, hy⟩ := Go.Deep.choose_lt each
    refine ⟨(List.range len).map y, by simp, fun j t hj => ?_⟩
    have hjl : j < len := by
      have := (List.getElem?_eq_some_iff.1 hj).1
      simpa using this
    simp only [List.getElem?_map, List.getElem?_range hjl, Option.map_some, Option.some.injEq] at hj
    subst hj
    obtain ⟨h1, h3⟩ := hy j hjl
    refine ⟨h1, ?_⟩
    have h00 := (hy 0 (by omega)).2 0 (by omega)
    have ha : a.spot = none := by
      rw [Nat.zero_mul] at h00
      have e : (a.add 0) = a := rfl
      rw [e] at h00
      exact spot_none h00
    obtain ⟨b, o, s⟩ := a
    simp only at ha
    subst ha
    refine ⟨b, o, rfl, ?_, fun i v hv => ?_⟩
    · rw [addr_add, addr_add] at h00
      exact World.block_lt_of_cell? W _ h00
    · have hi : i < 5 := by
        have := (List.getElem?_eq_some_iff.1 hv).1
        simpa [RawOp.cells] using this
      have h := h3 i hi
      rw [addr_add, addr_add, hv] at h
      exact h

theorem ops_of {H : Type} {enc : TypeId × Value → H} {W : World} {a0 : Option Addr} {len cap fuel : Nat} {x : DataW H × List MemPlace}
    (h : DataW.trod enc Tryz.prog W 0 (fun _ => true) true fuel 28 [.slice a0 len cap] = some x) :
    len ≤ cap ∧ cap ≤ maxLen ∧ ∃ l : List OpT, l.length = len ∧ (len ≠ 0 → ∃ g o, a0 = some ⟨g, o, none⟩ ∧ OpsAt W g o l) ∧ (a0 = none → len = 0 ∧ cap = 0) := by
  obtain ⟨h1, h2, h3, ts, h4, h5⟩ := rawO_of h
  have each : ∀ r, r < len → ∃ y : OpT, ∀ g o, a0 = some ⟨g, o, none⟩ → ∀ V, Kp No W V → ∃ u, V.cell? ⟨g, o + r * 5, none⟩ = some (.int .i64 y.1) ∧ V.cell? ⟨g, o + r * 5 + 1, none⟩ = some (.int .i64 y.2.1) ∧ V.cell? ⟨g, o + r * 5 + 2, none⟩ = some (.string y.2.2.1) ∧ V.cell? ⟨g, o + r * 5 + 3, none⟩ = some (.string y.2.2.2.1) ∧ V.cell? ⟨g, o + r * 5 + 4, none⟩ = some u ∧ ByP Any V u y.2.2.2.2 := fun r hr => by
    obtain ⟨t, ht⟩ : ∃ t, ts[r]? = some t := ⟨_, List.getElem?_eq_getElem (by omega)⟩
    obtain ⟨hok, g, o, e, hg, hc⟩ := h5 r t ht
    obtain ⟨bs, hl, hb⟩ := hok.bytes hok.le
    refine ⟨(t.k, t.n, t.p, t.q, bs), fun g' o' e' V k => ?_⟩
    rw [e] at e'
    cases e'
    have kc := fun i v (hv : t.cells[i]? = some v) => (k.cell (p := ⟨g, o + r * 5 + i, none⟩) hg (fun h => h)).trans (hc i v hv)
    exact ⟨_, kc 0 _ rfl, kc 1 _ rfl, kc 2 _ rfl, kc 3 _ rfl, kc 4 _ rfl, hb.kept k⟩
  haveI : Inhabited OpT := ⟨(0, 0, ⟨#[]⟩, ⟨#[]⟩, [])⟩
  obtain ⟨y, hy⟩ := Go.Deep.choose_lt each
  refine ⟨h1, h2, (List.range len).map y, by simp, fun hne => ?_, h3⟩
  obtain ⟨t, ht⟩ : ∃ t, ts[0]? = some t := ⟨_, List.getElem?_eq_getElem (by omega)⟩
  obtain ⟨_, g, o, e, hg, _⟩ := h5 0 t ht
  refine ⟨g, o, e, fun V k i z hi => ?_⟩
  have hil : i < len := by
    have := (List.getElem?_eq_some_iff.1 hi).1
    simpa using this
  simp only [List.getElem?_map, List.getElem?_range hil, Option.map_some, Option.some.injEq] at hi
  subst hi
  exact hy i hil g o e V k

end Go.Proofs.YtdooiflmjeibdaaGreatDoor.Tr
end

section
/-
  Do and Ref, of the law: each change of any tree.
-/
namespace Go.Proofs.YtdooiflmjeibdaaGreatDoor.Tr
open Go.RowKit

theorem Chd.rchd {w w' : World} {e : Ending} {r : Int × List It} (h : Chd w r e w') : RChd w r e w' := by
  obtain ⟨v', he, ho, _, k⟩ := h
  exact ⟨v', he, ho.row, k⟩
/-- A change makes that of a tree, and keeps it right. -/
def ChR (w : World) (t : List It) (r : Int × List It) (e : Ending) (w' : World) : Prop := RChd w r e w' ∧ (r.1 = 0 → rightB r.2 = true ∨ rightB t = false)
theorem RChd.grow {w W w' : World} {r : Int × List It} {e : Ending} (h : RChd W r e w') (k : Kp No w W) : RChd w r e w' := by
  obtain ⟨v', he, ho, k'⟩ := h
  exact ⟨v', he, ho, k.andNone k'⟩

set_option maxHeartbeats 8000000 in
theorem doall_any (w : World) (v vb : Value) (t : List It) (k n : Int) (p q : ByteArray) (b : List Nat) (h : IRow Any w v t) (hl : t.length ≤ 1000) (hs : ∀ y ∈ t, ShortI y) (hp : p.size ≤ 10000) (hq : q.size ≤ 10000) (hb : ByP Any w vb b) :
    Calls Tryz.prog 8 #[v, .agg #[.int .i64 k, .int .i64 n, .string p, .string q, vb]] w fun e w' => ChR w t (chF t k n p q b) e w' := by
  have hk0 : Kp No w (w.alloc (.cells #[.int .i64 k, .int .i64 n, .string p, .string q, vb] 25)) := (Kp.refl _ _).alloc _
  have hr := h.kept hk0
  have HZ : Hid (ChR w t (0, t) (.returned (.tuple #[v, .int .i64 0])) (w.alloc (.cells #[.int .i64 k, .int .i64 n, .string p, .string q, vb] 25))) := ⟨⟨v, rfl, hr, hk0⟩, fun _ => by cases rightB t <;> simp⟩
  have HM := hid ((mkdir_any _ v t p hr hl hs hp).mono fun e w' h => (show ChR w t (mkdirR t p) e w' from ⟨h.rchd.grow hk0, fun h0 => .inl (mkdir_right h0)⟩))
  have HW := hid ((write_any _ v vb t p b hr hl hs hp (hb.kept hk0)).mono fun e w' h => (show ChR w t (writeR t p b) e w' from ⟨h.rchd.grow hk0, fun h0 => .inl (write_right h0).1⟩))
  have HR := hid ((remove_any _ v t p (n == 1) hr hl hs hp).mono fun e w' h => (show ChR w t (removeR t p (n == 1)) e w' from ⟨h.rchd.grow hk0, fun h0 => .inl (remove_right h0).1⟩))
  have HN := hid ((rename_any _ v t p q hr hl hs hp hq).mono fun e w' h => (show ChR w t (renF t p q) e w' by
    obtain ⟨r, h1, h2⟩ := h
    have e := ren_fun h1
    subst e
    exact ⟨h2.rchd.grow hk0, fun h0 => .inl (rename_right h1 h0).1⟩))
  have HC : Hid (chF t k n p q b = if k = 0 then mkdirR t p else if k = 1 then writeR t p b else if k = 2 then removeR t p (n == 1) else if k = 3 then renF t p q else (0, t)) := rfl
  obtain ⟨ab, cb, rfl⟩ := hb.form
  generalize chF t k n p q b = R at *
  clear h hs hb hr hp hq hl
  by_cases k0 : k = 0
  · subst k0
    have e := HC.out
    simp only [if_true] at e
    subst e
    go_enter Tryz.func8, Tryz.ntmps8
    go_wp2_with (go_at_call 12; refine HM.out.mono ?_; rintro e w2 hc; have HCC := hid hc; obtain ⟨⟨v', rfl, _⟩, _⟩ := hc)
    go_ret2
    exact HCC.out
  by_cases k1 : k = 1
  · subst k1
    have e := HC.out
    simp only [if_true, k0, if_false] at e
    subst e
    go_enter Tryz.func8, Tryz.ntmps8
    go_wp2_with (go_at_call 13; refine HW.out.mono ?_; rintro e w2 hc; have HCC := hid hc; obtain ⟨⟨v', rfl, _⟩, _⟩ := hc)
    go_ret2
    exact HCC.out
  by_cases k2 : k = 2
  · subst k2
    have e := HC.out
    simp only [if_true, k0, k1, if_false] at e
    subst e
    go_enter Tryz.func8, Tryz.ntmps8
    go_wp2_with (go_at_call 16; refine HR.out.mono ?_; rintro e w2 hc; have HCC := hid hc; obtain ⟨⟨v', rfl, _⟩, _⟩ := hc)
    go_ret2
    exact HCC.out
  by_cases k3 : k = 3
  · subst k3
    have e := HC.out
    simp only [if_true, k0, k1, k2, if_false] at e
    subst e
    go_enter Tryz.func8, Tryz.ntmps8
    go_wp2_with (go_at_call 17; refine HN.out.mono ?_; rintro e w2 hc; have HCC := hid hc; obtain ⟨⟨v', rfl, _⟩, _⟩ := hc)
    go_ret2
    exact HCC.out
  have e := HC.out
  rw [if_neg k0, if_neg k1, if_neg k2, if_neg k3] at e
  subst e
  have b0 : (k == 0) = false := by simpa using k0
  have b1 : (k == 1) = false := by simpa using k1
  have b2 : (k == 2) = false := by simpa using k2
  have b3 : (k == 3) = false := by simpa using k3
  go_enter Tryz.func8, Tryz.ntmps8
  go_wp2
  go_ret2
  exact HZ.out

set_option maxHeartbeats 8000000 in
theorem refall_any (w : World) (v vb : Value) (t : List It) (k n : Int) (p q : ByteArray) (b : List Nat) (h : IRow Any w v t) (hl : t.length ≤ 1000) (hs : ∀ y ∈ t, ShortI y) (hp : p.size ≤ 10000) (hq : q.size ≤ 10000) (hb : ByP Any w vb b) :
    Calls Tryz.prog 9 #[v, .agg #[.int .i64 k, .int .i64 n, .string p, .string q, vb]] w fun e w' => RChd w (chF t k n p q b) e w' := by
  have hk0 : Kp No w (w.alloc (.cells #[.int .i64 k, .int .i64 n, .string p, .string q, vb] 25)) := (Kp.refl _ _).alloc _
  have hr := h.kept hk0
  have HZ : Hid (RChd w (0, t) (.returned (.tuple #[v, .int .i64 0])) (w.alloc (.cells #[.int .i64 k, .int .i64 n, .string p, .string q, vb] 25))) := ⟨v, rfl, hr, hk0⟩
  have HM := hid ((rmkdir_any _ v t p hr hl hs hp).mono fun e w' h => (show RChd w (mkdirR t p) e w' from h.grow hk0))
  have HW := hid ((rwrite_any _ v vb t p b hr hl hs hp (hb.kept hk0)).mono fun e w' h => (show RChd w (writeR t p b) e w' from h.grow hk0))
  have HR := hid ((rremove_any _ v t p (n == 1) hr hl hs hp).mono fun e w' h => (show RChd w (removeR t p (n == 1)) e w' from h.grow hk0))
  have HN := hid ((rrename_any _ v t p q hr hl hs hp hq).mono fun e w' h => (show RChd w (renF t p q) e w' from h.grow hk0))
  have HC : Hid (chF t k n p q b = if k = 0 then mkdirR t p else if k = 1 then writeR t p b else if k = 2 then removeR t p (n == 1) else if k = 3 then renF t p q else (0, t)) := rfl
  obtain ⟨ab, cb, rfl⟩ := hb.form
  generalize chF t k n p q b = R at *
  clear h hs hb hr hp hq hl
  by_cases k0 : k = 0
  · subst k0
    have e := HC.out
    simp only [if_true] at e
    subst e
    go_enter Tryz.func9, Tryz.ntmps9
    go_wp2_with (go_at_call 18; refine HM.out.mono ?_; rintro e w2 hc; have HCC := hid hc; obtain ⟨v', rfl, _⟩ := hc)
    go_ret2
    exact HCC.out
  by_cases k1 : k = 1
  · subst k1
    have e := HC.out
    simp only [if_true, k0, if_false] at e
    subst e
    go_enter Tryz.func9, Tryz.ntmps9
    go_wp2_with (go_at_call 19; refine HW.out.mono ?_; rintro e w2 hc; have HCC := hid hc; obtain ⟨v', rfl, _⟩ := hc)
    go_ret2
    exact HCC.out
  by_cases k2 : k = 2
  · subst k2
    have e := HC.out
    simp only [if_true, k0, k1, if_false] at e
    subst e
    go_enter Tryz.func9, Tryz.ntmps9
    go_wp2_with (go_at_call 20; refine HR.out.mono ?_; rintro e w2 hc; have HCC := hid hc; obtain ⟨v', rfl, _⟩ := hc)
    go_ret2
    exact HCC.out
  by_cases k3 : k = 3
  · subst k3
    have e := HC.out
    simp only [if_true, k0, k1, k2, if_false] at e
    subst e
    go_enter Tryz.func9, Tryz.ntmps9
    go_wp2_with (go_at_call 21; refine HN.out.mono ?_; rintro e w2 hc; have HCC := hid hc; obtain ⟨v', rfl, _⟩ := hc)
    go_ret2
    exact HCC.out
  have e := HC.out
  rw [if_neg k0, if_neg k1, if_neg k2, if_neg k3] at e
  subst e
  have b0 : (k == 0) = false := by simpa using k0
  have b1 : (k == 1) = false := by simpa using k1
  have b2 : (k == 2) = false := by simpa using k2
  have b3 : (k == 3) = false := by simpa using k3
  go_enter Tryz.func9, Tryz.ntmps9
  go_wp2
  go_ret2
  exact HZ.out

end Go.Proofs.YtdooiflmjeibdaaGreatDoor.Tr
end
