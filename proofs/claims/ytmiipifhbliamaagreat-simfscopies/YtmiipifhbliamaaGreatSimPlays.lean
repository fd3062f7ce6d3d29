/-
  SimfsPlays, walked.
-/
import Derived.Test.YtmiipifhbliamaaGreatSimAlike
import Derived.Test.YtmiipifhbliamaaGreatSimOpen
namespace Go.Proofs.YtmiipifhbliamaaGreat.Sim
open Go.RowKit Go.Maps

theorem two_begin {w w1 w2 : World} {n : Nat} (h1 : Sys (· = w.heap.size) 0 w1 w.heap.size (newPS n)) (k1 : Kp No w w1) (h2 : RSys (· = w1.heap.size) 0 w2 w1.heap.size (newPS n)) (k2 : Kp No w1 w2) : Two (· < w.heap.size) 0 w2 w.heap.size (newPS n) w1.heap.size (newPS n) ∧ Keeps (· < w.heap.size) w w2 := by
  have hs := h1.lt w.heap.size rfl
  refine ⟨⟨_, _, h1.kept k2, h2, fun x hx hy => by omega, fun x hx => ?_⟩, Keeps.ofNo (k1.andNone k2)⟩
  have := k1.size
  have := k2.size
  exact ⟨by omega, by omega, by omega⟩
theorem two_copy {A : Nat → Prop} {N : Nat} {w : World} {s m : Nat} {p r : PS} (h : Two A N w s p m r) : Calls Tryz.prog 9 #[.pointer (some ⟨s, 0, none⟩)] w fun e w' => ∃ c g q, e = .returned (.pointer (some ⟨c, 0, none⟩)) ∧ CopyOf g p q ∧ Two A N w' c q m r ∧ Kp No w w' := by
  obtain ⟨P, Q, h1, h2, h3, h4⟩ := h
  refine (copy_any w s p h1).mono ?_
  rintro e w' ⟨c, g, q, P', rfl, hc, h5, h6, k⟩
  refine ⟨c, g, q, rfl, hc, ⟨P', Q, h5, h2.kp k (fun _ h => h.elim), fun x hx hq => ?_, fun x hx => ⟨Nat.lt_of_lt_of_le (h4 x hx).1 k.size, fun hp => ?_, (h4 x hx).2.2⟩⟩, k⟩
  · have := h6 x hx; have := h2.lt x hq; omega
  · have := h6 x hp; have := (h4 x hx).1; omega
theorem two_inv {A : Nat → Prop} {N : Nat} {w : World} {s m : Nat} {p r : PS} (h : Two A N w s p m r) : PInv N p := by
  obtain ⟨P, Q, h1, _⟩ := h
  exact h1.inv
theorem rel_new (n : Nat) : Rel id (newPS n) (newPS n) := ⟨rfl, rfl, rfl, rfl, rfl, rfl, rfl, rfl, fun _ _ => rfl, fun _ _ _ _ h => h⟩
theorem nice_new (n : Nat) : Nice (newPS n) := ⟨fun e he => by simp [newPS] at he, fun e he => by simp [newPS] at he, fun c hc => by simp [newPS] at hc⟩

set_option maxHeartbeats 4000000 in
set_option maxRecDepth 100000 in
theorem plays_no (z : Int) (hz : z < 0 ∨ 99000 < z) (a : Option Addr) (cap : Nat) (ts : List RawOp) (w : World) (h : Ops w a ts) (hl : lightB 40 ts = true) :
    Calls Tryz.prog 3 #[.int .i64 z, .slice a ts.length cap] w fun e w' => e = .returned (.bool true) ∧ Keeps (· < w.heap.size) w w' := by
  have hl' := hl
  simp only [lightB, Bool.and_eq_true, decide_eq_true_eq] at hl'
  have hlen := hl'.1
  have HLI := light_any a cap ts 40 (by omega) w (by omega) h
  rw [hl] at HLI
  have HLI := hid HLI
  have HN1 := hid (new_no z hz)
  have HN2 := hid (rnew_no z hz)
  clear h hl hl' hz
  go_enter Tryz.func3, Tryz.ntmps3
  go_wp2_with fail
  refine HLI.out.mono ?_
  rintro e w0 ⟨rfl, hw0⟩
  subst w0
  go_wp2_with fail
  refine (HN1.out w).mono ?_
  rintro e w0 ⟨rfl, hw0⟩
  subst w0
  go_wp2_with fail
  refine (HN2.out w).mono ?_
  rintro e w0 ⟨rfl, hw0⟩
  subst w0
  go_wp2_with fail
  refine (alive_any w).mono ?_
  rintro e w1 ⟨rfl, hk⟩
  have HK := hid hk
  clear hk
  go_wp2_with fail
  go_loopw [9] (fun x wr => x = .int .i64 0 ∧ wr = w1) (fun _ _ => 0)
  case atStart => exact ⟨rfl, rfl⟩
  case round =>
    obtain ⟨rfl, rfl⟩ := hrel
    by_cases hlt : (0 : Int) < (ts.length : Int)
    · go_wp2
      go_ret
      exact ⟨rfl, Keeps.ofNo HK.out⟩
    · go_wp2
      go_ret
      exact ⟨rfl, Keeps.ofNo HK.out⟩

set_option maxHeartbeats 4000000 in
set_option maxRecDepth 100000 in
theorem plays_main (n : Nat) (hn : n ≤ 99000) (a : Option Addr) (cap : Nat) (ts : List RawOp) (w : World) (h : Ops w a ts) (hl : lightB 40 ts = true) :
    Calls Tryz.prog 3 #[.int .i64 (n : Int), .slice a ts.length cap] w fun e w' => e = .returned (.bool true) ∧ Keeps (· < w.heap.size) w w' := by
  have hl' := hl
  simp only [lightB, Bool.and_eq_true, decide_eq_true_eq, List.all_eq_true] at hl'
  obtain ⟨hlen, hsh⟩ := hl'
  have HLI := light_any a cap ts 40 (by omega) w (by omega) h
  rw [hl] at HLI
  have HLI := hid HLI
  have HO := hid h
  have HS := hid hsh
  clear h hl hsh
  go_enter Tryz.func3, Tryz.ntmps3
  go_wp2_with fail
  refine HLI.out.mono ?_
  rintro e w0 ⟨rfl, hw0⟩
  subst w0
  clear HLI
  go_wp2_with fail
  refine (new_yes n hn w).mono ?_
  rintro e w1 ⟨rfl, hS, k1⟩
  have HS1 := hid hS
  have K1 := hid k1
  clear hS k1
  go_wp2_with fail
  refine (rnew_yes n hn w1).mono ?_
  rintro e w2 ⟨rfl, hR, k2⟩
  obtain ⟨hT, hK⟩ := two_begin HS1.out K1.out hR k2
  have HT := hid hT
  have HK := hid hK
  clear hT hK hR k2 K1 HS1
  go_wp2_with fail
  refine (alive_any w2).mono ?_
  rintro e w3 ⟨rfl, hk⟩
  have HT3 := hid (HT.out.kept hk)
  have HK3 := hid (HK.out.none hk)
  have HR3 := hid (rel_new n)
  have HN3 := hid (nice_new n)
  clear hk HT HK
  generalize newPS n = p0 at *
  go_wp2_with fail
  go_loopw [5, 9] (fun y x wr => ∃ (k s : Nat) (p r : PS) (g : Nat → Nat), k ≤ ts.length ∧ x = .int .i64 (k : Int) ∧ y = .pointer (some ⟨s, 0, none⟩) ∧ Hid (Two (· < w.heap.size) (2 * k) wr s p w1.heap.size r) ∧ Hid (Rel g p r) ∧ Hid (Nice p) ∧ Hid (Keeps (· < w.heap.size) w wr)) (fun _ x _ => ts.length - (intOf x).toNat)
  case atStart => exact ⟨0, w.heap.size, p0, p0, id, Nat.zero_le _, rfl, rfl, HT3.out, HR3.out, HN3.out, HK3.out⟩
  case round =>
    obtain ⟨k, s, p, r, g, hk, rfl, rfl, HT, HR, HN, HK⟩ := hrel
    clear HT3 HR3 HN3 HK3
    by_cases hlt : k < ts.length
    · obtain ⟨hok, lg, o, rfl, hg, hc⟩ := HO.out k ts[k] (List.getElem?_eq_getElem hlt)
      have hshk := HS.out ts[k] (List.getElem_mem hlt)
      simp only [shortB, Bool.and_eq_true, decide_eq_true_eq] at hshk
      obtain ⟨⟨⟨s1, s2⟩, s3⟩, s4⟩ := hshk
      obtain ⟨bs, hbl, hby⟩ := hok.b.bytes (by omega)
      obtain ⟨cuts, hcl, hcu⟩ := hok.n.ints (by omega)
      have hc' : ∀ V, Keeps (· < w.heap.size) w V → ∀ i v, ts[k].cells[i]? = some v → V.cell? ⟨lg, o + k * 7 + i, none⟩ = some v := fun V hV i v hv => (hV.cell (p := ⟨lg, o + k * 7 + i, none⟩) hg hg).trans (hc i v hv)
      have HC := hid hc'
      have HBY := hid hby
      have HCU := hid hcu
      have c0 := hc' wr HK.out 0 _ rfl
      rw [Nat.add_zero] at c0
      have hz := hok.z.2
      have hy2 := hok.y
      have hkk := hok.k
      generalize ts[k] = q at *
      clear hok hc hc' hby hcu
      by_cases h10 : q.k = 10
      · have h10' : (q.k == 10) = true := by rw [h10]; rfl
        go_wp2_with fail
        refine (two_copy HT.out).mono ?_
        rintro e w5 ⟨s5, f5, p5, rfl, hcp, h5, k5⟩
        obtain ⟨g5, hr5⟩ := rel_copy HR.out (two_inv HT.out) hcp
        have HT5 := hid h5
        have HR5 := hid hr5
        have HN5 := hid (nice_copy HN.out hcp)
        have HK5 := hid (HK.out.none k5)
        clear h5 k5 hr5 hcp HT HR HN HK c0 h10 h10'
        have d0 := HC.out w5 HK5.out 0 _ rfl
        rw [Nat.add_zero] at d0
        have d1 := HC.out w5 HK5.out 1 _ rfl
        have d2 := HC.out w5 HK5.out 2 _ rfl
        have d3 := HC.out w5 HK5.out 3 _ rfl
        have d4 := HC.out w5 HK5.out 4 _ rfl
        have d5 := HC.out w5 HK5.out 5 _ rfl
        have d6 := HC.out w5 HK5.out 6 _ rfl
        go_wp2_with fail
        refine (step_all HT5.out (by omega) q bs cuts s1 s2 (HBY.out.keeps HK5.out) (by omega) (HCU.out.keeps HK5.out) hz hy2).mono ?_
        rintro e w6 ⟨c, d, hcd, rfl, h6, k6⟩
        obtain ⟨t1, g6, t2⟩ := rel_step HR5.out (two_inv HT5.out) q bs cuts c d hcd
        rw [t1]
        have HT6 := hid h6
        have HR6 := hid t2
        have HN6 := hid (nice_step HN5.out q bs cuts c)
        have HK6 := hid (HK5.out.trans k6)
        clear h6 k6 t1 t2 hcd d0 d1 d2 d3 d4 d5 d6 HT5 HR5 HN5 HK5
        generalize (stepQ q bs cuts c p5).2 = p6 at *
        generalize (stepQ q bs cuts d r).2 = r6 at *
        go_wp2_with fail
        refine (alike_any HT6.out HR6.out HN6.out).mono ?_
        rintro e w7 ⟨rfl, k7⟩
        have HT7 := hid (HT6.out.kept k7)
        have HK7 := hid (HK6.out.none k7)
        clear k7 HT6 HK6
        go_wp2_with fail
        go_round
        case rel => exact ⟨k + 1, s5, p6, r6, g6, by omega, by go_num, by first | rfl | trivial, HT7.out, HR6.out, HN6.out, HK7.out⟩
        case measure => simp [intOf]; omega
      · have h10' : (q.k == 10) = false := by rw [beq_eq_false_iff_ne]; exact h10
        have d0 := HC.out wr HK.out 0 _ rfl
        rw [Nat.add_zero] at d0
        have d1 := HC.out wr HK.out 1 _ rfl
        have d2 := HC.out wr HK.out 2 _ rfl
        have d3 := HC.out wr HK.out 3 _ rfl
        have d4 := HC.out wr HK.out 4 _ rfl
        have d5 := HC.out wr HK.out 5 _ rfl
        have d6 := HC.out wr HK.out 6 _ rfl
        go_wp2_with fail
        refine (step_all HT.out (by omega) q bs cuts s1 s2 (HBY.out.keeps HK.out) (by omega) (HCU.out.keeps HK.out) hz hy2).mono ?_
        rintro e w6 ⟨c, d, hcd, rfl, h6, k6⟩
        obtain ⟨t1, g6, t2⟩ := rel_step HR.out (two_inv HT.out) q bs cuts c d hcd
        rw [t1]
        have HT6 := hid h6
        have HR6 := hid t2
        have HN6 := hid (nice_step HN.out q bs cuts c)
        have HK6 := hid (HK.out.trans k6)
        clear h6 k6 t1 t2 hcd d0 d1 d2 d3 d4 d5 d6 HT HR HN HK
        generalize (stepQ q bs cuts c p).2 = p6 at *
        generalize (stepQ q bs cuts d r).2 = r6 at *
        go_wp2_with fail
        refine (alike_any HT6.out HR6.out HN6.out).mono ?_
        rintro e w7 ⟨rfl, k7⟩
        have HT7 := hid (HT6.out.kept k7)
        have HK7 := hid (HK6.out.none k7)
        clear k7 HT6 HK6
        go_wp2_with fail
        go_round
        case rel => exact ⟨k + 1, s, p6, r6, g6, by omega, by go_num, by first | rfl | trivial, HT7.out, HR6.out, HN6.out, HK7.out⟩
        case measure => simp [intOf]; omega
    · go_wp2
      go_ret
      exact ⟨rfl, HK.out⟩

end Go.Proofs.YtmiipifhbliamaaGreat.Sim
