/-
  SimfsArms, walked.
-/
import Derived.Test.YtcfebhgmbfaahaaSimDoes3
namespace Go.Proofs.Ytcfebhgmbfaahaa.Sim
open Go.RowKit Go.Maps

/-! ### Steps are counted -/
/-- Armed for n steps in all. -/
structure Armed (n : Nat) (p : PS) : Prop where
  on : p.armed = true
  sum : p.steps + p.left = n
  low : p.down = true → p.left = 0
structure Next (n : Nat) (p q : PS) : Prop where
  armed : Armed n q
  le : p.steps ≤ q.steps
  one : q.steps ≤ p.steps + 1
  same : p.down = true → q = p
theorem Next.self {n : Nat} {p : PS} (h : Armed n p) : Next n p p := ⟨h, Nat.le_refl _, Nat.le_succ _, fun _ => rfl⟩
theorem stp_next {n : Nat} {p : PS} (h : Armed n p) (hd : p.down = false) (g : PS → PS) (hg : ∀ q, (g q).armed = q.armed ∧ (g q).left = q.left ∧ (g q).steps = q.steps ∧ (g q).down = q.down) : Next n p (stp p g).2 := by
  unfold stp
  by_cases hx : dead p = true
  · rw [if_pos hx]
    have hl : p.left = 0 := by
      unfold dead at hx
      rw [h.on] at hx
      simpa using hx
    exact ⟨⟨h.on, h.sum, fun _ => hl⟩, Nat.le_refl _, Nat.le_succ _, fun e => by rw [hd] at e; cases e⟩
  · rw [if_neg hx]
    have hl : p.left ≠ 0 := by
      unfold dead at hx
      rw [h.on] at hx
      simpa using hx
    obtain ⟨g1, g2, g3, g4⟩ := hg (tick p)
    have t1 : (tick p).armed = true := h.on
    have t2 : (tick p).left = p.left - 1 := by show (if p.armed then p.left - 1 else p.left) = _; rw [h.on]; rfl
    have t3 : (tick p).steps = p.steps + 1 := rfl
    have t4 : (tick p).down = false := hd
    have hs := h.sum
    refine ⟨⟨g1.trans t1, ?_, fun e => ?_⟩, ?_, ?_, fun e => by rw [hd] at e; cases e⟩
    · show (g (tick p)).steps + (g (tick p)).left = n; rw [g3, g2, t2, t3]; omega
    · have e' : (g (tick p)).down = true := e
      rw [g4, t4] at e'; cases e'
    · show p.steps ≤ (g (tick p)).steps; rw [g3, t3]; omega
    · show (g (tick p)).steps ≤ p.steps + 1; rw [g3, t3]; omega
theorem stepP_next {n : Nat} {p : PS} (h : Armed n p) (o : RawOp) (bs : List Nat) (c : Nat) (hk : o.k < 7) : Next n p (stepP o bs c p).2 := by
  have n7 : ¬ o.k = 7 := by omega
  have n9 : ¬ o.k = 9 := by omega
  cases hd : p.down with
  | true =>
    have hw : ∀ l, wrongs p l = 12 := fun l => by simp [wrongs, hd]
    have hf : ∀ t, finds p t = 12 := fun t => by simp [finds, hw]
    have : (stepP o bs c p).2 = p := by
      unfold stepP
      repeat' split
      all_goals first | rfl | contradiction | simp [pCreate, pAppend, pRename, pRemove, pFsync, pSyncDir, hw, hf]
    rw [this]
    exact Next.self h
  | false =>
    unfold stepP
    split
    · unfold pCreate
      repeat' split
      all_goals first | exact Next.self h | exact stp_next h hd _ (fun q => ⟨rfl, rfl, rfl, rfl⟩)
    split
    · unfold pAppend
      repeat' split
      all_goals first | exact Next.self h | exact stp_next h hd _ (fun q => ⟨rfl, rfl, rfl, rfl⟩)
    split
    · unfold pRename
      repeat' split
      all_goals first | exact Next.self h | exact stp_next h hd _ (fun q => ⟨rfl, rfl, rfl, rfl⟩)
    split
    · unfold pRemove
      repeat' split
      all_goals first | exact Next.self h | exact stp_next h hd _ (fun q => ⟨rfl, rfl, rfl, rfl⟩)
    split
    · unfold pFsync
      repeat' split
      all_goals first | exact Next.self h | exact stp_next h hd _ (fun q => ⟨rfl, rfl, rfl, rfl⟩)
    split
    · unfold pSyncDir
      repeat' split
      all_goals first | exact Next.self h | exact stp_next h hd _ (fun q => ⟨rfl, rfl, rfl, rfl⟩)
    exact Next.self h

theorem copy_nil (w : World) : Calls Try.prog 28 #[.pointer none] w fun e w' => e = .returned (.pointer none) ∧ w' = w := by
  go_enter Try.func28, Try.ntmps28
  go_wp2
  go_ret
  exact ⟨rfl, rfl⟩

/-- New ones of both. -/
theorem two_new {w w1 w2 : World} {n : Nat} (h1 : Sys (· = w.heap.size) 0 w1 w.heap.size (newPS n)) (k1 : Kp No w w1) (h2 : RSys (· = w1.heap.size) 0 w2 w1.heap.size (newPS n)) (k2 : Kp No w1 w2) : Two (· < w.heap.size) 0 w2 w.heap.size (newPS n) w1.heap.size (newPS n) ∧ Keeps (· < w.heap.size) w w2 := by
  have hs := h1.lt w.heap.size rfl
  refine ⟨⟨_, _, h1.kept k2, h2, fun x hx hy => by omega, fun x hx => ?_⟩, Keeps.ofNo (k1.andNone k2)⟩
  have := k1.size
  have := k2.size
  exact ⟨by omega, by omega, by omega⟩

/-! ### The walk -/
set_option maxHeartbeats 4000000 in
set_option maxRecDepth 100000 in
theorem arms_main (n : Nat) (hn : n ≤ 40) (a : Option Addr) (cap : Nat) (ts : List RawOp) (w : World) (h : Ops w a ts) (hl : lightB 40 ts = true) :
    Calls Try.prog 4 #[.int .i64 (n : Int), .slice a ts.length cap] w fun e w' => e = .returned (.bool true) ∧ Keeps (· < w.heap.size) w w' := by
  have hl' := hl
  simp only [lightB, Bool.and_eq_true, decide_eq_true_eq, List.all_eq_true] at hl'
  obtain ⟨hlen, hsh⟩ := hl'
  have HLI := light_any a cap ts 40 (by omega) w (by omega) h
  rw [hl] at HLI
  have HLI := hid HLI
  have HO := hid h
  have HS := hid hsh
  have n1 : ¬ ((n : Int) < 0) := by omega
  have n2 : ¬ ((40 : Int) < n) := by omega
  clear h hl hsh
  go_enter Try.func4, Try.ntmps4
  go_wp2_with fail
  refine HLI.out.mono ?_
  rintro e w0 ⟨rfl, hw0⟩
  subst w0
  clear HLI
  go_wp2_with fail
  refine (new_yes 99000 (by decide) w).mono ?_
  rintro e w1 ⟨rfl, hS, k1⟩
  have HS1 := hid hS
  have K1 := hid k1
  clear hS k1
  go_wp2_with fail
  refine (rnew_yes 99000 (by decide) w1).mono ?_
  rintro e w2 ⟨rfl, hR, k2⟩
  obtain ⟨hT, hK⟩ := two_new HS1.out K1.out hR k2
  have HT := hid hT
  have HK := hid hK
  clear hT hK hR k2 K1 HS1
  have HAe : Hid (∀ q : Nat, pArm (n : Int) (newPS q) = (0, { newPS q with armed := true, left := n })) := fun q => by simp [pArm, wrongs, newPS, n1]
  go_wp2_with fail
  refine (two_arm HT.out (by omega) (n : Int) (by omega)).mono ?_
  rintro e w3 ⟨rfl, h3, k3⟩
  rw [HAe.out] at h3 ⊢
  have HT3 := hid h3
  have HK3 := hid (HK.out.trans k3)
  clear h3 k3 HT HK
  go_wp2_with fail
  refine (two_rarm HT3.out (by omega) (n : Int) (by omega)).mono ?_
  rintro e w4 ⟨rfl, h4, k4⟩
  rw [HAe.out] at h4 ⊢
  have HT4 := hid h4
  have HK4 := hid (HK3.out.trans k4)
  clear h4 k4 HT3 HK3 HAe
  have HA4 : Hid (Armed n { newPS 99000 with armed := true, left := n }) := ⟨rfl, by simp [newPS], fun e => by cases e⟩
  generalize ({ newPS 99000 with armed := true, left := n } : PS) = p0 at *
  go_wp2_with fail
  go_loopw [9] (fun i wr => ∃ (k : Nat) (p r : PS), k ≤ ts.length ∧ i = .int .i64 (k : Int) ∧ Hid (Two (· < w.heap.size) (2 + 2 * k) wr w.heap.size p w1.heap.size r) ∧ Hid (Armed n p) ∧ Hid (Keeps (· < w.heap.size) w wr)) (fun i _ => ts.length - (intOf i).toNat)
  case atStart => exact ⟨0, p0, p0, Nat.zero_le _, rfl, HT4.out, HA4.out, HK4.out⟩
  case round =>
    obtain ⟨k, p, r, hk, rfl, HT, HA, HK⟩ := hrel
    clear HT4 HA4 HK4
    by_cases hlt : k < ts.length
    · obtain ⟨hok, g, o, rfl, hg, hc⟩ := HO.out k ts[k] (List.getElem?_eq_getElem hlt)
      have hshk := HS.out ts[k] (List.getElem_mem hlt)
      simp only [shortB, Bool.and_eq_true, decide_eq_true_eq] at hshk
      obtain ⟨⟨⟨s1, s2⟩, s3⟩, s4⟩ := hshk
      obtain ⟨bs, hbl, hby⟩ := hok.b.bytes (by omega)
      have hc' : ∀ i v, ts[k].cells[i]? = some v → wr.cell? ⟨g, o + k * 7 + i, none⟩ = some v := fun i v hv => (HK.out.cell (p := ⟨g, o + k * 7 + i, none⟩) hg hg).trans (hc i v hv)
      have c0 := hc' 0 _ rfl
      rw [Nat.add_zero] at c0
      have c1 := hc' 1 _ rfl
      have c2 := hc' 2 _ rfl
      have c3 := hc' 3 _ rfl
      have c4 := hc' 4 _ rfl
      have c5 := hc' 5 _ rfl
      have c6 := hc' 6 _ rfl
      have hz := hok.z.2
      have hy2 := hok.y
      have HBY : Hid (ByP (· < w.heap.size) wr (.slice ts[k].a ts[k].l ts[k].c) bs) := hby.keeps HK.out
      have hkk := hok.k
      generalize ts[k] = q at *
      clear hok hc hc' hby
      by_cases h7 : 7 ≤ q.k
      · go_wp2_with fail
        go_round
        case rel => exact ⟨k + 1, p, r, by omega, by go_num, HT.out.more (by omega) (by omega), HA.out, HK.out⟩
        case measure => simp [intOf]; omega
      · have h7' : ¬ 7 ≤ q.k := h7
        have HK7 : Hid (q.k < 7) := by unfold Hid; omega
        go_wp2_with fail
        refine (two_steps HT.out).mono ?_
        rintro e wn ⟨rfl, hwn⟩
        subst wn
        go_wp2_with fail
        refine (two_down HT.out).mono ?_
        rintro e wn ⟨rfl, hwn⟩
        subst wn
        go_wp2_with fail
        refine (step_any HT.out (by omega) q bs (by have := HK7.out; omega) s1 s2 HBY.out (by omega) hz hy2).mono ?_
        rintro e w5 ⟨c, d, _, rfl, h5, k5⟩
        have HT5 := hid h5
        have HN := hid (stepP_next HA.out q bs c HK7.out)
        have HK5 := hid (HK.out.trans k5)
        clear h5 k5 c0 c1 c2 c3 c4 c5 c6 HBY
        generalize (stepP q bs c p).2 = p' at *
        generalize (stepP q bs d r).2 = r' at *
        have g1 := HN.out.le
        have g2 := HN.out.one
        have g3 := HN.out.armed.sum
        have g4 := HN.out.armed.low
        have g5 := HN.out.same
        have hP : p'.steps ≤ 40 := by omega
        have HCS : Hid (∀ wx, wx = w5 → Calls Try.prog 22 #[.pointer (some ⟨w.heap.size, 0, none⟩)] wx fun e w' => e = .returned (.int .i64 (p'.steps : Nat)) ∧ w' = w5) := fun wx e => by subst e; exact two_steps HT5.out
        have HCD : Hid (∀ wx, wx = w5 → Calls Try.prog 19 #[.pointer (some ⟨w.heap.size, 0, none⟩)] wx fun e w' => e = .returned (.bool p'.down) ∧ w' = w5) := fun wx e => by subst e; exact two_down HT5.out
        have hrel' : Hid (∃ (k' : Nat) (p r : PS), k' ≤ ts.length ∧ Value.int .i64 ((k : Int) + 1) = .int .i64 (k' : Int) ∧ Hid (Two (· < w.heap.size) (2 + 2 * k') w5 w.heap.size p w1.heap.size r) ∧ Hid (Armed n p) ∧ Hid (Keeps (· < w.heap.size) w w5)) := ⟨k + 1, p', r', by omega, by go_num, HT5.out, HN.out.armed, HK5.out⟩
        cases hd : p.down with
        | true =>
          have hpp := g5 hd
          subst hpp
          have hdd : ((p'.steps : Int) != (p'.steps : Int)) = false := by simp
          have hsub : IntKind.i64.wrap ((p'.steps : Int) - (p'.steps : Int)) = 0 := by simp [IntKind.wrap_i64]
          have h3 : ¬ ((n : Int) < (p'.steps : Int)) := by omega
          rw [hd] at HCD
          clear g1 g2 g3 g4 g5 HN HA hd
          go_wp2_with (first | (go_at_call 22; refine (HCS.out _ rfl).mono ?_; rintro e wn ⟨rfl, hwn⟩; subst wn) | (go_at_call 19; refine (HCD.out _ rfl).mono ?_; rintro e wn ⟨rfl, hwn⟩; subst wn))
          go_round
          case rel => exact hrel'.out
          case measure => simp [intOf]; omega
        | false =>
          have hsub : IntKind.i64.wrap ((p'.steps : Int) - (p.steps : Int)) = (p'.steps : Int) - (p.steps : Int) := by rw [IntKind.wrap_i64]; omega
          have h2 : ¬ ((1 : Int) < (p'.steps : Int) - (p.steps : Int)) := by omega
          have h3 : ¬ ((n : Int) < (p'.steps : Int)) := by omega
          cases hd' : p'.down with
          | true =>
            rw [hd'] at HCD
            have hl0 := g4 hd'
            have he : ((p'.steps : Int) != (n : Int)) = false := by
              have : (p'.steps : Int) = n := by omega
              rw [this]; simp
            clear g1 g2 g3 g4 g5 HN HA hd hd' hl0
            go_wp2_with (first | (go_at_call 22; refine (HCS.out _ rfl).mono ?_; rintro e wn ⟨rfl, hwn⟩; subst wn) | (go_at_call 19; refine (HCD.out _ rfl).mono ?_; rintro e wn ⟨rfl, hwn⟩; subst wn))
            go_round
            case rel => exact hrel'.out
            case measure => simp [intOf]; omega
          | false =>
            rw [hd'] at HCD
            clear g1 g2 g3 g4 g5 HN HA hd hd'
            go_wp2_with (first | (go_at_call 22; refine (HCS.out _ rfl).mono ?_; rintro e wn ⟨rfl, hwn⟩; subst wn) | (go_at_call 19; refine (HCD.out _ rfl).mono ?_; rintro e wn ⟨rfl, hwn⟩; subst wn))
            go_round
            case rel => exact hrel'.out
            case measure => simp [intOf]; omega
    · clear HT HA HO HS
      go_wp2_with fail
      refine (read_nil _ _).mono ?_
      rintro e wn ⟨rfl, hk⟩
      have HK := hid (HK.out.none hk)
      clear hk
      go_wp2_with fail
      refine (size_nil _ _).mono ?_
      rintro e wn ⟨rfl, hk⟩
      have HK := hid (HK.out.none hk)
      clear hk
      go_wp2_with (first | (go_at_call 17; refine (read_nil _ _).mono ?_; rintro e wn ⟨rfl, hk⟩; have HK := hid (HK.out.none hk); clear hk) | (go_at_call 23; refine (size_nil _ _).mono ?_; rintro e wn ⟨rfl, hk⟩; have HK := hid (HK.out.none hk); clear hk) | (go_at_call 12; refine (create_nil _ _).mono ?_; rintro e wn ⟨rfl, hk⟩; have HK := hid (HK.out.none hk); clear hk) | (go_at_call 13; refine (append_nil _ none 0 0 _).mono ?_; rintro e wn ⟨rfl, hk⟩; have HK := hid (HK.out.none hk); clear hk) | (go_at_call 24; refine (rename_nil _ _ _).mono ?_; rintro e wn ⟨rfl, hk⟩; have HK := hid (HK.out.none hk); clear hk) | (go_at_call 11; refine (remove_nil _ _).mono ?_; rintro e wn ⟨rfl, hk⟩; have HK := hid (HK.out.none hk); clear hk) | (go_at_call 25; refine (list_nil _).mono ?_; rintro e wn ⟨rfl, hk⟩; subst wn) | (go_at_call 14; refine (fsync_nil _ _).mono ?_; rintro e wn ⟨rfl, hk⟩; have HK := hid (HK.out.none hk); clear hk) | (go_at_call 15; refine (syncdir_nil _).mono ?_; rintro e wn ⟨rfl, hk⟩; have HK := hid (HK.out.none hk); clear hk) | (go_at_call 20; refine (arm_nil _ _).mono ?_; rintro e wn ⟨rfl, hk⟩; have HK := hid (HK.out.none hk); clear hk) | (go_at_call 19; refine (down_nil _).mono ?_; rintro e wn ⟨rfl, hk⟩; subst wn) | (go_at_call 16; refine (up_nil _ _ _).mono ?_; rintro e wn ⟨rfl, hk⟩; subst wn) | (go_at_call 26; refine (flip_nil _ 0 0 _).mono ?_; rintro e wn ⟨rfl, hk⟩; have HK := hid (HK.out.none hk); clear hk) | (go_at_call 27; refine (used_nil _).mono ?_; rintro e wn ⟨rfl, hk⟩; subst wn) | (go_at_call 22; refine (steps_nil _).mono ?_; rintro e wn ⟨rfl, hk⟩; subst wn) | (go_at_call 28; refine (copy_nil _).mono ?_; rintro e wn ⟨rfl, hk⟩; subst wn) | (go_at_call 7; refine (alive_any _).mono ?_; rintro e wn ⟨rfl, hk⟩; have HK := hid (HK.out.none hk); clear hk))
      go_ret
      exact ⟨rfl, HK.out⟩

end Go.Proofs.Ytcfebhgmbfaahaa.Sim
