/-
  alive: the chapter's example.
-/
import Derived.Test.YtmiipifhbliamaaGreatSimCopy4
import Derived.Lib.SlBytesConst
import Derived.Laws.IdiomStrings
namespace Go.Proofs.YtmiipifhbliamaaGreat.Sim
open Go.RowKit Go.Maps

def nA : Nm := [97]
theorem nameA : nameB nA = true := by decide

/-- The states of the example. -/
def exS (b k : Nat) (f : Fl) : PS := ⟨100, true, [(nA, b)], [], [⟨0, nA, [], b⟩], false, false, 0, k, fun x => if x = b then some f else none⟩
theorem ex1 (b : Nat) : pCreate nA b (newPS 100) = (0, exS b 1 ⟨[], 0⟩) := by
  have h1 : wrongs (newPS 100) [nA] = 0 := by decide
  have h2 : dfind (newPS 100).seen nA = none := rfl
  have h3 : dead (newPS 100) = false := rfl
  simp only [pCreate, h1, h2, stp, h3]
  rfl
theorem exS_find (b k : Nat) (f : Fl) : dfind (exS b k f).seen nA = some b := rfl
theorem exS_finds (b k : Nat) (f : Fl) : finds (exS b k f) nA = 0 := rfl
theorem exS_file (b k : Nat) (f : Fl) : fileAt (exS b k f) b = f := by simp [fileAt, exS]
theorem exS_set (b k : Nat) (f f' : Fl) : setF b f' (tick (exS b k f)) = exS b (k + 1) f' := by
  unfold setF tick exS
  simp only
  congr 1
  funext x
  split <;> rfl
theorem ex2 (b : Nat) : pAppend nA [120] (exS b 1 ⟨[], 0⟩) = (0, exS b 2 ⟨[120], 0⟩) := by
  have hu : used (exS b 1 ⟨[], 0⟩) = 0 := by
    have := exS_file b 1 ⟨[], 0⟩
    simp [used, exS] at this ⊢
    simp [this]
  have hb : blockOf (exS b 1 ⟨[], 0⟩) nA = b := rfl
  have hd : dead (exS b 1 ⟨[], 0⟩) = false := rfl
  have hr : ¬ (0 + [120].length > (exS b 1 ⟨[], 0⟩).room) := by show ¬ (0 + 1 > 100); omega
  unfold pAppend
  rw [exS_finds, hu, hb, exS_file, if_neg (by decide), if_neg hr]
  unfold stp
  rw [hd]
  simp only [Bool.false_eq_true, if_false]
  rw [exS_set]
  rfl
theorem ex3 (b : Nat) : pFsync nA (exS b 2 ⟨[120], 0⟩) = (0, exS b 3 ⟨[120], 1⟩) := by
  have hb : blockOf (exS b 2 ⟨[120], 0⟩) nA = b := rfl
  have hd : dead (exS b 2 ⟨[120], 0⟩) = false := rfl
  unfold pFsync
  rw [exS_finds, hb, exS_file, if_neg (by decide)]
  unfold stp
  rw [hd]
  simp only [Bool.false_eq_true, if_false]
  rw [exS_set]
  rfl
theorem ex4 (b : Nat) : pList (pUp 0 [] (exS b 3 ⟨[120], 1⟩)) = [] := rfl
theorem ex5 {g : Nat → Nat} {b : Nat} {q : PS} (c : CopyOf g (exS b 3 ⟨[120], 1⟩) q) : finds (pUp 0 [] (pSyncDir q).2) nA = 0 ∧ pBytes nA (pUp 0 [] (pSyncDir q).2) = [120] := by
  have hsf : q.safe = [] := c.safe
  have hch : q.chg = [⟨0, nA, [], g b⟩] := c.chg
  have hdn : q.down = false := c.down
  have har : q.armed = false := c.armed
  have hfl : q.files (g b) = some ⟨[120], 1⟩ := by
    rw [c.files b (by simp [vals, mades, exS])]
    simp [exS]
  have hw : wrongs q [] = 0 := by simp [wrongs, hdn]
  have hd : dead q = false := by simp [dead, har]
  have hs : (pSyncDir q).2 = { tick q with safe := [(nA, g b)], chg := [] } := by
    simp only [pSyncDir, hw, stp, hd]
    simp only [ne_eq, not_true, if_false, Bool.false_eq_true]
    unfold settle tick
    simp only [hch, hsf]
    rfl
  rw [hs]
  have hu : ∃ fs, fs (g b) = some ⟨[120], 1⟩ ∧ pUp 0 [] { tick q with safe := [(nA, g b)], chg := [] } = { (tick q) with safe := [(nA, g b)], seen := [(nA, g b)], chg := [], down := false, armed := false, left := 0, files := fs } := by
    refine ⟨fun x => if x = g b then some (lose 0 (((tick q).files (g b)).getD ⟨[], 0⟩)) else (tick q).files x, ?_, rfl⟩
    have : (tick q).files (g b) = some ⟨[120], 1⟩ := hfl
    simp only [if_true, this, Option.getD_some]
    rfl
  obtain ⟨fs, hf, hu⟩ := hu
  rw [hu]
  have hfd : ∀ (p : PS), p.seen = [(nA, g b)] → p.down = false → p.files (g b) = some ⟨[120], 1⟩ → finds p nA = 0 ∧ pBytes nA p = [120] := fun p h1 h2 h3 => by
    have hw : wrongs p [nA] = 0 := by unfold wrongs; rw [h2]; rfl
    have hdf : dfind p.seen nA = some (g b) := by rw [h1]; simp [dfind]
    have h0 : finds p nA = 0 := by simp [finds, hw, hdf]
    exact ⟨h0, by simp [pBytes, h0, blockOf, hdf, fileAt, h3]⟩
  exact hfd _ rfl rfl hf

theorem conv_const (W : World) : (convert 32 32 (.slice (some ⟨W.heap.size, 0, none⟩) 1 1)).run Tryz.prog (W.alloc (.cells #[.int .u8 120] 5)) = .ok (.slice (some ⟨W.heap.size, 0, none⟩) 1 1) (W.alloc (.cells #[.int .u8 120] 5 (1, 2))) :=
  Lib.run_convert_bytes_const W 32 5 _ 1 1 Tryz.underlying32 Tryz.underlying5
theorem by_const (W : World) : ByP (· = W.heap.size) (W.alloc (.cells #[.int .u8 120] 5 (1, 2))) (.slice (some ⟨W.heap.size, 0, none⟩) 1 1) [120] := by
  refine ⟨_, 1, rfl, Nat.le_refl _, by decide, by simp, by decide, by simp, fun _ => ⟨W.heap.size, 0, rfl, rfl, by simp, fun i hi => ?_⟩⟩
  have : i = 0 := by simpa using hi
  subst this
  exact World.cell?_alloc_mark W _ 5 (1, 2) 0

set_option maxHeartbeats 4000000 in
set_option maxRecDepth 100000 in
theorem alive_any (w : World) : Calls Tryz.prog 6 #[] w fun e w' => e = .returned (.bool true) ∧ Kp No w w' := by
  have hsA : Hid (nm ⟨#[97]⟩ = nA) := rfl
  have hcv := conv_const
  go_enter Tryz.func6, Tryz.ntmps6
  go_wp2_with fail
  refine (new_yes 100 (by decide) w).mono ?_
  rintro e w1 ⟨rfl, h1, k1⟩
  have S1 := hid h1
  have K1 := hid k1
  obtain ⟨s, hs⟩ : ∃ s, w.heap.size = s := ⟨_, rfl⟩
  rw [hs] at S1 ⊢
  have hws : Hid (w.heap.size ≤ s) := by rw [hs]; exact Nat.le_refl _
  clear h1 k1 hs
  go_wp2_with fail
  refine (create_any w1 s (newPS 100) ⟨#[97]⟩ (by decide) S1.out (by decide)).mono ?_
  rintro e w2 ⟨b, hb, rfl, hD⟩
  rw [hsA.out, ex1] at hD ⊢
  obtain ⟨P2, h2, k2, hP2⟩ := hD
  have S2 := hid h2
  have K2 : Hid (Kp No w w2) := K1.out.trans k2 (fun x hx => .inr (by rw [hx]; exact hws.out))
  have HP2 : Hid (∀ x, P2 x → w.heap.size ≤ x) := fun x hx => by
    rcases hP2 x hx with h | h
    · rw [h]; exact hws.out
    · have := K1.out.size; omega
  clear h2 k2 hP2 S1 hb
  go_wp2_with fail
  have ka : Kp No w2 (w2.alloc (.cells #[.int .u8 120] 5 (1, 2))) := (Kp.refl _ _).alloc _
  refine (append_any (Q := (· = w2.heap.size)) (w2.alloc (.cells #[.int .u8 120] 5 (1, 2))) s (exS b 1 ⟨[], 0⟩) ⟨#[97]⟩ _ [120] (by decide) (S2.out.kept ka) (by decide) (by_const w2) (fun x hx hp => by have := S2.out.lt x hp; omega) (by decide)).mono ?_
  rintro e w3 ⟨rfl, hD⟩
  rw [hsA.out, ex2] at hD ⊢
  obtain ⟨P3, h3, k3, hP3⟩ := hD
  have S3 := hid h3
  have K3 : Hid (Kp No w w3) := (K2.out.andNone ka).trans k3 (fun x hx => .inr (HP2.out x hx))
  have HP3 : Hid (∀ x, P3 x → w.heap.size ≤ x) := fun x hx => by
    rcases hP3 x hx with h | h
    · exact HP2.out x h
    · have := K2.out.size; have := ka.size; omega
  clear h3 k3 hP3 S2 ka
  go_wp2_with fail
  refine (fsync_any w3 s (exS b 2 ⟨[120], 0⟩) ⟨#[97]⟩ (by decide) S3.out (by decide)).mono ?_
  rintro e w4 ⟨rfl, hD⟩
  rw [hsA.out, ex3] at hD ⊢
  obtain ⟨P4, h4, k4, hP4⟩ := hD
  have S4 := hid h4
  have K4 : Hid (Kp No w w4) := K3.out.trans k4 (fun x hx => .inr (HP3.out x hx))
  have HP4 : Hid (∀ x, P4 x → w.heap.size ≤ x) := fun x hx => by
    rcases hP4 x hx with h | h
    · exact HP3.out x h
    · have := K3.out.size; omega
  clear h4 k4 hP4 S3
  go_wp2_with fail
  refine (copy_any w4 s _ S4.out).mono ?_
  rintro e w5 ⟨c, g, q, P5, rfl, hC, h5, hP5, k5⟩
  have HC := hid hC
  have S5 := hid h5
  have HP5 := hid hP5
  have S4' := hid (S4.out.kept k5)
  have K5 : Hid (Kp No w w5) := K4.out.andNone k5
  have HD : Hid (∀ x, P5 x → ¬ P4 x) := fun x hx hp => by have := hP5 x hx; have := S4.out.lt x hp; omega
  have H45 := hid k5.size
  clear hC h5 hP5 k5 S4
  go_wp2_with fail
  refine (syncdir_any w5 c q S5.out (by decide)).mono ?_
  rintro e w6 ⟨rfl, hD⟩
  obtain ⟨P6, h6, k6, hP6⟩ := hD
  have S6 := hid h6
  have S46 := hid (S4'.out.kp k6 HD.out)
  have K6 : Hid (Kp No w w6) := K5.out.trans k6 (fun x hx => .inr (by have := HP5.out x hx; have := K4.out.size; omega))
  have HP6 : Hid (∀ x, P6 x → w4.heap.size ≤ x) := fun x hx => by
    rcases hP6 x hx with h | h
    · exact HP5.out x h
    · have := H45.out; omega
  have HD6 : Hid (∀ x, P6 x → ¬ P4 x) := fun x hx hp => by
    rcases hP6 x hx with h | h
    · exact HD.out x h hp
    · have := S4'.out.lt x hp; omega
  have HF : Hid ((pSyncDir q).1 = (pSyncDir q).1) := rfl
  generalize hR : (((pSyncDir q).1 : Nat) : Int) = fi
  clear h6 k6 hP6 S5 S4' HD hR HF
  go_wp2_with fail
  refine (up_any (Q := No) w6 c (pSyncDir q).2 0 (.slice none 0 0) [] S6.out (IntsAt.nil _ _) (fun x h => h.elim)).mono ?_
  rintro e w7 ⟨rfl, hD⟩
  obtain ⟨P7, h7, k7, hP7⟩ := hD
  have S7 := hid h7
  have S47 := hid (S46.out.kp k7 HD6.out)
  have K7 : Hid (Kp No w w7) := K6.out.trans k7 (fun x hx => .inr (by have := HP6.out x hx; have := K4.out.size; omega))
  clear h7 k7 hP7 S6 S46 HD6
  go_wp2_with fail
  refine (read_any w7 c _ ⟨#[97]⟩ (by decide) S7.out).mono ?_
  rintro e w8 ⟨ad, cap, rfl, ho, hn, k8⟩
  rw [hsA.out, (ex5 HC.out).1, (ex5 HC.out).2] at *
  have HO := hid ho
  have HN := hid hn
  have S48 := hid (S47.out.kept k8)
  have K8 : Hid (Kp No w w8) := K7.out.andNone k8
  have H78 := hid k8.size
  have HL47 := hid S47.out.lt
  clear ho hn k8 S47 S7
  go_wp2_with fail
  refine (up_any (Q := No) w8 s (exS b 3 ⟨[120], 1⟩) 0 (.slice none 0 0) [] S48.out (IntsAt.nil _ _) (fun x h => h.elim)).mono ?_
  rintro e w9 ⟨rfl, hD⟩
  obtain ⟨P9, h9, k9, hP9⟩ := hD
  have HO9 : Hid (OwnB w9 (.slice ad [120].length cap) [120]) := HO.out.row.kp k9 (fun x hx hp => by have := HN.out x hx; have := HL47.out x hp; omega)
  have K9 : Hid (Kp No w w9) := K8.out.trans k9 (fun x hx => .inr (HP4.out x hx))
  have HLS := hid (list_any w9 s _ h9)
  rw [ex4] at HLS
  obtain ⟨gg, hgg⟩ : ∃ gg, ad = some ⟨gg, 0, none⟩ := by
    rcases HO9.out.row.2 with ⟨_, e2⟩ | ⟨g', cap', cur, e, _⟩
    · simp at e2
    · cases e; exact ⟨g', rfl⟩
  subst hgg
  have hcs : (convert 32 9 (.slice (some ⟨gg, 0, none⟩) 1 cap)).run Tryz.prog w9 = .ok (.string ⟨#[120]⟩) w9 := by
    have := run_convert_bytes_back (P := Tryz.prog) w9 32 9 5 ⟨gg, 0, none⟩ cap [120] Tryz.underlying32 Tryz.underlying5 Tryz.underlying9 (fun j hj => by
      have : j = 0 := by simpa using hj
      subst this
      rw [addr_add]
      exact (row_cell HO9.out rfl 0 (by decide)).1)
    exact this
  clear h9 k9 hP9 S48 HO HN HL47 H78 HC HO9
  go_wp2_with (go_at_call 12; refine (HLS.out).mono ?_; rintro e w10 ⟨ul, rfl, h1, h2, h3⟩; have hul : ∃ a0 c0, ul = .slice a0 0 c0 := (by obtain ⟨a0, c0, e, _⟩ := h1.shape; exact ⟨a0, c0, e⟩); obtain ⟨a0, c0, hul⟩ := hul; subst hul; have H3 := hid h3; clear h1 h2 h3)
  go_ret
  exact ⟨rfl, K9.out.andNone H3.out⟩

end Go.Proofs.YtmiipifhbliamaaGreat.Sim
