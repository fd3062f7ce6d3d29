/-
  lose, Up.
-/
import Derived.Test.YtmiipifhbliamaaGreatSimSync
namespace Go.Proofs.YtmiipifhbliamaaGreat.Sim
open Go.RowKit Go.Maps

set_option maxHeartbeats 2000000 in
theorem lose_raw (W : World) (b n cap m : Nat) (a : Option Addr) (k : Int) (hb : Blk W b 86 [.slice a n cap, .int .i64 (m : Int)]) (hn : n ≤ cap) (hm : m ≤ n) (hN : n ≤ 1000000) :
    Calls Tryz.prog 57 #[.pointer (some ⟨b, 0, none⟩), .int .i64 k] W fun e w' => e = .returned (.tuple #[]) ∧ ∃ W1, Kp No W W1 ∧
      w' = (W1.setCell ⟨b, 0, none⟩ (.slice a (m + min (max k 0).toNat (n - m)) cap)).setCell ⟨b, 1, none⟩ (.int .i64 ((m + min (max k 0).toNat (n - m) : Nat) : Int)) := by
  have c0 : W.cell? ⟨b, 0, none⟩ = some (.slice a n cap) := hb.cell 0
  have c1 : W.cell? ⟨b, 1, none⟩ = some (.int .i64 (m : Int)) := hb.cell 1
  have f0 := hb.frozen 0
  have f1 := hb.frozen 1
  clear hb
  obtain ⟨r, hr⟩ : ∃ r : Nat, min (max k 0).toNat (n - m) = r := ⟨_, rfl⟩
  have hrI : min (max k 0) ((n : Int) - (m : Int)) = (r : Int) := by rw [← hr]; omega
  have hrm : m + r ≤ n := by rw [← hr]; omega
  rw [hr]
  clear hr
  have hrc : m + r ≤ cap := by omega
  have hI0 : (0 : Int) ≤ (m : Int) + (r : Int) := by omega
  have hI1 : (m : Int) + (r : Int) ≤ (cap : Int) := by omega
  go_enter Tryz.func57, Tryz.ntmps57
  go_wp2_with fail
  go_region
  all_goals
    go_wp2_with fail
    go_region
    all_goals
      go_wp2
      go_end0
      exact ⟨rfl, W.drew.drew, (Kp.refl _ _).drew.drew, rfl⟩

/-- A row's front. -/
theorem OwnB.front {w : World} {a : Option Addr} {n0 cap : Nat} {bs : List Nat} (h : OwnB w (.slice a n0 cap) bs) (j : Nat) (hj : j ≤ bs.length) : OwnB w (.slice a j cap) (bs.take j) := by
  have hl : (bs.take j).length = j := List.length_take_of_le hj
  have hcl : cl (bs.take j) = (cl bs).take j := by simp [cl, List.map_take]
  rcases h.row.2 with ⟨e, e2⟩ | ⟨g, cap', cur, e, hb, hh, h1, h2, h3, h4⟩
  · cases e
    have : bs = [] := List.length_eq_zero_iff.1 e2
    subst this
    have : j = 0 := by simpa using hj
    subst this
    exact OwnB.nil _
  · cases e
    refine ⟨by rw [cl_length]; omega, .inr ⟨g, cap, cur, by rw [hl], hb, hh, by omega, h2, h3, ?_⟩⟩
    rw [hcl, ← h4, List.take_take, hl]
    congr 1
    omega

theorem lose_len (k : Int) (f : Fl) (h : f.safe ≤ f.b.length) : (lose k f).b = f.b.take (f.safe + min (max k 0).toNat (f.b.length - f.safe)) ∧ (lose k f).b.length = f.safe + min (max k 0).toNat (f.b.length - f.safe) ∧ (lose k f).safe = f.safe + min (max k 0).toNat (f.b.length - f.safe) ∧ f.safe + min (max k 0).toNat (f.b.length - f.safe) ≤ f.b.length := by
  have h1 : f.safe + min (max k 0).toNat (f.b.length - f.safe) ≤ f.b.length := by omega
  have h2 : (f.b.take (f.safe + min (max k 0).toNat (f.b.length - f.safe))).length = f.safe + min (max k 0).toNat (f.b.length - f.safe) := List.length_take_of_le h1
  exact ⟨rfl, h2, h2, h1⟩

/-- lose, of a file of the system. -/
theorem lose_any {P : Nat → Prop} {I J : PS → Prop} (W : World) (s b : Nat) (q : PS) (vs vf vc : Value) (u : Nat → Value) (f : Fl) (k : Int) (h : Rp P I W s q vs vf vc u) (hb : q.files b = some f) (hl : f.b.length ≤ 1000000) (hi : J (setF b (lose k f) q)) :
    Calls Tryz.prog 57 #[.pointer (some ⟨b, 0, none⟩), .int .i64 k] W fun e w' => e = .returned (.tuple #[]) ∧ ∃ u', Rp P J w' s (setF b (lose k f) q) vs vf vc u' ∧ Kp P W w' := by
  obtain ⟨hPb, hFb, hPu⟩ := h.file b f hb
  obtain ⟨a, cap, hv, hle, hcap, hnil⟩ := hFb.own.shape
  obtain ⟨l1, l2, l3, l4⟩ := lose_len k f hFb.le
  have hblk := hFb.blk
  rw [hv] at hblk
  refine (lose_raw W b f.b.length cap f.safe a k hblk hle hFb.le hl).mono ?_
  rintro e w' ⟨rfl, W1, k1, rfl⟩
  generalize hj : f.safe + min (max k 0).toNat (f.b.length - f.safe) = j at *
  have kb : Kp (· = b) W1 ((W1.setCell ⟨b, 0, none⟩ (.slice a j cap)).setCell ⟨b, 1, none⟩ (.int .i64 (j : Int))) := (Kp.set1 _ _ _ _).trans (Kp.set1 _ _ _ _) (fun x hx => .inl hx)
  have K : Kp (fun k => k = b ∨ (u b).ownBlock = some k) W ((W1.setCell ⟨b, 0, none⟩ (.slice a j cap)).setCell ⟨b, 1, none⟩ (.int .i64 (j : Int))) := (k1.mono (fun _ h => h.elim)).trans kb (fun x hx => .inl (.inl hx))
  have hown : OwnB W1 (.slice a j cap) (f.b.take j) := ((by rw [hv] at hFb; exact hFb.own.kept k1 : OwnB W1 (.slice a f.b.length cap) f.b)).front j l4
  have hbk : (Value.slice a j cap).ownBlock = (u b).ownBlock := by rw [hv]; cases a <;> rfl
  have hF : FileAt ((W1.setCell ⟨b, 0, none⟩ (.slice a j cap)).setCell ⟨b, 1, none⟩ (.int .i64 (j : Int))) b (.slice a j cap) (lose k f) := by
    refine ⟨?_, ?_, fun x hx => hFb.byt x (List.mem_of_mem_take (by rw [l1] at hx; exact hx)), by rw [l2, l3]; exact Nat.le_refl _⟩
    · have := ((hFb.blk.kp k1 (fun h => h)).setCell 0 (.slice a j cap)).setCell 1 (.int .i64 (j : Int))
      rw [l3]
      exact this
    · rw [l1]
      exact hown.row.kp kb (fun x hx e => by
        rw [hbk] at hx
        exact hFb.own.row.ne hFb.blk (by decide) (by rw [hx, e]))
  obtain ⟨r1, r2⟩ := rq_setF (P' := P) (J := J) h hb K hF (fun x hx => .inl (by rw [← hbk]; exact hx)) (fun _ h => h) (fun x hx => Nat.lt_of_lt_of_le (h.lt x hx) K.size) (fun x hx => hPu x (by rw [← hbk]; exact hx)) hi
  exact ⟨rfl, _, r1, r2⟩

/-! ### Up -/
/-- A slice of numbers that is read. -/
def IntsAt (Q : Nat → Prop) (w : World) (v : Value) (zs : List Int) : Prop :=
  ∃ a cap, v = .slice a zs.length cap ∧ zs.length ≤ cap ∧ cap ≤ maxLen ∧ zs.length ≤ 1000 ∧ (zs ≠ [] → ∃ g o, a = some ⟨g, o, none⟩ ∧ Q g ∧ g < w.heap.size ∧ ∀ i, i < zs.length → w.cell? ⟨g, o + i, none⟩ = some (.int .i64 (zs.getD i 0)))
theorem IntsAt.kp {Q L : Nat → Prop} {w w' : World} {v : Value} {zs : List Int} (h : IntsAt Q w v zs) (k : Kp L w w') (hL : ∀ x, L x → ¬ Q x) : IntsAt Q w' v zs := by
  obtain ⟨a, cap, h1, h2, h3, h4, h5⟩ := h
  refine ⟨a, cap, h1, h2, h3, h4, fun hne => ?_⟩
  obtain ⟨g, o, e, hq, hg, hc⟩ := h5 hne
  exact ⟨g, o, e, hq, Nat.lt_of_lt_of_le hg k.size, fun i hi => (k.cell (p := ⟨g, o + i, none⟩) hg (fun hl => hL g hl hq)).trans (hc i hi)⟩
theorem IntsAt.nil (Q : Nat → Prop) (w : World) : IntsAt Q w (.slice none 0 0) [] := ⟨none, 0, rfl, Nat.le_refl _, Nat.zero_le _, Nat.zero_le _, fun h => absurd rfl h⟩

theorem loses_snoc (e : Nm × Nat) (cuts : List Int) : ∀ (l : Dir) (i : Nat) (p : PS), loses (l ++ [e]) i cuts p = setF e.2 (lose (cuts.getD (i + l.length) 0) (fileAt (loses l i cuts p) e.2)) (loses l i cuts p)
  | [], i, p => by simp [loses]
  | x :: r, i, p => by
    rw [List.cons_append, loses, loses_snoc e cuts r (i + 1)]
    have : i + 1 + r.length = i + (x :: r).length := by simp; omega
    rw [this]
    rfl
theorem loses_same (cuts : List Int) : ∀ (l : Dir) (i : Nat) (p : PS), (loses l i cuts p).safe = p.safe ∧ (loses l i cuts p).seen = p.seen ∧ (loses l i cuts p).chg = p.chg ∧ (loses l i cuts p).made = p.made ∧ (loses l i cuts p).room = p.room ∧ (loses l i cuts p).steps = p.steps
  | [], _, _ => ⟨rfl, rfl, rfl, rfl, rfl, rfl⟩
  | x :: r, i, p => by
    rw [loses]
    exact loses_same cuts r (i + 1) _
theorem loses_files (cuts : List Int) (B : Nat) : ∀ (l : Dir) (i : Nat) (p : PS), (∀ b f, p.files b = some f → f.b.length ≤ B) → (∀ b f, (loses l i cuts p).files b = some f → f.b.length ≤ B) ∧ ∀ b, ((p.files b).isSome = true → ((loses l i cuts p).files b).isSome = true)
  | [], _, _, h => ⟨h, fun _ h => h⟩
  | x :: r, i, p, h => by
    rw [loses]
    obtain ⟨h1, h2⟩ := loses_files cuts B r (i + 1) (setF x.2 (lose (cuts.getD i 0) (fileAt p x.2)) p) (fun b f hf => by
      have hf' : (if b = x.2 then some (lose (cuts.getD i 0) (fileAt p x.2)) else p.files b) = some f := hf
      split at hf'
      · cases hf'
        have hlen : (lose (cuts.getD i 0) (fileAt p x.2)).b.length ≤ (fileAt p x.2).b.length := List.length_take_le' _ _
        refine Nat.le_trans hlen ?_
        unfold fileAt
        cases hx : p.files x.2 with
        | none => simp
        | some g => exact h _ g hx
      · exact h b f hf')
    refine ⟨h1, fun b hb => h2 b ?_⟩
    show (if b = x.2 then some (lose (cuts.getD i 0) (fileAt p x.2)) else p.files b).isSome = true
    split
    · rfl
    · exact hb
theorem inv_up {N : Nat} {p : PS} (h : PInv N p) (hr : Ris p.safe) (k : Int) (cuts : List Int) : PInv N (pUp k cuts p) := by
  obtain ⟨n, hn, hn2⟩ : ∃ n, min (max k 0).toNat p.chg.length = n ∧ n ≤ p.chg.length := ⟨_, rfl, by omega⟩
  have e : pUp k cuts p = { loses ((p.chg.take n).foldl pdo p.safe) 0 cuts (settle n p) with seen := (loses ((p.chg.take n).foldl pdo p.safe) 0 cuts (settle n p)).safe, down := false, armed := false, left := 0 } := by
    unfold pUp
    rw [hn]
    rfl
  rw [e]
  obtain ⟨s1, s2, s3, s4, s5, s6⟩ := loses_same cuts ((p.chg.take n).foldl pdo p.safe) 0 (settle n p)
  obtain ⟨f1, f2⟩ := loses_files cuts (200 * N) ((p.chg.take n).foldl pdo p.safe) 0 (settle n p) h.lfile
  have s1' : (loses ((p.chg.take n).foldl pdo p.safe) 0 cuts (settle n p)).safe = (p.chg.take n).foldl pdo p.safe := s1
  have s3' : (loses ((p.chg.take n).foldl pdo p.safe) 0 cuts (settle n p)).chg = [] := s3
  have hfn := fold_names h n
  refine {
    seen_eq := by show _ = List.foldl pdo _ _; rw [s3']; rfl
    okc := by show okcs _ _; rw [s3']; trivial
    has := fun x hx => ?_
    hasC := fun c hc => ?_
    nodup := ?_
    nmS := fun x hx => ?_
    nmC := fun c hc => ?_
    nmade := fun hm => ?_
    room := by show _ ≤ _; rw [s5]; exact h.room
    left := Nat.zero_le _
    steps := by show _ ≤ _; rw [s6]; exact h.steps
    lsum := ?_
    lfile := f1
    big := h.big }
  · have hx' : x ∈ (p.chg.take n).foldl pdo p.safe := by rw [← s1']; exact hx
    exact f2 x.2 ((hfn x hx').1)
  · have hc' : c ∈ (loses ((p.chg.take n).foldl pdo p.safe) 0 cuts (settle n p)).chg := hc
    rw [s3'] at hc'
    simp at hc'
  · show (List.map _ (loses ((p.chg.take n).foldl pdo p.safe) 0 cuts (settle n p)).safe ++ List.map _ (List.filter _ (loses ((p.chg.take n).foldl pdo p.safe) 0 cuts (settle n p)).chg)).Nodup
    rw [s3', s1']
    have hd := h.nodup
    have h2 := nodup_fold (p.chg.take n) (p.chg.drop n) p.safe hr (by
      have := h.okc
      rw [← List.take_append_drop n p.chg, okcs_append] at this
      exact this.1) (by rw [List.take_append_drop]; exact hd)
    rw [List.nodup_append] at h2
    simpa [vals] using h2.1
  · have hx' : x ∈ (p.chg.take n).foldl pdo p.safe := by rw [← s1']; exact hx
    exact (hfn x hx').2
  · have hc' : c ∈ (loses ((p.chg.take n).foldl pdo p.safe) 0 cuts (settle n p)).chg := hc
    rw [s3'] at hc'
    simp at hc'
  · have hm' : (loses ((p.chg.take n).foldl pdo p.safe) 0 cuts (settle n p)).made = false := hm
    rw [s4] at hm'
    obtain ⟨h1, h2⟩ := h.nmade hm'
    refine ⟨s3', ?_⟩
    show (loses ((p.chg.take n).foldl pdo p.safe) 0 cuts (settle n p)).safe = []
    rw [s1', h1, h2]
    simp
  · show (loses ((p.chg.take n).foldl pdo p.safe) 0 cuts (settle n p)).safe.length + (loses ((p.chg.take n).foldl pdo p.safe) 0 cuts (settle n p)).chg.length ≤ N
    rw [s1', s3']
    have h1 := length_fold (p.chg.take n) p.safe
    have h2 := List.length_take_le n p.chg
    have := h.lsum
    have h3 : (p.chg.take n).length ≤ p.chg.length := by simp; omega
    simp only [List.length_nil]
    omega

theorem up_nil (k : Int) (v : Value) (w : World) : Calls Tryz.prog 18 #[.pointer none, .int .i64 k, v] w fun e w' => e = .returned (.int .i64 18) ∧ w' = w := by
  go_enter Tryz.func18, Tryz.ntmps18
  go_wp2
  go_ret
  exact ⟨rfl, rfl⟩

end Go.Proofs.YtmiipifhbliamaaGreat.Sim
