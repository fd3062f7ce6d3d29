/-
  (change).copy, Copy.
-/
import Derived.Test.YtmiipifhbliamaaGreatSimCopy
namespace Go.Proofs.YtmiipifhbliamaaGreat.Sim
open Go.RowKit Go.Maps

theorem chgCells_arr (c : PC) (pv : Option Addr) (h : ptrV (pcV c) = .pointer pv) : (chgCells c).toArray = #[.int .i64 (c.kind : Int), .string (sOf c.nm), .string (sOf c.to), .pointer pv] := by
  unfold chgCells
  rw [h]

set_option maxHeartbeats 1000000 in
theorem ccopy_no (w : World) (c : PC) (hk : c.kind ≠ 0) : Calls Tryz.prog 22 #[.agg (chgCells c).toArray] w fun e w' => e = .returned (.agg (chgCells c).toArray) ∧ Kp No w w' := by
  have hp : ptrV (pcV c) = .pointer none := by unfold pcV; rw [if_neg hk]; rfl
  rw [chgCells_arr c none hp]
  generalize sOf c.nm = sn
  generalize sOf c.to = st
  go_enter Tryz.func22, Tryz.ntmps22
  go_wp2
  refine bodyPost_ret (v := .agg #[.int .i64 (c.kind : Int), .string sn, .string st, .pointer none]) (by simp [results, Tryz.results22, go_sem]) rfl ⟨rfl, ?_⟩
  exact ((Kp.refl _ _).alloc _).alloc _

set_option maxHeartbeats 1000000 in
theorem ccopy_yes (w : World) (c : PC) (F : Nat → Option Fl) (hk : c.kind = 0) (hT : There w F c.file) : Calls Tryz.prog 22 #[.agg (chgCells c).toArray] w fun e w' => ∃ nb v' f, e = .returned (.agg (chgCells { c with file := nb }).toArray) ∧ F c.file = some f ∧ FileAt w' nb v' f ∧ w.heap.size ≤ nb ∧ (∀ x, v'.ownBlock = some x → w.heap.size ≤ x) ∧ Kp No w w' := by
  have hp : ptrV (pcV c) = .pointer (some ⟨c.file, 0, none⟩) := by unfold pcV; rw [if_pos hk]; rfl
  have hp2 : Hid (∀ nb, (chgCells { c with file := nb }).toArray = #[.int .i64 (c.kind : Int), .string (sOf c.nm), .string (sOf c.to), .pointer (some ⟨nb, 0, none⟩)]) := fun nb => chgCells_arr _ _ (by unfold pcV; rw [if_pos hk]; rfl)
  rw [chgCells_arr c _ hp]
  have HC : Hid (∀ V, Kp No w V → Calls Tryz.prog 58 #[.pointer (some ⟨c.file, 0, none⟩)] V fun e w' => ∃ nb v' f, e = .returned (.pointer (some ⟨nb, 0, none⟩)) ∧ F c.file = some f ∧ FileAt w' nb v' f ∧ V.heap.size ≤ nb ∧ (∀ x, v'.ownBlock = some x → V.heap.size ≤ x) ∧ Kp No V w') := fun V k => by
    obtain ⟨v, f, h1, h2, h3⟩ := hT.kept k
    refine (fcopy_any V c.file v f h2 h3).mono ?_
    rintro e w' ⟨nb, v', rfl, r1, r2, r3, r4⟩
    exact ⟨nb, v', f, rfl, h1, r1, r2, r3, r4⟩
  generalize sOf c.nm = sn at *
  generalize sOf c.to = st at *
  clear hk hp hT
  have k2 : Hid (Kp No w ((w.alloc (.cells #[.int .i64 (c.kind : Int), .string sn, .string st, .pointer (some ⟨c.file, 0, none⟩)] 69)).alloc (.cells #[.int .i64 0, .string ⟨#[]⟩, .string ⟨#[]⟩, .pointer none] 69))) := ((Kp.refl _ _).alloc _).alloc _
  go_enter Tryz.func22, Tryz.ntmps22
  go_wp2_with fail
  refine (HC.out _ k2.out).mono ?_
  rintro e w1 ⟨nb, v', f, rfl, h1, h2, h3, h4, h5⟩
  have q1 : Blk w1 w.heap.size 69 [.int .i64 (c.kind : Int), .string sn, .string st, .pointer (some ⟨c.file, 0, none⟩)] := ((Blk.new w 69 [.int .i64 (c.kind : Int), .string sn, .string st, .pointer (some ⟨c.file, 0, none⟩)]).kp (L := No) ((Kp.refl _ _).alloc _) (fun h => h)).kp h5 (fun h => h)
  have q2 : Blk w1 (w.heap.size + 1) 69 [.int .i64 0, .string ⟨#[]⟩, .string ⟨#[]⟩, .pointer none] := by
    have := (Blk.new (w.alloc (.cells #[.int .i64 (c.kind : Int), .string sn, .string st, .pointer (some ⟨c.file, 0, none⟩)] 69)) 69 [.int .i64 0, .string ⟨#[]⟩, .string ⟨#[]⟩, .pointer none]).kp h5 (fun h => h)
    simpa using this
  have d0 : w1.cell? ⟨w.heap.size, 0, none⟩ = some (.int .i64 (c.kind : Int)) := q1.cell 0
  have d1 : w1.cell? ⟨w.heap.size, 1, none⟩ = some (.string sn) := q1.cell 1
  have d2 : w1.cell? ⟨w.heap.size, 2, none⟩ = some (.string st) := q1.cell 2
  have d3 : w1.cell? ⟨w.heap.size, 3, none⟩ = some (.pointer (some ⟨c.file, 0, none⟩)) := q1.cell 3
  have df := q1.frozen 3
  have e0 : w1.cell? ⟨w.heap.size + 1, 0, none⟩ = some (.int .i64 0) := q2.cell 0
  have e1 : w1.cell? ⟨w.heap.size + 1, 1, none⟩ = some (.string ⟨#[]⟩) := q2.cell 1
  have e2 : w1.cell? ⟨w.heap.size + 1, 2, none⟩ = some (.string ⟨#[]⟩) := q2.cell 2
  have e3 : w1.cell? ⟨w.heap.size + 1, 3, none⟩ = some (.pointer none) := q2.cell 3
  have ef0 := q2.frozen 0
  have ef1 := q2.frozen 1
  have ef2 := q2.frozen 2
  have ef3 := q2.frozen 3
  have H2 := hid h2
  have H3 := hid h3
  have H4 := hid h4
  have H5 := hid h5
  have HFF := hid h1
  clear h1 h2 h3 h4 h5 q1 q2
  go_wp2
  refine bodyPost_ret (v := .agg #[.int .i64 (c.kind : Int), .string sn, .string st, .pointer (some ⟨nb, 0, none⟩)]) (by simp [results, Tryz.results22, go_sem, e0, e1, e2, e3]) rfl ?_
  have kk : Kp (fun k => k = w.heap.size ∨ k = w.heap.size + 1) w1 (((((w1.setCell ⟨w.heap.size, 3, none⟩ (.pointer (some ⟨nb, 0, none⟩))).setCell ⟨w.heap.size + 1, 0, none⟩ (.int .i64 (c.kind : Int))).setCell ⟨w.heap.size + 1, 1, none⟩ (.string sn)).setCell ⟨w.heap.size + 1, 2, none⟩ (.string st)).setCell ⟨w.heap.size + 1, 3, none⟩ (.pointer (some ⟨nb, 0, none⟩))) := by
    refine Kp.setCell ?_ (.inl (.inr rfl)) _
    refine Kp.setCell ?_ (.inl (.inr rfl)) _
    refine Kp.setCell ?_ (.inl (.inr rfl)) _
    refine Kp.setCell ?_ (.inl (.inr rfl)) _
    refine Kp.setCell ?_ (.inl (.inl rfl)) _
    exact Kp.refl _ _
  have h3 : w.heap.size + 2 ≤ nb := by simpa using H3.out
  have h4 : ∀ x, v'.ownBlock = some x → w.heap.size + 2 ≤ x := fun x hx => by simpa using H4.out x hx
  refine ⟨nb, v', f, by rw [hp2.out], HFF.out, H2.out.kp kk (fun e => by omega) (fun x hx e => by have := h4 x hx; omega), by omega, fun x hx => by have := h4 x hx; omega, ?_⟩
  exact (k2.out.andNone H5.out).trans kk (fun x hx => .inr (by omega))

/-- What a copy is: the same under other blocks. -/
def renC (g : Nat → Nat) (c : PC) : PC := if c.kind = 0 then { c with file := g c.file } else c
structure CopyOf (g : Nat → Nat) (p q : PS) : Prop where
  room : q.room = p.room
  made : q.made = true
  down : q.down = p.down
  armed : q.armed = p.armed
  left : q.left = p.left
  steps : q.steps = p.steps
  safe : q.safe = ren g p.safe
  chg : q.chg = p.chg.map (renC g)
  seen : q.seen = ren g p.seen
  files : ∀ b, b ∈ vals p.safe ++ mades p.chg → q.files (g b) = p.files b
  inj : ∀ b c, b ∈ vals p.safe ++ mades p.chg → c ∈ vals p.safe ++ mades p.chg → g b = g c → b = c

theorem ren_find (g : Nat → Nat) (n : Nm) : ∀ d : Dir, dfind (ren g d) n = (dfind d n).map g
  | [] => rfl
  | e :: r => by
    have ih := ren_find g n r
    unfold dfind ren at ih ⊢
    rw [List.map_cons, List.find?_cons, List.find?_cons]
    cases e.1 == n
    · exact ih
    · rfl
theorem ren_del (g : Nat → Nat) (n : Nm) (d : Dir) : ddel (ren g d) n = ren g (ddel d n) := by
  unfold ddel ren
  rw [List.filter_map]
  rfl
theorem ren_ins (g : Nat → Nat) (n : Nm) (f : Nat) : ∀ d : Dir, dins (n, g f) (ren g d) = ren g (dins (n, f) d)
  | [] => rfl
  | e :: r => by
    have ih := ren_ins g n f r
    unfold ren at ih ⊢
    rw [List.map_cons]
    unfold dins
    simp only
    split
    · rfl
    · rw [List.map_cons, ih]
theorem ren_put (g : Nat → Nat) (n : Nm) (f : Nat) (d : Dir) : dput (ren g d) n (g f) = ren g (dput d n f) := by
  unfold dput
  rw [ren_del, ren_ins]
theorem ren_pdo (g : Nat → Nat) (d : Dir) (c : PC) (hok : okc d c) : pdo (ren g d) (renC g c) = ren g (pdo d c) ∧ okc (ren g d) (renC g c) := by
  unfold renC
  split
  · rename_i hk
    refine ⟨?_, Nat.le_trans (Nat.le_of_eq hk) (Nat.zero_le _), fun e => by simp [hk] at e⟩
    unfold pdo
    simp only [hk, if_true]
    exact ren_put g c.nm c.file d
  · rename_i hk
    refine ⟨?_, hok.1, fun e => by rw [ren_find, Option.isSome_map]; exact hok.2 e⟩
    unfold pdo
    rw [if_neg hk, if_neg hk]
    split
    · exact ren_del g c.nm d
    · have hk2 : c.kind = 2 := by have := hok.1; omega
      obtain ⟨b, hb⟩ := Option.isSome_iff_exists.1 (hok.2 hk2)
      rw [ren_find, hb, ren_del]
      exact ren_put g c.to b _
theorem ren_fold (g : Nat → Nat) : ∀ (l : List PC) (d : Dir), okcs d l → (l.map (renC g)).foldl pdo (ren g d) = ren g (l.foldl pdo d) ∧ okcs (ren g d) (l.map (renC g))
  | [], _, _ => ⟨rfl, trivial⟩
  | c :: r, d, hok => by
    obtain ⟨h1, h2⟩ := ren_pdo g d c hok.1
    obtain ⟨h3, h4⟩ := ren_fold g r (pdo d c) hok.2
    refine ⟨?_, h2, ?_⟩
    · rw [List.map_cons, List.foldl_cons, List.foldl_cons, h1, h3]
    · rw [h1]; exact h4
theorem renC_kind (g : Nat → Nat) (c : PC) : (renC g c).kind = c.kind ∧ (renC g c).nm = c.nm ∧ (renC g c).to = c.to ∧ (c.kind = 0 → (renC g c).file = g c.file) := by
  unfold renC
  split
  · exact ⟨rfl, rfl, rfl, fun _ => rfl⟩
  · rename_i h; exact ⟨rfl, rfl, rfl, fun e => absurd e h⟩
theorem mades_ren (g : Nat → Nat) (l : List PC) : mades (l.map (renC g)) = (mades l).map g := by
  induction l with
  | nil => rfl
  | cons c r ih =>
    unfold mades at ih ⊢
    rw [List.map_cons, List.filter_cons, List.filter_cons, (renC_kind g c).1]
    by_cases hk : c.kind = 0
    · simp only [hk, beq_self_eq_true, if_true, List.map_cons, ih]
      rw [(renC_kind g c).2.2.2 hk]
    · have : (c.kind == 0) = false := by simp [hk]
      rw [this]
      exact ih
theorem vals_ren (g : Nat → Nat) (d : Dir) : vals (ren g d) = (vals d).map g := by
  unfold vals ren
  rw [List.map_map, List.map_map]
  rfl
theorem inv_copy {N : Nat} {g : Nat → Nat} {p q : PS} (h : PInv N p) (c : CopyOf g p q) (hf : ∀ b f, q.files b = some f → f.b.length ≤ 200 * N) : PInv N q := by
  have hfold := ren_fold g p.chg p.safe h.okc
  refine {
    seen_eq := by rw [c.seen, c.chg, c.safe, hfold.1, ← h.seen_eq]
    okc := by rw [c.chg, c.safe]; exact hfold.2
    has := fun e he => ?_
    hasC := fun d hd hk => ?_
    nodup := ?_
    nmS := fun e he => ?_
    nmC := fun d hd => ?_
    nmade := fun e => by rw [c.made] at e; cases e
    room := by rw [c.room]; exact h.room
    left := by rw [c.left]; exact h.left
    steps := by rw [c.steps]; exact h.steps
    lsum := by rw [c.safe, c.chg]; simpa [ren] using h.lsum
    lfile := hf
    big := h.big }
  · rw [c.safe] at he
    obtain ⟨x, hx, rfl⟩ := mem_ren.1 he
    show (q.files (g x.2)).isSome = true
    rw [c.files x.2 (List.mem_append.2 (.inl (List.mem_map.2 ⟨x, hx, rfl⟩)))]
    exact h.has x hx
  · rw [c.chg] at hd
    obtain ⟨x, hx, rfl⟩ := List.mem_map.1 hd
    rw [(renC_kind g x).1] at hk
    rw [(renC_kind g x).2.2.2 hk, c.files x.file (List.mem_append.2 (.inr (List.mem_map.2 ⟨x, List.mem_filter.2 ⟨hx, by simp [hk]⟩, rfl⟩)))]
    exact h.hasC x hx hk
  · show (vals q.safe ++ mades q.chg).Nodup
    rw [c.safe, c.chg, vals_ren, mades_ren, ← List.map_append]
    have h1 : (vals p.safe ++ mades p.chg).Nodup := h.nodup
    unfold List.Nodup
    rw [List.pairwise_map]
    exact List.Pairwise.imp_of_mem (fun {a b} ha hb hne e => hne (c.inj a b ha hb e)) h1
  · rw [c.safe] at he
    obtain ⟨x, hx, rfl⟩ := mem_ren.1 he
    exact h.nmS x hx
  · rw [c.chg] at hd
    obtain ⟨x, hx, rfl⟩ := List.mem_map.1 hd
    rw [(renC_kind g x).2.1, (renC_kind g x).2.2.1]
    exact h.nmC x hx

end Go.Proofs.YtmiipifhbliamaaGreat.Sim
