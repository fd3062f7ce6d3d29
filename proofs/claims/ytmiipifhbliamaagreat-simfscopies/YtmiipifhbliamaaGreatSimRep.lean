/-
  The system in memory: its struct, its two maps, its changes, its files.
-/
import Derived.Test.YtmiipifhbliamaaGreatSimMap
import Derived.Test.YtmiipifhbliamaaGreatSimRName
namespace Go.Proofs.YtmiipifhbliamaaGreat.Sim
open Go.RowKit

/-- A name as a text, and a text as a name. -/
def sOf (n : Nm) : ByteArray := ⟨n.toArray⟩
def nm (s : ByteArray) : Nm := s.data.toList
theorem nm_sOf (n : Nm) : nm (sOf n) = n := rfl
theorem sOf_nm (s : ByteArray) : sOf (nm s) = s := by unfold sOf nm; simp
theorem enc_nm (s : ByteArray) : encStr (nm s) = .string s := by show Value.string (sOf (nm s)) = _; rw [sOf_nm]
theorem nm_len (s : ByteArray) : (nm s).length = s.size := len_data s
theorem sOf_size (n : Nm) : (sOf n).size = n.length := by rw [← nm_len, nm_sOf]
theorem sOf_inj {a b : Nm} (h : sOf a = sOf b) : a = b := by rw [← nm_sOf a, h, nm_sOf]

theorem MapV.lookS {w : World} {v : Value} {l : Dir} (h : MapV w v l) (s : ByteArray) (hn : s.size ≤ 1000000) : (Instr.lookup 55 v (.string s) false).run Tryz.prog w = .ok (ptrV (dfind l (nm s))) w := by
  rw [← enc_nm]
  exact h.look (nm s) (by rw [nm_len]; exact hn)

/-! ### The struct -/
def fsCells (p : PS) (vs vf vc : Value) : List Value := [.int .i64 (p.room : Int), vs, vf, vc, .bool p.down, .bool p.armed, .int .i64 (p.left : Int), .int .i64 (p.steps : Int)]
/-- A change's cells. -/
def pcV (c : PC) : Option Nat := if c.kind = 0 then some c.file else none
def chgCells (c : PC) : List Value := [.int .i64 (c.kind : Int), .string (sOf c.nm), .string (sOf c.to), ptrV (pcV c)]
def chgs (l : List PC) : List Value := l.flatMap chgCells
theorem chgs_append (l m : List PC) : chgs (l ++ m) = chgs l ++ chgs m := by simp [chgs]
theorem chgs_one (c : PC) : chgs [c] = chgCells c := by simp [chgs]
theorem chgs_length (l : List PC) : (chgs l).length = l.length * 4 := by
  induction l with
  | nil => rfl
  | cons c r ih => simp only [chgs, List.flatMap_cons, List.length_append, List.length_cons] at ih ⊢; rw [ih]; simp [chgCells]; omega
theorem chgs_at (l : List PC) (i : Nat) (c : PC) (h : l[i]? = some c) (j : Nat) (hj : j < 4) : (chgs l)[i * 4 + j]? = (chgCells c)[j]? := by
  induction l generalizing i with
  | nil => simp at h
  | cons d r ih =>
    have e : chgs (d :: r) = chgCells d ++ chgs r := by simp [chgs]
    rw [e]
    cases i with
    | zero =>
      simp at h
      subst h
      rw [List.getElem?_append_left (by simp [chgCells]; omega)]
      simp
    | succ i =>
      rw [List.getElem?_append_right (by simp [chgCells]; omega)]
      have : (i + 1) * 4 + j - (chgCells d).length = i * 4 + j := by simp [chgCells]; omega
      rw [this]
      exact ih i (by simpa using h)
theorem chgCells_one (c : PC) : ∀ u ∈ chgCells c, u.oneCell' = true := by
  intro u hu
  simp [chgCells] at hu
  rcases hu with rfl | rfl | rfl | rfl <;> rfl

/-- A file in memory: its struct in block b, its bytes in v. -/
structure FileAt (w : World) (b : Nat) (v : Value) (f : Fl) : Prop where
  blk : Blk w b 86 [v, .int .i64 (f.safe : Int)]
  own : OwnB w v f.b
  byt : ∀ x ∈ f.b, x < 256
  le : f.safe ≤ f.b.length
theorem FileAt.kp {L : Nat → Prop} {w w' : World} {b : Nat} {v : Value} {f : Fl} (h : FileAt w b v f) (k : Kp L w w') (hb : ¬ L b) (hv : ∀ x, v.ownBlock = some x → ¬ L x) : FileAt w' b v f :=
  ⟨h.blk.kp k hb, h.own.row.kp k hv, h.byt, h.le⟩

/-- What holds of the state alone. N: a bound that grows with each call. -/
structure PInv (N : Nat) (p : PS) : Prop where
  seen_eq : p.seen = p.chg.foldl pdo p.safe
  okc : okcs p.safe p.chg
  has : ∀ e ∈ p.safe, (p.files e.2).isSome = true
  hasC : ∀ c ∈ p.chg, c.kind = 0 → (p.files c.file).isSome = true
  nodup : (p.safe.map (·.2) ++ (p.chg.filter (fun c => c.kind == 0)).map (·.file)).Nodup
  nmS : ∀ e ∈ p.safe, e.1.length ≤ 40
  nmC : ∀ c ∈ p.chg, c.nm.length ≤ 40 ∧ c.to.length ≤ 40
  nmade : p.made = false → p.chg = [] ∧ p.safe = []
  room : p.room ≤ 99000
  left : p.left ≤ 9223372036854775807
  steps : p.steps ≤ N
  lsum : p.safe.length + p.chg.length ≤ N
  lfile : ∀ b f, p.files b = some f → f.b.length ≤ 200 * N
  big : N ≤ 1000

theorem length_fold : ∀ (l : List PC) (d : Dir), (l.foldl pdo d).length ≤ d.length + l.length
  | [], _ => Nat.le_refl _
  | c :: r, d => by
    have h1 := length_fold r (pdo d c)
    have h2 := length_pdo d c
    simp only [List.foldl_cons, List.length_cons]
    omega
theorem PInv.lsafe {N : Nat} {p : PS} (h : PInv N p) : p.safe.length ≤ N := by have := h.lsum; omega
theorem PInv.lchg {N : Nat} {p : PS} (h : PInv N p) : p.chg.length ≤ N := by have := h.lsum; omega
theorem PInv.lseen {N : Nat} {p : PS} (h : PInv N p) : p.seen.length ≤ N := by
  have h1 := length_fold p.chg p.safe
  rw [← h.seen_eq] at h1
  have := h.lsum
  omega

structure Rp (P : Nat → Prop) (I : PS → Prop) (w : World) (s : Nat) (p : PS) (vs vf vc : Value) (u : Nat → Value) : Prop where
  lt : ∀ x, P x → x < w.heap.size
  ps : P s
  blk : Blk w s 63 (fsCells p vs vf vc)
  seen : MapV w vs p.seen
  safe : MapV w vf p.safe
  unmade : p.made = false → vs = .map none ∧ vf = .map none
  mades : p.made = true → ∃ a b, vs = .map (some a) ∧ vf = .map (some b) ∧ a ≠ b ∧ P a ∧ P b
  chg : Row w 69 4 vc p.chg.length (chgs p.chg)
  pc : ∀ x, vc.ownBlock = some x → P x
  file : ∀ b f, p.files b = some f → P b ∧ FileAt w b (u b) f ∧ ∀ x, (u b).ownBlock = some x → P x
  sep : ∀ b b' f f', p.files b = some f → p.files b' = some f' → b ≠ b' → ∀ x, (u b).ownBlock = some x → (u b').ownBlock ≠ some x
  inv : I p

/-- The system of the state p lies at s, in blocks of which P. -/
def Sys (P : Nat → Prop) (N : Nat) (w : World) (s : Nat) (p : PS) : Prop := ∃ vs vf vc u, Rp P (PInv N) w s p vs vf vc u

theorem MapV.kp {L : Nat → Prop} {w w' : World} {v : Value} {l : Dir} (h : MapV w v l) (k : Kp L w w') (hP : ∀ b, v = .map (some b) → ¬ L b) : MapV w' v l := by
  rcases h with h | ⟨b, rfl, h⟩
  · exact .inl h
  · exact .inr ⟨b, rfl, h.kp k (hP b rfl)⟩
theorem Rp.mapS {P : Nat → Prop} {I : PS → Prop} {w : World} {s : Nat} {p : PS} {vs vf vc : Value} {u : Nat → Value} (h : Rp P I w s p vs vf vc u) : (∀ b, vs = .map (some b) → P b) ∧ ∀ b, vf = .map (some b) → P b := by
  cases hm : p.made with
  | false =>
    obtain ⟨rfl, rfl⟩ := h.unmade hm
    exact ⟨fun b hb => (by cases hb), fun b hb => (by cases hb)⟩
  | true =>
    obtain ⟨a, b, rfl, rfl, _, ha, hb⟩ := h.mades hm
    exact ⟨fun x hx => (by cases hx; exact ha), fun x hx => (by cases hx; exact hb)⟩
/-- What is done elsewhere leaves it as it is. -/
theorem Rp.kp {P L : Nat → Prop} {I : PS → Prop} {w w' : World} {s : Nat} {p : PS} {vs vf vc : Value} {u : Nat → Value} (h : Rp P I w s p vs vf vc u) (k : Kp L w w') (hL : ∀ x, L x → ¬ P x) : Rp P I w' s p vs vf vc u where
  lt x hx := Nat.lt_of_lt_of_le (h.lt x hx) k.size
  ps := h.ps
  blk := h.blk.kp k (fun hl => hL _ hl h.ps)
  seen := h.seen.kp k (fun b hb hl => hL _ hl (h.mapS.1 b hb))
  safe := h.safe.kp k (fun b hb hl => hL _ hl (h.mapS.2 b hb))
  unmade := h.unmade
  mades := h.mades
  chg := h.chg.kp k (fun x hx hl => hL _ hl (h.pc x hx))
  pc := h.pc
  file b f hf := by
    obtain ⟨h1, h2, h3⟩ := h.file b f hf
    exact ⟨h1, h2.kp k (fun hl => hL _ hl h1) (fun x hx hl => hL _ hl (h3 x hx)), h3⟩
  sep := h.sep
  inv := h.inv
theorem Sys.kp {P L : Nat → Prop} {N : Nat} {w w' : World} {s : Nat} {p : PS} (h : Sys P N w s p) (k : Kp L w w') (hL : ∀ x, L x → ¬ P x) : Sys P N w' s p := by
  obtain ⟨vs, vf, vc, u, h⟩ := h
  exact ⟨vs, vf, vc, u, h.kp k hL⟩
theorem Sys.kept {P : Nat → Prop} {N : Nat} {w w' : World} {s : Nat} {p : PS} (h : Sys P N w s p) (k : Kp No w w') : Sys P N w' s p := h.kp k (fun _ hx => hx.elim)
theorem PInv.mono {N M : Nat} {p : PS} (h : PInv N p) (hm : N ≤ M) (hb : M ≤ 1000) : PInv M p :=
  { h with steps := Nat.le_trans h.steps hm, lsum := Nat.le_trans h.lsum hm, lfile := fun b f hf => Nat.le_trans (h.lfile b f hf) (Nat.mul_le_mul_left _ hm), big := hb }
theorem Sys.more {P : Nat → Prop} {N M : Nat} {w : World} {s : Nat} {p : PS} (h : Sys P N w s p) (hm : N ≤ M) (hb : M ≤ 1000) : Sys P M w s p := by
  obtain ⟨vs, vf, vc, u, h⟩ := h
  exact ⟨vs, vf, vc, u, { h with inv := h.inv.mono hm hb }⟩
theorem Sys.lt {P : Nat → Prop} {N : Nat} {w : World} {s : Nat} {p : PS} (h : Sys P N w s p) : ∀ x, P x → x < w.heap.size := by
  obtain ⟨vs, vf, vc, u, h⟩ := h
  exact h.lt
theorem Sys.inv {P : Nat → Prop} {N : Nat} {w : World} {s : Nat} {p : PS} (h : Sys P N w s p) : PInv N p := by
  obtain ⟨vs, vf, vc, u, h⟩ := h
  exact h.inv

/-! ### The files that names lead to are there -/
theorem mem_pdo {d : Dir} {c : PC} {e : Nm × Nat} (hok : okc d c) (h : e ∈ pdo d c) : e ∈ d ∨ (c.kind = 0 ∧ e = (c.nm, c.file)) ∨ (c.kind = 2 ∧ ∃ b, dfind d c.nm = some b ∧ e = (c.to, b)) := by
  unfold pdo at h
  split at h
  · rename_i hk
    rcases mem_dput.1 h with rfl | h
    · exact .inr (.inl ⟨hk, rfl⟩)
    · exact .inl h.1
  · split at h
    · exact .inl (mem_ddel.1 h).1
    · have hk : c.kind = 2 := by have := hok.1; omega
      rcases mem_dput.1 h with rfl | h
      · obtain ⟨b, hb⟩ := Option.isSome_iff_exists.1 (hok.2 hk)
        exact .inr (.inr ⟨hk, b, hb, by rw [hb]; rfl⟩)
      · exact .inl (mem_ddel.1 h.1).1
theorem fold_has {F : Nat → Prop} {M : Nm → Prop} : ∀ (l : List PC) (d : Dir), okcs d l → (∀ e ∈ d, F e.2 ∧ M e.1) → (∀ c ∈ l, (c.kind = 0 → F c.file) ∧ M c.nm ∧ M c.to) → ∀ e ∈ l.foldl pdo d, F e.2 ∧ M e.1
  | [], _, _, hd, _ => hd
  | c :: r, d, hok, hd, hc => by
    refine fold_has r (pdo d c) hok.2 (fun e he => ?_) (fun c' hc' => hc c' (by simp [hc']))
    obtain ⟨c1, c2, c3⟩ := hc c (by simp)
    rcases mem_pdo hok.1 he with h | ⟨hk, rfl⟩ | ⟨_, b, hb, rfl⟩
    · exact hd e h
    · exact ⟨c1 hk, c2⟩
    · exact ⟨(hd _ (mem_of_dfind hb)).1, c3⟩
theorem PInv.hasSeen {N : Nat} {p : PS} (h : PInv N p) : ∀ e ∈ p.seen, (p.files e.2).isSome = true ∧ e.1.length ≤ 40 := by
  rw [h.seen_eq]
  exact fold_has (F := fun b => (p.files b).isSome = true) (M := fun n => n.length ≤ 40) p.chg p.safe h.okc (fun e he => ⟨h.has e he, h.nmS e he⟩) (fun c hc => ⟨h.hasC c hc, (h.nmC c hc).1, (h.nmC c hc).2⟩)
theorem PInv.hasFound {N : Nat} {p : PS} (h : PInv N p) {n : Nm} {b : Nat} (hb : dfind p.seen n = some b) : p.files b = some (fileAt p b) := by
  obtain ⟨f, hf⟩ := Option.isSome_iff_exists.1 ((h.hasSeen _ (mem_of_dfind hb)).1)
  simp only at hf
  rw [fileAt, hf]
  rfl

end Go.Proofs.YtmiipifhbliamaaGreat.Sim
