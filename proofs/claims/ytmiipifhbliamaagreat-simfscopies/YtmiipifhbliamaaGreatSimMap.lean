/-
  A directory in memory: a map from names to files; looked at, written, copied, its names.
-/
import Derived.Test.YtmiipifhbliamaaGreatSimMem
import Derived.Test.YtmiipifhbliamaaGreatSimShelf
import Derived.Maps.RangeWalk
import Derived.Maps.Ext
import Derived.Sort.OwnSorted
namespace Go.Proofs.YtmiipifhbliamaaGreat.Sim
open Go.RowKit Go.Maps Go.Sort Go.Shelf

/-- How a pointer to a file reads: its block. -/
def ptrR (v : Value) : Option (DD × List MemPlace) :=
  match v with
  | .pointer (some a) => if a.off = 0 ∧ a.spot = none then some (fileD a.block, []) else none
  | .pointer none => some (.nil, [])
  | _ => none
def ptrV (b : Option Nat) : Value := .pointer (b.map fun x => ⟨x, 0, none⟩)
theorem ptrR_some (b : Nat) : ptrR (.pointer (some ⟨b, 0, none⟩)) = some (fileD b, []) := rfl
theorem ptrR_inv {v : Value} {y : DD × List MemPlace} (h : ptrR v = some y) : ∃ c, v = ptrV c ∧ y = (match c with | some b => fileD b | none => .nil, []) := by
  unfold ptrR at h
  split at h
  · rename_i a
    split at h
    · rename_i ha
      obtain ⟨bl, off, spot⟩ := a
      obtain ⟨h1, h2⟩ := ha
      simp at h1 h2
      subst h1 h2
      cases h
      exact ⟨some bl, rfl, rfl⟩
    · cases h
  · cases h
    exact ⟨none, rfl, rfl⟩
  · cases h
theorem fileD_inj {a b : Nat} (h : fileD a = fileD b) : a = b := by
  unfold fileD at h
  simp at h
  omega

theorem Tryz.keyed : Keyed Tryz.prog 9 := string_keyed Tryz.underlying9
theorem Tryz.key (n : Nm) (h : n.length ≤ 1000000) : keyOf Tryz.prog 9 (encStr n) = some (.string n) := by
  have h1 : (⟨n.toArray⟩ : ByteArray).size ≤ maxLen := by
    have : (⟨n.toArray⟩ : ByteArray).size = n.length := by simp [ByteArray.size]
    rw [this]; unfold maxLen; omega
  have := Go.WideMaps.keyOf_string_mk (P := Tryz.prog) (k := 9) Tryz.underlying9 h1
  simpa using this
theorem Tryz.zeroP (w : World) : (zeroValue 67).run Tryz.prog w = .ok (.pointer none) w := by kernel_rfl

/-- Block b is a map that is the directory l. -/
def MapAt (w : World) (b : Nat) (l : Dir) : Prop := w.ownsMap Tryz.prog 9 ptrR b l.length (dirD l)
theorem MapAt.of {w : World} {b n : Nat} {l : Dir} (h : w.ownsMap Tryz.prog 9 ptrR b n (dirD l)) : MapAt w b l := by
  obtain ⟨es, clock, hb, F, hs, hD⟩ := h
  refine ⟨es, clock, hb, F, ?_, hD⟩
  have h1 : Maps.size (dirD l) = es.size := by rw [hD]; simp [Maps.size, length_sorted]
  rw [dirD_size] at h1
  omega
theorem MapAt.lt {w : World} {b : Nat} {l : Dir} (h : MapAt w b l) : b < w.heap.size := World.ownsMap.lt h
theorem MapAt.kp {L : Nat → Prop} {w w' : World} {b : Nat} {l : Dir} (h : MapAt w b l) (k : Kp L w w') (hb : ¬ L b) : MapAt w' b l := by
  have hlt := h.lt
  obtain ⟨es, clock, h1, r⟩ := h
  exact ⟨es, clock, (k.block b hlt hb).trans h1, r⟩
theorem MapAt.ris {w : World} {b : Nat} {l : Dir} (h : MapAt w b l) : Ris l := ris_of_canon (World.ownsMap.canon h Tryz.keyed)
theorem MapAt.blk {w : World} {b b' : Nat} {l : Dir} {t : TypeId} {cs : List Value} (h : MapAt w b l) (h' : Blk w b' t cs) : b ≠ b' := by
  intro e
  subst e
  obtain ⟨es, clock, h1, _⟩ := h
  unfold Blk at h'
  rw [h1] at h'
  cases h'
theorem MapAt.row {w : World} {b : Nat} {l : Dir} {e : TypeId} {sz n : Nat} {v : Value} {xs : List Value} (h : MapAt w b l) (h' : Row w e sz v n xs) : v.ownBlock ≠ some b := by
  obtain ⟨es, clock, h1, _⟩ := h
  rcases h'.2 with ⟨rfl, _⟩ | ⟨g, cap, cur, rfl, _, hgg, _⟩
  · simp [Value.ownBlock]
  · intro hx
    simp [Value.ownBlock] at hx
    subst hx
    rw [h1] at hgg
    cases hgg
theorem MapAt.new (w : World) : MapAt (w.alloc (.map #[] 0)) w.heap.size [] := World.ownsMap_made _ _ _ _

theorem MapAt.look {w : World} {b : Nat} {l : Dir} (h : MapAt w b l) (n : Nm) (hn : n.length ≤ 1000000) : (Instr.lookup 55 (.map (some b)) (encStr n) false).run Tryz.prog w = .ok (ptrV (dfind l n)) w := by
  obtain ⟨v, ps, hrun, hv⟩ := World.ownsMap.lookup h Tryz.keyed Tryz.underlying55 (Tryz.zeroP w) (zd := .nil) (zp := []) rfl (Tryz.key n hn)
  rw [dirD_at] at hv
  obtain ⟨c, rfl, hc⟩ := ptrR_inv hv
  have e : c = dfind l n := by
    cases hd : dfind l n with
    | none =>
      rw [hd] at hc
      cases c with
      | none => rfl
      | some x => simp [fileD] at hc
    | some y =>
      rw [hd] at hc
      cases c with
      | none => simp [fileD] at hc
      | some x =>
        simp only [Prod.mk.injEq] at hc
        rw [fileD_inj hc.1]
  rw [hrun, e]
theorem look_nil (w : World) (n : Nm) (hn : n.length ≤ 1000000) : (Instr.lookup 55 (.map none) (encStr n) false).run Tryz.prog w = .ok (.pointer none) w := by
  have := Maps.look_nil (w := w) false Tryz.keyed Tryz.underlying55 (Tryz.zeroP w) (Tryz.key n hn)
  simpa using this

/-- A directory, made or not. -/
def MapV (w : World) (v : Value) (l : Dir) : Prop := (v = .map none ∧ l = []) ∨ ∃ b, v = .map (some b) ∧ MapAt w b l
theorem MapV.look {w : World} {v : Value} {l : Dir} (h : MapV w v l) (n : Nm) (hn : n.length ≤ 1000000) : (Instr.lookup 55 v (encStr n) false).run Tryz.prog w = .ok (ptrV (dfind l n)) w := by
  rcases h with ⟨rfl, rfl⟩ | ⟨b, rfl, h⟩
  · exact look_nil w n hn
  · exact h.look n hn

/-! ### Written -/
section
variable (w : World) {ops : Array Oper} {rest : List Oper} {o : Oper} {a : Act} {Q : Exit → Act → World → Prop}
theorem wp_store (hg : o.guard = none) (m x v : Operand) (hop : o.op = Op.mapUpdate 55 m x v) (b f : Nat) (l : Dir) (n : Nm) (hm : a.eval m = .map (some b)) (hx : a.eval x = encStr n) (hv : a.eval v = .pointer (some ⟨f, 0, none⟩))
    (h : MapAt w b l) (hn : n.length ≤ 1000000) (hl : l.length ≤ 1000000) (hK : ∀ w', MapAt w' b (dput l n f) → Kp (· = b) w w' → w'.heap.size = w.heap.size → wpList Tryz.prog ops Q rest (a.put o.dst undef) w') : wpList Tryz.prog ops Q (o :: rest) a w := by
  refine wpList_plain hg fun K' hK' => ?_
  obtain ⟨w', hrun, r1, r2⟩ := World.ownsMap.store h Tryz.keyed Tryz.underlying55 (by unfold maxLen; omega) (Tryz.key n hn) (ptrR_some f)
  unfold Oper.wp
  simp [execOp, hop, hm, hx, hv, hrun, Result.andThen]
  rw [dirD_put] at r1
  refine hK' _ _ (hK w' (MapAt.of r1) ((Kp.refl _ _).grown r2.grown (fun x hx => .inl (by simpa using hx.symm))) ?_)
  obtain ⟨es, clock, es', clock', _, rfl⟩ := r2
  simp [ChangeMaps.setBlock]
theorem wp_drop (hg : o.guard = none) (m x : Operand) (hop : o.op = Op.call { callee := Callee.builtin Builtin.delete, args := #[m, x], argTypes := #[55, 9] }) (b : Nat) (l : Dir) (n : Nm) (hm : a.eval m = .map (some b)) (hx : a.eval x = encStr n)
    (h : MapAt w b l) (hn : n.length ≤ 1000000) (hK : ∀ w', MapAt w' b (ddel l n) → Kp (· = b) w w' → w'.heap.size = w.heap.size → wpList Tryz.prog ops Q rest (a.put o.dst (.tuple #[])) w') : wpList Tryz.prog ops Q (o :: rest) a w := by
  refine wpList_plain hg fun K' hK' => ?_
  obtain ⟨w', hrun, r1, r2⟩ := World.ownsMap.drop h Tryz.keyed Tryz.underlying55 (Tryz.key n hn) o.type
  unfold Oper.wp
  simp [execOp, hop, resolve, invoke, builtin, hm, hx, hrun, Result.andThen]
  rw [dirD_del] at r1
  refine hK' _ _ (hK w' (MapAt.of r1) ((Kp.refl _ _).grown r2.grown (fun x hx => .inl (by simpa using hx.symm))) ?_)
  obtain ⟨es, clock, es', clock', _, rfl⟩ := r2
  simp [ChangeMaps.setBlock]
end

/-! ### maps.Clone -/
theorem mclone_any (w : World) (b : Nat) (l : Dir) (h : MapAt w b l) : Calls Tryz.prog 23 #[.map (some b)] w fun e w' => e = .returned (.map (some w.heap.size)) ∧ MapAt w' w.heap.size l ∧ MapAt w' b l ∧ Kp No w w' ∧ w'.heap.size = w.heap.size + 1 := by
  obtain ⟨es, clock, hb, F, hs, hD⟩ := h
  have hlt : b < w.heap.size := (Array.getElem?_eq_some_iff.1 hb).1
  have hcon := AnyW.maps_Clone Tryz.cloneM b es clock w hb
  refine hcon.mono ?_
  rintro e w' ⟨rfl, rfl⟩
  exact ⟨rfl, ⟨es, clock, (MapKept.heap_alloc w _).1, F, hs, hD⟩, ⟨es, clock, (Below.heap_alloc _ _ b hlt).trans hb, F, hs, hD⟩, (Kp.refl _ _).alloc _, by simp⟩
theorem mclone_nil (w : World) : Calls Tryz.prog 23 #[.map none] w fun e w' => e = .returned (.map none) ∧ w' = w := AnyW.maps_Clone_nil Tryz.cloneM w
theorem mclone_v (w : World) (v : Value) (l : Dir) (h : MapV w v l) : Calls Tryz.prog 23 #[v] w fun e w' => ∃ v', e = .returned v' ∧ ((v = .map none ∧ v' = .map none ∧ w' = w) ∨ ∃ b, v = .map (some b) ∧ v' = .map (some w.heap.size) ∧ MapAt w' w.heap.size l) ∧ Kp No w w' := by
  rcases h with ⟨rfl, rfl⟩ | ⟨b, rfl, h⟩
  · refine (mclone_nil w).mono ?_
    rintro e w' ⟨rfl, rfl⟩
    exact ⟨_, rfl, .inl ⟨rfl, rfl, rfl⟩, Kp.refl _ _⟩
  · refine (mclone_any w b l h).mono ?_
    rintro e w' ⟨rfl, h1, _, h3, _⟩
    exact ⟨_, rfl, .inr ⟨b, rfl, rfl, h1⟩, h3⟩

/-! ### Names, rising -/
theorem bb_lt : ∀ (a b : List UInt8), bytesBefore a b = true → a < b
  | [], [], h => by simp [bytesBefore] at h
  | [], _ :: _, _ => List.nil_lt_cons _ _
  | _ :: _, [], h => by simp [bytesBefore] at h
  | x :: r, y :: s, h => by
    rw [List.cons_lt_cons_iff]
    simp [bytesBefore] at h
    rcases h with h | ⟨h1, h2⟩
    · exact .inl h
    · exact .inr ⟨h1, bb_lt r s h2⟩
theorem sorted_names {l : Dir} (h : Ris l) : (l.map (·.1)).mergeSort leB = l.map (·.1) := by
  refine List.mergeSort_of_pairwise ?_
  rw [List.pairwise_map]
  refine List.Pairwise.imp ?_ h
  intro a b hab
  simp only [leB, decide_eq_true_eq]
  exact List.le_of_lt (bb_lt _ _ hab)

theorem Tryz.sorts (m : Nat) : AnyZ.SortsIn Tryz.prog Tryz.sorted_ren Fence.wide m :=
  ⟨fun blk off cap ss W hH hblk hsz => callsIn_wide.2 (AnyM.slices_Sort_string Tryz.sort blk off cap ss W hH hblk hsz),
   fun p cap W => callsIn_wide.2 (AnyM.slices_Sort_string_none Tryz.sort p cap W)⟩
theorem Tryz.maps_Keys (mb : Option Nat) (W : World) : CallsIn Fence.wide 5 Tryz.prog 69 #[.map mb] W fun e w' => e = .returned (.func (.func 77) #[] #[.pointer (some ⟨W.heap.size, 0, none⟩)]) ∧ w' = W.alloc (.cells #[.map mb] 55) :=
  AnyZ.keys_in Tryz.keys Fence.wide 5 trivial rfl mb W

set_option maxHeartbeats 1000000 in
theorem Tryz.sorted_keys (b nn : Nat) (D0 : DD) (R : Value → Option (DD × List MemPlace)) (w : World) (hown : w.ownsMap Tryz.prog 9 R b nn D0) (hmax : Maps.size D0 ≤ maxLen) (hbytes : Maps.size D0 * 16 ≤ 140737488355328) :
    CallsIn Fence.wide 5 Tryz.prog 68 #[.func (.func 77) #[] #[.pointer (some ⟨w.heap.size, 0, none⟩)]] (w.alloc (.cells #[.map (some b)] 55)) fun e w' => ∃ (v : Value) (ss : List (List UInt8)), e = .returned v ∧ ss.Perm (strKeys D0) ∧
      w'.ownsRow (w.alloc (.cells #[.map (some b)] 55)).heap.size 9 1 v ss.length ((ss.mergeSort (fun x y => decide (x ≤ y))).map encStr) ∧ (v = .slice none 0 0 ↔ ss = []) ∧ Below (w.alloc (.cells #[.map (some b)] 55)).heap.size (w.alloc (.cells #[.map (some b)] 55)) w' := by
  have hbl := hown.lt
  have hseq : SeqGives Fence.wide 2 Tryz.prog 77 #[.pointer (some ⟨w.heap.size, 0, none⟩)] encStr (fun ss => ss.Perm (strKeys D0)) (Maps.size D0) (w.alloc (.cells #[.map (some b)] 55)) :=
    AnyZ.keys_gives (ρ := Tryz.keys_ren) { Tryz.keys with } Fence.wide _ trivial rfl (by omega) w.heap.size b nn D0 _ (by simp) (by simp) (by
      obtain ⟨es, clock, hb, Ft, hs, hD⟩ := hown
      exact ⟨es, clock, (Below.heap_alloc _ _ b hbl).trans hb, Ft, hs, hD⟩)
  exact AnyZ.sorted_in Tryz.sorted Fence.wide 5 trivial trivial trivial trivial rfl (by omega) (Tryz.sorts _) (enters_of Tryz.func76 (by kernel_rfl) rfl) 77 #[.pointer (some ⟨w.heap.size, 0, none⟩)] trivial (enters_of Tryz.func77 (by kernel_rfl) rfl) _ _ hmax hbytes _ hseq

set_option maxHeartbeats 1000000 in
theorem Tryz.sorted_nil (w : World) :
    CallsIn Fence.wide 5 Tryz.prog 68 #[.func (.func 77) #[] #[.pointer (some ⟨w.heap.size, 0, none⟩)]] (w.alloc (.cells #[.map none] 55)) fun e w' => ∃ (v : Value) (ss : List (List UInt8)), e = .returned v ∧ ss = [] ∧
      w'.ownsRow (w.alloc (.cells #[.map none] 55)).heap.size 9 1 v ss.length ((ss.mergeSort (fun x y => decide (x ≤ y))).map encStr) ∧ (v = .slice none 0 0 ↔ ss = []) ∧ Below (w.alloc (.cells #[.map none] 55)).heap.size (w.alloc (.cells #[.map none] 55)) w' := by
  have hseq : SeqGives Fence.wide 2 Tryz.prog 77 #[.pointer (some ⟨w.heap.size, 0, none⟩)] encStr (fun ss : List (List UInt8) => ss = []) 0 (w.alloc (.cells #[.map none] 55)) :=
    AnyZ.keys_gives_nil (ρ := Tryz.keys_ren) { Tryz.keys with } Fence.wide _ trivial rfl w.heap.size _ (by simp) (by simp)
  exact AnyZ.sorted_in Tryz.sorted Fence.wide 5 trivial trivial trivial trivial rfl (by omega) (Tryz.sorts _) (enters_of Tryz.func76 (by kernel_rfl) rfl) 77 #[.pointer (some ⟨w.heap.size, 0, none⟩)] trivial (enters_of Tryz.func77 (by kernel_rfl) rfl) _ 0 (Nat.zero_le _) (by omega) _ hseq

/-- v is a row of the call's own, of the names ns, new. -/
def OwnN (w : World) (v : Value) (ns : List Nm) : Prop := Row w 9 1 v ns.length (ns.map encStr)

set_option maxHeartbeats 1000000 in
/-- (directory).names. -/
theorem names_any (w : World) (v : Value) (l : Dir) (h : MapV w v l) (hl : l.length ≤ 100000) :
    Calls Tryz.prog 47 #[v] w fun e w' => ∃ u, e = .returned u ∧ OwnN w' u (l.map (·.1)) ∧ (∀ x, u.ownBlock = some x → w.heap.size ≤ x) ∧ Kp No w w' := by
  rcases h with ⟨rfl, rfl⟩ | ⟨b, rfl, h⟩
  · refine (callsIn_wide (n := 6)).1 ?_
    have hfK : Fence.wide.fn 69 := trivial
    have hfS : Fence.wide.fn 68 := trivial
    refine callsIn_of_wp Tryz.func47 rfl trivial ?_ rfl
    simp only [Tryz.ntmps47]
    gi_wp2_with (first
      | (gi_at_call 69; refine (Tryz.maps_Keys none _).mono ?_; rintro e w' ⟨rfl, rfl⟩)
      | (gi_at_call 68; refine (Tryz.sorted_nil w).mono ?_; rintro e w' ⟨v, ss, rfl, rfl, hrow, hnil, hb⟩))
    go_ret
    refine ⟨v, rfl, ?_, ?_, ?_⟩
    · have := hnil.2 (by first | rfl | trivial)
      subst this
      exact Row.nil _ _ _
    · have := hnil.2 (by first | rfl | trivial)
      subst this
      simp [Value.ownBlock]
    · exact ((Kp.refl _ _).alloc _).andNone (Kp.below hb)
  · have hsz : Maps.size (dirD l) = l.length := dirD_size l
    refine (callsIn_wide (n := 6)).1 ?_
    have hfK : Fence.wide.fn 69 := trivial
    have hfS : Fence.wide.fn 68 := trivial
    have HM := hid h
    have HC := hid (Tryz.sorted_keys b l.length (dirD l) ptrR w h (by rw [hsz]; unfold maxLen; omega) (by rw [hsz]; omega))
    clear h hsz
    refine callsIn_of_wp Tryz.func47 rfl trivial ?_ rfl
    simp only [Tryz.ntmps47]
    gi_wp2_with (first
      | (gi_at_call 69; refine (Tryz.maps_Keys (some b) _).mono ?_; rintro e w' ⟨rfl, rfl⟩)
      | (gi_at_call 68; refine (HC.out).mono ?_; rintro e w' ⟨v, ss, rfl, hS, hrow, hnil, hb⟩))
    go_ret
    have e1 : ss.mergeSort leB = l.map (·.1) := by
      rw [dirD_keys] at hS
      rw [mergeSort_of_perm hS, sorted_names HM.out.ris]
    have e2 : ss.length = (l.map (·.1)).length := by rw [dirD_keys] at hS; exact hS.length_eq
    have hrow' : w'.ownsRow (w.alloc (.cells #[.map (some b)] 55)).heap.size 9 1 v ss.length ((ss.mergeSort leB).map encStr) := hrow
    rw [e1, e2] at hrow'
    refine ⟨v, rfl, ?_, fun x hx => ?_, ?_⟩
    · refine ⟨hrow'.1, ?_⟩
      rcases hrow'.2 with h | ⟨g, cap, cur, rfl, hb, r⟩
      · exact .inl h
      · exact .inr ⟨g, cap, cur, rfl, Nat.zero_le _, r⟩
    · have := (hrow'.lt x hx).1
      simp at this
      omega
    · exact ((Kp.refl _ _).alloc _).andNone (Kp.below hb)

end Go.Proofs.YtmiipifhbliamaaGreat.Sim
