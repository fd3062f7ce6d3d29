/- Of the proof: the texts PkIdM, PkId, PkPick, ShNil, ShOpen, ShIds, ShMax, SgStabM, SgRow, SgSwap, SgRot, SgCmp, one behind the other. -/
import Derived.Test.YtkpibphalhhkdaaGreatDoorB13
import Derived.Lib.AtoiAll
import Derived.Test.YtkpibphalhhkdaaGreatDoorB2
import Derived.Test.YtkpibphalhhkdaaGreatDoorB1
import Derived.Test.YtkpibphalhhkdaaGreatDoorPkShelf
import Derived.Sort.OwnSortedInts
import Derived.Sort.KeysCollected
import Derived.Deep.MidRow
import Derived.Deep.RegionHeld3
import Derived.Lib.BytesEntry
import Derived.Deep.RegionWith
section
/-
  Digits, and what they tell.
-/
namespace Go.Proofs.YtkpibphalhhkdaaGreatDoor
open Go.RowKit Go.Shelf
open Sim (hid)

def digB (c : UInt8) : Bool := decide (48 ≤ c.toNat) && decide (c.toNat ≤ 57)
/-- What digits tell, behind a number. -/
def valD (a : Nat) (l : List UInt8) : Nat := l.foldl (fun a c => a * 10 + (c.toNat - 48)) a
theorem valD_append (a : Nat) (l m : List UInt8) : valD a (l ++ m) = valD (valD a l) m := by unfold valD; rw [List.foldl_append]
theorem dig_of {i : Nat} (h : i < 10) : (UInt8.ofNat (48 + i)).toNat = 48 + i := by
  rw [UInt8.toNat_ofNat']
  omega
theorem dec_step {u : Nat} (h : ¬ u < 10) : Lib.decDigits u = Lib.decDigits (u / 10) ++ [UInt8.ofNat (48 + u % 10)] := by
  rw [Lib.decDigits, dif_neg h]
theorem dec_digs (u : Nat) : ∀ c ∈ Lib.decDigits u, digB c = true := by
  induction u using Nat.strongRecOn with
  | _ u ih =>
    by_cases h : u < 10
    · rw [Lib.decDigits_one h]
      intro c hc
      rw [List.mem_singleton] at hc
      subst hc
      unfold digB
      rw [dig_of h]
      simp
      omega
    · rw [dec_step h]
      intro c hc
      rcases List.mem_append.1 hc with hc | hc
      · exact ih (u / 10) (by omega) c hc
      · rw [List.mem_singleton] at hc
        subst hc
        have : u % 10 < 10 := by omega
        unfold digB
        rw [dig_of this]
        simp
        omega
theorem dec_val (u : Nat) : valD 0 (Lib.decDigits u) = u := by
  induction u using Nat.strongRecOn with
  | _ u ih =>
    by_cases h : u < 10
    · rw [Lib.decDigits_one h]
      show 0 * 10 + ((UInt8.ofNat (48 + u)).toNat - 48) = u
      rw [dig_of h]
      omega
    · rw [dec_step h, valD_append, ih (u / 10) (by omega)]
      have : u % 10 < 10 := by omega
      show u / 10 * 10 + ((UInt8.ofNat (48 + u % 10)).toNat - 48) = u
      rw [dig_of this]
      omega
theorem dec_pos (u : Nat) : 1 ≤ (Lib.decDigits u).length := by
  by_cases h : u < 10
  · rw [Lib.decDigits_one h]; simp
  · rw [dec_step h]; simp
theorem dec_len : ∀ (k u : Nat), u < 10 ^ (k + 1) → (Lib.decDigits u).length ≤ k + 1
  | 0, u, h => by rw [Lib.decDigits_one (by simpa using h)]; simp
  | k + 1, u, h => by
    by_cases h1 : u < 10
    · rw [Lib.decDigits_one h1]; simp
    · rw [dec_step h1, List.length_append, List.length_singleton]
      have := dec_len k (u / 10) (by rw [Nat.pow_succ] at h; omega)
      omega
theorem dec_six {u : Nat} (h : u ≤ 999999) : (Lib.decDigits u).length ≤ 6 := dec_len 5 u (by have : (10 : Nat) ^ 6 = 1000000 := by decide
                                                                                             omega)
theorem valD_le : ∀ (l : List UInt8) (a : Nat), l.all digB = true → valD a l < (a + 1) * 10 ^ l.length
  | [], a, _ => by simp [valD]
  | c :: r, a, h => by
    simp only [List.all_cons, Bool.and_eq_true] at h
    have hc : c.toNat ≤ 57 ∧ 48 ≤ c.toNat := by have := h.1; simp [digB] at this; omega
    have := valD_le r (a * 10 + (c.toNat - 48)) h.2
    have e : valD a (c :: r) = valD (a * 10 + (c.toNat - 48)) r := rfl
    rw [e, List.length_cons, Nat.pow_succ]
    refine Nat.lt_of_lt_of_le this ?_
    have h10 : a * 10 + (c.toNat - 48) + 1 ≤ (a + 1) * 10 := by omega
    have := Nat.mul_le_mul_right (10 ^ r.length) h10
    rw [Nat.mul_assoc, Nat.mul_comm 10] at this
    exact this
theorem parse_digs : ∀ (l : List UInt8) (a : Nat), l.all digB = true → (a + 1) * 10 ^ l.length ≤ 1000000000000 → Lib.parseUint10 a l = .ok (valD a l)
  | [], a, _, _ => rfl
  | c :: r, a, h, hb => by
    simp only [List.all_cons, Bool.and_eq_true] at h
    have hc : 48 ≤ c.toNat ∧ c.toNat ≤ 57 := by have := h.1; simp [digB] at this; exact this
    rw [List.length_cons, Nat.pow_succ] at hb
    have hp : 1 ≤ 10 ^ r.length := Nat.one_le_pow _ _ (by omega)
    have h10 : a * 10 + (c.toNat - 48) + 1 ≤ (a + 1) * 10 := by omega
    have hb' : (a * 10 + (c.toNat - 48) + 1) * 10 ^ r.length ≤ 1000000000000 := by
      refine Nat.le_trans (Nat.mul_le_mul_right _ h10) ?_
      rw [Nat.mul_assoc, Nat.mul_comm 10]
      exact hb
    have ha : a * 10 + (c.toNat - 48) + 1 ≤ 1000000000000 := Nat.le_trans (Nat.le_mul_of_pos_right _ hp) hb'
    unfold Lib.parseUint10
    rw [if_pos hc, if_neg (by omega), if_neg (by omega), parse_digs r _ h.2 hb']
    rfl

/-! ### The id of a name -/
/-- Those of that sort. -/
theorem nameZ_of {p : ByteArray} {u : Nat} (h1 : 1 ≤ u) (h2 : u ≤ 999999) : nameZ p (u : Int) = p ++ ⟨(Lib.decDigits u).toArray⟩ := by
  have : idB (u : Int) = true := by simp [idB]; omega
  rw [nameZ, this, if_pos rfl, Lib.itoa_nonneg]
/-- What a number tells, or none. -/
def idAt (p s : ByteArray) : Lib.NumEnd Int → Int × Bool
  | .ok v => if nameZ p v = s then (v, true) else (0, false)
  | _ => (0, false)
/-- What ID tells: by the rest behind the prefix. -/
def idOf (p s : ByteArray) : Int × Bool :=
  if Lib.hasPrefix s.data.toList p.data.toList = true then idAt p s (Lib.atoiAll (Lib.trimPrefix s.data.toList p.data.toList)) else (0, false)
theorem atoi_dec {u : Nat} (h : u ≤ 999999) : Lib.atoiAll (Lib.decDigits u) = .ok (u : Int) := by
  have hd := dec_digs u
  have hl := dec_six h
  have hp := dec_pos u
  have hv := dec_val u
  generalize Lib.decDigits u = l at *
  cases l with
  | nil => simp at hp
  | cons c r =>
    have hc : 48 ≤ c.toNat ∧ c.toNat ≤ 57 := by have := hd c (by simp); simp [digB] at this; exact this
    have hall : (c :: r).all digB = true := List.all_eq_true.2 hd
    have hlen : (0 + 1) * 10 ^ (c :: r).length ≤ 1000000000000 := by
      have : 10 ^ (c :: r).length ≤ 10 ^ 6 := Nat.pow_le_pow_right (by omega) hl
      have e : (10 : Nat) ^ 6 = 1000000 := by decide
      omega
    unfold Lib.atoiAll
    simp only
    rw [if_neg (by omega)]
    unfold Lib.parseMag
    rw [if_neg (by simp), parse_digs _ _ hall hlen, hv]
    simp only
    rw [if_neg (by omega), if_neg (by omega), if_neg (by omega)]
theorem bytes_inj {a b : ByteArray} (h : a.data.toList = b.data.toList) : a = b := by
  cases a; cases b; simp at h; rw [h]
theorem app_data (p : ByteArray) (l : List UInt8) : (p ++ ⟨l.toArray⟩ : ByteArray).data.toList = p.data.toList ++ l := by
  simp [ByteArray.data_append]
theorem pre_app (p l : List UInt8) : Lib.hasPrefix (p ++ l) p = true := by
  unfold Lib.hasPrefix
  exact List.isPrefixOf_iff_prefix.2 (List.prefix_append p l)
theorem trim_app (p l : List UInt8) : Lib.trimPrefix (p ++ l) p = l := by
  unfold Lib.trimPrefix
  rw [if_pos (pre_app p l), List.drop_left]
/-- A pack's name has its id. -/
theorem idOf_name {p : ByteArray} {u : Nat} (h1 : 1 ≤ u) (h2 : u ≤ 999999) : idOf p (nameZ p (u : Int)) = ((u : Int), true) := by
  have e := nameZ_of (p := p) h1 h2
  have hd : (nameZ p (u : Int)).data.toList = p.data.toList ++ Lib.decDigits u := by rw [e, app_data]
  unfold idOf
  rw [hd, if_pos (pre_app _ _), trim_app, atoi_dec h2]
  show (if nameZ p (u : Int) = nameZ p (u : Int) then ((u : Int), true) else (0, false)) = _
  rw [if_pos rfl]
/-- What is told is a name's id. -/
theorem idOf_yes {p s : ByteArray} {v : Int} (hp : 1 ≤ p.size) (h : idOf p s = (v, true)) : 1 ≤ v ∧ v ≤ 999999 ∧ nameZ p v = s := by
  unfold idOf at h
  split at h
  · rename_i hh
    unfold idAt at h
    split at h
    · rename_i v' _
      split at h
      · rename_i hn
        simp only [Prod.mk.injEq, and_true] at h
        subst h
        have hid1 : idB v' = true := by
          cases hi : idB v' with
          | true => rfl
          | false =>
            rw [nameZ, hi, if_neg (by simp)] at hn
            rw [← hn] at hh
            have hl := (List.isPrefixOf_iff_prefix.1 hh).length_le
            rw [← Lib.size_eq] at hl
            have : (⟨#[]⟩ : ByteArray).data.toList.length = 0 := rfl
            omega
        have : 1 ≤ v' ∧ v' ≤ 999999 := by simpa [idB] using hid1
        exact ⟨this.1, this.2, hn⟩
      · simp at h
    · simp at h
  · simp at h
theorem idOf_no {p s : ByteArray} (h : (idOf p s).2 = false) : idOf p s = (0, false) := by
  unfold idOf at h ⊢
  split
  · rename_i hh
    rw [if_pos hh] at h
    generalize Lib.atoiAll (Lib.trimPrefix s.data.toList p.data.toList) = e at *
    cases e with
    | ok v =>
      unfold idAt at h ⊢
      simp only at h ⊢
      split
      · rename_i hn; rw [if_pos hn] at h; simp at h
      · rfl
    | «syntax» => rfl
    | range => rfl
  · rfl
/-- Told apart: the one id whose name it is. -/
theorem idOf_eq {p s : ByteArray} (hp : 1 ≤ p.size) (a : Int × Bool) (h1 : a.2 = true → 1 ≤ a.1 ∧ a.1 ≤ 999999 ∧ nameZ p a.1 = s) (h2 : a.2 = false → a.1 = 0 ∧ ∀ u : Nat, 1 ≤ u → u ≤ 999999 → nameZ p (u : Int) ≠ s) : idOf p s = a := by
  obtain ⟨v, b⟩ := a
  cases b with
  | true =>
    obtain ⟨g1, g2, g3⟩ := h1 rfl
    simp only at g1 g2 g3
    obtain ⟨u, rfl⟩ : ∃ u : Nat, v = u := ⟨v.toNat, by omega⟩
    rw [← g3]
    exact idOf_name (by omega) (by omega)
  | false =>
    obtain ⟨g1, g2⟩ := h2 rfl
    simp only at g1
    subst g1
    refine idOf_no ?_
    cases hb : (idOf p s).2 with
    | false => rfl
    | true =>
      have e : idOf p s = ((idOf p s).1, true) := by rw [← hb]
      obtain ⟨h3, h4, h5⟩ := idOf_yes hp e
      obtain ⟨u, hu⟩ : ∃ u : Nat, (idOf p s).1 = u := ⟨(idOf p s).1.toNat, by omega⟩
      rw [hu] at h3 h4 h5
      exact absurd h5 (g2 u (by omega) (by omega))

end Go.Proofs.YtkpibphalhhkdaaGreatDoor
end

section
/-
  The id of any name.
-/
namespace Go.Proofs.YtkpibphalhhkdaaGreatDoor
open Go.RowKit Go.Shelf
open Sim (hid)

/-- The variables of strconv that are read: a table, two errors. -/
structure Vars (w : World) : Prop where
  tab : Lib.TabIs Tryz.prog w "internal/strconv.uint64pow10" .u64 Lib.pow10Tab
  syn : ∃ tp p, w.var? Tryz.prog "strconv.ErrSyntax" = some #[.iface tp p]
  rng : ∃ tp p, w.var? Tryz.prog "strconv.ErrRange" = some #[.iface tp p]
theorem var_below {w w' : World} {n : String} {cs : Array Value} (k : Below w.heap.size w w') (h : w.var? Tryz.prog n = some cs) : w'.var? Tryz.prog n = some cs := by
  unfold World.var? at h ⊢
  cases hg : Tryz.prog.globalNamed n with
  | none => rw [hg] at h; cases h
  | some g =>
    rw [hg] at h
    simp only [Option.bind_some] at h ⊢
    have hlt : g < w.heap.size := by
      rcases Nat.lt_or_ge g w.heap.size with h' | h'
      · exact h'
      · rw [Array.getElem?_eq_none h'] at h; cases h
    rw [k.block g hlt]
    exact h
theorem Vars.below {w w' : World} (h : Vars w) (k : Below w.heap.size w w') : Vars w' := by
  obtain ⟨h1, ⟨t2, p2, h2⟩, ⟨t3, p3, h3⟩⟩ := h
  exact ⟨var_below k h1, ⟨t2, p2, var_below k h2⟩, ⟨t3, p3, var_below k h3⟩⟩

/-- Atoi of any text: a number, or an error that is not nil. -/
theorem atoi_any (s : ByteArray) (hs : s.size ≤ 20000000) (w : World) (hv : Vars w) : Calls Tryz.prog 78 #[.string s] w fun e w' => (∃ (z : Int) (er : Value), e = .returned (.tuple #[.int .i64 z, er]) ∧ ((er = .nilIface ∧ Lib.atoiAll s.data.toList = .ok z) ∨ ((∃ t a, er = .iface t (.pointer (some a))) ∧ ∀ v, Lib.atoiAll s.data.toList ≠ .ok v))) ∧ Below w.heap.size w w' := by
  cases h : Lib.atoiAll s.data.toList with
  | ok v =>
    refine (Any.strconv_Atoi_ok Sim.Tryz.atoi s (by omega) v h w).mono ?_
    rintro e w' ⟨rfl, hw⟩
    refine ⟨⟨v, .nilIface, rfl, .inl ⟨rfl, rfl⟩⟩, ?_⟩
    rcases hw with rfl | ⟨t, rfl⟩
    · exact Below.refl _ _
    · exact Lib.bytesWorld_below _ _ _
  | «syntax» =>
    obtain ⟨tp, p, hp⟩ := hv.syn
    refine (Any.strconv_Atoi_syntax_var Sim.Tryz.atoi s (by omega) h tp p w hp).mono ?_
    rintro e w' ⟨N, rfl, _, _, hb⟩
    exact ⟨⟨0, _, rfl, .inr ⟨⟨_, _, rfl⟩, fun v hv => by cases hv⟩⟩, hb⟩
  | range =>
    obtain ⟨tp, p, hp⟩ := hv.rng
    refine (Any.strconv_Atoi_range_var Sim.Tryz.atoi s (by omega) h tp p w hp).mono ?_
    rintro e w' ⟨N, rfl, _, _, hb⟩
    exact ⟨⟨_, _, rfl, .inr ⟨⟨_, _, rfl⟩, fun v hv => by cases hv⟩⟩, hb⟩

set_option maxHeartbeats 4000000 in
theorem pid_any (p : ByteArray) (hp : p.size ≤ 100) (s : ByteArray) (hs : s.size ≤ 20000000) (w : World) (hv : Vars w) :
    Calls Tryz.prog 54 #[.string p, .string s] w fun e w' => e = .returned (.tuple #[.int .i64 (idOf p s).1, .bool (idOf p s).2]) ∧ Below w.heap.size w w' := by
  have HCUT := hid (Any.strings_CutPrefix Sim.Tryz.cut s p w)
  cases hh : Lib.hasPrefix s.data.toList p.data.toList with
  | false =>
    have e : idOf p s = (0, false) := by unfold idOf; rw [hh]; rfl
    rw [e]
    rw [hh] at HCUT
    clear hh e
    go_enter Tryz.func54, Tryz.ntmps54
    go_wp2_with (go_at_call 77; refine HCUT.out.mono ?_; rintro e w1 ⟨rfl, h⟩; subst w1)
    go_ret2
    exact ⟨rfl, Below.refl _ _⟩
  | true =>
    rw [hh] at HCUT
    have hr : (⟨(Lib.trimPrefix s.data.toList p.data.toList).toArray⟩ : ByteArray).size ≤ 20000000 := by
      have h1 : (Lib.trimPrefix s.data.toList p.data.toList).length ≤ s.size := by
        unfold Lib.trimPrefix
        rw [Lib.size_eq, if_pos hh, List.length_drop]
        omega
      have h2 : (⟨(Lib.trimPrefix s.data.toList p.data.toList).toArray⟩ : ByteArray).size = (Lib.trimPrefix s.data.toList p.data.toList).length := by rw [Lib.size_eq]
      omega
    have HAT := hid (atoi_any ⟨(Lib.trimPrefix s.data.toList p.data.toList).toArray⟩ hr w hv)
    have HV := hid hv
    have HI : Hid (idOf p s = idAt p s (Lib.atoiAll (Lib.trimPrefix s.data.toList p.data.toList))) := by unfold Hid idOf; rw [if_pos hh]
    have hd : (⟨(Lib.trimPrefix s.data.toList p.data.toList).toArray⟩ : ByteArray).data.toList = Lib.trimPrefix s.data.toList p.data.toList := rfl
    rw [hd] at HAT
    generalize Lib.trimPrefix s.data.toList p.data.toList = l at *
    obtain ⟨x, hx⟩ : ∃ x, idOf p s = x := ⟨_, rfl⟩
    rw [hx] at HI ⊢
    clear hh hr hd hx hv
    go_enter Tryz.func54, Tryz.ntmps54
    go_wp2_with fail
    refine HCUT.out.mono ?_
    rintro e w1 ⟨rfl, h⟩
    subst w1
    go_wp2_with fail
    refine HAT.out.mono ?_
    rintro e w2 ⟨⟨z, er, rfl, hz⟩, hb⟩
    have HB := hid hb
    have HV2 := hid (HV.out.below hb)
    clear hb
    rcases hz with ⟨rfl, hz⟩ | ⟨⟨t, a, rfl⟩, hz⟩
    · rw [hz, show idAt p s (.ok z) = if nameZ p z = s then (z, true) else (0, false) from rfl] at HI
      have HN := hid (name_any p hp z w2 HV2.out.tab)
      by_cases hq : nameZ p z = s
      · rw [if_pos hq] at HI
        rw [hq] at HN
        have heq : (s.toList == s.toList) = true := by simp
        clear hq hz
        go_wp2_with (go_at_call 52; refine HN.out.mono ?_; rintro e w3 ⟨rfl, h⟩; have HB3 := hid h; clear h)
        go_ret2
        exact ⟨by rw [HI.out]; rfl, HB.out.trans (HB3.out.mono HB.out.size)⟩
      · rw [if_neg hq] at HI
        have heq : ((nameZ p z).toList == s.toList) = false := by
          rw [beq_eq_false_iff_ne, ByteArray.toList_eq, ByteArray.toList_eq]
          exact fun e => hq (bytes_inj e)
        generalize nameZ p z = nz at *
        clear hq hz
        go_wp2_with (go_at_call 52; refine HN.out.mono ?_; rintro e w3 ⟨rfl, h⟩; have HB3 := hid h; clear h)
        go_ret2
        exact ⟨by rw [HI.out]; rfl, HB.out.trans (HB3.out.mono HB.out.size)⟩
    · have HX : Hid (x = (0, false)) := by
        rw [Hid, HI.out]
        cases hl : Lib.atoiAll l with
        | ok v => exact absurd hl (hz v)
        | «syntax» => rfl
        | range => rfl
      clear hz HI
      go_wp2
      go_ret2
      exact ⟨by rw [HX.out]; rfl, HB.out⟩


end Go.Proofs.YtkpibphalhhkdaaGreatDoor
end

section
/-
  What is picked of the names that are seen: temporary ones; and their cleaning.
-/
namespace Go.Proofs.YtkpibphalhhkdaaGreatDoor
open Go.RowKit Go.Shelf
open Sim (hid Kp No PS Done Blk nm finds pBytes pRemove pSyncDir pList Nm OwnN Row)

def tmpL : List UInt8 := [116, 109, 112, 46]
/-- Is it a temporary name? -/
def isTmp (n : Nm) : Bool := Lib.hasPrefix n tmpL

theorem own_any (n : Nm) (w : World) : Calls Tryz.prog 57 #[.string ⟨#[116, 109, 112, 46]⟩, .string ⟨n.toArray⟩] w fun e w' => ∃ t, e = .returned (.tuple #[.string t, .bool (isTmp n)]) ∧ (isTmp n = true → t = ⟨n.toArray⟩) ∧ w' = w := by
  have HP := hid (Any.strings_HasPrefix Sim.Tryz.hasP ⟨n.toArray⟩ ⟨#[116, 109, 112, 46]⟩ w)
  have e : Lib.hasPrefix (⟨n.toArray⟩ : ByteArray).data.toList (⟨#[116, 109, 112, 46]⟩ : ByteArray).data.toList = isTmp n := rfl
  rw [e] at HP
  clear e
  cases hb : isTmp n with
  | true =>
    rw [hb] at HP
    clear hb
    go_enter Tryz.func57, Tryz.ntmps57
    go_wp2_with (go_at_call 81; refine HP.out.mono ?_; rintro e w1 ⟨rfl, h⟩; subst w1)
    go_ret2
    exact ⟨_, rfl, fun _ => rfl, rfl⟩
  | false =>
    rw [hb] at HP
    clear hb
    go_enter Tryz.func57, Tryz.ntmps57
    go_wp2_with (go_at_call 81; refine HP.out.mono ?_; rintro e w1 ⟨rfl, h⟩; subst w1)
    go_ret2
    exact ⟨_, rfl, fun h => (by cases h), rfl⟩

theorem infoS : (Tryz.prog.info? 9).map (fun i => (i.zero, i.size, i.bytes)) = some (some (.string ⟨#[]⟩), 1, 16) := by kernel_rfl
theorem run_onestr (s : ByteArray) (w : World) : (Instr.buildSlice 105 1 #[(0, .string s)]).run Tryz.prog w = .ok (.slice (some ⟨w.heap.size, 0, none⟩) 1 1) (w.alloc (.cells #[.string s] 9)) := by kernel_rfl
theorem OwnN.cell {w : World} {g n cap : Nat} {ns : List Nm} (h : OwnN w (.slice (some ⟨g, 0, none⟩) n cap) ns) (hn : n = ns.length) (k : Nat) {x : Nm} (hk : ns[k]? = some x) : w.cell? ⟨g, k, none⟩ = some (.string ⟨x.toArray⟩) := by
  subst hn
  have hl := (List.getElem?_eq_some_iff.1 hk).1
  have h' : Row w 9 1 (.slice (some ⟨g, 0, none⟩) ns.length cap) ns.length (ns.map encStr) := h
  rw [h'.cellAt k (by omega), List.getElem?_map, hk]
  rfl
theorem OwnN.form {w : World} {v : Value} {ns : List Nm} (h : OwnN w v ns) : ∃ a c, v = .slice a ns.length c ∧ (ns ≠ [] → ∃ g, a = some ⟨g, 0, none⟩) := by
  have h' : Row w 9 1 v ns.length (ns.map encStr) := h
  obtain ⟨a, c, h1, _, _, h2, h3⟩ := h'.shape
  refine ⟨a, c, h1, fun hne => ?_⟩
  cases a with
  | none => exact absurd (List.length_eq_zero_iff.1 (h2 rfl).1) hne
  | some q =>
    obtain ⟨gq, oq, sq⟩ := q
    obtain ⟨h4, h5⟩ := h3 _ rfl
    simp only at h4 h5
    subst h4 h5
    exact ⟨gq, rfl⟩

set_option maxHeartbeats 2000000 in
set_option maxRecDepth 100000 in
theorem pickS_any {P : Nat → Prop} {N : Nat} (w : World) (s : Nat) (p : PS) (h : Sim.Sys P N w s p) :
    Calls Tryz.prog 56 #[.pointer (some ⟨s, 0, none⟩), .func (.func 57) #[.string ⟨#[116, 109, 112, 46]⟩] #[]] w fun e w' => ∃ u, e = .returned u ∧ OwnN w' u ((pList p).filter isTmp) ∧ (∀ x, u.ownBlock = some x → w.heap.size ≤ x) ∧ Kp No w w' := by
  have HL := hid (Sim.list_any w s p h)
  have hlen : (pList p).length ≤ 1000 := by
    have h1 := h.inv.lseen
    have h2 := h.inv.big
    unfold pList
    split
    · simp
    · rw [List.length_map]; omega
  obtain ⟨L, hL⟩ : ∃ L, pList p = L := ⟨_, rfl⟩
  rw [hL] at HL hlen ⊢
  clear hL h
  go_enter Tryz.func56, Tryz.ntmps56
  go_wp2_with fail
  refine HL.out.mono ?_
  rintro e w1 ⟨u, rfl, hu, hub, hk⟩
  obtain ⟨ua, uc, rfl, hform⟩ := OwnN.form hu
  have HU := hid (And.intro hu (And.intro hub (And.intro hk hform)))
  have HK1 := hid hk
  clear hu hub hk hform
  go_wp2_with fail
  go_loopw [5, 13] (fun v i wr => ∃ (k : Nat) (a : Option Addr) (m c : Nat), k ≤ L.length ∧ i = .int .i64 (k : Int) ∧ v = .slice a m c ∧ m ≤ k ∧ Hid (m = ((L.take k).filter isTmp).length ∧ OwnN wr (.slice a m c) ((L.take k).filter isTmp) ∧ (∀ x, (Value.slice a m c).ownBlock = some x → w1.heap.size ≤ x) ∧ Kp No w1 wr)) (fun _ i _ => L.length - (intOf i).toNat)
  case atStart => exact ⟨0, none, 0, 0, Nat.zero_le _, rfl, rfl, Nat.le_refl _, by simp, Row.nil _ _ _, (by intro x hx; cases hx), Kp.refl _ _⟩
  case round =>
    obtain ⟨k, a, m, c, hk, rfl, rfl, hmk, HS⟩ := hrel
    by_cases hlt : k < L.length
    · have hltI : (k : Int) < (L.length : Int) := by omega
      obtain ⟨n, hn⟩ : ∃ n, L[k]? = some n := ⟨_, List.getElem?_eq_getElem hlt⟩
      obtain ⟨hu, hub, hk1, hform⟩ := HU.out
      obtain ⟨gu, rfl⟩ := hform (by intro e; rw [e] at hlt; simp at hlt)
      obtain ⟨hm, hrow, hblk, hkr⟩ := HS.out
      have cu : wr.cell? ⟨gu, k, none⟩ = some (.string ⟨n.toArray⟩) := OwnN.cell (Row.kept hu hkr) rfl k hn
      have HOWN := hid (own_any n wr)
      have HN := hid hn
      have HX := hid (And.intro hm (And.intro hrow (And.intro hblk hkr)))
      clear hu hub hk1 hform hm hrow hblk hkr hn HS
      cases hb : isTmp n with
      | false =>
        rw [hb] at HOWN
        go_wp2_with fail
        refine HOWN.out.mono ?_
        rintro e w2 ⟨t, rfl, ht, hw2⟩
        rw [hw2]
        clear hw2 w2 ht HOWN
        have HF : Hid (m = ((L.take (k + 1)).filter isTmp).length ∧ OwnN wr (.slice a m c) ((L.take (k + 1)).filter isTmp) ∧ (∀ x, (Value.slice a m c).ownBlock = some x → w1.heap.size ≤ x) ∧ Kp No w1 wr) := by
          have e : (L.take (k + 1)).filter isTmp = (L.take k).filter isTmp := by rw [List.take_add_one, HN.out, List.filter_append]; simp [hb]
          rw [Hid, e]
          exact HX.out
        clear hb
        go_wp2_with fail
        go_round
        case rel => exact ⟨k + 1, a, m, c, by omega, by go_num, rfl, by omega, HF⟩
        case measure => simp [intOf]; omega
      | true =>
        rw [hb] at HOWN
        go_wp2_with fail
        refine HOWN.out.mono ?_
        rintro e w2 ⟨t, rfl, ht, hw2⟩
        rw [hw2, ht (by first | rfl | trivial)]
        clear hw2 w2 ht HOWN
        have hal : Kp No wr (wr.alloc (.cells #[.string ⟨n.toArray⟩] 9)) := (Kp.refl _ _).alloc _
        have HR5 : Hid (Row (wr.alloc (.cells #[.string ⟨n.toArray⟩] 9)) 9 1 (.slice a m c) m (((L.take k).filter isTmp).map encStr)) := by
          have h : Row wr 9 1 (.slice a m c) ((L.take k).filter isTmp).length (((L.take k).filter isTmp).map encStr) := HX.out.2.1
          rw [← HX.out.1] at h
          exact h.kept hal
        have HSRC : Hid (Sim.Src (wr.alloc (.cells #[.string ⟨n.toArray⟩] 9)) (.slice (some ⟨wr.heap.size, 0, none⟩) 1 1) 1 1 [.string ⟨n.toArray⟩]) := Sim.Src.one wr [.string ⟨n.toArray⟩] 1 9 rfl (by intro u hu; rw [List.mem_singleton.1 hu]; rfl)
        have HN1 := hid (fun V => run_onestr ⟨n.toArray⟩ V)
        have HAL := hid hal
        have HB := hid hb
        clear hal hb
        go_wp2_with (first
          | (refine wpList_val (by rfl) (exec_slice1 105 _ (by rfl) (.string ⟨n.toArray⟩) _ (by rfl) (HN1.out _)) ?_)
          | (refine Sim.app_row _ (by rfl) _ _ 105 9 (.string ⟨#[]⟩) 1 16 (by rfl) Tryz.underlying105 infoS rfl (by omega) (.slice a m c) (.slice (some ⟨wr.heap.size, 0, none⟩) 1 1) m 1 (((L.take k).filter isTmp).map encStr) [.string ⟨n.toArray⟩] (by rfl) (by rfl) HR5.out HSRC.out (by omega) (by omega) ?_; intro ad2 cap2 w6 hrow6 hgr6 hown6))
        have HF : Hid (m + 1 = ((L.take (k + 1)).filter isTmp).length ∧ OwnN w6 (.slice ad2 (m + 1) cap2) ((L.take (k + 1)).filter isTmp) ∧ (∀ x, (Value.slice ad2 (m + 1) cap2).ownBlock = some x → w1.heap.size ≤ x) ∧ Kp No w1 w6) := by
          obtain ⟨hm, hrow, hblk, hkr⟩ := HX.out
          have e : (L.take (k + 1)).filter isTmp = (L.take k).filter isTmp ++ [n] := by rw [List.take_add_one, HN.out, List.filter_append]; simp [HB.out]
          have hs := hkr.size
          rw [Hid, e, List.length_append, ← hm]
          refine ⟨rfl, ?_, fun x hx => ?_, ?_⟩
          · unfold OwnN
            rw [List.length_append, ← hm, List.map_append]
            exact hrow6
          · rcases hown6 with h | h
            · exact hblk x (by rw [← h]; exact hx)
            · rw [h] at hx
              have := Option.some.inj hx
              simp at this
              omega
          · exact (hkr.andNone HAL.out).grown hgr6 (fun x hx => .inr (hblk x hx))
        clear hrow6 hgr6 hown6 HX
        go_wp2_with fail
        go_round
        case rel => exact ⟨k + 1, _, m + 1, _, by omega, by go_num, rfl, by omega, HF⟩
        case measure => simp [intOf]; omega
    · have hltI : ¬ (k : Int) < (L.length : Int) := by omega
      have hkn : k = L.length := by omega
      subst hkn
      go_wp2_with fail
      go_ret
      obtain ⟨hm, hrow, hblk, hkr⟩ := HS.out
      rw [List.take_length] at hrow
      exact ⟨_, rfl, hrow, fun x hx => Nat.le_trans HK1.out.size (hblk x hx), HK1.out.andNone hkr⟩

theorem temps_any {P : Nat → Prop} {N : Nat} (w : World) (s : Nat) (p : PS) (h : Sim.Sys P N w s p) :
    Calls Tryz.prog 34 #[.pointer (some ⟨s, 0, none⟩)] w fun e w' => ∃ u, e = .returned u ∧ OwnN w' u ((pList p).filter isTmp) ∧ (∀ x, u.ownBlock = some x → w.heap.size ≤ x) ∧ Kp No w w' := by
  have HP := hid (pickS_any w s p h)
  clear h
  go_enter Tryz.func34, Tryz.ntmps34
  go_wp2_with (go_at_call 56; refine HP.out.mono ?_; rintro e w1 ⟨u, rfl, h1, h2, h3⟩; have H1 := hid (And.intro h1 (And.intro h2 h3)); clear h1 h2 h3)
  go_ret
  exact ⟨u, rfl, H1.out⟩

/-- What Clean does, name by name: how many are gone, the fault, the files. -/
def cleanF : List Nm → Nat → PS → Nat × Nat × PS
  | [], k, p => if k = 0 then (0, 0, p) else (k, (pSyncDir p).1, (pSyncDir p).2)
  | n :: r, k, p => if (pRemove n p).1 ≠ 0 then (k, (pRemove n p).1, (pRemove n p).2) else cleanF r (k + 1) (pRemove n p).2

set_option maxHeartbeats 2000000 in
set_option maxRecDepth 100000 in
theorem clean_any {P : Nat → Prop} {N : Nat} (w : World) (s : Nat) (p : PS) (h : Sim.Sys P N w s p) (hN : N + (pList p).length + 1 ≤ 1000) (hnl : ∀ n ∈ pList p, n.length ≤ 20000000) :
    Calls Tryz.prog 18 #[.pointer (some ⟨s, 0, none⟩)] w fun e w' => e = .returned (.tuple #[.int .i64 ((cleanF ((pList p).filter isTmp) 0 p).1 : Nat), .int .i64 ((cleanF ((pList p).filter isTmp) 0 p).2.1 : Nat)]) ∧ Done P (N + (pList p).length + 1) w w' s (cleanF ((pList p).filter isTmp) 0 p).2.2 := by
  have HT := hid (temps_any w s p h)
  obtain ⟨L, hL⟩ : ∃ L, (pList p).filter isTmp = L := ⟨_, rfl⟩
  have hLl : L.length ≤ (pList p).length := by rw [← hL]; exact List.length_filter_le _ _
  have hLn : ∀ n ∈ L, n.length ≤ 20000000 := fun n hn => hnl n (by rw [← hL] at hn; exact (List.mem_filter.1 hn).1)
  obtain ⟨M, hM⟩ : ∃ M, (pList p).length = M := ⟨_, rfl⟩
  rw [hL] at HT ⊢
  rw [hM] at hLl hN ⊢
  have HS := hid h
  have HLN := hid hLn
  clear hL hM h hnl hLn
  obtain ⟨R, hR⟩ : ∃ R, cleanF L 0 p = R := ⟨_, rfl⟩
  have HR := hid hR
  rw [hR]
  clear hR
  go_enter Tryz.func18, Tryz.ntmps18
  go_wp2_with fail
  refine HT.out.mono ?_
  rintro e w1 ⟨u, rfl, hu, hub, hk⟩
  obtain ⟨ua, uc, rfl, hform⟩ := OwnN.form hu
  have hlt := HS.out.lt
  have HU := hid (And.intro hu (And.intro hub hform))
  have HST : Hid (∃ P', Sim.Sys P' (N + 0) w1 s p ∧ Kp P w w1 ∧ (∀ x, P' x → P x ∨ w.heap.size ≤ x) ∧ OwnN w1 (.slice ua L.length uc) L ∧ ∀ x, (Value.slice ua L.length uc).ownBlock = some x → ¬ P' x ∧ w.heap.size ≤ x) :=
    ⟨P, HS.out.kept hk, hk.ofNo, fun x hx => .inl hx, hu, fun x hx => ⟨fun hp => by have := hlt x hp; have := hub x hx; omega, hub x hx⟩⟩
  clear hu hub hk hform hlt HT
  go_wp2_with fail
  go_loopw [4, 13] (fun v i wr => ∃ (k : Nat), k ≤ L.length ∧ i = .int .i64 (k : Int) ∧ v = .int .i64 (k : Int) ∧ Hid (∃ q P', R = cleanF (L.drop k) k q ∧ Sim.Sys P' (N + k) wr s q ∧ Kp P w wr ∧ (∀ x, P' x → P x ∨ w.heap.size ≤ x) ∧ OwnN wr (.slice ua L.length uc) L ∧ ∀ x, (Value.slice ua L.length uc).ownBlock = some x → ¬ P' x ∧ w.heap.size ≤ x)) (fun _ i _ => L.length - (intOf i).toNat)
  case atStart =>
    obtain ⟨P', h1, h2⟩ := HST.out
    exact ⟨0, Nat.zero_le _, rfl, rfl, p, P', HR.out.symm, h1, h2⟩
  case round =>
    obtain ⟨k, hk, rfl, rfl, HQ⟩ := hrel
    by_cases hlt : k < L.length
    · have hltI : (k : Int) < (L.length : Int) := by omega
      obtain ⟨n, hn⟩ : ∃ n, L[k]? = some n := ⟨_, List.getElem?_eq_getElem hlt⟩
      obtain ⟨gu, rfl⟩ := HU.out.2.2 (by intro e; rw [e] at hlt; simp at hlt)
      obtain ⟨q, P', hRq, hSq, hKq, hPq, hOq, hAq⟩ := HQ.out
      have cu : wr.cell? ⟨gu, k, none⟩ = some (.string ⟨n.toArray⟩) := OwnN.cell hOq rfl k hn
      have hdr : L.drop k = n :: L.drop (k + 1) := by
        rw [List.drop_eq_getElem_cons hlt]
        have := (List.getElem?_eq_some_iff.1 hn).2
        rw [this]
      rw [hdr, cleanF] at hRq
      have hsz : (⟨n.toArray⟩ : ByteArray).size ≤ 20000000 := by
        have := HLN.out n (List.mem_of_getElem? hn)
        have e : (⟨n.toArray⟩ : ByteArray).size = n.length := by rw [Lib.size_eq]
        omega
      have HRM := hid (Sim.remove_any wr s q ⟨n.toArray⟩ hsz hSq (by omega))
      have hnm : nm ⟨n.toArray⟩ = n := rfl
      rw [hnm] at HRM
      obtain ⟨A, hA⟩ : ∃ A, pRemove n q = A := ⟨_, rfl⟩
      rw [hA] at HRM hRq
      have HX := hid (And.intro hRq (And.intro hSq (And.intro hKq (And.intro hPq (And.intro hOq hAq)))))
      clear hRq hSq hKq hPq hOq hAq hA hsz hnm hdr hn HQ
      go_wp2_with fail
      refine HRM.out.mono ?_
      rintro e w2 ⟨rfl, P2, hS2, hK2, hP2⟩
      obtain ⟨hRq, hSq, hKq, hPq, hOq, hAq⟩ := HX.out
      have hKw : Kp P w w2 := hKq.trans hK2 (fun x hx => by
        rcases hPq x hx with e | e
        · exact .inl e
        · exact .inr e)
      have hPw : ∀ x, P2 x → P x ∨ w.heap.size ≤ x := fun x hx => by
        rcases hP2 x hx with e | e
        · exact hPq x e
        · right; have := hKq.size; omega
      have HX2 := hid (And.intro hS2 (And.intro hKw (And.intro hPw (And.intro (Row.kp hOq hK2 (fun x hx => (hAq x hx).1)) (fun x hx => (show ¬ P2 x ∧ w.heap.size ≤ x from ⟨fun hp => by
        rcases hP2 x hp with e | e
        · exact (hAq x hx).1 e
        · have := Row.lt hOq x hx; omega, (hAq x hx).2⟩))))))
      have HRQ := hid hRq
      clear hRq hSq hKq hPq hOq hAq hS2 hK2 hP2 hKw hPw HX HRM
      by_cases hA0 : A.1 = 0
      · have HA0 := hid hA0
        rw [hA0]
        have hwk : IntKind.i64.wrap ((k : Int) + 1) = ((k + 1 : Nat) : Int) := by rw [IntKind.wrap_i64]; omega
        clear hA0
        go_wp2_with fail
        go_round
        case rel =>
          obtain ⟨h1, h2, h3, h4, h5⟩ := HX2.out
          refine ⟨k + 1, by omega, by go_num, by go_num, A.2, P2, ?_, h1, h2, h3, h4, h5⟩
          rw [HRQ.out, if_neg (by rw [HA0.out]; simp)]
        case measure => simp [intOf]; omega
      · have hA1 : ¬ ((A.1 : Int) = 0) := by omega
        obtain ⟨f, hf⟩ : ∃ f, A.1 = f := ⟨_, rfl⟩
        have HF := hid hf
        rw [hf] at hA0 hA1 ⊢
        clear hf
        go_wp2_with fail
        go_ret2
        obtain ⟨h1, h2, h3, _, _⟩ := HX2.out
        have e : R = (k, A.1, A.2) := by rw [HRQ.out, if_pos (by rw [HF.out]; exact hA0)]
        rw [e]
        exact ⟨by rw [HF.out]; rfl, P2, h1.more (by omega) (by omega), h2, h3⟩
    · have hltI : ¬ (k : Int) < (L.length : Int) := by omega
      have hkn : k = L.length := by omega
      subst hkn
      obtain ⟨q, P', hRq, hSq, hKq, hPq, hOq, hAq⟩ := HQ.out
      rw [List.drop_length, cleanF] at hRq
      by_cases h0 : L.length = 0
      · rw [if_pos h0] at hRq
        have HX := hid (And.intro hRq (And.intro hSq (And.intro hKq hPq)))
        have h0I : ((L.length : Int) = 0) := by omega
        clear hRq hSq hKq hPq hOq hAq
        go_wp2_with fail
        go_ret2
        obtain ⟨e, h1, h2, h3⟩ := HX.out
        rw [e]
        exact ⟨rfl, P', h1.more (by omega) (by omega), h2, h3⟩
      · rw [if_neg h0] at hRq
        have h0I : ¬ ((L.length : Int) = 0) := by omega
        have HSY := hid (Sim.syncdir_any wr s q hSq (by omega))
        obtain ⟨A, hA⟩ : ∃ A, pSyncDir q = A := ⟨_, rfl⟩
        rw [hA] at HSY hRq
        have HX := hid (And.intro hRq (And.intro hKq hPq))
        clear hRq hSq hKq hPq hOq hAq hA
        go_wp2_with fail
        refine HSY.out.mono ?_
        rintro e w2 ⟨rfl, P2, hS2, hK2, hP2⟩
        have HD := hid (And.intro hS2 (And.intro hK2 hP2))
        clear hS2 hK2 hP2 HSY
        go_wp2_with fail
        go_ret2
        obtain ⟨e, h2, h3⟩ := HX.out
        obtain ⟨d1, d2, d3⟩ := HD.out
        rw [e]
        refine ⟨rfl, P2, d1.more (by omega) (by omega), h2.trans d2 (fun x hx => h3 x hx), fun x hx => ?_⟩
        rcases d3 x hx with e | e
        · exact h3 x e
        · right; have := h2.size; omega
end Go.Proofs.YtkpibphalhhkdaaGreatDoor
end

section
/-
  The shelf: what is said of what is not there.
-/
namespace Go.Proofs.YtkpibphalhhkdaaGreatDoor.Sh
open Go.RowKit
open Sim (hid Kp No)

theorem none_nil (w : World) : Calls Tryz.prog 19 #[.pointer none] w fun e w' => e = .returned (.bool true) ∧ w' = w := by
  go_enter Tryz.func19, Tryz.ntmps19
  go_wp2_with fail
  go_ret
  exact ⟨rfl, rfl⟩
theorem ids_nil (w : World) : Calls Tryz.prog 17 #[.pointer none] w fun e w' => e = .returned (.slice none 0 0) ∧ w' = w := by
  go_enter Tryz.func17, Tryz.ntmps17
  go_wp2_with fail
  refine (none_nil _).mono ?_
  rintro e w1 ⟨rfl, rfl⟩
  go_wp2_with fail
  go_ret
  exact ⟨rfl, rfl⟩
theorem next_nil (w : World) : Calls Tryz.prog 15 #[.pointer none] w fun e w' => e = .returned (.int .i64 0) ∧ w' = w := by
  go_enter Tryz.func15, Tryz.ntmps15
  go_wp2_with fail
  refine (none_nil _).mono ?_
  rintro e w1 ⟨rfl, rfl⟩
  go_wp2_with fail
  go_ret
  exact ⟨rfl, rfl⟩
theorem load_nil (w : World) (id : Int) : Calls Tryz.prog 12 #[.pointer none, .int .i64 id] w fun e w' => e = .returned (.tuple #[.slice none 0 0, .int .i64 18]) ∧ w' = w := by
  go_enter Tryz.func12, Tryz.ntmps12
  go_wp2_with fail
  refine (none_nil _).mono ?_
  rintro e w1 ⟨rfl, rfl⟩
  go_wp2_with fail
  refine bodyPost_ret (v := .tuple #[.slice none 0 0, .int .i64 18]) (by simp [results, Tryz.results12, go_sem]) rfl ⟨rfl, rfl⟩
theorem bytes_nil (w : World) : Calls Tryz.prog 16 #[.pointer none] w fun e w' => e = .returned (.int .i64 0) ∧ w' = w := by
  go_enter Tryz.func16, Tryz.ntmps16
  go_wp2_with fail
  refine (ids_nil _).mono ?_
  rintro e w1 ⟨rfl, rfl⟩
  go_wp2_with fail
  refine wp_loop_rounds 1 ?_
  rw [rounds_succ]
  go_wp2_with fail
  go_ret
  exact ⟨rfl, rfl⟩
theorem open_nil (w : World) (t : Option Addr) : Calls Tryz.prog 7 #[.pointer none, .pointer t] w fun e w' => e = .returned (.tuple #[.pointer none, .int .i64 18]) ∧ w' = w := by
  go_enter Tryz.func7, Tryz.ntmps7
  go_wp2_with fail
  refine bodyPost_ret (v := .tuple #[.pointer none, .int .i64 18]) (by simp [results, Tryz.results7, go_sem]) rfl ⟨rfl, rfl⟩
theorem open_nilT (w : World) (s : Addr) : Calls Tryz.prog 7 #[.pointer (some s), .pointer none] w fun e w' => e = .returned (.tuple #[.pointer none, .int .i64 18]) ∧ w' = w := by
  go_enter Tryz.func7, Tryz.ntmps7
  go_wp2_with fail
  refine bodyPost_ret (v := .tuple #[.pointer none, .int .i64 18]) (by simp [results, Tryz.results7, go_sem]) rfl ⟨rfl, rfl⟩
theorem lay_nil (w : World) (v : Value) : Calls Tryz.prog 9 #[.pointer none, v] w fun e w' => e = .returned (.tuple #[.slice none 0 0, .int .i64 18]) ∧ Kp No w w' := by
  have HK : Hid (Kp No w (w.alloc (.cells #[.pointer none] 25))) := (Kp.refl No w).alloc _
  go_enter Tryz.func9, Tryz.ntmps9
  go_wp2_with fail
  refine (none_nil _).mono ?_
  rintro e w1 ⟨rfl, rfl⟩
  go_wp2_with fail
  refine bodyPost_ret (v := .tuple #[.slice none 0 0, .int .i64 18]) (by simp [results, Tryz.results9, go_sem]) rfl ⟨rfl, HK.out⟩

end Go.Proofs.YtkpibphalhhkdaaGreatDoor.Sh
end

section
/-
  The shelf: Open, and what an empty one tells.
-/
namespace Go.Proofs.YtkpibphalhhkdaaGreatDoor.Sh
open Go.RowKit Go.Shelf
open Sim (hid Kp No PS Done Blk nm pList OwnN)

def shC (s b : Nat) (n : Int) : List Value := [.pointer (some ⟨s, 0, none⟩), .pointer (some ⟨b, 0, none⟩), .int .i64 n]
/-- A shelf at h, of the files at s, with the table at b; the greatest id that was begun is n. -/
def ShAt (w : World) (h s b : Nat) (n : Int) : Prop := Blk w h 73 (shC s b n)

theorem none_any (w : World) (h s b : Nat) (n : Int) (hH : ShAt w h s b n) : Calls Tryz.prog 19 #[.pointer (some ⟨h, 0, none⟩)] w fun e w' => e = .returned (.bool false) ∧ w' = w := by
  have c0 : w.cell? ⟨h, 0, none⟩ = some (.pointer (some ⟨s, 0, none⟩)) := hH.cell 0
  go_enter Tryz.func19, Tryz.ntmps19
  go_wp2_with fail
  go_ret
  exact ⟨rfl, rfl⟩

/-- What Open answers, and leaves: a fault, or a shelf at a new block. -/
def OpenP (P : Nat → Prop) (N : Nat) (w : World) (s b : Nat) (f : Nat) (q : PS) (e : Ending) (w' : World) : Prop :=
  (f ≠ 0 ∧ e = .returned (.tuple #[.pointer none, .int .i64 (f : Nat)]) ∧ Done P N w w' s q) ∨
  (f = 0 ∧ ∃ g P', e = .returned (.tuple #[.pointer (some ⟨g, 0, none⟩), .int .i64 0]) ∧ ShAt w' g s b 0 ∧ Sim.Sys P' N w' s q ∧ Kp P w w' ∧ (∀ x, P' x → P x ∨ w.heap.size ≤ x) ∧ ¬ P' g ∧ w.heap.size ≤ g)

theorem open_any {P : Nat → Prop} {N : Nat} (w : World) (s b : Nat) (p : PS) (h : Sim.Sys P N w s p) (hN : N + (pList p).length + 1 ≤ 1000) (hnl : ∀ n ∈ pList p, n.length ≤ 20000000) :
    Calls Tryz.prog 7 #[.pointer (some ⟨s, 0, none⟩), .pointer (some ⟨b, 0, none⟩)] w fun e w' => OpenP P (N + (pList p).length + 1) w s b (cleanF ((pList p).filter isTmp) 0 p).2.1 (cleanF ((pList p).filter isTmp) 0 p).2.2 e w' := by
  have HC := hid (clean_any w s p h hN hnl)
  obtain ⟨R, hR⟩ : ∃ R, cleanF ((pList p).filter isTmp) 0 p = R := ⟨_, rfl⟩
  rw [hR] at HC ⊢
  generalize N + (pList p).length + 1 = M at *
  clear hR h hN hnl
  go_enter Tryz.func7, Tryz.ntmps7
  go_wp2_with fail
  refine HC.out.mono ?_
  rintro e w1 ⟨rfl, hD⟩
  have HD := hid hD
  clear hD HC
  by_cases hz : R.2.1 = 0
  · have HZ := hid hz
    rw [hz]
    clear hz
    go_wp2_with fail
    obtain ⟨P', h1, h2, h3⟩ := HD.out
    refine bodyPost_ret (v := .tuple #[.pointer (some ⟨w1.heap.size, 0, none⟩), .int .i64 0]) (by simp [results, Tryz.results7, go_sem]) rfl ?_
    have hal : Kp No w1 (w1.alloc (.cells (shC s b 0).toArray 73)) := (Kp.refl _ _).alloc _
    exact .inr ⟨HZ.out, w1.heap.size, P', rfl, Blk.new w1 _ _, h1.kept hal, h2.andNone hal, h3, fun e => by have := h1.lt _ e; omega, h2.size⟩
  · have HZ := hid hz
    obtain ⟨F, hF⟩ : ∃ F, R.2.1 = F := ⟨_, rfl⟩
    have HF := hid hF
    rw [hF] at hz ⊢
    have hz' : ¬ ((F : Int) = 0) := by omega
    clear hF
    go_wp2_with fail
    refine bodyPost_ret (v := .tuple #[.pointer none, .int .i64 (F : Nat)]) (by simp [results, Tryz.results7, go_sem]) rfl ?_
    exact .inl ⟨HZ.out, by rw [HF.out], HD.out⟩

/-- No pack is seen where nothing is. -/
theorem pids_none {P : Nat → Prop} {N : Nat} (w : World) (s : Nat) (p : PS) (h : Sim.Sys P N w s p) (he : pList p = []) :
    Calls Tryz.prog 33 #[.pointer (some ⟨s, 0, none⟩)] w fun e w' => e = .returned (.slice none 0 0) ∧ Kp No w w' := by
  have HP : Hid (∀ f : Value, Calls Tryz.prog 53 #[.pointer (some ⟨s, 0, none⟩), f] w fun e w' => e = .returned (.slice none 0 0) ∧ Kp No w w') := fun f => by
    have HL := hid (Sim.list_any w s p h)
    rw [he] at HL
    clear h he
    go_enter Tryz.func53, Tryz.ntmps53
    go_wp2_with fail
    refine HL.out.mono ?_
    rintro e w1 ⟨u, rfl, hu, _, hk⟩
    obtain ⟨ua, uc, rfl, _⟩ := OwnN.form hu
    have HK := hid hk
    clear hu hk
    have e0 : ([] : List Sim.Nm).length = 0 := rfl
    rw [e0]
    go_wp2_with fail
    go_loop [5, 13] (fun l i => l = .slice none 0 0 ∧ i = .int .i64 0) (fun _ _ => 0)
    case atStart => exact ⟨rfl, rfl⟩
    case round =>
      obtain ⟨rfl, rfl⟩ := hrel
      go_wp2
      go_ret
      exact ⟨rfl, HK.out⟩
  have hs : Hid (∀ V, Calls Tryz.prog 55 #[.slice none 0 0] V fun e w' => e = .returned (.tuple #[]) ∧ w' = V) := fun V => Any.slices_Sort_int_none Sim.Tryz.sortI none 0 V
  clear h he
  go_enter Tryz.func33, Tryz.ntmps33
  go_wp2_with (first
    | (go_at_call 53; refine (HP.out _).mono ?_; rintro e w1 ⟨rfl, h⟩; have HK := hid h; clear h)
    | (go_at_call 55; refine (hs.out _).mono ?_; rintro e w2 ⟨rfl, h⟩; subst w2))
  go_ret
  exact ⟨rfl, HK.out⟩

theorem ids_none {P : Nat → Prop} {N : Nat} (w : World) (h s b : Nat) (n : Int) (p : PS) (hH : ShAt w h s b n) (hS : Sim.Sys P N w s p) (he : pList p = []) :
    Calls Tryz.prog 17 #[.pointer (some ⟨h, 0, none⟩)] w fun e w' => e = .returned (.slice none 0 0) ∧ Kp No w w' := by
  have c0 : w.cell? ⟨h, 0, none⟩ = some (.pointer (some ⟨s, 0, none⟩)) := hH.cell 0
  have HN := hid (none_any w h s b n hH)
  have HI := hid (pids_none w s p hS he)
  clear hH hS he
  go_enter Tryz.func17, Tryz.ntmps17
  go_wp2_with fail
  refine HN.out.mono ?_
  rintro e w1 ⟨rfl, rfl⟩
  go_wp2_with fail
  refine HI.out.mono ?_
  rintro e w2 ⟨rfl, hk⟩
  have HK := hid hk
  clear hk
  go_wp2_with fail
  go_ret
  exact ⟨rfl, HK.out⟩

end Go.Proofs.YtkpibphalhhkdaaGreatDoor.Sh
end

section
/-
  The ids of the packs that are seen, rising.
-/
namespace Go.Proofs.YtkpibphalhhkdaaGreatDoor.Sh
open Go.RowKit Go.Shelf
open Sim (hid Kp No PS Done Blk nm pList OwnN Row Nm)

def packS : ByteArray := ⟨#[112, 97, 99, 107, 46]⟩
/-- The id that a name tells. -/
def idN (n : Nm) : Option Int := if (idOf packS ⟨n.toArray⟩).2 = true then some (idOf packS ⟨n.toArray⟩).1 else none
def ic (zs : List Int) : List Value := zs.map (Value.int .i64)
def RowZ (w : World) (v : Value) (zs : List Int) : Prop := Row w 3 1 v zs.length (ic zs)
theorem infoI : (Tryz.prog.info? 3).map (fun i => (i.zero, i.size, i.bytes)) = some (some (.int .i64 0), 1, 8) := by kernel_rfl
theorem run_oneI (n : Int) (w : World) : (Instr.buildSlice 53 1 #[(0, .int .i64 n)]).run Tryz.prog w = .ok (.slice (some ⟨w.heap.size, 0, none⟩) 1 1) (w.alloc (.cells #[.int .i64 n] 3)) := by kernel_rfl
theorem RowZ.form {w : World} {v : Value} {zs : List Int} (h : RowZ w v zs) : ∃ a c, v = .slice a zs.length c ∧ zs.length ≤ c ∧ c ≤ maxLen ∧ (zs ≠ [] → ∃ g, a = some ⟨g, 0, none⟩ ∧ g < w.heap.size) := by
  obtain ⟨a, c, rfl, h1, h2, h3, h4⟩ := Row.shape h
  refine ⟨a, c, rfl, h1, h2, fun hne => ?_⟩
  cases a with
  | none =>
    have := (h3 rfl).1
    exact absurd (List.length_eq_zero_iff.1 this) hne
  | some x =>
    obtain ⟨hs, ho⟩ := h4 x rfl
    obtain ⟨b, o, s⟩ := x
    simp only at hs ho
    subst hs ho
    exact ⟨b, rfl, Row.lt h b rfl⟩
theorem RowZ.cell {w : World} {g n c : Nat} {zs : List Int} (h : RowZ w (.slice (some ⟨g, 0, none⟩) n c) zs) (hn : n = zs.length) (i : Nat) {z : Int} (hi : zs[i]? = some z) : w.cell? ⟨g, i, none⟩ = some (.int .i64 z) := by
  subst hn
  have hl := (List.getElem?_eq_some_iff.1 hi).1
  have := Row.cellAt h i (by omega)
  rw [this, ic, List.getElem?_map, hi]
  rfl

theorem Vars.kept {w w' : World} (h : Vars w) (k : Kp No w w') : Vars w' := h.below k.toBelow'

set_option maxHeartbeats 1000000 in
theorem pickI_any {P : Nat → Prop} {N : Nat} (w : World) (s : Nat) (p : PS) (h : Sim.Sys P N w s p) (hV : Vars w) (hnl : ∀ n ∈ pList p, n.length ≤ 20000000) :
    Calls Tryz.prog 53 #[.pointer (some ⟨s, 0, none⟩), .func (.func 54) #[.string ⟨#[112, 97, 99, 107, 46]⟩] #[]] w fun e w' => ∃ u, e = .returned u ∧ RowZ w' u ((pList p).filterMap idN) ∧ (∀ x, u.ownBlock = some x → w.heap.size ≤ x) ∧ Kp No w w' := by
  have HL := hid (Sim.list_any w s p h)
  have hlen : (pList p).length ≤ 1000 := by
    have h1 := h.inv.lseen
    have h2 := h.inv.big
    unfold pList
    split
    · simp
    · rw [List.length_map]; omega
  have HV := hid hV
  obtain ⟨L, hL⟩ : ∃ L, pList p = L := ⟨_, rfl⟩
  rw [hL] at HL hlen hnl ⊢
  have HNL := hid hnl
  clear hL h hV hnl
  go_enter Tryz.func53, Tryz.ntmps53
  go_wp2_with fail
  refine HL.out.mono ?_
  rintro e w1 ⟨u, rfl, hu, hub, hk⟩
  obtain ⟨ua, uc, rfl, hform⟩ := OwnN.form hu
  have HU := hid (And.intro hu (And.intro hub (And.intro hk hform)))
  have HK1 := hid hk
  have HV1 := hid (Vars.kept HV.out hk)
  clear hu hub hk hform HV
  go_wp2_with fail
  go_loopw [5, 13] (fun v i wr => ∃ (k : Nat) (a : Option Addr) (m c : Nat), k ≤ L.length ∧ i = .int .i64 (k : Int) ∧ v = .slice a m c ∧ m ≤ k ∧ Hid (m = ((L.take k).filterMap idN).length ∧ RowZ wr (.slice a m c) ((L.take k).filterMap idN) ∧ (∀ x, (Value.slice a m c).ownBlock = some x → w1.heap.size ≤ x) ∧ Kp No w1 wr)) (fun _ i _ => L.length - (intOf i).toNat)
  case atStart => exact ⟨0, none, 0, 0, Nat.zero_le _, rfl, rfl, Nat.le_refl _, by simp, Row.nil _ _ _, (by intro x hx; cases hx), Kp.refl _ _⟩
  case round =>
    obtain ⟨k, a, m, c, hk, rfl, rfl, hmk, HS⟩ := hrel
    by_cases hlt : k < L.length
    · have hltI : (k : Int) < (L.length : Int) := by omega
      obtain ⟨n, hn⟩ : ∃ n, L[k]? = some n := ⟨_, List.getElem?_eq_getElem hlt⟩
      obtain ⟨hu, hub, hk1, hform⟩ := HU.out
      obtain ⟨gu, rfl⟩ := hform (by intro e; rw [e] at hlt; simp at hlt)
      obtain ⟨hm, hrow, hblk, hkr⟩ := HS.out
      have cu : wr.cell? ⟨gu, k, none⟩ = some (.string ⟨n.toArray⟩) := OwnN.cell (Row.kept hu hkr) rfl k hn
      have hsz : (⟨n.toArray⟩ : ByteArray).size ≤ 20000000 := by
        have := HNL.out n (List.mem_of_getElem? hn)
        have e : (⟨n.toArray⟩ : ByteArray).size = n.length := by rw [Lib.size_eq]
        omega
      have HOWN := hid (pid_any ⟨#[112, 97, 99, 107, 46]⟩ (by decide) ⟨n.toArray⟩ hsz wr (Vars.kept HV1.out hkr))
      have HN := hid hn
      have HX := hid (And.intro hm (And.intro hrow (And.intro hblk hkr)))
      clear hu hub hk1 hform hm hrow hblk hkr hn HS hsz
      obtain ⟨I, hI⟩ : ∃ I, idOf ⟨#[112, 97, 99, 107, 46]⟩ ⟨n.toArray⟩ = I := ⟨_, rfl⟩
      rw [hI] at HOWN
      have HIN : Hid (idN n = if I.2 = true then some I.1 else none) := by rw [Hid, idN, packS, hI]
      clear hI
      obtain ⟨z, b⟩ := I
      cases b with
      | false =>
        go_wp2_with fail
        refine HOWN.out.mono ?_
        rintro e w2 ⟨rfl, hb2⟩
        have HF : Hid (m = ((L.take (k + 1)).filterMap idN).length ∧ RowZ w2 (.slice a m c) ((L.take (k + 1)).filterMap idN) ∧ (∀ x, (Value.slice a m c).ownBlock = some x → w1.heap.size ≤ x) ∧ Kp No w1 w2) := by
          have e : (L.take (k + 1)).filterMap idN = (L.take k).filterMap idN := by
            have hin := HIN.out
            rw [List.take_add_one, HN.out, List.filterMap_append]
            simp [hin]
          rw [Hid, e]
          obtain ⟨q1, q2, q3, q4⟩ := HX.out
          exact ⟨q1, Row.kept q2 (Kp.below hb2), q3, q4.andNone (Kp.below hb2)⟩
        clear hb2 HOWN
        go_wp2_with fail
        go_round
        case rel => exact ⟨k + 1, a, m, c, by omega, by go_num, rfl, by omega, HF⟩
        case measure => simp [intOf]; omega
      | true =>
        go_wp2_with fail
        refine HOWN.out.mono ?_
        rintro e w2 ⟨rfl, hb2⟩
        have HK2 : Hid (Kp No wr w2) := Kp.below hb2
        clear hb2 HOWN
        have hal : Kp No w2 (w2.alloc (.cells #[.int .i64 z] 3)) := (Kp.refl _ _).alloc _
        have HR5 : Hid (Row (w2.alloc (.cells #[.int .i64 z] 3)) 3 1 (.slice a m c) m (ic ((L.take k).filterMap idN))) := by
          have h : Row wr 3 1 (.slice a m c) ((L.take k).filterMap idN).length (ic ((L.take k).filterMap idN)) := HX.out.2.1
          rw [← HX.out.1] at h
          exact (h.kept HK2.out).kept hal
        have HSRC : Hid (Sim.Src (w2.alloc (.cells #[.int .i64 z] 3)) (.slice (some ⟨w2.heap.size, 0, none⟩) 1 1) 1 1 [.int .i64 z]) := Sim.Src.one w2 [.int .i64 z] 1 3 rfl (by intro u hu; rw [List.mem_singleton.1 hu]; rfl)
        have HN1 := hid (fun V => run_oneI z V)
        have HAL := hid hal
        clear hal
        go_wp2_with (first
          | (refine wpList_val (by rfl) (exec_slice1 53 _ (by rfl) (.int .i64 z) _ (by rfl) (HN1.out _)) ?_)
          | (refine Sim.app_row _ (by rfl) _ _ 53 3 (.int .i64 0) 1 8 (by rfl) Tryz.underlying53 infoI rfl (by omega) (.slice a m c) (.slice (some ⟨w2.heap.size, 0, none⟩) 1 1) m 1 (ic ((L.take k).filterMap idN)) [.int .i64 z] (by rfl) (by rfl) HR5.out HSRC.out (by omega) (by omega) ?_; intro ad2 cap2 w6 hrow6 hgr6 hown6))
        have HF : Hid (m + 1 = ((L.take (k + 1)).filterMap idN).length ∧ RowZ w6 (.slice ad2 (m + 1) cap2) ((L.take (k + 1)).filterMap idN) ∧ (∀ x, (Value.slice ad2 (m + 1) cap2).ownBlock = some x → w1.heap.size ≤ x) ∧ Kp No w1 w6) := by
          obtain ⟨hm, hrow, hblk, hkr⟩ := HX.out
          have e : (L.take (k + 1)).filterMap idN = (L.take k).filterMap idN ++ [z] := by
            have hin := HIN.out
            rw [List.take_add_one, HN.out, List.filterMap_append]
            simp [hin]
          have hs := hkr.size
          have hs2 := HK2.out.size
          rw [Hid, e, List.length_append, ← hm]
          refine ⟨rfl, ?_, fun x hx => ?_, ?_⟩
          · unfold RowZ
            rw [List.length_append, ← hm, ic, List.map_append]
            exact hrow6
          · rcases hown6 with h | h
            · exact hblk x (by rw [← h]; exact hx)
            · rw [h] at hx
              have := Option.some.inj hx
              simp at this
              omega
          · exact ((hkr.andNone HK2.out).andNone HAL.out).grown hgr6 (fun x hx => .inr (hblk x hx))
        clear hrow6 hgr6 hown6 HX
        go_wp2_with fail
        go_round
        case rel => exact ⟨k + 1, _, m + 1, _, by omega, by go_num, rfl, by omega, HF⟩
        case measure => simp [intOf]; omega
    · have hltI : ¬ (k : Int) < (L.length : Int) := by omega
      have hkn : k = L.length := by omega
      subst hkn
      go_wp2_with fail
      go_ret
      obtain ⟨hm, hrow, hblk, hkr⟩ := HS.out
      rw [List.take_length] at hrow
      exact ⟨_, rfl, hrow, fun x hx => Nat.le_trans HK1.out.size (hblk x hx), HK1.out.andNone hkr⟩

def leI (x y : Int) : Bool := decide (x ≤ y)
/-- The ids that are seen, rising. -/
def idsP (p : PS) : List Int := ((pList p).filterMap idN).mergeSort leI

theorem sort_row (w u : World) (v : Value) (zs : List Int) (h : RowZ w v zs) (ho : ∀ x, v.ownBlock = some x → u.heap.size ≤ x) (hl : zs.length ≤ 1000) :
    Calls Tryz.prog 55 #[v] w fun e w' => e = .returned (.tuple #[]) ∧ RowZ w' v (zs.mergeSort leI) ∧ Kp (fun x => u.heap.size ≤ x) w w' := by
  obtain ⟨a, c, rfl, h1, h2, h3⟩ := h.form
  by_cases hz : zs = []
  · subst hz
    have hc := Any.slices_Sort_int_none Sim.Tryz.sortI a c w
    refine Calls.mono hc ?_
    rintro e w' ⟨rfl, rfl⟩
    exact ⟨rfl, by simpa using h, Kp.refl _ _⟩
  · obtain ⟨g, rfl, hg⟩ := h3 hz
    rcases h.2 with ⟨h0, _⟩ | ⟨g', cap', cur, hv, _, hb, hn, hcap, hsz, ht⟩
    · cases h0
    cases hv
    have ht' : cur.toList.take zs.length = zs.map (Value.int .i64) := by rw [Nat.mul_one] at ht; exact ht
    refine (Any.slices_Sort_int Sim.Tryz.sortI g 0 c zs w (holds_of_blockI hb ht') hg (by omega)).mono ?_
    rintro e w' ⟨rfl, n, os, rfl⟩
    have hlen : (zs.mergeSort fun x y => decide (x ≤ y)).length = zs.length := List.length_mergeSort zs
    refine ⟨rfl, ?_, ?_⟩
    · have hr := ownsRow_sortedI (n := n) (os := os) (base := 0) hlen (Nat.zero_le _) hb hn hcap hsz
      show Sim.Row _ 3 1 _ (zs.mergeSort leI).length (ic (zs.mergeSort leI))
      rw [show (zs.mergeSort leI).length = zs.length from hlen]
      exact hr
    · have hgr := grownBy_sortedI (w := w) (g := g) (n := n) (os := os) (zs.mergeSort fun x y => decide (x ≤ y)).toArray
      exact (Kp.ofGrown hgr).mono (fun x hx => .inl (by have := ho x (by rw [← hx]; rfl); exact this))

set_option maxHeartbeats 1000000 in
theorem pids_any {P : Nat → Prop} {N : Nat} (w : World) (s : Nat) (p : PS) (h : Sim.Sys P N w s p) (hV : Vars w) (hnl : ∀ n ∈ pList p, n.length ≤ 20000000) :
    Calls Tryz.prog 33 #[.pointer (some ⟨s, 0, none⟩)] w fun e w' => ∃ u, e = .returned u ∧ RowZ w' u (idsP p) ∧ (∀ x, u.ownBlock = some x → w.heap.size ≤ x) ∧ Kp No w w' := by
  have hmf : ∀ (fn : Fn) (first cap : Array Value) (w : World), (Instr.makeFunc fn first cap).run Tryz.prog w = .ok (.func fn first cap) w := fun _ _ _ _ => rfl
  have HP := hid (pickI_any w s p h hV hnl)
  have hlen : ((pList p).filterMap idN).length ≤ 1000 := by
    have h1 := h.inv.lseen
    have h2 := h.inv.big
    refine Nat.le_trans (List.length_filterMap_le _ _) ?_
    unfold pList
    split
    · simp
    · rw [List.length_map]; omega
  have HS := hid (fun V v (hv : RowZ V v ((pList p).filterMap idN)) (ho : ∀ x, v.ownBlock = some x → w.heap.size ≤ x) => sort_row V w v _ hv ho hlen)
  unfold idsP
  obtain ⟨Z, hZ⟩ : ∃ Z, (pList p).filterMap idN = Z := ⟨_, rfl⟩
  rw [hZ] at HP HS ⊢
  clear hZ h hV hnl hlen
  go_enter Tryz.func33, Tryz.ntmps33
  go_wp2_with fail
  refine HP.out.mono ?_
  rintro e w1 ⟨u, rfl, hu, hub, hk⟩
  obtain ⟨a, c, rfl, _⟩ := hu.form
  have HSS := hid (HS.out w1 _ hu hub)
  have HK := hid (And.intro hub hk)
  clear hu hub hk HS HP
  generalize hn : Z.length = n at *
  clear hn
  go_wp2_with fail
  refine HSS.out.mono ?_
  rintro e w2 ⟨rfl, hr, hk2⟩
  have HF : Hid (RowZ w2 (.slice a n c) (Z.mergeSort leI) ∧ (∀ x, (Value.slice a n c).ownBlock = some x → w.heap.size ≤ x) ∧ Kp No w w2) := ⟨hr, HK.out.1, HK.out.2.trans hk2 (fun x hx => .inr hx)⟩
  clear hr hk2
  go_wp2_with fail
  go_ret
  exact ⟨_, rfl, HF.out⟩

end Go.Proofs.YtkpibphalhhkdaaGreatDoor.Sh
end

section
/-
  The greatest of some numbers; the ids of a shelf.
-/
namespace Go.Proofs.YtkpibphalhhkdaaGreatDoor.Sh
open Go.RowKit Go.Shelf
open Sim (hid Kp No PS Done Blk nm pList OwnN Row Nm)

def maxZ : List Int → Int
  | [] => 0
  | z :: r => r.foldl max z
theorem maxZ_snoc (zs : List Int) (z : Int) (h : zs ≠ []) : maxZ (zs ++ [z]) = max (maxZ zs) z := by
  cases zs with
  | nil => exact absurd rfl h
  | cons y r => simp [maxZ, List.foldl_append]

set_option maxHeartbeats 1000000 in
theorem max_any (w : World) (v : Value) (zs : List Int) (h : RowZ w v zs) (hne : zs ≠ []) (hl : zs.length ≤ 100000) :
    Calls Tryz.prog 30 #[v] w fun e w' => e = .returned (.int .i64 (maxZ zs)) ∧ w' = w := by
  obtain ⟨a, c, rfl, h1, h2, h3⟩ := h.form
  obtain ⟨g, rfl, hg⟩ := h3 hne
  have HC : Hid (∀ i z, zs[i]? = some z → w.cell? ⟨g, i, none⟩ = some (.int .i64 z)) := fun i z hi => h.cell rfl i hi
  have hpos : 0 < zs.length := List.length_pos_iff.2 hne
  obtain ⟨z0, hz0⟩ : ∃ z, zs[0]? = some z := ⟨_, List.getElem?_eq_getElem hpos⟩
  have c0 := HC.out 0 z0 hz0
  obtain ⟨n, hn⟩ : ∃ n, zs.length = n := ⟨_, rfl⟩
  have HN := hid hn
  have H0 : Hid (maxZ (zs.take 1) = z0) := by
    rw [Hid, List.take_add_one, hz0]
    rfl
  obtain ⟨M, hM⟩ : ∃ M, maxZ zs = M := ⟨_, rfl⟩
  have HM := hid hM
  rw [hn] at h1 hpos hl ⊢
  rw [hM]
  have hlt1 : ¬ ((n : Int) < 1) := by omega
  clear h h3 hne hz0 hn hM
  go_enter Tryz.func30, Tryz.ntmps30
  go_wp2_with fail
  go_loopw [3, 4] (fun m i wr => ∃ (k : Nat) (z : Int), 1 ≤ k ∧ k ≤ n ∧ i = .int .i64 (k : Int) ∧ m = .int .i64 z ∧ wr = w ∧ Hid (maxZ (zs.take k) = z)) (fun _ i _ => n - (intOf i).toNat)
  case atStart => exact ⟨1, z0, Nat.le_refl _, by omega, rfl, rfl, rfl, H0⟩
  case round =>
    obtain ⟨k, z, hk1, hk2, rfl, rfl, hwr, HZ⟩ := hrel
    subst hwr
    by_cases hlt : k < n
    · have hltI : (k : Int) < (n : Int) := by omega
      obtain ⟨y, hy⟩ : ∃ y, zs[k]? = some y := ⟨_, List.getElem?_eq_getElem (by rw [HN.out]; exact hlt)⟩
      have cy := HC.out k y hy
      have HF : Hid (maxZ (zs.take (k + 1)) = max z y) := by
        rw [Hid, List.take_add_one, hy, ← HZ.out]
        exact maxZ_snoc _ _ (fun e => by
          have := congrArg List.length e
          rw [List.length_take, HN.out] at this
          simp at this
          omega)
      clear hy
      go_wp2_with fail
      exact ⟨⟨k + 1, max z y, by omega, by omega, by go_num, rfl, trivial, HF⟩, by simp [intOf]; omega⟩
    · have hltI : ¬ (k : Int) < (n : Int) := by omega
      have hkn : k = n := by omega
      subst hkn
      go_wp2_with fail
      go_ret
      have hz := HZ.out
      rw [← HN.out, List.take_length, HM.out] at hz
      exact ⟨by rw [hz]; rfl, rfl⟩

theorem ids_any {P : Nat → Prop} {N : Nat} (w : World) (h s b : Nat) (n : Int) (p : PS) (hH : ShAt w h s b n) (hS : Sim.Sys P N w s p) (hV : Vars w) (hnl : ∀ n ∈ pList p, n.length ≤ 20000000) :
    Calls Tryz.prog 17 #[.pointer (some ⟨h, 0, none⟩)] w fun e w' => ∃ u, e = .returned u ∧ RowZ w' u (idsP p) ∧ (∀ x, u.ownBlock = some x → w.heap.size ≤ x) ∧ Kp No w w' := by
  have c0 : w.cell? ⟨h, 0, none⟩ = some (.pointer (some ⟨s, 0, none⟩)) := hH.cell 0
  have HN := hid (none_any w h s b n hH)
  have HI := hid (pids_any w s p hS hV hnl)
  clear hH hS hV hnl
  generalize idsP p = Z at *
  go_enter Tryz.func17, Tryz.ntmps17
  go_wp2_with fail
  refine HN.out.mono ?_
  rintro e w1 ⟨rfl, rfl⟩
  go_wp2_with fail
  refine HI.out.mono ?_
  rintro e w2 ⟨u, rfl, hu, ho, hk⟩
  obtain ⟨a, c, rfl, _⟩ := hu.form
  have HF := hid (And.intro hu (And.intro ho hk))
  clear hu ho hk
  go_wp2_with fail
  go_ret
  exact ⟨_, rfl, HF.out⟩

/-- A number is laid behind a row of one's own. -/
theorem app_oneI (W V : World) (t : TypeId) (v : Value) (zs : List Int) (z : Int) (g : Nat) (h : RowZ W v zs) (hV : Kp No W V) (hc : V.cell? ⟨g, 0, none⟩ = some (.int .i64 z)) (hl : zs.length ≤ 100000) :
    ∃ ad cap w', (Builtin.append_ #[53, 53] t #[v, .slice (some ⟨g, 0, none⟩) 1 1]).run Tryz.prog V = .ok (.slice ad (zs.length + 1) cap) w' ∧ RowZ w' (.slice ad (zs.length + 1) cap) (zs ++ [z]) ∧ V.grownBy w' v.ownBlock := by
  obtain ⟨i, hi, hiz⟩ : ∃ i, Tryz.prog.info? 3 = some i ∧ (i.zero, i.size, i.bytes) = (some (.int .i64 0), 1, 8) := Option.map_eq_some_iff.1 infoI
  simp only [Prod.mk.injEq] at hiz
  obtain ⟨z1, z2, z3⟩ := hiz
  have hr : V.ownsRow 0 3 1 v zs.length (ic zs) := Row.kept h hV
  obtain ⟨gg, cap, W2, hap, hown2, hgrow, _, _⟩ := run_append_lies (P := Tryz.prog) V 53 t 0 3 i (.int .i64 0) 1 8 Tryz.underlying53 hi z1 z2 z3 rfl (by omega)
    v zs.length _ hr ⟨g, 0, none⟩ 1 1 [.int .i64 z] rfl (fun j u hj => by
      match j, hj with
      | 0, hj =>
        simp at hj
        subst hj
        exact hc) (by intro u hu; rw [List.mem_singleton.1 hu]; rfl) (by omega) (by unfold maxLen; omega) (by omega) (Nat.zero_le _) _ rfl
  refine ⟨_, cap, W2, hap, ?_, hgrow⟩
  show Sim.Row _ _ _ _ (zs ++ [z]).length (ic (zs ++ [z]))
  rw [List.length_append, ic, List.map_append]
  exact hown2

end Go.Proofs.YtkpibphalhhkdaaGreatDoor.Sh
end

section
/-
  Plain mathematics of a stable sort: rows of things with keys; inserting, rotating and merging in place keep, of each key, the order.
-/
namespace Go.Proofs.YtkpibphalhhkdaaGreatDoor.Stb

/-- Keys: bytes. -/
abbrev κ : Type := List Int
section
variable {α : Type} (key : α → κ) (lt : κ → κ → Bool)

/-- A strict order of all keys. -/
structure Ord : Prop where
  irr : ∀ x, lt x x = false
  trans : ∀ x y z, lt x y = true → lt y z = true → lt x z = true
  tot : ∀ x y, x ≠ y → lt x y = true ∨ lt y x = true

/-- Of each key the same, in the same order. -/
def Stab (l m : List α) : Prop := ∀ k, m.filter (fun x => decide (key x = k)) = l.filter (fun x => decide (key x = k))
/-- None stands behind a greater one. -/
def Srt (l : List α) : Prop := l.Pairwise (fun x y => lt (key y) (key x) = false)
/-- All of the first stand ahead of all of the second. -/
def Lts (l m : List α) : Prop := ∀ x ∈ l, ∀ y ∈ m, lt (key x) (key y) = true
/-- None of the second stands ahead of one of the first. -/
def Les (l m : List α) : Prop := ∀ x ∈ l, ∀ y ∈ m, lt (key y) (key x) = false
end

section
variable {α : Type} {key : α → κ} {lt : κ → κ → Bool}

theorem Ord.asym (h : Ord lt) {x y : κ} (hx : lt x y = true) : lt y x = false := by
  cases hy : lt y x with
  | false => rfl
  | true => have := h.trans _ _ _ hx hy; rw [h.irr] at this; cases this
/-- x ≤ y < z. -/
theorem Ord.le_lt (h : Ord lt) {x y z : κ} (h1 : lt y x = false) (h2 : lt y z = true) : lt x z = true := by
  by_cases e : x = y
  · rw [e]; exact h2
  · rcases h.tot x y e with h3 | h3
    · exact h.trans _ _ _ h3 h2
    · rw [h1] at h3; cases h3
theorem Ord.lt_le (h : Ord lt) {x y z : κ} (h1 : lt x y = true) (h2 : lt z y = false) : lt x z = true := by
  by_cases e : y = z
  · rw [← e]; exact h1
  · rcases h.tot y z e with h3 | h3
    · exact h.trans _ _ _ h1 h3
    · rw [h2] at h3; cases h3
theorem Ord.le_le (h : Ord lt) {x y z : κ} (h1 : lt y x = false) (h2 : lt z y = false) : lt z x = false := by
  cases hz : lt z x with
  | false => rfl
  | true => have := h.lt_le hz h1; rw [h2] at this; cases this

theorem Stab.refl (l : List α) : Stab key l l := fun _ => rfl
theorem Stab.trans {a b c : List α} (h : Stab key a b) (h2 : Stab key b c) : Stab key a c := fun k => (h2 k).trans (h k)
theorem Stab.append {a b c d : List α} (h : Stab key a b) (h2 : Stab key c d) : Stab key (a ++ c) (b ++ d) := fun k => by rw [List.filter_append, List.filter_append, h k, h2 k]
theorem Stab.mem {a b : List α} (h : Stab key a b) (x : α) : x ∈ b ↔ x ∈ a := by
  have h1 := h (key x)
  have e : ∀ l : List α, x ∈ l ↔ x ∈ l.filter (fun y => decide (key y = key x)) := fun l => by rw [List.mem_filter]; simp
  rw [e b, e a, h1]
theorem Stab.length {a b : List α} (h : Stab key a b) : b.length = a.length := by
  induction a generalizing b with
  | nil =>
    cases b with
    | nil => rfl
    | cons x b =>
      have := (h.mem x).1 List.mem_cons_self
      simp at this
  | cons x a ih =>
    have hx : x ∈ b := (h.mem x).2 List.mem_cons_self
    obtain ⟨s, t, e, hns⟩ : ∃ s t, b = s ++ x :: t ∧ ∀ y ∈ s, key y ≠ key x := by
      have hk := h (key x)
      rw [List.filter_cons, if_pos (by simp)] at hk
      have : ∀ (b : List α) (r : List α), b.filter (fun y => decide (key y = key x)) = x :: r → ∃ s t, b = s ++ x :: t ∧ ∀ y ∈ s, key y ≠ key x := by
        intro b
        induction b with
        | nil => intro r hr; simp at hr
        | cons y b ihb =>
          intro r hr
          rw [List.filter_cons] at hr
          by_cases hy : key y = key x
          · rw [if_pos (by simp [hy])] at hr
            simp only [List.cons.injEq] at hr
            exact ⟨[], b, by rw [hr.1]; rfl, fun _ h => by cases h⟩
          · rw [if_neg (by simp [hy])] at hr
            obtain ⟨s, t, e1, e2⟩ := ihb r hr
            refine ⟨y :: s, t, by rw [e1]; rfl, fun z hz => ?_⟩
            rcases List.mem_cons.1 hz with rfl | hz
            · exact hy
            · exact e2 z hz
      exact this b _ hk
    subst e
    have h2 : Stab key a (s ++ t) := fun k => by
      have hk := h k
      rw [List.filter_append, List.filter_cons, List.filter_cons] at hk
      rw [List.filter_append]
      by_cases hxk : key x = k
      · have hs : s.filter (fun y => decide (key y = k)) = [] := List.filter_eq_nil_iff.2 (fun y hy => by simp; rw [← hxk]; exact hns y hy)
        rw [if_pos (by simp [hxk]), if_pos (by simp [hxk]), hs, List.nil_append] at hk
        rw [hs, List.nil_append]
        exact (List.cons.inj hk).2
      · rw [if_neg (by simp [hxk]), if_neg (by simp [hxk])] at hk
        exact hk
    have := ih h2
    simp only [List.length_append, List.length_cons] at this ⊢
    omega
/-- Two that stand side by side, each thing of the second ahead of each of the first, are turned about. -/
theorem Stab.swap {a b : List α} (h : Ord lt) (hl : Lts key lt b a) : Stab key (a ++ b) (b ++ a) := fun k => by
  rw [List.filter_append, List.filter_append]
  by_cases ha : a.filter (fun y => decide (key y = k)) = []
  · rw [ha]; simp
  · have hb : b.filter (fun y => decide (key y = k)) = [] := by
      rw [List.filter_eq_nil_iff]
      intro y hy
      obtain ⟨x, hx1⟩ := List.exists_mem_of_ne_nil _ ha
      obtain ⟨hx, hxk⟩ := List.mem_filter.1 hx1
      simp only [decide_eq_true_eq] at hxk
      intro hyk
      have h1 := hl y hy x hx
      simp only [decide_eq_true_eq] at hyk
      rw [hyk, hxk, h.irr] at h1
      cases h1
    rw [hb]; simp

theorem Srt.append {a b : List α} : Srt key lt (a ++ b) ↔ Srt key lt a ∧ Srt key lt b ∧ Les key lt a b := by
  unfold Srt Les
  rw [List.pairwise_append]
theorem Les.of_stab {a a' b b' : List α} (h : Les key lt a b) (ha : Stab key a a') (hb : Stab key b b') : Les key lt a' b' := fun x hx y hy => h x ((ha.mem x).1 hx) y ((hb.mem y).1 hy)
theorem Lts.les (h : Ord lt) {a b : List α} (hl : Lts key lt a b) : Les key lt a b := fun x hx y hy => h.asym (hl x hx y hy)

/-- Sorted and stable: there is one such row alone. -/
theorem srt_unique (h : Ord lt) : ∀ {a b c : List α}, Stab key a b → Stab key a c → Srt key lt b → Srt key lt c → b = c := by
  intro a b
  induction b generalizing a with
  | nil =>
    intro c h1 h2 _ _
    have e1 := h1.length
    have e2 := h2.length
    cases c with
    | nil => rfl
    | cons x c => simp at e1 e2; omega
  | cons x b ih =>
    intro c h1 h2 s1 s2
    cases c with
    | nil =>
      have e1 := h1.length
      have e2 := h2.length
      simp at e1 e2; omega
    | cons y c =>
      have bc : Stab key (x :: b) (y :: c) := fun k => (h2 k).trans (h1 k).symm
      have hxc : x ∈ y :: c := (bc.mem x).2 List.mem_cons_self
      have hyb : y ∈ x :: b := (bc.mem y).1 List.mem_cons_self
      have k1 : lt (key x) (key y) = false := by
        rcases List.mem_cons.1 hxc with e | e
        · rw [e]; exact h.irr _
        · exact (List.pairwise_cons.1 s2).1 x e
      have k2 : lt (key y) (key x) = false := by
        rcases List.mem_cons.1 hyb with e | e
        · rw [e]; exact h.irr _
        · exact (List.pairwise_cons.1 s1).1 y e
      have hk : key x = key y := by
        refine Classical.byContradiction fun hn => ?_
        rcases h.tot _ _ hn with e | e
        · rw [k1] at e; cases e
        · rw [k2] at e; cases e
      have hf := bc (key x)
      rw [List.filter_cons, List.filter_cons, if_pos (by simp [hk]), if_pos (by simp)] at hf
      obtain ⟨e, _⟩ := List.cons.inj hf
      subst e
      have hb : Stab key b c := fun k => by
        have hf := bc k
        rw [List.filter_cons, List.filter_cons] at hf
        split at hf
        · exact (List.cons.inj hf).2
        · exact hf
      rw [ih (Stab.refl b) hb (List.pairwise_cons.1 s1).2 (List.pairwise_cons.1 s2).2]

/-! ### A merge in place -/
/-- What a merge of two sorted rows makes. -/
def Mrg (key : α → κ) (lt : κ → κ → Bool) (a b m : List α) : Prop := Stab key (a ++ b) m ∧ Srt key lt m
/-- Cut both so that the first parts stand ahead of the second ones, turn the middle about, and merge each half. -/
theorem Mrg.halves (h : Ord lt) {a1 a2 b1 b2 m1 m2 : List α} (hl : Lts key lt b1 a2) (hg : Les key lt a1 b2) (sa : Srt key lt (a1 ++ a2)) (sb : Srt key lt (b1 ++ b2)) (h1 : Mrg key lt a1 b1 m1) (h2 : Mrg key lt a2 b2 m2) : Mrg key lt (a1 ++ a2) (b1 ++ b2) (m1 ++ m2) := by
  obtain ⟨t1, s1⟩ := h1
  obtain ⟨t2, s2⟩ := h2
  refine ⟨?_, Srt.append.2 ⟨s1, s2, ?_⟩⟩
  · have e1 : Stab key ((a1 ++ a2) ++ (b1 ++ b2)) ((a1 ++ b1) ++ (a2 ++ b2)) := by
      have := ((Stab.refl (key := key) a1).append (Stab.swap h hl)).append (Stab.refl (key := key) b2)
      simpa [List.append_assoc] using this
    exact e1.trans (t1.append t2)
  · have k1 := (Srt.append.1 sa).2.2
    have k2 := (Srt.append.1 sb).2.2
    refine Les.of_stab (a := a1 ++ b1) (b := a2 ++ b2) ?_ t1 t2
    intro x hx y hy
    rcases List.mem_append.1 hx with hx | hx <;> rcases List.mem_append.1 hy with hy | hy
    · exact k1 x hx y hy
    · exact hg x hx y hy
    · exact h.asym (hl x hx y hy)
    · exact k2 x hx y hy
/-- One, put into the others: behind all that stand ahead of it. -/
theorem Mrg.one_first (h : Ord lt) {x : α} {b1 b2 : List α} (hl : ∀ y ∈ b1, lt (key y) (key x) = true) (hg : ∀ y ∈ b2, lt (key y) (key x) = false) (sb : Srt key lt (b1 ++ b2)) : Mrg key lt [x] (b1 ++ b2) (b1 ++ x :: b2) := by
  obtain ⟨s1, s2, s3⟩ := Srt.append.1 sb
  refine ⟨?_, Srt.append.2 ⟨s1, List.pairwise_cons.2 ⟨hg, s2⟩, ?_⟩⟩
  · have := (Stab.swap (key := key) (a := [x]) (b := b1) h (fun y hy z hz => by rw [List.mem_singleton.1 hz]; exact hl y hy)).append (Stab.refl (key := key) b2)
    simpa using this
  · intro y hy z hz
    rcases List.mem_cons.1 hz with rfl | hz
    · exact h.asym (hl y hy)
    · exact s3 y hy z hz
theorem Mrg.one_last (h : Ord lt) {x : α} {a1 a2 : List α} (hl : ∀ y ∈ a1, lt (key x) (key y) = false) (hg : ∀ y ∈ a2, lt (key x) (key y) = true) (sa : Srt key lt (a1 ++ a2)) : Mrg key lt (a1 ++ a2) [x] (a1 ++ x :: a2) := by
  obtain ⟨s1, s2, s3⟩ := Srt.append.1 sa
  refine ⟨?_, Srt.append.2 ⟨s1, List.pairwise_cons.2 ⟨fun y hy => h.asym (hg y hy), s2⟩, ?_⟩⟩
  · have := (Stab.refl (key := key) a1).append (Stab.swap (key := key) (a := a2) (b := [x]) h (fun y hy z hz => by rw [List.mem_singleton.1 hy]; exact hg z hz))
    simpa [List.append_assoc] using this
  · intro y hy z hz
    rcases List.mem_cons.1 hz with rfl | hz
    · exact hl y hy
    · exact s3 y hy z hz
end
end Go.Proofs.YtkpibphalhhkdaaGreatDoor.Stb
end

section
/-
  Entries in memory: 35 cells each, one behind the other in a block.
-/
namespace Go.Proofs.YtkpibphalhhkdaaGreatDoor.Sg
open Go.RowKit
open Sim (hid Kp No)

/-- An entry: the name's bytes, and the place. -/
abbrev Ent : Type := List Int × Int × Int × Int
def b8 (xs : List Int) : List Value := xs.map (Value.int .u8)
theorem b8_length (xs : List Int) : (b8 xs).length = xs.length := by simp [b8]
theorem b8_one (xs : List Int) : ∀ v ∈ b8 xs, v.oneCell' = true := by intro v hv; obtain ⟨x, _, rfl⟩ := List.mem_map.1 hv; rfl
def entC (e : Ent) : List Value := b8 e.1 ++ [.int .i64 e.2.1, .int .i64 e.2.2.1, .int .i64 e.2.2.2]
def EOk (e : Ent) : Prop := e.1.length = 32 ∧ ∀ x ∈ e.1, 0 ≤ x ∧ x ≤ 255
theorem entC_length {e : Ent} (h : EOk e) : (entC e).length = 35 := by simp [entC, b8_length, h.1]
theorem entC_one (e : Ent) : ∀ v ∈ entC e, v.oneCell' = true := by
  intro v hv
  rcases List.mem_append.1 hv with hv | hv
  · exact b8_one _ _ hv
  · simp at hv
    rcases hv with rfl | rfl | rfl <;> rfl

/-- Block g holds the entries d from o on, to be read. -/
def ERow (w : World) (g o : Nat) (d : List Ent) : Prop := g < w.heap.size ∧ ∀ i e, d[i]? = some e → EOk e ∧ w.rangeAt g (o + i * 35) (entC e)
/-- .. and to be written. -/
def EOwn (w : World) (g o : Nat) (d : List Ent) : Prop := ERow w g o d ∧ ∀ i, i < d.length → w.there g (o + i * 35) 35

theorem ERow.ok {w : World} {g o : Nat} {d : List Ent} (h : ERow w g o d) : ∀ e ∈ d, EOk e := fun e he => by
  obtain ⟨i, hi⟩ := List.mem_iff_getElem?.1 he
  exact (h.2 i e hi).1
theorem ERow.kp {L : Nat → Prop} {w w' : World} {g o : Nat} {d : List Ent} (h : ERow w g o d) (k : Kp L w w') (hg : ¬ L g) : ERow w' g o d :=
  ⟨Nat.lt_of_lt_of_le h.1 k.size, fun i e hi => ⟨(h.2 i e hi).1, fun j v hv => (k.cell (p := ⟨g, _, none⟩) h.1 hg).trans ((h.2 i e hi).2 j v hv)⟩⟩
theorem EOwn.kp {L : Nat → Prop} {w w' : World} {g o : Nat} {d : List Ent} (h : EOwn w g o d) (k : Kp L w w') (hg : ¬ L g) : EOwn w' g o d :=
  ⟨h.1.kp k hg, fun i hi j hj => by
    rw [k.cell (p := ⟨g, _, none⟩) h.1.1 hg, k.frozen (p := ⟨g, _, none⟩) h.1.1 hg]
    exact h.2 i hi j hj⟩
theorem EOwn.kept {w w' : World} {g o : Nat} {d : List Ent} (h : EOwn w g o d) (k : Kp No w w') : EOwn w' g o d := h.kp k (fun x => x)
theorem EOwn.there {w : World} {g o : Nat} {d : List Ent} (h : EOwn w g o d) {i : Nat} (hi : i < d.length) {e : Ent} (he : EOk e) : w.there g (o + i * 35) (entC e).toArray.size := by
  rw [List.size_toArray, entC_length he]
  exact h.2 i hi

theorem setCells_kp (w : World) (g o : Nat) (cs : List Value) : Kp (· = g) w (w.setCells g o cs) := by
  induction cs generalizing w o with
  | nil => exact Kp.refl _ _
  | cons c cs ih =>
    rw [World.setCells]
    exact (Kp.setCell (p := ⟨g, o, none⟩) (Kp.refl (· = g) w) (.inl rfl) c).trans (ih _ _) (fun x hx => .inl hx)
/-- One is written over. -/
theorem EOwn.set {w : World} {g o : Nat} {d : List Ent} (h : EOwn w g o d) {i : Nat} (hi : i < d.length) {e : Ent} (he : EOk e) : EOwn (w.setCells g (o + i * 35) (entC e)) g o (d.set i e) := by
  have hl := entC_length he
  refine ⟨⟨Nat.lt_of_lt_of_le h.1.1 (setCells_kp w g _ _).size, fun j x hx => ?_⟩, fun j hj => World.there_setCells (h.2 j (by simpa using hj)) _ _ _⟩
  by_cases hji : j = i
  · subst hji
    rw [List.getElem?_set_self hi] at hx
    simp only [Option.some.injEq] at hx
    subst hx
    exact ⟨he, World.rangeAt_setCells_same _ _ _ _ (by rw [hl]; exact h.2 j hi)⟩
  · rw [List.getElem?_set_ne (by omega)] at hx
    obtain ⟨h1, h2⟩ := h.1.2 j x hx
    refine ⟨h1, World.rangeAt_setCells_apart h2 _ _ _ (.inr ?_)⟩
    rw [entC_length h1, hl]
    omega
/-- In the midst of a call that writes block g alone: d is what stands there now. -/
def At (w : World) (g o : Nat) (d : List Ent) (wr : World) : Prop := Kp (· = g) w wr ∧ EOwn wr g o d
theorem At.start {w : World} {g o : Nat} {d : List Ent} (h : EOwn w g o d) : At w g o d w := ⟨Kp.refl _ _, h⟩
theorem At.kept {w wr w' : World} {g o : Nat} {d : List Ent} (h : At w g o d wr) (k : Kp No wr w') : At w g o d w' := ⟨h.1.andNone k, h.2.kept k⟩
theorem At.drew {w wr : World} {g o : Nat} {d : List Ent} (h : At w g o d wr) : At w g o d wr.drew := h.kept ((Kp.refl _ _).drew)
theorem At.next {w wr w' : World} {g o : Nat} {d d' : List Ent} (h : At w g o d wr) (k : At wr g o d' w') : At w g o d' w' := ⟨h.1.trans k.1 (fun _ hx => .inl hx), k.2⟩
theorem At.set {w wr : World} {g o : Nat} {d : List Ent} (h : At w g o d wr) {i : Nat} (hi : i < d.length) {e : Ent} (he : EOk e) : At w g o (d.set i e) (wr.setCells g (o + i * 35) (entC e)) :=
  ⟨h.1.trans (setCells_kp wr g _ _) (fun _ hx => .inl hx), h.2.set hi he⟩
theorem At.range {w wr : World} {g o : Nat} {d : List Ent} (h : At w g o d wr) {i : Nat} {e : Ent} (hi : d[i]? = some e) : EOk e ∧ wr.rangeAt g (o + i * 35) (entC e) := h.2.1.2 i e hi
end Go.Proofs.YtkpibphalhhkdaaGreatDoor.Sg
end

section
/-
  Ranges of entries that are swapped, and turned about.
-/
namespace Go.Proofs.YtkpibphalhhkdaaGreatDoor.Sg
open Go.RowKit
open Sim (hid Kp No)

def zEnt : Ent := ([], 0, 0, 0)
def swap2 (d : List Ent) (i j : Nat) : List Ent := (d.set i (d.getD j zEnt)).set j (d.getD i zEnt)
def swapN (d : List Ent) (a b : Nat) : Nat → List Ent
  | 0 => d
  | n + 1 => swap2 (swapN d a b n) (a + n) (b + n)
theorem swap2_length (d : List Ent) (i j : Nat) : (swap2 d i j).length = d.length := by simp [swap2]
theorem swapN_length (d : List Ent) (a b : Nat) : ∀ n, (swapN d a b n).length = d.length
  | 0 => rfl
  | n + 1 => by rw [swapN, swap2_length, swapN_length d a b n]
theorem swapN_ok {d : List Ent} (h : ∀ e ∈ d, EOk e) (a b : Nat) : ∀ n, a + n ≤ d.length → b + n ≤ d.length → ∀ e ∈ swapN d a b n, EOk e
  | 0, _, _ => h
  | n + 1, h1, h2 => by
    have ih := swapN_ok h a b n (by omega) (by omega)
    intro e he
    rw [swapN, swap2] at he
    have key : ∀ i, i < d.length → EOk ((swapN d a b n).getD i zEnt) := fun i hi => by
      rw [List.getD_eq_getElem?_getD, List.getElem?_eq_getElem (by rw [swapN_length]; exact hi)]
      exact ih _ (List.getElem_mem _)
    rcases List.mem_or_eq_of_mem_set he with h3 | h3
    · rcases List.mem_or_eq_of_mem_set h3 with h4 | h4
      · exact ih e h4
      · rw [h4]; exact key _ (by omega)
    · rw [h3]; exact key _ (by omega)

/-- Two are swapped: what is read, what is written, what stands there then. -/
theorem swap2_at {w wr : World} {g o : Nat} {d : List Ent} {i j : Nat} {x y : Ent} (h : At w g o d wr) (hx : d[i]? = some x) (hy : d[j]? = some y) :
    EOk x ∧ EOk y ∧ (∀ V, Kp No wr V → V.rangeAt g (o + i * 35) (entC x)) ∧ (∀ V, Kp No wr V → V.rangeAt g (o + j * 35) (entC y)) ∧ wr.drew.there g (o + i * 35) (entC y).toArray.size ∧
      (wr.drew.setCells g (o + i * 35) (entC y)).there g (o + j * 35) (entC x).toArray.size ∧ At w g o (swap2 d i j) ((wr.drew.setCells g (o + i * 35) (entC y)).setCells g (o + j * 35) (entC x)) := by
  have hi : i < d.length := (List.getElem?_eq_some_iff.1 hx).1
  have hj : j < d.length := (List.getElem?_eq_some_iff.1 hy).1
  obtain ⟨ox, _⟩ := h.range hx
  obtain ⟨oy, _⟩ := h.range hy
  have hd := h.drew
  have h1 := hd.set hi oy
  have h2 := h1.set (i := j) (by simpa using hj) ox
  refine ⟨ox, oy, fun V hV => ((h.kept hV).range hx).2, fun V hV => ((h.kept hV).range hy).2, hd.2.there hi oy, h1.2.there (by simpa using hj) ox, ?_⟩
  have e : swap2 d i j = (d.set i y).set j x := by rw [swap2, List.getD_eq_getElem?_getD, hy, List.getD_eq_getElem?_getD, hx]; rfl
  rw [e]
  exact h2

end Go.Proofs.YtkpibphalhhkdaaGreatDoor.Sg
end

section
/-
  Two ranges that stand side by side are turned about.
-/
namespace Go.Proofs.YtkpibphalhhkdaaGreatDoor.Sg
open Go.RowKit
open Sim (hid Kp No)

theorem swap2_blocks (A B C : List Ent) (x y : Ent) : swap2 (A ++ x :: (B ++ y :: C)) A.length (A.length + 1 + B.length) = A ++ y :: (B ++ x :: C) := by
  have e1 : (A ++ x :: (B ++ y :: C)).getD A.length zEnt = x := by simp [List.getD_eq_getElem?_getD]
  have e2 : (A ++ x :: (B ++ y :: C)).getD (A.length + 1 + B.length) zEnt = y := by
    rw [List.getD_eq_getElem?_getD, List.getElem?_append_right (by omega), show A.length + 1 + B.length - A.length = B.length + 1 by omega]
    simp
  have e3 : (A ++ x :: (B ++ y :: C)).set A.length y = A ++ y :: (B ++ y :: C) := by simp [List.set_append_right]
  rw [swap2, e1, e2, e3, List.set_append_right _ _ (by omega), show A.length + 1 + B.length - A.length = B.length + 1 by omega, List.set_cons_succ, List.set_append_right _ _ (by omega), Nat.sub_self, List.set_cons_zero]
theorem swapN_blocks : ∀ (n : Nat) (L X M Y R : List Ent), X.length = n → Y.length = n → swapN (L ++ (X ++ (M ++ (Y ++ R)))) L.length (L.length + n + M.length) n = L ++ (Y ++ (M ++ (X ++ R)))
  | 0, L, X, M, Y, R, hx, hy => by
    rw [List.length_eq_zero_iff.1 hx, List.length_eq_zero_iff.1 hy]
    rfl
  | n + 1, L, X, M, Y, R, hx, hy => by
    have nx : X ≠ [] := by intro e; rw [e] at hx; simp at hx
    have ny : Y ≠ [] := by intro e; rw [e] at hy; simp at hy
    obtain ⟨X', x, rfl⟩ : ∃ X' x, X = X' ++ [x] := ⟨X.dropLast, X.getLast nx, (List.dropLast_concat_getLast nx).symm⟩
    obtain ⟨Y', y, rfl⟩ : ∃ Y' y, Y = Y' ++ [y] := ⟨Y.dropLast, Y.getLast ny, (List.dropLast_concat_getLast ny).symm⟩
    have hx' : X'.length = n := by simpa using hx
    have hy' : Y'.length = n := by simpa using hy
    have ih := swapN_blocks n L X' (x :: M) Y' (y :: R) hx' hy'
    have e1 : L ++ (X' ++ [x] ++ (M ++ (Y' ++ [y] ++ R))) = L ++ (X' ++ ((x :: M) ++ (Y' ++ y :: R))) := by simp
    have e2 : L.length + (n + 1) + M.length = L.length + n + (x :: M).length := by simp; omega
    rw [swapN, e1, e2, ih]
    have h2 := swap2_blocks (L ++ Y') (M ++ X') R x y
    have e3 : L ++ (Y' ++ ((x :: M) ++ (X' ++ y :: R))) = (L ++ Y') ++ x :: ((M ++ X') ++ y :: R) := by simp
    have e4 : L.length + n = (L ++ Y').length := by simp [hy']
    have e5 : L.length + n + (x :: M).length + n = (L ++ Y').length + 1 + (M ++ X').length := by simp [hx', hy']; omega
    rw [e5, e4, e3, h2]
    simp

/-- How far a turning has come: X and Y are left, and F is what comes out. -/
def RotSt (m i j : Nat) (F D : List Ent) : Prop := ∃ L X Y R : List Ent, X.length = i ∧ Y.length = j ∧ L.length + i = m ∧ D = L ++ (X ++ (Y ++ R)) ∧ F = L ++ (Y ++ (X ++ R))
theorem RotSt.gt {m i j : Nat} {F D : List Ent} (h : RotSt m i j F D) (hj : j < i) : RotSt m (i - j) j F (swapN D (m - i) m j) := by
  obtain ⟨L, X, Y, R, hx, hy, hm, rfl, rfl⟩ := h
  have e := swapN_blocks j L (X.take j) (X.drop j) Y R (by rw [List.length_take]; omega) hy
  have e1 : L ++ (X ++ (Y ++ R)) = L ++ (X.take j ++ (X.drop j ++ (Y ++ R))) := by rw [← List.append_assoc (X.take j), List.take_append_drop]
  have e2 : L.length + j + (X.drop j).length = m := by rw [List.length_drop]; omega
  rw [e2] at e
  refine ⟨L ++ Y, X.drop j, X.take j, R, by rw [List.length_drop]; omega, by rw [List.length_take]; omega, by rw [List.length_append]; omega, ?_, ?_⟩
  · rw [e1, show m - i = L.length by omega, e]; simp
  · have : X.take j ++ (X.drop j ++ R) = X ++ R := by rw [← List.append_assoc, List.take_append_drop]
    rw [this]; simp
theorem RotSt.lt {m i j : Nat} {F D : List Ent} (h : RotSt m i j F D) (hj : i < j) : RotSt m i (j - i) F (swapN D (m - i) (m + j - i) i) := by
  obtain ⟨L, X, Y, R, hx, hy, hm, rfl, rfl⟩ := h
  have e := swapN_blocks i L X (Y.take (j - i)) (Y.drop (j - i)) R hx (by rw [List.length_drop]; omega)
  have e1 : L ++ (X ++ (Y ++ R)) = L ++ (X ++ (Y.take (j - i) ++ (Y.drop (j - i) ++ R))) := by rw [← List.append_assoc (Y.take _), List.take_append_drop]
  have e2 : L.length + i + (Y.take (j - i)).length = m + j - i := by rw [List.length_take]; omega
  rw [e2] at e
  refine ⟨L, Y.drop (j - i), Y.take (j - i), X ++ R, by rw [List.length_drop]; omega, by rw [List.length_take]; omega, hm, ?_, ?_⟩
  · rw [e1, show m - i = L.length by omega, e]
  · have : Y.take (j - i) ++ (Y.drop (j - i) ++ (X ++ R)) = Y ++ (X ++ R) := by rw [← List.append_assoc, List.take_append_drop]
    rw [this]
theorem RotSt.eq {m i : Nat} {F D : List Ent} (h : RotSt m i i F D) : swapN D (m - i) m i = F := by
  obtain ⟨L, X, Y, R, hx, hy, hm, rfl, rfl⟩ := h
  have e := swapN_blocks i L X [] Y R hx hy
  simp only [List.nil_append, List.length_nil, Nat.add_zero] at e
  rw [hm] at e
  rw [show m - i = L.length by omega, e]
theorem RotSt.len {m i j : Nat} {F D : List Ent} (h : RotSt m i j F D) : i ≤ m ∧ m + j ≤ D.length ∧ D.length = F.length := by
  obtain ⟨L, X, Y, R, hx, hy, hm, rfl, rfl⟩ := h
  simp only [List.length_append]
  omega

end Go.Proofs.YtkpibphalhhkdaaGreatDoor.Sg
end

section
/-
  How the names of two entries stand: compare, walked.
-/
namespace Go.Proofs.YtkpibphalhhkdaaGreatDoor.Sg
open Go.RowKit
open Sim (hid Kp No)

/-- Bytes in their order. -/
def lexB : List Int → List Int → Bool
  | [], [] => false
  | [], _ :: _ => true
  | _ :: _, [] => false
  | x :: xs, y :: ys => if x < y then true else if y < x then false else lexB xs ys
theorem lexB_irr : ∀ x, lexB x x = false
  | [] => rfl
  | x :: xs => by simp [lexB, lexB_irr xs]
theorem lexB_tot : ∀ x y, x ≠ y → lexB x y = true ∨ lexB y x = true
  | [], [], h => absurd rfl h
  | [], _ :: _, _ => .inl rfl
  | _ :: _, [], _ => .inr rfl
  | x :: xs, y :: ys, h => by
    by_cases h1 : x < y
    · exact .inl (by simp [lexB, h1])
    · by_cases h2 : y < x
      · exact .inr (by simp [lexB, h2])
      · have e : x = y := by omega
        subst e
        rcases lexB_tot xs ys (fun e => h (by rw [e])) with h3 | h3
        · exact .inl (by simp [lexB, h3])
        · exact .inr (by simp [lexB, h3])
theorem lexB_trans : ∀ x y z, lexB x y = true → lexB y z = true → lexB x z = true
  | [], [], _, h, _ => by simp [lexB] at h
  | [], _ :: _, [], _, h => by simp [lexB] at h
  | [], _ :: _, _ :: _, _, _ => rfl
  | _ :: _, [], _, h, _ => by simp [lexB] at h
  | _ :: _, _ :: _, [], _, h => by simp [lexB] at h
  | x :: xs, y :: ys, z :: zs, h1, h2 => by
    simp only [lexB] at h1 h2 ⊢
    by_cases a1 : x < y
    · by_cases a2 : y < z
      · rw [if_pos (by omega)]
      · rw [if_neg a2] at h2
        by_cases a3 : z < y
        · rw [if_pos a3] at h2; cases h2
        · rw [if_pos (by omega)]
    · rw [if_neg a1] at h1
      by_cases a2 : y < x
      · rw [if_pos a2] at h1; cases h1
      · rw [if_neg a2] at h1
        have e : x = y := by omega
        subst e
        by_cases a3 : x < z
        · rw [if_pos a3]
        · rw [if_neg a3] at h2 ⊢
          by_cases a4 : z < x
          · rw [if_pos a4] at h2; cases h2
          · rw [if_neg a4] at h2 ⊢
            exact lexB_trans xs ys zs h1 h2
theorem lexOrd : Stb.Ord lexB := ⟨lexB_irr, lexB_trans, lexB_tot⟩

/-- How two stand. -/
def cmpE (a b : List Int) : Int := if lexB a b then -1 else if lexB b a then 1 else 0
theorem cmpE_neg (a b : List Int) : cmpE a b < 0 ↔ lexB a b = true := by
  unfold cmpE
  cases lexB a b <;> cases lexB b a <;> decide
theorem cmpE_zero (a b : List Int) : cmpE a b = 0 ↔ a = b := by
  unfold cmpE
  by_cases e : a = b
  · subst e
    simp [lexB_irr]
  · rcases lexB_tot a b e with h | h
    · simp [h, e]
    · have h2 := lexOrd.asym h
      simp [h, h2, e]
theorem cmpE_pos (a b : List Int) : 0 < cmpE a b ↔ lexB b a = true := by
  unfold cmpE
  cases h1 : lexB a b with
  | true =>
    have h2 := lexOrd.asym h1
    simp [h2]
  | false => cases lexB b a <;> decide
theorem cmp_bytes : ∀ (a b : List Int), (∀ x ∈ a, 0 ≤ x ∧ x ≤ 255) → (∀ x ∈ b, 0 ≤ x ∧ x ≤ 255) → Lib.compareBytes (Lib.bytesOf a) (Lib.bytesOf b) = cmpE a b
  | [], [], _, _ => rfl
  | [], _ :: _, _, _ => rfl
  | _ :: _, [], _, _ => rfl
  | x :: xs, y :: ys, hx, hy => by
    have h1 := hx x (by simp)
    have h2 := hy y (by simp)
    have ih := cmp_bytes xs ys (fun z hz => hx z (by simp [hz])) (fun z hz => hy z (by simp [hz]))
    have e : UInt8.ofNat x.toNat < UInt8.ofNat y.toNat ↔ x < y := by
      rw [UInt8.lt_iff_toNat_lt]
      simp
      omega
    have e' : UInt8.ofNat y.toNat < UInt8.ofNat x.toNat ↔ y < x := by
      rw [UInt8.lt_iff_toNat_lt]
      simp
      omega
    have e1 : Lib.bytesOf (x :: xs) = UInt8.ofNat x.toNat :: Lib.bytesOf xs := rfl
    have e2 : Lib.bytesOf (y :: ys) = UInt8.ofNat y.toNat :: Lib.bytesOf ys := rfl
    rw [e1, e2, Lib.compareBytes]
    simp only [e, e', ih, cmpE, lexB]
    by_cases hlt : x < y
    · simp [hlt]
    · by_cases hgt : y < x
      · simp [hlt, hgt]
      · simp [hlt, hgt]

theorem run_bytesOf {P : Program} (w : World) (g c : Nat) (a : List Int) (h : w.rangeAt g 0 (b8 a)) :
    (Extern.Bytes.bytesOf (.slice (some ⟨g, 0, none⟩) a.length c)).run P w = .ok ⟨(Lib.bytesOf a).toArray⟩ w := by
  have hl := Lib.run_loadBytesX (P := P) w a ⟨g, 0, none⟩ .empty (fun j x hj => by
    rw [Addr.add_mid]
    exact h j _ (by rw [b8, List.getElem?_map, hj]; rfl))
  have he : (⟨ByteArray.empty.data ++ (Lib.bytesOf a).toArray⟩ : ByteArray) = ⟨(Lib.bytesOf a).toArray⟩ := by
    apply ByteArray.ext
    show (#[] : Array UInt8) ++ (Lib.bytesOf a).toArray = (Lib.bytesOf a).toArray
    simp
  rw [he] at hl
  exact hl

theorem run_cmp {P : Program} (w : World) (g1 g2 k1 k2 : Nat) (a b : List Int) (h1 : w.rangeAt g1 0 (b8 a)) (h2 : w.rangeAt g2 0 (b8 b)) (ha : ∀ x ∈ a, 0 ≤ x ∧ x ≤ 255) (hb : ∀ x ∈ b, 0 ≤ x ∧ x ≤ 255) :
    (Extern.BytealgCompare.compare #[.slice (some ⟨g1, 0, none⟩) a.length k1, .slice (some ⟨g2, 0, none⟩) b.length k2]).run P w = .ok (.int .i64 (cmpE a b)) w := by
  change Sem.run P (do pure (goInt (Extern.BytealgCompare.cmp (← Extern.Bytes.bytesOf (.slice (some ⟨g1, 0, none⟩) a.length k1)) (← Extern.Bytes.bytesOf (.slice (some ⟨g2, 0, none⟩) b.length k2))))) w = _
  simp only [Sem.run_bind, Sem.run_pure, run_bytesOf w g1 k1 a h1, run_bytesOf w g2 k2 b h2, Result.andThen]
  rw [Lib.cmp_eq, cmp_bytes a b ha hb]
  rfl


theorem rng_new (w : World) (C : List Value) (ty : TypeId) : (w.alloc (.cells C.toArray ty)).rangeAt w.heap.size 0 C := fun j v hv => by
  rw [Nat.zero_add, World.cell?_alloc_at _ _ _ _ rfl]
  simpa using hv


theorem rng_name {w : World} {g o : Nat} {e : Ent} (h : w.rangeAt g o (entC e)) : w.rangeAt g o (b8 e.1) := fun j u hj => h j u (by
  have hlt := (List.getElem?_eq_some_iff.1 hj).1
  rw [entC, List.getElem?_append_left hlt]
  exact hj)
theorem infH : (Tryz.prog.info? 40).map (·.size) = some 32 := by kernel_rfl

end Go.Proofs.YtkpibphalhhkdaaGreatDoor.Sg
end
