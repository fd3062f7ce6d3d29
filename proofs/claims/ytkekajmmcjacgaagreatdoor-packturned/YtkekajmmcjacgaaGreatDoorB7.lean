/- Of the proof: the texts FrMath, TlvSame, FrKit, FrSame, FrPut, PkBegin, PkNil, one behind the other. -/
import Derived.Test.YtkekajmmcjacgaaGreatDoorB6
import Derived.Test.YtkekajmmcjacgaaGreatDoorB5
import Derived.Test.YtkekajmmcjacgaaGreatDoorB3
import Derived.Laws.BytesArg
import Derived.Laws.ResultCell
import Derived.Stop.BytesEq
import Derived.Test.YtkekajmmcjacgaaGreatDoorB1
import Derived.Test.YtkekajmmcjacgaaGreatDoorB2
import Derived.Test.YtkekajmmcjacgaaGreatDoorPkShelf
section
/-
  Plain mathematics of frames: a record's form, and what is read of one.
-/
namespace Go.Proofs.YtkekajmmcjacgaaGreatDoor
open Go.RowKit
open Tlv (Tr)

def nats (xs : List Int) : List Nat := xs.map Int.toNat
def ints (xs : List Nat) : List Int := xs.map fun x : Nat => (x : Int)
theorem nats_length (xs : List Int) : (nats xs).length = xs.length := by simp [nats]
theorem ints_length (xs : List Nat) : (ints xs).length = xs.length := by simp [ints]
theorem nats_ints (xs : List Nat) : nats (ints xs) = xs := by simp [nats, ints, Function.comp_def]
theorem nats_append (a b : List Int) : nats (a ++ b) = nats a ++ nats b := by simp [nats]
theorem ints_append (a b : List Nat) : ints (a ++ b) = ints a ++ ints b := by simp [ints]
theorem ints_nats (xs : List Int) (h : ∀ x ∈ xs, 0 ≤ x ∧ x ≤ 255) : ints (nats xs) = xs := by
  induction xs with
  | nil => rfl
  | cons x xs ih =>
    have h1 := h x (List.mem_cons_self ..)
    have e : ints (nats (x :: xs)) = (x.toNat : Int) :: ints (nats xs) := rfl
    rw [e, ih (fun y hy => h y (List.mem_cons_of_mem _ hy)), Int.toNat_of_nonneg h1.1]
theorem nats_lt (xs : List Int) (h : ∀ x ∈ xs, 0 ≤ x ∧ x ≤ 255) : ∀ x ∈ nats xs, x < 256 := by
  intro x hx
  obtain ⟨y, hy, rfl⟩ := List.mem_map.1 hx
  have := h y hy
  omega
theorem ints_bd (xs : List Nat) (h : ∀ x ∈ xs, x < 256) : ∀ x ∈ ints xs, 0 ≤ x ∧ x ≤ 255 := by
  intro x hx
  obtain ⟨y, hy, rfl⟩ := List.mem_map.1 hx
  have := h y hy
  omega

/-- The sum behind. -/
def sumI (xs : List Int) : List Int := ints (Crc.le4 (Crc.more 0 (nats xs)))
/-- Bytes with their sum behind them. -/
def sealI (xs : List Int) : List Int := xs ++ sumI xs
theorem sumI_length (xs : List Int) : (sumI xs).length = 4 := by rw [sumI, ints_length, Crc.le4_len]
theorem sealI_length (xs : List Int) : (sealI xs).length = xs.length + 4 := by rw [sealI, List.length_append, sumI_length]
theorem sealI_nats (xs : List Int) : nats (sealI xs) = nats xs ++ Crc.le4 (Crc.more 0 (nats xs)) := by rw [sealI, nats_append, sumI, nats_ints]
theorem sealI_bd (xs : List Int) (h : ∀ x ∈ xs, 0 ≤ x ∧ x ≤ 255) : ∀ x ∈ sealI xs, 0 ≤ x ∧ x ≤ 255 := by
  intro x hx
  rcases List.mem_append.1 hx with hx | hx
  · exact h x hx
  · exact ints_bd _ (Crc.le4_lt (Crc.more_lt _ _)) x hx

/-- What a right record is. -/
def RightR (k : Int) (nm bs : List Int) : Prop := 1 ≤ k ∧ k ≤ 9 ∧ bs.length ≤ 5000 ∧ nm.length = 32 ∧ (∀ x ∈ nm, 0 ≤ x ∧ x ≤ 255) ∧ ∀ x ∈ bs, 0 ≤ x ∧ x ≤ 255

/-- A record's form. -/
def formR (k : Int) (nm bs : List Int) : List Int := Tlv.formOf 2 (recT k nm bs)
/-- Its frame. -/
def frameR (k : Int) (nm bs : List Int) : List Int := sealI (formR k nm bs)

theorem nsz_small {k : Int} (h0 : 1 ≤ k) (h1 : k ≤ 9) : Tlv.nsz k = 1 := by
  have : k = 1 ∨ k = 2 ∨ k = 3 ∨ k = 4 ∨ k = 5 ∨ k = 6 ∨ k = 7 ∨ k = 8 ∨ k = 9 := by omega
  rcases this with rfl | rfl | rfl | rfl | rfl | rfl | rfl | rfl | rfl <;> decide

theorem recT_right {k : Int} {nm bs : List Int} (h : RightR k nm bs) : (Tlv.bsz 2 (recT k nm bs) 65535 8).2 = true := by
  obtain ⟨h0, h1, hl, hn, _, _⟩ := h
  rw [recT, Tlv.bsz_3 _ _ _ (by omega), Tlv.lsz_go (by omega)]
  have e := nsz_small h0 h1
  simp only [Tlv.lszGo]
  rw [Tlv.bsz_1 _ _ _ (by omega), e]
  simp only [show decide ((1 : Int) ≤ 65535 - 0 - 3) = true from rfl, if_true]
  rw [Tlv.bsz_2 _ _ _ (by omega), hn]
  simp only [show decide (((32 : Nat) : Int) ≤ 65535 - (0 + (3 + 1)) - 3) = true from rfl, if_true]
  rw [Tlv.bsz_2 _ _ _ (by omega)]
  simp only [show decide ((bs.length : Int) ≤ 65535 - (0 + (3 + 1) + (3 + ((32 : Nat) : Int))) - 3) = true by simp; omega, if_true]

theorem recT_num {k : Int} {nm bs : List Int} (h0 : 1 ≤ k) (h1 : k ≤ 9) : Tlv.NumOk 2 (recT k nm bs) := by
  have z : ∀ (n : Nat) (x : Int) (ys : List Int), 0 ≤ x → x ≤ 18446744073709551615 → Tlv.NumOk (0 + 1) (Tr.mk n x ys []) := fun n x ys a b => ⟨a, b, fun k hk => by cases hk⟩
  refine ⟨by simp [recT, Tr.mk, Tlv.Tr.hd], by simp [recT, Tr.mk, Tlv.Tr.hd], fun x hx => ?_⟩
  have hx' : x = (Tr.mk 1 k [] [] : Tr 1) ∨ x = Tr.mk 2 0 nm [] ∨ x = Tr.mk 2 0 bs [] := by
    have h : x ∈ [(Tr.mk 1 k [] [] : Tr 1), Tr.mk 2 0 nm [], Tr.mk 2 0 bs []] := hx
    simpa using h
  rcases hx' with rfl | rfl | rfl
  · exact z 1 k [] (by omega) (by omega)
  · exact z 2 0 nm (by omega) (by omega)
  · exact z 2 0 bs (by omega) (by omega)

/-- The form, byte by byte. -/
theorem formR_eq {k : Int} {nm bs : List Int} (h : RightR k nm bs) : formR k nm bs =
    3 :: ((42 + bs.length : Nat) : Int) / 256 :: ((42 + bs.length : Nat) : Int) % 256 :: (1 :: 0 :: 1 :: k :: 2 :: 0 :: 32 :: (nm ++ 2 :: (bs.length : Int) / 256 :: (bs.length : Int) % 256 :: bs)) := by
  obtain ⟨h0, h1, hl, hn, _, _⟩ := h
  have e := nsz_small h0 h1
  have b1 : Tlv.bodyOf 1 (Tr.mk 1 k [] []) = [k] := by
    have : Tlv.bodyOf 1 (Tr.mk 1 k [] []) = Tlv.numB (Tlv.nsz k).toNat k := rfl
    rw [this, e]
    have : Tlv.numB (1 : Int).toNat k = [k / 1 % 256] := rfl
    rw [this]
    congr 1
    omega
  have b2 : ∀ xs, Tlv.bodyOf 1 (Tr.mk 2 0 xs []) = xs := fun _ => rfl
  have f1 : Tlv.formOf 1 (Tr.mk 1 k [] []) = [1, 0, 1, k] := by
    have : Tlv.formOf 1 (Tr.mk 1 k [] []) = 1 :: ((Tlv.bodyOf 1 (Tr.mk 1 k [] [])).length / 256 : Int) :: ((Tlv.bodyOf 1 (Tr.mk 1 k [] [])).length % 256 : Int) :: Tlv.bodyOf 1 (Tr.mk 1 k [] []) := rfl
    rw [this, b1]
    simp
  have f2 : ∀ xs : List Int, Tlv.formOf 1 (Tr.mk 2 0 xs []) = 2 :: (xs.length : Int) / 256 :: (xs.length : Int) % 256 :: xs := fun _ => rfl
  have bd : Tlv.bodyOf 2 (recT k nm bs) = 1 :: 0 :: 1 :: k :: 2 :: 0 :: 32 :: (nm ++ 2 :: (bs.length : Int) / 256 :: (bs.length : Int) % 256 :: bs) := by
    rw [Tlv.bodyOf_kids rfl]
    have : (recT k nm bs).kd.map (Tlv.formOf 1) = [Tlv.formOf 1 (Tr.mk 1 k [] []), Tlv.formOf 1 (Tr.mk 2 0 nm []), Tlv.formOf 1 (Tr.mk 2 0 bs [])] := rfl
    rw [this, f1, f2, f2, hn]
    simp
  have : formR k nm bs = 3 :: ((Tlv.bodyOf 2 (recT k nm bs)).length / 256 : Int) :: ((Tlv.bodyOf 2 (recT k nm bs)).length % 256 : Int) :: Tlv.bodyOf 2 (recT k nm bs) := rfl
  rw [this, bd]
  have hlen : (1 :: 0 :: 1 :: k :: 2 :: 0 :: 32 :: (nm ++ 2 :: (bs.length : Int) / 256 :: (bs.length : Int) % 256 :: bs)).length = 42 + bs.length := by
    simp [hn]; omega
  rw [hlen]

theorem formR_length {k : Int} {nm bs : List Int} (h : RightR k nm bs) : (formR k nm bs).length = 45 + bs.length := by
  rw [formR_eq h]
  have := h.2.2.2.1
  simp [this]; omega

theorem frameR_length {k : Int} {nm bs : List Int} (h : RightR k nm bs) : (frameR k nm bs).length = 49 + bs.length := by
  rw [frameR, sealI_length, formR_length h]; omega

theorem formR_bd {k : Int} {nm bs : List Int} (h : RightR k nm bs) : ∀ x ∈ formR k nm bs, 0 ≤ x ∧ x ≤ 255 := by
  rw [formR_eq h]
  obtain ⟨h0, h1, hl, hn, hx, hy⟩ := h
  intro x hm
  simp only [List.mem_cons, List.mem_append] at hm
  rcases hm with rfl | rfl | rfl | rfl | rfl | rfl | rfl | rfl | rfl | rfl | hm | rfl | rfl | rfl | hm
  all_goals first | omega | exact hx x hm | exact hy x hm

theorem frameR_bd {k : Int} {nm bs : List Int} (h : RightR k nm bs) : ∀ x ∈ frameR k nm bs, 0 ≤ x ∧ x ≤ 255 := sealI_bd _ (formR_bd h)

theorem szT_rec {k : Int} {nm bs : List Int} (h : RightR k nm bs) : Tlv.szT 2 (recT k nm bs) = ((45 + bs.length : Nat) : Int) := by
  have h1 := recT_right h
  rw [Tlv.szT, if_pos h1, Tlv.bsz_len _ _ _ _ h1]
  have h2 := formR_length h
  have h3 : (formR k nm bs).length = 3 + (Tlv.bodyOf 2 (recT k nm bs)).length := by rw [formR]; simp [Tlv.formOf]; omega
  omega

/-- The record whose value a tree is. -/
def recOf (t : Tr 9) : Option (Int × List Int × List Int) :=
  match t.kd with
  | [a, b, c] => if t.hd.1 = 3 ∧ a.hd.1 = 1 ∧ b.hd.1 = 2 ∧ c.hd.1 = 2 ∧ b.hd.2.2.length = 32 ∧ 1 ≤ a.hd.2.1 ∧ a.hd.2.1 ≤ 9 ∧ c.hd.2.2.length ≤ 5000 then some (a.hd.2.1, b.hd.2.2, c.hd.2.2) else none
  | _ => none

theorem bsz_oe {n : Nat} {t : Tr (n + 1)} {room deep : Int} (h : (Tlv.bsz (n + 1) t room deep).2 = true) : (t.hd.1 = 1 ∨ t.hd.2.1 = 0) ∧ (t.hd.1 = 2 ∨ t.hd.2.2 = []) ∧ (t.hd.1 = 3 ∨ t.kd = []) := by
  simp only [Tlv.bsz] at h
  split at h
  · simp at h
  · rename_i h0
    have h1 := (not_or.1 h0).2
    have h2 : Tlv.oeB t.hd.1 t.hd.2.1 t.hd.2.2.length t.kd.length = true := by simpa using h1
    have h3 := Tlv.oeB_iff.1 h2
    refine ⟨h3.1, h3.2.1.imp id List.length_eq_zero_iff.1, h3.2.2.imp id List.length_eq_zero_iff.1⟩

theorem same_leaf {a : Tr 8} {tag x : Int} {ys : List Int} : Tlv.sameT 8 a 1 (Tr.mk tag x ys []) = true ↔ a.hd = (tag, x, ys) ∧ a.kd = [] := by
  simp only [Tlv.sameT, Bool.and_eq_true, decide_eq_true_eq]
  refine ⟨fun h => ⟨h.1, ?_⟩, fun h => ⟨h.1, ?_⟩⟩
  · have := Tlv.sameL_len h.2
    exact List.length_eq_zero_iff.1 this
  · rw [h.2]; rfl

theorem same_rec {t : Tr 9} {a b c : Tr 8} (hk : t.kd = [a, b, c]) (hr : (Tlv.bsz 9 t 65535 8).2 = true) (k : Int) (nm bs : List Int) :
    Tlv.sameT 9 t 2 (recT k nm bs) = true ↔ t.hd.1 = 3 ∧ a.hd.1 = 1 ∧ a.hd.2.1 = k ∧ b.hd.1 = 2 ∧ b.hd.2.2 = nm ∧ c.hd.1 = 2 ∧ c.hd.2.2 = bs := by
  have e : Tlv.sameT 9 t 2 (recT k nm bs) = (decide (t.hd = (3, 0, [])) && Tlv.sameL (fun a b => Tlv.sameT 8 a 1 b) t.kd [Tr.mk 1 k [] [], Tr.mk 2 0 nm [], Tr.mk 2 0 bs []]) := rfl
  rw [e, hk]
  simp only [Tlv.sameL, Bool.and_eq_true, decide_eq_true_eq, same_leaf, and_true]
  have ht := bsz_oe hr
  constructor
  · rintro ⟨h1, ⟨h2, h3⟩, ⟨h4, h5⟩, h6, h7⟩
    exact ⟨by rw [h1], by rw [h2], by rw [h2], by rw [h4], by rw [h4], by rw [h6], by rw [h6]⟩
  · rintro ⟨h1, h2, h3, h4, h5, h6, h7⟩
    have hf := (Tlv.Rt.facts ⟨8, hr⟩).2.2.2 h1
    rw [hk] at hf
    obtain ⟨_, _, da, ra⟩ := hf a (by simp)
    obtain ⟨_, _, db, rb⟩ := hf b (by simp)
    obtain ⟨_, _, dc, rc⟩ := hf c (by simp)
    have oa := bsz_oe ra
    have ob := bsz_oe rb
    have oc := bsz_oe rc
    have p : ∀ (n : Nat) (u : Tr n) (x y : Int) (zs : List Int), u.hd.1 = x → u.hd.2.1 = y → u.hd.2.2 = zs → u.hd = (x, y, zs) := fun n u x y zs p q r => by rw [← p, ← q, ← r]
    refine ⟨p _ _ _ _ _ h1 (ht.1.resolve_left (by omega)) (ht.2.1.resolve_left (by omega)), ⟨p _ _ _ _ _ h2 h3 (oa.2.1.resolve_left (by omega)), oa.2.2.resolve_left (by omega)⟩, ⟨p _ _ _ _ _ h4 (ob.1.resolve_left (by omega)) h5, ob.2.2.resolve_left (by omega)⟩, p _ _ _ _ _ h6 (oc.1.resolve_left (by omega)) h7, oc.2.2.resolve_left (by omega)⟩

/-- What is copied into 32 bytes. -/
def pad32 (xs : List Int) : List Int := xs.take 32 ++ List.replicate (32 - xs.length) 0
theorem pad32_length (xs : List Int) : (pad32 xs).length = 32 := by simp [pad32]; omega
theorem pad32_same (xs : List Int) : xs = pad32 xs ↔ xs.length = 32 := by
  constructor
  · intro h; rw [h, pad32_length]
  · intro h; rw [pad32, h, List.take_of_length_le (by omega)]; simp

/-- The way the program goes: make the value anew, and look whether it is the same. -/
theorem recOf_eq {t : Tr 9} {a b c : Tr 8} (hk : t.kd = [a, b, c]) (hr : (Tlv.bsz 9 t 65535 8).2 = true) {k : Int} (h0 : 0 ≤ a.hd.2.1) (h1 : a.hd.2.1 ≤ 18446744073709551615) (hw : k = wrap64 a.hd.2.1) :
    recOf t = if rightB k c.hd.2.2.length = true ∧ Tlv.sameT 9 t 2 (recT k (pad32 b.hd.2.2) c.hd.2.2) = true then some (k, pad32 b.hd.2.2, c.hd.2.2) else none := by
  rw [recOf, hk]
  simp only [same_rec hk hr]
  have hwk : 1 ≤ k → k ≤ 9 → a.hd.2.1 = k := by
    intro a1 a2
    rw [hw] at a1 a2 ⊢
    unfold wrap64 at a1 a2 ⊢
    omega
  by_cases hc : t.hd.1 = 3 ∧ a.hd.1 = 1 ∧ b.hd.1 = 2 ∧ c.hd.1 = 2 ∧ b.hd.2.2.length = 32 ∧ 1 ≤ a.hd.2.1 ∧ a.hd.2.1 ≤ 9 ∧ c.hd.2.2.length ≤ 5000
  · obtain ⟨c1, c2, c3, c4, c5, c6, c7, c8⟩ := hc
    have hka : k = a.hd.2.1 := by rw [hw, IntWalk.wrap64_in _ ⟨by omega, by omega⟩]
    rw [if_pos ⟨c1, c2, c3, c4, c5, c6, c7, c8⟩, if_pos]
    · rw [hka, ← (pad32_same _).2 c5]
    · refine ⟨by simp [rightB]; omega, c1, c2, hka.symm, c3, (pad32_same _).2 c5, c4, trivial⟩
  · rw [if_neg hc, if_neg]
    rintro ⟨hr1, s1, s2, s3, s4, s5, s6, _⟩
    simp [rightB] at hr1
    exact hc ⟨s1, s2, s4, s6, (pad32_same _).1 s5, by omega, by omega, by omega⟩

/-- No record, but a fault. -/
def noRec (f : Int) : Int × (Int × List Int × List Int) × Nat := (f, (0, List.replicate 32 0, []), 0)
/-- What Take answers: the fault, the record, how many bytes. -/
def takeF (bs : List Int) : Int × (Int × List Int × List Int) × Nat :=
  match Tlv.rd 8 bs with
  | none => noRec 16
  | some (t, m) =>
    if bs.length - m < 4 then noRec 16
    else if sumI (bs.take m) ≠ (bs.drop m).take 4 then noRec 4
    else match recOf t with
      | none => noRec 3
      | some r => (0, r, m + 4)

theorem endOf_ge (bs : List Int) : 3 ≤ Tlv.endOf bs := by unfold Tlv.endOf; omega
theorem endOf_of {bs cs : List Int} (h1 : bs[1]? = cs[1]?) (h2 : bs[2]? = cs[2]?) : Tlv.endOf bs = Tlv.endOf cs := by
  unfold Tlv.endOf
  rw [List.getD_eq_getElem?_getD, List.getD_eq_getElem?_getD, List.getD_eq_getElem?_getD, List.getD_eq_getElem?_getD, h1, h2]
theorem endOf_take (bs : List Int) {E : Nat} (h3 : 3 ≤ E) : Tlv.endOf (bs.take E) = Tlv.endOf bs :=
  endOf_of (by rw [List.getElem?_take_of_lt (by omega)]) (by rw [List.getElem?_take_of_lt (by omega)])

theorem rd_short {bs : List Int} (h : bs.length < 3) : Tlv.rd 8 bs = none := by rw [Tlv.rd_eq, Tlv.rd1, if_pos h]
theorem rd_cut {bs : List Int} (h : bs.length < Tlv.endOf bs) : Tlv.rd 8 bs = none := by
  rw [Tlv.rd_eq, Tlv.rd1]
  by_cases h3 : bs.length < 3
  · rw [if_pos h3]
  · rw [if_neg h3, if_pos h]
theorem rd_end {bs : List Int} {t : Tr 9} {m : Nat} (h : Tlv.rd 8 bs = some (t, m)) : m = Tlv.endOf bs := by
  rw [Tlv.rd_eq, Tlv.rd1] at h
  split at h
  · simp at h
  · split at h
    · simp at h
    · simp only [Option.map_eq_some_iff, Prod.mk.injEq] at h
      obtain ⟨_, _, _, rfl⟩ := h
      rfl

/-- The form cut out by its own head. -/
theorem get_take {bs : List Int} (h3 : 3 ≤ bs.length) (hE : Tlv.endOf bs ≤ bs.length) : Tlv.getT (bs.take (Tlv.endOf bs)) = (Tlv.rd 8 bs).map Prod.fst := by
  have g3 := endOf_ge bs
  have hl : (bs.take (Tlv.endOf bs)).length = Tlv.endOf bs := by rw [List.length_take]; omega
  have e : Tlv.rd 8 (bs.take (Tlv.endOf bs)) = Tlv.rd 8 bs := by
    rw [Tlv.rd_eq, Tlv.rd_eq, Tlv.rd1, Tlv.rd1, endOf_take _ g3, hl, if_neg (by omega), if_neg (by omega), if_neg (by omega), if_neg (by omega), List.take_take, Nat.min_self]
    rw [List.getD_eq_getElem?_getD, List.getD_eq_getElem?_getD, List.getElem?_take_of_lt (by omega)]
  unfold Tlv.getT
  rw [e, hl]
  cases h : Tlv.rd 8 bs with
  | none => rfl
  | some x =>
    obtain ⟨t, m⟩ := x
    have := rd_end h
    simp [this]

theorem takeF_none {bs : List Int} (h : Tlv.rd 8 bs = none) : takeF bs = noRec 16 := by rw [takeF, h]
theorem takeF_some {bs : List Int} {t : Tr 9} {m : Nat} (h : Tlv.rd 8 bs = some (t, m)) : takeF bs = if bs.length - m < 4 then noRec 16
    else if sumI (bs.take m) ≠ (bs.drop m).take 4 then noRec 4
    else match recOf t with
      | none => noRec 3
      | some r => (0, r, m + 4) := by rw [takeF, h]

theorem takeF_pos {bs : List Int} (h : (takeF bs).1 = 0) : 4 ≤ (takeF bs).2.2 ∧ (takeF bs).2.2 ≤ bs.length := by
  cases hr : Tlv.rd 8 bs with
  | none => rw [takeF_none hr] at h; simp [noRec] at h
  | some x =>
    obtain ⟨t, m⟩ := x
    have hm := Tlv.rd_pos hr
    rw [takeF_some hr] at h ⊢
    by_cases h1 : bs.length - m < 4
    · rw [if_pos h1] at h; simp [noRec] at h
    · rw [if_neg h1] at h ⊢
      by_cases h2 : sumI (bs.take m) ≠ (bs.drop m).take 4
      · rw [if_pos h2] at h; simp [noRec] at h
      · rw [if_neg h2] at h ⊢
        cases hq : recOf t with
        | none => simp [hq, noRec] at h
        | some r => simp; omega

theorem takeF_nil : takeF [] = noRec 16 := takeF_none (rd_short (by simp))

/-- A record's frame, whatever is behind it. -/
theorem take_frame {k : Int} {nm bs : List Int} (h : RightR k nm bs) (rest : List Int) : takeF (frameR k nm bs ++ rest) = (0, (k, nm, bs), 49 + bs.length) := by
  have hl := formR_length h
  obtain ⟨t, hr, hs⟩ := Tlv.form_rd 2 8 (recT k nm bs) 65535 (sumI (formR k nm bs) ++ rest) (recT_num h.1 h.2.1) (by omega) (recT_right h)
  have e : frameR k nm bs ++ rest = formR k nm bs ++ (sumI (formR k nm bs) ++ rest) := by rw [frameR, sealI, List.append_assoc]
  have hr' : Tlv.rd 8 (formR k nm bs ++ (sumI (formR k nm bs) ++ rest)) = some (t, (formR k nm bs).length) := hr
  have hbt : (Tlv.bsz 9 t 65535 8).2 = true := by
    have hb : Tlv.rd 8 (formR k nm bs) = some (t, (formR k nm bs).length) := by
      obtain ⟨t2, hr2, _⟩ := Tlv.form_rd 2 8 (recT k nm bs) 65535 [] (recT_num h.1 h.2.1) (by omega) (recT_right h)
      have hr3 : Tlv.rd 8 (formR k nm bs ++ []) = some (t2, (formR k nm bs).length) := hr2
      rw [List.append_nil] at hr3
      have := Tlv.rd_append hr3 (sumI (formR k nm bs) ++ rest)
      rw [hr'] at this
      rw [hr3, this]
    exact (Tlv.rd_form 8 _ t _ (formR_bd h) hb).2
  have hrec : recOf t = some (k, nm, bs) := by
    have e1 : Tlv.sameT 9 t 2 (recT k nm bs) = (decide (t.hd = (3, 0, [])) && Tlv.sameL (fun a b => Tlv.sameT 8 a 1 b) t.kd [Tr.mk 1 k [] [], Tr.mk 2 0 nm [], Tr.mk 2 0 bs []]) := rfl
    have hs2 := hs
    rw [e1, Bool.and_eq_true] at hs2
    have hlen := Tlv.sameL_len hs2.2
    match hk : t.kd, hlen with
    | [a, b, c], _ =>
      obtain ⟨s1, s2, s3, s4, s5, s6, s7⟩ := (same_rec hk hbt k nm bs).1 hs
      obtain ⟨g1, g2, g3, g4, _, _⟩ := h
      rw [recOf, hk]
      simp only []
      rw [if_pos ⟨s1, s2, s4, s6, by rw [s5]; exact g4, by omega, by omega, by rw [s7]; exact g3⟩, s3, s5, s7]
  rw [e, takeF_some hr', hrec]
  have h4 := sumI_length (formR k nm bs)
  have hf : ¬ (formR k nm bs ++ (sumI (formR k nm bs) ++ rest)).length - (formR k nm bs).length < 4 := by simp [h4]
  have ht : (formR k nm bs ++ (sumI (formR k nm bs) ++ rest)).take (formR k nm bs).length = formR k nm bs := by rw [List.take_left']; rfl
  have hd : ((formR k nm bs ++ (sumI (formR k nm bs) ++ rest)).drop (formR k nm bs).length).take 4 = sumI (formR k nm bs) := by rw [List.drop_left' rfl, List.take_left' h4]
  rw [if_neg hf, ht, hd, if_neg (fun h => h rfl)]
  simp only [hl]
  congr 2
  omega

/-- A frame that is cut off. -/
theorem take_cut {k : Int} {nm bs : List Int} (h : RightR k nm bs) {c : Nat} (hc : c < 49 + bs.length) : takeF ((frameR k nm bs).take c) = noRec 16 := by
  have hl := formR_length h
  by_cases h1 : c < (formR k nm bs).length
  · have e : (frameR k nm bs).take c = (formR k nm bs).take c := by rw [frameR, sealI, List.take_append_of_le_length (by omega)]
    rw [e]
    exact takeF_none (Tlv.cut_none (recT_num h.1 h.2.1) (recT_right h) h1)
  · have e : (frameR k nm bs).take c = formR k nm bs ++ (sumI (formR k nm bs)).take (c - (formR k nm bs).length) := by
      rw [frameR, sealI, List.take_append, List.take_of_length_le (by omega)]
    obtain ⟨t, hr, _⟩ := Tlv.form_rd 2 8 (recT k nm bs) 65535 ((sumI (formR k nm bs)).take (c - (formR k nm bs).length)) (recT_num h.1 h.2.1) (by omega) (recT_right h)
    have hr' : Tlv.rd 8 (formR k nm bs ++ (sumI (formR k nm bs)).take (c - (formR k nm bs).length)) = some (t, (formR k nm bs).length) := hr
    rw [e, takeF_some hr', if_pos]
    have h4 := sumI_length (formR k nm bs)
    simp [h4]
    omega

end Go.Proofs.YtkekajmmcjacgaaGreatDoor
end

section
/-
  What Same of tlv answers of any two trees.
-/
namespace Go.Proofs.YtkekajmmcjacgaaGreatDoor.Tlv
open Go.RowKit
attribute [local go_sem ↓] Go.wp_at_zero Go.wp_at_succ

theorem conv_bytes {L B : Nat} {w : World} {v : Value} {bs : List Int} (h : BySl L B w v bs) : (convert 38 9 v).run Tryz.prog w = .ok (.string (strOfNums bs)) w := by
  obtain ⟨a, cap, rfl, h2, h3, h4, h5, h6, h7⟩ := h
  by_cases hne : bs = []
  · subst hne
    rw [List.length_nil, run_convert_bytes_string w 38 9 5 _ 0 cap Tryz.underlying38 Tryz.underlying5 Tryz.underlying9]
    cases a <;> simp [Conv.bytesToString, loadCells]
    all_goals rfl
  · obtain ⟨b, o, rfl, _, _, hc⟩ := h7 hne
    exact run_convert_bytes_arg w 38 5 Tryz.underlying38 Tryz.underlying5 b o bs.length cap bs rfl hc 9 Tryz.underlying9

theorem strOfNums_inj {xs ys : List Int} (hx : ∀ x ∈ xs, 0 ≤ x ∧ x ≤ 255) (hy : ∀ x ∈ ys, 0 ≤ x ∧ x ≤ 255) (h : strOfNums xs = strOfNums ys) : xs = ys := by
  have e := congrArg (fun s : ByteArray => s.data.toList) h
  simp only [strOfNums_data] at e
  have inv : ∀ zs : List Int, (∀ x ∈ zs, 0 ≤ x ∧ x ≤ 255) → (zs.map fun n => UInt8.ofNat n.toNat).map (fun u => (u.toNat : Int)) = zs := by
    intro zs hz
    induction zs with
    | nil => rfl
    | cons z zs ih =>
      have := hz z (List.mem_cons_self ..)
      simp only [List.map_cons]
      rw [ih (fun x hx => hz x (List.mem_cons_of_mem _ hx))]
      congr 1
      simp
      omega
  rw [← inv xs hx, ← inv ys hy, e]

set_option maxHeartbeats 400000 in
theorem equal_any (v v' : Value) (xs ys : List Int) (w : World) (h : BySl 0 w.heap.size w v xs) (h' : BySl 0 w.heap.size w v' ys) :
    Calls Tryz.prog 122 #[v, v'] w fun e w' => e = .returned (.bool (decide (xs = ys))) ∧ w' = w := by
  have c1 := conv_bytes h
  have c2 := conv_bytes h'
  have hq : ((strOfNums xs).toList == (strOfNums ys).toList) = decide (xs = ys) := by
    obtain ⟨_, _, _, _, _, _, _, h6, _⟩ := h
    obtain ⟨_, _, _, _, _, _, _, h6', _⟩ := h'
    rw [Bool.eq_iff_iff, decide_eq_true_eq, beq_iff_eq, ByteArray.toList_eq, ByteArray.toList_eq]
    exact ⟨fun e => strOfNums_inj h6 h6' (by cases hx : strOfNums xs; cases hy : strOfNums ys; rw [hx, hy] at e; simpa using e), fun e => by rw [e]⟩
  clear h h'
  go_enter Tryz.func122, Tryz.ntmps122
  go_wp2_with fail
  go_ret
  exact ⟨rfl, rfl⟩

theorem hd_dec (a b : Int × Int × List Int) : decide (a = b) = (decide (a.1 = b.1) && (decide (a.2.1 = b.2.1) && decide (a.2.2 = b.2.2))) := by
  obtain ⟨a1, a2, a3⟩ := a
  obtain ⟨b1, b2, b3⟩ := b
  simp [Prod.mk.injEq, Bool.decide_and]

def SameTOk (n : Nat) : Prop := ∀ (m : Nat) (t : Tr n) (u : Tr m) (sb sk sb' sk' : Value) (deep : Int) (w : World), Rep 0 w.heap.size w n t sb sk → Rep 0 w.heap.size w m u sb' sk' → (n : Int) ≤ deep → deep ≤ 131072 →
  Calls Tryz.prog 241 #[.agg #[.int .i64 t.hd.1, .int .u64 t.hd.2.1, sb, sk], .agg #[.int .i64 u.hd.1, .int .u64 u.hd.2.1, sb', sk'], .int .i64 deep] w fun e w' => e = .returned (.bool (sameT n t m u)) ∧ Below w.heap.size w w'

set_option maxHeartbeats 2000000 in
set_option maxRecDepth 100000 in
theorem same_any : ∀ n, SameTOk n
  | 0 => fun _ t => by cases t
  | n + 1 => by
    intro m t u sb sk sb' sk' deep w h h' hd0 hd1
    cases m with
    | zero => cases u
    | succ m =>
    have ih := same_any n
    obtain ⟨hn0, hn1, hby, hks⟩ := h
    obtain ⟨hn0', hn1', hby', hks'⟩ := h'
    have HB := hid hby
    have HK := hid hks
    have HB' := hid hby'
    have HK' := hid hks'
    obtain ⟨ab, cb, rfl, hrb⟩ := hby
    obtain ⟨ak, ck, rfl, hrk⟩ := hks
    obtain ⟨ab', cb', rfl, hrb'⟩ := hby'
    obtain ⟨ak', ck', rfl, hrk'⟩ := hks'
    clear hrb hrk hrb' hrk'
    have hkl : t.kd.length ≤ 2199023255552 := by obtain ⟨_, _, _, _, _, _, h, _⟩ := HK.out; exact h
    obtain ⟨R, hR⟩ : ∃ R, sameT (n + 1) t (m + 1) u = R := ⟨_, rfl⟩
    rw [hR]
    have HR : Hid (((decide (t.hd.1 = u.hd.1) && (decide (t.hd.2.1 = u.hd.2.1) && decide (t.hd.2.2 = u.hd.2.2))) && sameL (fun a b => sameT n a m b) t.kd u.kd) = R) := by rw [← hd_dec]; exact hR
    clear hR
    have hdz : (deep == 0) = false := by simp; omega
    generalize t.kd = ks at *
    generalize t.hd.2.2 = bs at *
    generalize t.hd.2.1 = num at *
    generalize t.hd.1 = tag at *
    generalize u.kd = ks' at *
    generalize u.hd.2.2 = bs' at *
    generalize u.hd.2.1 = num' at *
    generalize u.hd.1 = tag' at *
    by_cases ht : tag = tag'
    case neg =>
      have htb : (tag != tag') = true := by simpa using ht
      have Hr : Hid (R = false) := by rw [Hid, ← HR.out]; simp [ht]
      clear ht
      go_enter Tryz.func241, Tryz.ntmps241
      go_wp2_with fail
      go_ret
      exact ⟨by rw [Hr.out]; rfl, ((Below.refl _ _).alloc (Nat.le_refl _) _).alloc (by simp) _⟩
    case pos =>
    subst ht
    by_cases hu : num = num'
    case neg =>
      have hub : (num != num') = true := by simpa using hu
      have Hr : Hid (R = false) := by rw [Hid, ← HR.out]; simp [hu]
      clear hu
      go_enter Tryz.func241, Tryz.ntmps241
      go_wp2_with fail
      go_ret
      exact ⟨by rw [Hr.out]; rfl, ((Below.refl _ _).alloc (Nat.le_refl _) _).alloc (by simp) _⟩
    case pos =>
    subst hu
    have hA : Agree 0 w.heap.size w ((w.alloc (Obj.cells #[Value.int .i64 tag, Value.int .u64 num, Value.slice ab bs.length cb, Value.slice ak ks.length ck] 218)).alloc (Obj.cells #[Value.int .i64 tag, Value.int .u64 num, Value.slice ab' bs'.length cb', Value.slice ak' ks'.length ck'] 218)) := ((Agree.refl _ _ _).alloc (Nat.le_refl _) _).alloc (by simp) _
    have q1 := hid (HB.out.agree hA (Nat.le_refl _) (B' := w.heap.size + 1 + 1) (by omega))
    have q2 := hid (HB'.out.agree hA (Nat.le_refl _) (B' := w.heap.size + 1 + 1) (by omega))
    clear hA
    go_enter Tryz.func241, Tryz.ntmps241
    go_wp2_with fail
    refine (equal_any _ _ bs bs' _ (by simpa using q1.out) (by simpa using q2.out)).mono ?_
    rintro e w1 ⟨rfl, hw1⟩
    have x3 : w1.cell? ⟨w.heap.size, 3, none⟩ = some (.slice ak ks.length ck) := by rw [hw1]; simp [go_sem]
    have y3 : w1.cell? ⟨w.heap.size + 1, 3, none⟩ = some (.slice ak' ks'.length ck') := by rw [hw1]; simp [go_sem]
    have hz1 : w1.heap.size = w.heap.size + 2 := by rw [hw1]; simp
    have Hbel : Hid (Below w.heap.size w w1) := by rw [hw1]; exact ((Below.refl _ _).alloc (Nat.le_refl _) _).alloc (by simp) _
    clear hw1 q1 q2
    by_cases hbs : bs = bs'
    case neg =>
      rw [decide_eq_false hbs]
      have Hr : Hid (R = false) := by rw [Hid, ← HR.out]; simp [hbs]
      clear hbs
      go_wp2_with fail
      go_ret
      exact ⟨by rw [Hr.out]; rfl, Hbel.out⟩
    case pos =>
    rw [decide_eq_true hbs]
    have HR2 : Hid (sameL (fun a b => sameT n a m b) ks ks' = R) := by rw [Hid, ← HR.out]; simp [hbs]
    clear hbs HR
    by_cases hl : ks.length = ks'.length
    case neg =>
      have hlb : ((ks.length : Int) != (ks'.length : Int)) = true := by simp; omega
      have Hr : Hid (R = false) := by
        rw [Hid, ← HR2.out]
        cases e : sameL (fun a b => sameT n a m b) ks ks' with
        | false => rfl
        | true => exact absurd (sameL_len e) hl
      clear hl
      go_wp2_with fail
      go_ret
      exact ⟨by rw [Hr.out]; rfl, Hbel.out⟩
    case pos =>
    obtain ⟨L, hL⟩ : ∃ L, ks.length = L := ⟨_, rfl⟩
    have HLk := hid hL
    have HLk' : Hid (ks'.length = L) := by rw [Hid, ← hl]; exact hL
    rw [← hl, hL] at y3 ⊢
    rw [hL] at x3 hkl
    clear hl hL
    go_wp2_with fail
    go_loopw [45] (fun i wr => ∃ k : Nat, k ≤ L ∧ i = .int .i64 k ∧ Hid (Below w1.heap.size w1 wr) ∧ Hid (sameL (fun a b => sameT n a m b) (ks.drop k) (ks'.drop k) = R)) (fun i _ => L - (intOf i).toNat)
    case atStart => exact ⟨0, Nat.zero_le _, rfl, Below.refl _ _, HR2⟩
    case round =>
      obtain ⟨k, hk, rfl, HI, HS⟩ := hrel
      have hws := HI.out.size
      have Y3 : wr.cell? ⟨w.heap.size + 1, 3, none⟩ = some (.slice ak' L ck') := (HI.out.cell (p := ⟨w.heap.size + 1, 3, none⟩) (by simp; omega)).trans y3
      by_cases hltL : k < L
      · have hlt : k < ks.length := by rw [HLk.out]; exact hltL
        have hlt' : k < ks'.length := by rw [HLk'.out]; exact hltL
        obtain ⟨_, _, ea, _, _, _, _, h7⟩ := HK.out
        simp only [Value.slice.injEq, true_and] at ea
        obtain ⟨rfl, rfl⟩ := ea
        obtain ⟨b, o, rfl, _, hbw, hc⟩ := h7 (by intro e; subst e; simp at hlt)
        obtain ⟨_, _, ea, _, _, _, _, h7'⟩ := HK'.out
        simp only [Value.slice.injEq] at ea
        obtain ⟨rfl, _, rfl⟩ := ea
        obtain ⟨b', o', rfl, _, hbw', hc'⟩ := h7' (by intro e; subst e; simp at hlt')
        obtain ⟨sb, sk, c0, c1, c2, c3, hrep⟩ := hc k ks[k] (List.getElem?_eq_getElem hlt)
        obtain ⟨sb', sk', c0', c1', c2', c3', hrep'⟩ := hc' k ks'[k] (List.getElem?_eq_getElem hlt')
        clear hc hc' h7 h7'
        obtain ⟨a1, l1, p1, a2, l2, p2, rfl, rfl⟩ := hrep.sl
        obtain ⟨a3, l3, p3, a4, l4, p4, rfl, rfl⟩ := hrep'.sl
        have hbel : Hid (Below w.heap.size w wr) := Hbel.out.trans (HI.out.mono (by omega))
        have hR := hid hrep
        have hR' := hid hrep'
        clear hrep hrep'
        have d0 := (hbel.out.cell (p := ⟨b, o + k * 4, none⟩) hbw).trans c0
        have d1 := (hbel.out.cell (p := ⟨b, o + k * 4 + 1, none⟩) hbw).trans c1
        have d2 := (hbel.out.cell (p := ⟨b, o + k * 4 + 2, none⟩) hbw).trans c2
        have d3 := (hbel.out.cell (p := ⟨b, o + k * 4 + 3, none⟩) hbw).trans c3
        have d0' := (hbel.out.cell (p := ⟨b', o' + k * 4, none⟩) hbw').trans c0'
        have d1' := (hbel.out.cell (p := ⟨b', o' + k * 4 + 1, none⟩) hbw').trans c1'
        have d2' := (hbel.out.cell (p := ⟨b', o' + k * 4 + 2, none⟩) hbw').trans c2'
        have d3' := (hbel.out.cell (p := ⟨b', o' + k * 4 + 3, none⟩) hbw').trans c3'
        clear c0 c1 c2 c3 c0' c1' c2' c3'
        have HD : Hid ((sameT n ks[k] m ks'[k] && sameL (fun a b => sameT n a m b) (ks.drop (k + 1)) (ks'.drop (k + 1))) = R) := by
          rw [Hid, ← HS.out, List.drop_eq_getElem_cons hlt, List.drop_eq_getElem_cons hlt']
          rfl
        generalize ks[k] = t1 at *
        generalize ks'[k] = u1 at *
        have hcall : Hid (∀ W, Below w.heap.size w W → Calls Tryz.prog 241 #[.agg #[.int .i64 t1.hd.1, .int .u64 t1.hd.2.1, .slice a1 l1 p1, .slice a2 l2 p2], .agg #[.int .i64 u1.hd.1, .int .u64 u1.hd.2.1, .slice a3 l3 p3, .slice a4 l4 p4], .int .i64 (deep - 1)] W fun e w' => e = .returned (.bool (sameT n t1 m u1)) ∧ Below W.heap.size W w') :=
          fun W hW => ih m t1 u1 _ _ _ _ (deep - 1) W (hR.out.agree (Agree.below hW) (Nat.le_refl _) hW.size) (hR'.out.agree (Agree.below hW) (Nat.le_refl _) hW.size) (by omega) (by omega)
        have hwd : IntKind.i64.wrap (deep - 1) = deep - 1 := by rw [IntKind.wrap_i64]; omega
        have hkI0 : (0 : Int) ≤ (k : Int) := by omega
        have hkI1 : (k : Int) < (L : Int) := by omega
        clear hlt hlt'
        have hbwr : b < wr.heap.size := by omega
        have hbx2 : w.heap.size + 1 < wr.heap.size := by omega
        have hbwr' : b' < wr.heap.size := by omega
        generalize sameT n t1 m u1 = q at hcall HD
        cases q with
        | true =>
          go_wp2_with fail
          obtain ⟨W, hW⟩ : ∃ W, wr.alloc (Obj.cells #[Value.int .i64 t1.hd.1, Value.int .u64 t1.hd.2.1, Value.slice a1 l1 p1, Value.slice a2 l2 p2] 218) = W := ⟨_, rfl⟩
          have v0 : W.cell? ⟨wr.heap.size, 0, none⟩ = some (.int .i64 t1.hd.1) := by rw [← hW]; simp [go_sem]
          have v1 : W.cell? ⟨wr.heap.size, 1, none⟩ = some (.int .u64 t1.hd.2.1) := by rw [← hW]; simp [go_sem]
          have v2 : W.cell? ⟨wr.heap.size, 2, none⟩ = some (.slice a1 l1 p1) := by rw [← hW]; simp [go_sem]
          have v3 : W.cell? ⟨wr.heap.size, 3, none⟩ = some (.slice a2 l2 p2) := by rw [← hW]; simp [go_sem]
          have x3' : W.cell? ⟨w.heap.size + 1, 3, none⟩ = some (.slice (some ⟨b', o', none⟩) L ck') := by rw [← hW, World.cell?_alloc_past _ _ _ hbx2]; exact Y3
          have e0' : W.cell? ⟨b', o' + k * 4, none⟩ = some (.int .i64 u1.hd.1) := by rw [← hW, World.cell?_alloc_past _ _ _ hbwr']; exact d0'
          have e1' : W.cell? ⟨b', o' + k * 4 + 1, none⟩ = some (.int .u64 u1.hd.2.1) := by rw [← hW, World.cell?_alloc_past _ _ _ hbwr']; exact d1'
          have e2' : W.cell? ⟨b', o' + k * 4 + 2, none⟩ = some (.slice a3 l3 p3) := by rw [← hW, World.cell?_alloc_past _ _ _ hbwr']; exact d2'
          have e3' : W.cell? ⟨b', o' + k * 4 + 3, none⟩ = some (.slice a4 l4 p4) := by rw [← hW, World.cell?_alloc_past _ _ _ hbwr']; exact d3'
          have hBW : Hid (Below w.heap.size w W) := by rw [← hW]; exact hbel.out.alloc hbel.out.size _
          have hIW : Hid (Below w1.heap.size w1 W) := by rw [← hW]; exact HI.out.alloc hws _
          rw [hW]
          clear hW d0 d1 d2 d3 d0' d1' d2' d3' Y3
          have hc9 := hid (hcall.out W.drew hBW.out.drew)
          go_region_with ((go_at_call 241; refine hc9.out.mono ?_; rintro e w2 ⟨rfl, hb2⟩; have HB2 := hid hb2; clear hb2))
          all_goals go_wp2_with fail
          all_goals
            go_roundw
            case rel => exact ⟨k + 1, by omega, by go_num, (hIW.out.drew).trans (HB2.out.mono hIW.out.size), by simpa [Hid] using HD.out⟩
            case measure => simp [intOf]; omega
        | false =>
          go_wp2_with fail
          obtain ⟨W, hW⟩ : ∃ W, wr.alloc (Obj.cells #[Value.int .i64 t1.hd.1, Value.int .u64 t1.hd.2.1, Value.slice a1 l1 p1, Value.slice a2 l2 p2] 218) = W := ⟨_, rfl⟩
          have v0 : W.cell? ⟨wr.heap.size, 0, none⟩ = some (.int .i64 t1.hd.1) := by rw [← hW]; simp [go_sem]
          have v1 : W.cell? ⟨wr.heap.size, 1, none⟩ = some (.int .u64 t1.hd.2.1) := by rw [← hW]; simp [go_sem]
          have v2 : W.cell? ⟨wr.heap.size, 2, none⟩ = some (.slice a1 l1 p1) := by rw [← hW]; simp [go_sem]
          have v3 : W.cell? ⟨wr.heap.size, 3, none⟩ = some (.slice a2 l2 p2) := by rw [← hW]; simp [go_sem]
          have x3' : W.cell? ⟨w.heap.size + 1, 3, none⟩ = some (.slice (some ⟨b', o', none⟩) L ck') := by rw [← hW, World.cell?_alloc_past _ _ _ hbx2]; exact Y3
          have e0' : W.cell? ⟨b', o' + k * 4, none⟩ = some (.int .i64 u1.hd.1) := by rw [← hW, World.cell?_alloc_past _ _ _ hbwr']; exact d0'
          have e1' : W.cell? ⟨b', o' + k * 4 + 1, none⟩ = some (.int .u64 u1.hd.2.1) := by rw [← hW, World.cell?_alloc_past _ _ _ hbwr']; exact d1'
          have e2' : W.cell? ⟨b', o' + k * 4 + 2, none⟩ = some (.slice a3 l3 p3) := by rw [← hW, World.cell?_alloc_past _ _ _ hbwr']; exact d2'
          have e3' : W.cell? ⟨b', o' + k * 4 + 3, none⟩ = some (.slice a4 l4 p4) := by rw [← hW, World.cell?_alloc_past _ _ _ hbwr']; exact d3'
          have hBW : Hid (Below w.heap.size w W) := by rw [← hW]; exact hbel.out.alloc hbel.out.size _
          have hIW : Hid (Below w1.heap.size w1 W) := by rw [← hW]; exact HI.out.alloc hws _
          rw [hW]
          clear hW d0 d1 d2 d3 d0' d1' d2' d3' Y3
          have hc9 := hid (hcall.out W.drew hBW.out.drew)
          go_region_with ((go_at_call 241; refine hc9.out.mono ?_; rintro e w2 ⟨rfl, hb2⟩; have HB2 := hid hb2; clear hb2))
          all_goals go_wp2_with fail
          all_goals go_ret
          all_goals exact ⟨by rw [← HD.out]; rfl, (hBW.out.drew).trans (HB2.out.mono hBW.out.size)⟩
      · go_wp2_with fail
        go_ret
        refine ⟨?_, Hbel.out.trans (HI.out.mono (by omega))⟩
        rw [← HS.out, List.drop_of_length_le (by rw [HLk.out]; omega), List.drop_of_length_le (by rw [HLk'.out]; omega)]
        rfl

set_option maxHeartbeats 400000 in
theorem Same_any {n m : Nat} (t : Tr n) (u : Tr m) (sb sk sb' sk' : Value) (w : World) (h : Rep 0 w.heap.size w n t sb sk) (h' : Rep 0 w.heap.size w m u sb' sk') (hn : n ≤ 131072) :
    Calls Tryz.prog 218 #[.agg #[.int .i64 t.hd.1, .int .u64 t.hd.2.1, sb, sk], .agg #[.int .i64 u.hd.1, .int .u64 u.hd.2.1, sb', sk']] w fun e w' => e = .returned (.bool (sameT n t m u)) ∧ Below w.heap.size w w' := by
  obtain ⟨a1, l1, p1, a2, l2, p2, rfl, rfl⟩ := h.sl
  obtain ⟨a3, l3, p3, a4, l4, p4, rfl, rfl⟩ := h'.sl
  have H := hid h
  have H' := hid h'
  clear h h'
  go_enter Tryz.func218, Tryz.ntmps218
  go_wp2_with fail
  have hA : ∀ o o', Below w.heap.size w ((w.alloc o).alloc o') := fun o o' => ((Below.refl _ _).alloc (Nat.le_refl _) o).alloc (by simp) o'
  refine (same_any n m t u _ _ _ _ 131072 _ (H.out.agree (Agree.below (hA _ _)) (Nat.le_refl _) (hA _ _).size) (H'.out.agree (Agree.below (hA _ _)) (Nat.le_refl _) (hA _ _).size) (by omega) (by omega)).mono ?_
  rintro e w1 ⟨rfl, hb1⟩
  have HB : Hid (Below w.heap.size w w1) := (hA _ _).trans (hb1.mono (hA _ _).size)
  clear hb1 hA
  go_wp2_with fail
  go_ret
  exact ⟨rfl, HB.out⟩

end Go.Proofs.YtkekajmmcjacgaaGreatDoor.Tlv
end

section
/-
  Records as a whole: made, loaded, stored; the statements' Own and Back; which are the same.
-/
namespace Go.Proofs.YtkekajmmcjacgaaGreatDoor
open Go.RowKit
open Tlv (Tr BySlS AgreeS Agree)
open Crc (hid Kept Tab)

section
variable {P : Program}
theorem results_cell_mid {fn : Func} {p : Tmp} {ty : TypeId} (h : fn.results = #[.cell p ty]) (tmps : Array Value) (w : World) (g o : Nat) (cs : List Value) (d : TypeDesc)
    (hp : tmps.getD p undef = .pointer (some ⟨g, o, none⟩)) (hc : w.rangeAt g o cs)
    (hu : P.underlying ty = some d) (hd : d.isRow = true) (hi : (P.info? ty).map (·.size) = some cs.length) :
    (results fn tmps).run P w = .ok (.agg cs.toArray) w := by
  have hp' : tmps[p]?.getD undef = .pointer (some ⟨g, o, none⟩) := by simpa using hp
  simp [results, h, hp', asAddr, run_loadVar_mid w g o ty cs d hc hu hd hi]
theorem results_cell_mid2 {fn : Func} {p u : Tmp} {ty : TypeId} (h : fn.results = #[.cell p ty, .tmp u]) (tmps : Array Value) (w : World) (g o : Nat) (cs : List Value) (d : TypeDesc)
    (hp : tmps.getD p undef = .pointer (some ⟨g, o, none⟩)) (hc : w.rangeAt g o cs)
    (hu : P.underlying ty = some d) (hd : d.isRow = true) (hi : (P.info? ty).map (·.size) = some cs.length) :
    (results fn tmps).run P w = .ok (.tuple #[.agg cs.toArray, tmps.getD u undef]) w := by
  have hp' : tmps[p]?.getD undef = .pointer (some ⟨g, o, none⟩) := by simpa using hp
  rw [results_cell_tmp h]
  simp [hp', asAddr, run_loadVar_mid w g o ty cs d hc hu hd hi]
theorem results_cell_mid3 {fn : Func} {p u z : Tmp} {ty : TypeId} (h : fn.results = #[.cell p ty, .tmp u, .tmp z]) (tmps : Array Value) (w : World) (g o : Nat) (cs : List Value) (d : TypeDesc)
    (hp : tmps.getD p undef = .pointer (some ⟨g, o, none⟩)) (hc : w.rangeAt g o cs)
    (hu : P.underlying ty = some d) (hd : d.isRow = true) (hi : (P.info? ty).map (·.size) = some cs.length) :
    (results fn tmps).run P w = .ok (.tuple #[.agg cs.toArray, tmps.getD u undef, tmps.getD z undef]) w := by
  have hp' : tmps[p]?.getD undef = .pointer (some ⟨g, o, none⟩) := by simpa using hp
  simp only [results, h]
  simp [Result.andThen, hp', asAddr, run_loadVar_mid w g o ty cs d hc hu hd hi]
end

theorem there_of_block {w : World} {g : Nat} {cs : Array Value} {t : TypeId} (h : w.heap[g]? = some (.cells cs t (0, 0))) (o n : Nat) (hn : o + n ≤ cs.size) : w.there g o n := fun j hj => by
  have hlt : o + j < cs.size := by omega
  rw [cell_of_row w g (o + j) cs t (0, 0) h, frozen_of_row w g _ cs t h]
  exact ⟨by simp [hlt], rfl⟩

theorem range_new (w : World) (C : List Value) (ty : TypeId) : (w.alloc (.cells C.toArray ty)).rangeAt w.heap.size 0 C := fun j v hv => by
  rw [Nat.zero_add, World.cell?_alloc_at _ _ _ _ rfl]
  simpa using hv
theorem there_new (w : World) (C : List Value) (ty : TypeId) : (w.alloc (.cells C.toArray ty)).there w.heap.size 0 C.length := there_of_block (heap_alloc_new _ _) 0 C.length (by simp)

theorem rangeAt_below {B : Nat} {w w' : World} {g o : Nat} {C : List Value} (h : w.rangeAt g o C) (hb : Below B w w') (hg : g < B) : w'.rangeAt g o C := fun j v hv => (hb.cell (p := ⟨g, o + j, none⟩) hg).trans (h j v hv)
theorem there_below {B : Nat} {w w' : World} {g o n : Nat} (h : w.there g o n) (hb : Below B w w') (hg : g < B) : w'.there g o n := fun j hj => by
  rw [hb.cell (p := ⟨g, o + j, none⟩) hg, hb.frozen (p := ⟨g, o + j, none⟩) hg]
  exact h j hj
theorem rangeAt_kept {b : Nat} {w w' : World} {g o : Nat} {C : List Value} (h : w.rangeAt g o C) (hk : Kept b w w') (hg : g < w.heap.size) (hb : g ≠ b) : w'.rangeAt g o C := fun j v hv => (hk.cell (p := ⟨g, o + j, none⟩) hg hb).trans (h j v hv)
theorem there_kept {b : Nat} {w w' : World} {g o n : Nat} (h : w.there g o n) (hk : Kept b w w') (hg : g < w.heap.size) (hb : g ≠ b) : w'.there g o n := fun j hj => by
  rw [hk.cell (p := ⟨g, o + j, none⟩) hg hb, hk.frozen (p := ⟨g, o + j, none⟩) hg hb]
  exact h j hj

/-- The part of a record that is its name. -/
theorem rangeAt_name {w : World} {g o : Nat} {k : Int} {nm : List Int} {v : Value} (h : w.rangeAt g o (recA k nm v)) : w.rangeAt g (o + 1) (u8s nm) := fun j u hj => by
  have hlt := (List.getElem?_eq_some_iff.1 hj).1
  have := h (1 + j) u (by rw [recA, Nat.add_comm, List.getElem?_cons_succ, List.getElem?_append_left hlt]; exact hj)
  rw [← this]
  congr 2
  omega

theorem setCells_below {B g : Nat} (h : B ≤ g) (w : World) (o : Nat) (cs : List Value) : Below B w (w.setCells g o cs) := by
  induction cs generalizing w o with
  | nil => exact Below.refl _ _
  | cons c cs ih => rw [World.setCells]; exact ((Below.refl B w).setCell (p := ⟨g, o, none⟩) h c).trans (ih _ _)
theorem setCells_size (w : World) (g o : Nat) (cs : List Value) : (w.setCells g o cs).heap.size = w.heap.size := by
  induction cs generalizing w o with
  | nil => rfl
  | cons c cs ih => rw [World.setCells, ih]; simp

/-- A record of no kind, no name, no body. -/
def zRec : List Value := recA 0 (List.replicate 32 0) (.slice none 0 0)
theorem zRec_length : zRec.length = 34 := rfl
theorem zRec_one : ∀ v ∈ zRec, v.oneCell' = true := recA_one _ _ _ _ _
theorem zero35 (w : World) : (zeroValue 52).run Tryz.prog w = .ok (.agg zRec.toArray) w := by kernel_rfl
theorem zero26 (w : World) : (zeroValue 40).run Tryz.prog w = .ok (.agg zRec.toArray) w := by kernel_rfl

theorem ex32 {nm : List Int} (h : nm.length = 32) : ∃ x0 x1 x2 x3 x4 x5 x6 x7 x8 x9 x10 x11 x12 x13 x14 x15 x16 x17 x18 x19 x20 x21 x22 x23 x24 x25 x26 x27 x28 x29 x30 x31,
    nm = [x0, x1, x2, x3, x4, x5, x6, x7, x8, x9, x10, x11, x12, x13, x14, x15, x16, x17, x18, x19, x20, x21, x22, x23, x24, x25, x26, x27, x28, x29, x30, x31] := by
  match nm, h with
  | [x0, x1, x2, x3, x4, x5, x6, x7, x8, x9, x10, x11, x12, x13, x14, x15, x16, x17, x18, x19, x20, x21, x22, x23, x24, x25, x26, x27, x28, x29, x30, x31], _ => exact ⟨_, _, _, _, _, _, _, _, _, _, _, _, _, _, _, _, _, _, _, _, _, _, _, _, _, _, _, _, _, _, _, _, rfl⟩

theorem built35 (k : Int) (nm : List Int) (h : nm.length = 32) (a : Option Addr) (l c : Nat) : Tryz.prog.built 52 [(0, .int .i64 k), (1, .agg (u8s nm).toArray), (2, .slice a l c)] = some (recA k nm (.slice a l c)).toArray := by
  obtain ⟨x0, x1, x2, x3, x4, x5, x6, x7, x8, x9, x10, x11, x12, x13, x14, x15, x16, x17, x18, x19, x20, x21, x22, x23, x24, x25, x26, x27, x28, x29, x30, x31, rfl⟩ := ex32 h
  kernel_rfl
theorem built26 (k : Int) (nm : List Int) (h : nm.length = 32) (a : Option Addr) (l c : Nat) : Tryz.prog.built 40 [(0, .int .i64 k), (1, .agg (u8s nm).toArray), (2, .slice a l c)] = some (recA k nm (.slice a l c)).toArray := by
  obtain ⟨x0, x1, x2, x3, x4, x5, x6, x7, x8, x9, x10, x11, x12, x13, x14, x15, x16, x17, x18, x19, x20, x21, x22, x23, x24, x25, x26, x27, x28, x29, x30, x31, rfl⟩ := ex32 h
  kernel_rfl

theorem wpList_build3 {ops : Array Oper} {rest : List Oper} {o : Oper} {a : Act} {w : World} {Q : Exit → Act → World → Prop} (hg : o.guard = none) (ty : TypeId) (x y z : Operand) (ho : o.op = .build ty #[(0, x), (1, y), (2, z)])
    (vx vy vz : Value) (hx : a.eval x = vx) (hy : a.eval y = vy) (hz : a.eval z = vz) (C : Array Value) (hb : Tryz.prog.built ty [(0, vx), (1, vy), (2, vz)] = some C)
    (h : wpList Tryz.prog ops Q rest (a.put o.dst (.agg C)) w) : wpList Tryz.prog ops Q (o :: rest) a w := by
  have e : Tryz.prog.built ty ((#[(0, x), (1, y), (2, z)] : Array (Nat × Operand)).map fun (i, x) => (i, a.eval x)).toList = some C := by
    rw [← hb]
    simp only [List.map_toArray, List.map_cons, List.map_nil, hx, hy, hz]
  refine wpList_build hg ty _ ho (by rw [e]; rfl) ?_
  rw [e]
  exact h

set_option maxHeartbeats 1000000 in
set_option maxRecDepth 100000 in
/-- Own. -/
theorem own11_any (k : Int) (nm : List Int) (a : Option Addr) (l c : Nat) (w : World) (hn : nm.length = 32) :
    Calls Tryz.prog 17 #[.agg (recA k nm (.slice a l c)).toArray] w fun e w' => e = .returned (.agg (recA k nm (.slice a l c)).toArray) ∧ Below w.heap.size w w' := by
  have hc0 := recA_0 k nm (.slice a l c)
  have hc33 := recA_33 k nm (.slice a l c) hn
  have HL := hid (recA_length k nm (.slice a l c) hn)
  have HO := hid (recA_one k nm a l c)
  have HB := hid (built35 k nm hn a l c)
  have HN := hid hn
  have hz := zero35
  clear hn
  obtain ⟨C, hC⟩ : ∃ C, recA k nm (.slice a l c) = C := ⟨_, rfl⟩
  have HC := hid hC
  rw [hC] at hc0 hc33 HL HO HB
  rw [hC]
  clear hC
  obtain ⟨Z, hZ⟩ : ∃ Z, zRec = Z := ⟨_, rfl⟩
  have HZL : Hid (Z.length = 34) := by rw [← hZ]; exact zRec_length
  rw [hZ] at hz
  clear hZ
  have HR := hid (range_new w C 40)
  have HT : Hid (World.there ((w.alloc (.cells C.toArray 40)).alloc (.cells Z.toArray 52)) (w.heap.size + 1) 0 C.toArray.size) := by
    have h := there_new (w.alloc (.cells C.toArray 40)) Z 52
    have e : C.toArray.size = 34 := by rw [List.size_toArray, HL.out]
    rw [Hid, e]
    rw [HZL.out] at h
    simpa using h
  have HI : Hid ((Tryz.prog.info? 52).map (·.size) = some C.length) := by rw [Hid, HL.out]; exact Tryz.info35
  have HI2 : Hid ((Tryz.prog.info? 52).map (·.size) = some C.toArray.size) := by rw [Hid, List.size_toArray, HL.out]; exact Tryz.info35
  have HI3 : Hid ((Tryz.prog.info? 37).map (·.size) = some (u8s nm).length) := by rw [Hid, u8s_length, HN.out]; kernel_rfl
  have H1 : Hid (C.toArray.all (·.oneCell') = true) := all_oneCell_toArray HO.out
  go_enter Tryz.func17, Tryz.ntmps17
  go_wp2_with (first
    | (refine wpList_load_mid (by rfl) 37 _ (by rfl) w.heap.size 1 (by rfl) (u8s nm) _ ?hc Tryz.underlying37 rfl HI3.out ?_; (case hc => exact rangeAt_name (k := k) (v := .slice a l c) (World.rangeAt_alloc (by rw [HC.out]; exact HR.out) _)))
    | (refine wpList_build3 (by rfl) 52 _ _ _ (by rfl) _ _ _ (by rfl) (by rfl) (by rfl) C.toArray HB.out ?_)
    | (refine wpList_store_mid (by rfl) 52 _ _ (by rfl) (w.heap.size + 1) 0 C.toArray (by rfl) (by rfl) ?ht HI2.out H1.out ?_; (case ht => exact HT.out)))
  have hr : World.rangeAt (((w.alloc (.cells C.toArray 40)).alloc (.cells Z.toArray 52)).setCells (w.heap.size + 1) 0 C) (w.heap.size + 1) 0 C := World.rangeAt_setCells_same _ _ _ _ HT.out
  refine bodyPost_ret (v := .agg C.toArray) ?_ rfl ⟨rfl, ?_⟩
  · exact results_cell_mid Tryz.results17 _ _ (w.heap.size + 1) 0 _ _ rfl hr Tryz.underlying52 rfl HI.out
  · exact (((Below.refl _ _).alloc (Nat.le_refl _) _).alloc (by simp) _).trans (setCells_below (by omega) _ _ _)

set_option maxHeartbeats 1000000 in
set_option maxRecDepth 100000 in
/-- Back. -/
theorem back23_any (k : Int) (nm : List Int) (a : Option Addr) (l c : Nat) (w : World) (hn : nm.length = 32) :
    Calls Tryz.prog 30 #[.agg (recA k nm (.slice a l c)).toArray] w fun e w' => e = .returned (.agg (recA k nm (.slice a l c)).toArray) ∧ Below w.heap.size w w' := by
  have hc0 := recA_0 k nm (.slice a l c)
  have hc33 := recA_33 k nm (.slice a l c) hn
  have HL := hid (recA_length k nm (.slice a l c) hn)
  have HO := hid (recA_one k nm a l c)
  have HB := hid (built26 k nm hn a l c)
  have HN := hid hn
  have hz := zero26
  clear hn
  obtain ⟨C, hC⟩ : ∃ C, recA k nm (.slice a l c) = C := ⟨_, rfl⟩
  have HC := hid hC
  rw [hC] at hc0 hc33 HL HO HB
  rw [hC]
  clear hC
  obtain ⟨Z, hZ⟩ : ∃ Z, zRec = Z := ⟨_, rfl⟩
  have HZL : Hid (Z.length = 34) := by rw [← hZ]; exact zRec_length
  rw [hZ] at hz
  clear hZ
  have HR := hid (range_new w C 52)
  have HT : Hid (World.there ((w.alloc (.cells C.toArray 52)).alloc (.cells Z.toArray 40)) (w.heap.size + 1) 0 C.toArray.size) := by
    have h := there_new (w.alloc (.cells C.toArray 52)) Z 40
    have e : C.toArray.size = 34 := by rw [List.size_toArray, HL.out]
    rw [Hid, e]
    rw [HZL.out] at h
    simpa using h
  have HI : Hid ((Tryz.prog.info? 40).map (·.size) = some C.length) := by rw [Hid, HL.out]; exact Tryz.info26
  have HI2 : Hid ((Tryz.prog.info? 40).map (·.size) = some C.toArray.size) := by rw [Hid, List.size_toArray, HL.out]; exact Tryz.info26
  have HI3 : Hid ((Tryz.prog.info? 37).map (·.size) = some (u8s nm).length) := by rw [Hid, u8s_length, HN.out]; kernel_rfl
  have H1 : Hid (C.toArray.all (·.oneCell') = true) := all_oneCell_toArray HO.out
  go_enter Tryz.func30, Tryz.ntmps30
  go_wp2_with (first
    | (refine wpList_load_mid (by rfl) 37 _ (by rfl) w.heap.size 1 (by rfl) (u8s nm) _ ?hc Tryz.underlying37 rfl HI3.out ?_; (case hc => exact rangeAt_name (k := k) (v := .slice a l c) (World.rangeAt_alloc (by rw [HC.out]; exact HR.out) _)))
    | (refine wpList_build3 (by rfl) 40 _ _ _ (by rfl) _ _ _ (by rfl) (by rfl) (by rfl) C.toArray HB.out ?_)
    | (refine wpList_store_mid (by rfl) 40 _ _ (by rfl) (w.heap.size + 1) 0 C.toArray (by rfl) (by rfl) ?ht HI2.out H1.out ?_; (case ht => exact HT.out)))
  have hr : World.rangeAt (((w.alloc (.cells C.toArray 52)).alloc (.cells Z.toArray 40)).setCells (w.heap.size + 1) 0 C) (w.heap.size + 1) 0 C := World.rangeAt_setCells_same _ _ _ _ HT.out
  refine bodyPost_ret (v := .agg C.toArray) ?_ rfl ⟨rfl, ?_⟩
  · exact results_cell_mid Tryz.results30 _ _ (w.heap.size + 1) 0 _ _ rfl hr Tryz.underlying40 rfl HI.out
  · exact (((Below.refl _ _).alloc (Nat.le_refl _) _).alloc (by simp) _).trans (setCells_below (by omega) _ _ _)

end Go.Proofs.YtkekajmmcjacgaaGreatDoor
end

section
/-
  Which records are the same: the program's answer, and the reference's.
-/
namespace Go.Proofs.YtkekajmmcjacgaaGreatDoor
open Go.RowKit
open Tlv (Tr BySlS AgreeS Agree)
open Crc (hid Kept Tab)

theorem wpList_bare {P : Program} {ops : Array Oper} {Q : Exit → Act → World → Prop} {a : Act} {w : World} {rest : List Oper} {dst : Option Tmp} {op : Op} {type : TypeId} {pos : String} {after : Array Edge} {g : Option (Nat × Bool)}
    (hw : Region.wanted ⟨dst, op, type, pos, after, g⟩ (yielded ops a.tmps) = true) (h : wpList P ops Q (⟨dst, op, type, pos, after, none⟩ :: rest) a w) : wpList P ops Q (⟨dst, op, type, pos, after, g⟩ :: rest) a w := by
  unfold wpList at h ⊢
  rw [if_pos hw]
  rw [if_pos (by rfl)] at h
  exact h

theorem cells_u8s (l : List Int) (h : ∀ x ∈ l, 0 ≤ x ∧ x ≤ 255) : (l.map fun x => x.toNat.toUInt8).map Extern.Stop.cell = u8s l := by
  unfold u8s
  rw [List.map_map]
  apply List.map_congr_left
  intro x hx
  have := h x hx
  simp [Extern.Stop.cell]
  omega
theorem map_inj : ∀ (xs ys : List Int), (∀ x ∈ xs, 0 ≤ x ∧ x ≤ 255) → (∀ x ∈ ys, 0 ≤ x ∧ x ≤ 255) → (xs.map fun x => x.toNat.toUInt8) = (ys.map fun x => x.toNat.toUInt8) → xs = ys
  | [], [], _, _, _ => rfl
  | [], _ :: _, _, _, h => by simp at h
  | _ :: _, [], _, _, h => by simp at h
  | x :: xs, y :: ys, h1, h2, h => by
    simp only [List.map_cons, List.cons.injEq] at h
    have hx := h1 x (by simp)
    have hy := h2 y (by simp)
    have e := congrArg UInt8.toNat h.1
    simp at e
    have e2 : x = y := by omega
    rw [e2, map_inj xs ys (fun z hz => h1 z (by simp [hz])) (fun z hz => h2 z (by simp [hz])) h.2]

/-- Two names. -/
theorem eqName (xs ys : List Int) (hx : xs.length = 32) (hy : ys.length = 32) (bx : ∀ x ∈ xs, 0 ≤ x ∧ x ≤ 255) (bY : ∀ x ∈ ys, 0 ≤ x ∧ x ≤ 255) (w : World) :
    (Op.equalIn 10000 37 (.agg (u8s xs).toArray) (.agg (u8s ys).toArray)).run Tryz.prog w = .ok (decide (xs = ys)) w := by
  have h := run_equalIn_bytes (P := Tryz.prog) w 9998 37 5 32 Tryz.underlying37 Tryz.underlying5 Tryz.sizeOf5 (xs.map fun x => x.toNat.toUInt8) (ys.map fun x => x.toNat.toUInt8) (by simpa using hx) (by simpa using hy)
  rw [cells_u8s xs bx, cells_u8s ys bY] at h
  have e : ((xs.map fun x => x.toNat.toUInt8) == (ys.map fun x => x.toNat.toUInt8)) = decide (xs = ys) := by
    rw [Bool.eq_iff_iff]
    simp only [beq_iff_eq, decide_eq_true_eq]
    exact ⟨map_inj xs ys bx bY, fun e => by rw [e]⟩
  rw [e] at h
  exact h

/-- Records are the same. -/
def sameR (k k' : Int) (nm nm' bs bs' : List Int) : Bool := decide (k = k') && (decide (nm = nm') && decide (bs = bs'))

set_option maxHeartbeats 2000000 in
set_option maxRecDepth 100000 in
/-- Same. -/
theorem same17_any (k k' : Int) (nm nm' bs bs' : List Int) (v v' : Value) (w : World) (hn : nm.length = 32) (hn' : nm'.length = 32) (hx : ∀ x ∈ nm, 0 ≤ x ∧ x ≤ 255) (hx' : ∀ x ∈ nm', 0 ≤ x ∧ x ≤ 255)
    (hb : Tlv.BySl 0 w.heap.size w v bs) (hb' : Tlv.BySl 0 w.heap.size w v' bs') :
    Calls Tryz.prog 57 #[.agg (recA k nm v).toArray, .agg (recA k' nm' v').toArray] w fun e w' => e = .returned (.bool (sameR k k' nm nm' bs bs')) ∧ Below w.heap.size w w' := by
  obtain ⟨a, cap, rfl, hr⟩ := id hb
  obtain ⟨a', cap', rfl, hr'⟩ := id hb'
  clear hr hr'
  have HB := hid hb
  have HB' := hid hb'
  have hc0 := recA_0 k nm (.slice a bs.length cap)
  have hc33 := recA_33 k nm (.slice a bs.length cap) hn
  have hd0 := recA_0 k' nm' (.slice a' bs'.length cap')
  have hd33 := recA_33 k' nm' (.slice a' bs'.length cap') hn'
  have HE := hid (fun w => eqName nm nm' hn hn' hx hx' w)
  have HI : Hid ((Tryz.prog.info? 37).map (·.size) = some (u8s nm).length) := by rw [Hid, u8s_length, hn]; kernel_rfl
  have HI' : Hid ((Tryz.prog.info? 37).map (·.size) = some (u8s nm').length) := by rw [Hid, u8s_length, hn']; kernel_rfl
  clear hb hb' hn hn' hx hx'
  obtain ⟨C, hC⟩ : ∃ C, recA k nm (.slice a bs.length cap) = C := ⟨_, rfl⟩
  obtain ⟨D, hD⟩ : ∃ D, recA k' nm' (.slice a' bs'.length cap') = D := ⟨_, rfl⟩
  rw [hC] at hc0 hc33
  rw [hD] at hd0 hd33
  rw [hC, hD]
  have HC := hid hC
  have HD := hid hD
  clear hC hD
  have HR := hid (range_new w C 52)
  have HRD := hid (range_new (w.alloc (.cells C.toArray 52)) D 52)
  have hbel : Below w.heap.size w ((w.alloc (.cells C.toArray 52)).alloc (.cells D.toArray 52)) := ((Below.refl _ _).alloc (Nat.le_refl _) _).alloc (by simp) _
  have HBL := hid hbel
  clear hbel
  by_cases hk : k = k'
  · have HK := hid hk
    have hkb : (k == k') = true := by simpa using hk
    clear hk
    obtain ⟨b1, hb1⟩ : ∃ b1, decide (nm = nm') = b1 := ⟨_, rfl⟩
    rw [hb1] at HE
    have heq := HE.out
    have HB1 := hid hb1
    clear hb1 HE
    cases b1 with
    | false =>
      go_enter Tryz.func57, Tryz.ntmps57
      go_wp2_with (refine wpList_bare (by rfl) ?_; first
        | (refine wpList_load_mid (by rfl) 37 _ (by rfl) w.heap.size 1 (by rfl) (u8s nm) _ ?hc Tryz.underlying37 rfl HI.out ?_; (case hc => exact rangeAt_name (k := k) (v := .slice a bs.length cap) (World.rangeAt_alloc (by rw [HC.out]; exact HR.out) _)))
        | (refine wpList_load_mid (by rfl) 37 _ (by rfl) (w.heap.size + 1) 1 (by rfl) (u8s nm') _ ?hc Tryz.underlying37 rfl HI'.out ?_; (case hc => exact rangeAt_name (k := k') (v := .slice a' bs'.length cap') (by rw [HD.out]; simpa using HRD.out))))
      go_ret
      refine ⟨?_, HBL.out⟩
      have h1 := HB1.out
      rw [sameR, h1]
      simp
    | true =>
      go_enter Tryz.func57, Tryz.ntmps57
      go_wp2_with (refine wpList_bare (by rfl) ?_; first
        | (refine wpList_load_mid (by rfl) 37 _ (by rfl) w.heap.size 1 (by rfl) (u8s nm) _ ?hc Tryz.underlying37 rfl HI.out ?_; (case hc => exact rangeAt_name (k := k) (v := .slice a bs.length cap) (World.rangeAt_alloc (by rw [HC.out]; exact HR.out) _)))
        | (refine wpList_load_mid (by rfl) 37 _ (by rfl) (w.heap.size + 1) 1 (by rfl) (u8s nm') _ ?hc Tryz.underlying37 rfl HI'.out ?_; (case hc => exact rangeAt_name (k := k') (v := .slice a' bs'.length cap') (by rw [HD.out]; simpa using HRD.out))))
      refine (Tlv.equal_any _ _ bs bs' _ (bySl_lift HB.out HBL.out) (bySl_lift HB'.out HBL.out)).mono ?_
      rintro e w1 ⟨rfl, hw1⟩
      subst hw1
      generalize hdd : decide (bs = bs') = b2
      have HDD := hid hdd
      clear hdd
      go_wp2_with fail
      go_ret
      refine ⟨?_, HBL.out⟩
      have h1 := HB1.out
      have h2 := HDD.out
      have h3 := HK.out
      rw [sameR, h1, h2, h3]
      simp
  · have hkb : (k == k') = false := by simpa using hk
    have HK := hid hk
    clear hk HE
    go_enter Tryz.func57, Tryz.ntmps57
    go_wp2_with fail
    go_ret
    refine ⟨?_, HBL.out⟩
    rw [sameR, decide_eq_false HK.out]
    rfl

set_option maxHeartbeats 2000000 in
set_option maxRecDepth 100000 in
/-- The reference's Same. -/
theorem same18_any (k k' : Int) (nm nm' bs bs' : List Int) (v v' : Value) (w : World) (hn : nm.length = 32) (hn' : nm'.length = 32) (hx : ∀ x ∈ nm, 0 ≤ x ∧ x ≤ 255) (hx' : ∀ x ∈ nm', 0 ≤ x ∧ x ≤ 255)
    (hb : Tlv.BySl 0 w.heap.size w v bs) (hb' : Tlv.BySl 0 w.heap.size w v' bs') :
    Calls Tryz.prog 29 #[.agg (recA k nm v).toArray, .agg (recA k' nm' v').toArray] w fun e w' => e = .returned (.bool (sameR k k' nm nm' bs bs')) ∧ Below w.heap.size w w' := by
  obtain ⟨a, cap, rfl, hr⟩ := id hb
  obtain ⟨a', cap', rfl, hr'⟩ := id hb'
  clear hr hr'
  have HB := hid hb
  have HB' := hid hb'
  have hc0 := recA_0 k nm (.slice a bs.length cap)
  have hc33 := recA_33 k nm (.slice a bs.length cap) hn
  have hd0 := recA_0 k' nm' (.slice a' bs'.length cap')
  have hd33 := recA_33 k' nm' (.slice a' bs'.length cap') hn'
  have HE := hid (fun w => eqName nm nm' hn hn' hx hx' w)
  have HI : Hid ((Tryz.prog.info? 37).map (·.size) = some (u8s nm).length) := by rw [Hid, u8s_length, hn]; kernel_rfl
  have HI' : Hid ((Tryz.prog.info? 37).map (·.size) = some (u8s nm').length) := by rw [Hid, u8s_length, hn']; kernel_rfl
  clear hb hb' hn hn' hx hx'
  obtain ⟨C, hC⟩ : ∃ C, recA k nm (.slice a bs.length cap) = C := ⟨_, rfl⟩
  obtain ⟨D, hD⟩ : ∃ D, recA k' nm' (.slice a' bs'.length cap') = D := ⟨_, rfl⟩
  rw [hC] at hc0 hc33
  rw [hD] at hd0 hd33
  rw [hC, hD]
  have HC := hid hC
  have HD := hid hD
  clear hC hD
  have HR := hid (range_new w C 40)
  have HRD := hid (range_new (w.alloc (.cells C.toArray 40)) D 40)
  have hbel : Below w.heap.size w ((w.alloc (.cells C.toArray 40)).alloc (.cells D.toArray 40)) := ((Below.refl _ _).alloc (Nat.le_refl _) _).alloc (by simp) _
  have HBL := hid hbel
  clear hbel
  by_cases hk : k = k'
  · have HK := hid hk
    have hkb : (k == k') = true := by simpa using hk
    clear hk
    obtain ⟨b1, hb1⟩ : ∃ b1, decide (nm = nm') = b1 := ⟨_, rfl⟩
    rw [hb1] at HE
    have heq := HE.out
    have HB1 := hid hb1
    clear hb1 HE
    cases b1 with
    | false =>
      go_enter Tryz.func29, Tryz.ntmps29
      go_wp2_with (refine wpList_bare (by rfl) ?_; first
        | (refine wpList_load_mid (by rfl) 37 _ (by rfl) w.heap.size 1 (by rfl) (u8s nm) _ ?hc Tryz.underlying37 rfl HI.out ?_; (case hc => exact rangeAt_name (k := k) (v := .slice a bs.length cap) (World.rangeAt_alloc (by rw [HC.out]; exact HR.out) _)))
        | (refine wpList_load_mid (by rfl) 37 _ (by rfl) (w.heap.size + 1) 1 (by rfl) (u8s nm') _ ?hc Tryz.underlying37 rfl HI'.out ?_; (case hc => exact rangeAt_name (k := k') (v := .slice a' bs'.length cap') (by rw [HD.out]; simpa using HRD.out))))
      go_ret
      refine ⟨?_, HBL.out⟩
      have h1 := HB1.out
      rw [sameR, h1]
      simp
    | true =>
      go_enter Tryz.func29, Tryz.ntmps29
      go_wp2_with (refine wpList_bare (by rfl) ?_; first
        | (refine wpList_load_mid (by rfl) 37 _ (by rfl) w.heap.size 1 (by rfl) (u8s nm) _ ?hc Tryz.underlying37 rfl HI.out ?_; (case hc => exact rangeAt_name (k := k) (v := .slice a bs.length cap) (World.rangeAt_alloc (by rw [HC.out]; exact HR.out) _)))
        | (refine wpList_load_mid (by rfl) 37 _ (by rfl) (w.heap.size + 1) 1 (by rfl) (u8s nm') _ ?hc Tryz.underlying37 rfl HI'.out ?_; (case hc => exact rangeAt_name (k := k') (v := .slice a' bs'.length cap') (by rw [HD.out]; simpa using HRD.out))))
      refine (Tlv.refBytes_any _ _ bs bs' _ (bySl_lift HB.out HBL.out) (bySl_lift HB'.out HBL.out)).mono ?_
      rintro e w1 ⟨rfl, hw1⟩
      have HW1 := hid hw1
      clear hw1
      generalize hdd : decide (bs = bs') = b2
      have HDD := hid hdd
      clear hdd
      go_wp2_with fail
      go_ret
      refine ⟨?_, HBL.out.trans (HW1.out.mono (by simp; omega))⟩
      have h1 := HB1.out
      have h2 := HDD.out
      have h3 := HK.out
      rw [sameR, h1, h2, h3]
      simp
  · have hkb : (k == k') = false := by simpa using hk
    have HK := hid hk
    clear hk HE
    go_enter Tryz.func29, Tryz.ntmps29
    go_wp2_with fail
    go_ret
    refine ⟨?_, HBL.out⟩
    rw [sameR, decide_eq_false HK.out]
    rfl

end Go.Proofs.YtkekajmmcjacgaaGreatDoor
end

section
/-
  What Size and Put answer.
-/
namespace Go.Proofs.YtkekajmmcjacgaaGreatDoor
open Go.RowKit
open Tlv (Tr BySlS AgreeS Agree)
open Crc (hid Kept Tab)

/-- A table at b, its rows filled or not. -/
def TabX (w : World) (b : Nat) : Prop := ∃ f n, (f = 0 ∨ f = 1) ∧ Tab w b f n
theorem TabX.below {w w' : World} {b : Nat} (h : TabX w b) (k : Below w.heap.size w w') : TabX w' b := by
  obtain ⟨f, n, hf, ht⟩ := h
  exact ⟨f, n, hf, ht.below k⟩
theorem TabX.lt {w : World} {b : Nat} (h : TabX w b) : b < w.heap.size := by
  obtain ⟨f, n, hf, ht⟩ := h
  exact ht.1
theorem TabX.kept {b g : Nat} {w w' : World} (h : TabX w b) (k : Kept g w w') (hg : b ≠ g) : TabX w' b := by
  obtain ⟨f, n, hf, ht⟩ := h
  exact ⟨f, n, hf, ht.kept k hg⟩
theorem TabX.of {b : Nat} {n : Int} {w : World} (h : Tab w b 1 n) : TabX w b := ⟨1, n, .inr rfl, h⟩

theorem toCrc {S : Nat → Prop} {b : Nat} {w : World} {v : Value} {xs : List Int} (h : BySlS S w v xs) (hS : ∀ g, S g → g ≠ b ∧ g < w.heap.size) : Crc.BySl b w v (nats xs) := by
  obtain ⟨a, cap, rfl, h2, h3, h4, h5, h6, h7⟩ := h
  refine ⟨a, cap, by rw [nats_length], by rw [nats_length]; exact h2, h3, fun e => ⟨by rw [(h4 e).1]; rfl, (h4 e).2⟩, by rw [nats_length]; exact h5, nats_lt _ h6, fun hne => ?_⟩
  have hne' : xs ≠ [] := fun e => hne (by rw [e]; rfl)
  obtain ⟨g, o, e, hg, hc⟩ := h7 hne'
  refine ⟨g, o, e, (hS g hg).1, (hS g hg).2, fun i hi => ?_⟩
  rw [nats_length] at hi
  rw [hc i hi]
  have hx := h6 (xs.getD i 0) (by rw [List.getD_eq_getElem?_getD, List.getElem?_eq_getElem hi]; simp)
  simp only [nats, List.getD_eq_getElem?_getD, List.getElem?_map, List.getElem?_eq_getElem hi, Option.map_some, Option.getD_some] at hx ⊢
  congr 2
  omega

theorem ofCrc {b : Nat} {w : World} {v : Value} {xs : List Nat} (h : Crc.BySl b w v xs) : BySlS (fun g => g ≠ b ∧ g < w.heap.size) w v (ints xs) := by
  obtain ⟨a, cap, rfl, h2, h3, h4, h5, h6, h7⟩ := h
  refine ⟨a, cap, by rw [ints_length], by rw [ints_length]; exact h2, h3, fun e => ⟨by rw [(h4 e).1]; rfl, (h4 e).2⟩, by rw [ints_length]; exact h5, ints_bd _ h6, fun hne => ?_⟩
  have hne' : xs ≠ [] := fun e => hne (by rw [e]; rfl)
  obtain ⟨g, o, e, hg, hg2, hc⟩ := h7 hne'
  refine ⟨g, o, e, ⟨hg, hg2⟩, fun i hi => ?_⟩
  rw [ints_length] at hi
  rw [hc i hi]
  simp [ints, List.getElem?_eq_getElem hi]

theorem BySlS.mono {S S' : Nat → Prop} {w : World} {v : Value} {xs : List Int} (h : BySlS S w v xs) (hS : ∀ g, S g → S' g) : BySlS S' w v xs := h.agree (fun _ _ => rfl) hS
theorem BySlS.kept {b : Nat} {S : Nat → Prop} {w w' : World} {v : Value} {xs : List Int} (h : BySlS S w v xs) (k : Kept b w w') (hS : ∀ g, S g → g ≠ b ∧ g < w.heap.size) : BySlS S w' v xs := h.agree (fun g hg => k.block g (hS g hg).2 (hS g hg).1) (fun _ h => h)
theorem BySlS.below {B : Nat} {S : Nat → Prop} {w w' : World} {v : Value} {xs : List Int} (h : BySlS S w v xs) (k : Below B w w') (hS : ∀ g, S g → g < B) : BySlS S w' v xs := h.agree (fun g hg => k.block g (hS g hg)) (fun _ h => h)

theorem rightB_of {k : Int} {nm bs : List Int} (h : RightR k nm bs) : rightB k bs.length = true := by
  obtain ⟨h1, h2, h3, _⟩ := h
  simp [rightB]; omega
theorem right_of {k : Int} {nm bs : List Int} (h : rightB k bs.length = true) (hn : nm.length = 32) (hx : ∀ x ∈ nm, 0 ≤ x ∧ x ≤ 255) (hy : ∀ x ∈ bs, 0 ≤ x ∧ x ≤ 255) : RightR k nm bs := by
  simp [rightB] at h
  exact ⟨by omega, by omega, by omega, hn, hx, hy⟩

set_option maxHeartbeats 1000000 in
set_option maxRecDepth 100000 in
theorem size_no (k : Int) (nm bs : List Int) (a : Option Addr) (cap : Nat) (w : World) (hn : nm.length = 32) (hR : rightB k bs.length = false) :
    Calls Tryz.prog 123 #[.agg (recA k nm (.slice a bs.length cap)).toArray] w fun e w' => e = .returned (.int .i64 0) ∧ Below w.heap.size w w' := by
  have HC0 := hid (recA_0 k nm (.slice a bs.length cap))
  have HC33 := hid (recA_33 k nm (.slice a bs.length cap) hn)
  have HL := hid (recA_length k nm (.slice a bs.length cap) hn)
  have HRR := hid hR
  clear hR
  obtain ⟨C, hC⟩ : ∃ C, recA k nm (.slice a bs.length cap) = C := ⟨_, rfl⟩
  rw [hC] at HC0 HC33 HL
  rw [hC]
  clear hC hn
  have HR := hid (range_new w C 52)
  have HI : Hid ((Tryz.prog.info? 52).map (·.size) = some C.length) := by rw [Hid, HL.out]; exact Tryz.info35
  go_enter Tryz.func123, Tryz.ntmps123
  go_wp2_with (refine wpList_load_mid (by rfl) 52 _ (by rfl) w.heap.size 0 (by rfl) C _ ?hc Tryz.underlying52 rfl HI.out ?_; (case hc => exact HR.out))
  refine (right13_any C k _ _ _ _ HC0.out HC33.out).mono ?_
  rintro e w1 ⟨rfl, hb1⟩
  rw [HRR.out]
  have HB1 : Hid (Below w.heap.size w w1) := ((Below.refl _ _).alloc (Nat.le_refl _) _).trans (hb1.mono (by simp))
  clear hb1
  go_wp2_with fail
  go_ret
  exact ⟨rfl, HB1.out⟩

set_option maxHeartbeats 1000000 in
set_option maxRecDepth 100000 in
theorem size_yes (k : Int) (nm bs : List Int) (v : Value) (w : World) (hb : Tlv.BySl 0 w.heap.size w v bs) (hR : RightR k nm bs) :
    Calls Tryz.prog 123 #[.agg (recA k nm v).toArray] w fun e w' => e = .returned (.int .i64 ((49 + bs.length : Nat) : Int)) ∧ Below w.heap.size w w' := by
  obtain ⟨a, cap, rfl, hr⟩ := id hb
  clear hr
  have HB := hid hb
  have hn := hR.2.2.2.1
  have HC0 := hid (recA_0 k nm (.slice a bs.length cap))
  have HC33 := hid (recA_33 k nm (.slice a bs.length cap) hn)
  have HL := hid (recA_length k nm (.slice a bs.length cap) hn)
  have HRR := hid hR
  have HSZ := hid (szT_rec hR)
  have hl5 := hR.2.2.1
  clear hR hb
  have HV := hid (value_any k nm bs (.slice a bs.length cap))
  obtain ⟨C, hC⟩ : ∃ C, recA k nm (.slice a bs.length cap) = C := ⟨_, rfl⟩
  rw [hC] at HC0 HC33 HL HV
  rw [hC]
  clear hC hn
  have HR := hid (range_new w C 52)
  have HI : Hid ((Tryz.prog.info? 52).map (·.size) = some C.length) := by rw [Hid, HL.out]; exact Tryz.info35
  go_enter Tryz.func123, Tryz.ntmps123
  go_wp2_with (refine wpList_load_mid (by rfl) 52 _ (by rfl) w.heap.size 0 (by rfl) C _ ?hc Tryz.underlying52 rfl HI.out ?_; (case hc => exact HR.out))
  refine (right13_any C k _ _ _ _ HC0.out HC33.out).mono ?_
  rintro e w1 ⟨rfl, hb1⟩
  rw [rightB_of HRR.out]
  have HB1 : Hid (Below w.heap.size w w1) := ((Below.refl _ _).alloc (Nat.le_refl _) _).trans (hb1.mono (by simp))
  have HR1 := hid (rangeAt_below HR.out hb1 (by simp))
  clear hb1
  go_wp2_with (refine wpList_load_mid (by rfl) 52 _ (by rfl) w.heap.size 0 (by rfl) C _ ?hc Tryz.underlying52 rfl HI.out ?_; (case hc => exact HR1.out))
  refine (HV.out w1 HRR.out.1 HRR.out.2.1 HRR.out.2.2.2.1 HRR.out.2.2.2.2.1 (HB.out.agree (Agree.below HB1.out) (Nat.le_refl _) HB1.out.size)).mono ?_
  rintro e w2 ⟨sb, sk, rfl, hr2, hb2⟩
  have HR2 := hid hr2
  have HB2 := hid hb2
  clear hr2 hb2
  go_wp2_with fail
  refine (Tlv.size_any (recT k nm bs) sb sk _ (HR2.out.agree (Agree.refl _ _ _) (Nat.zero_le _) (Nat.le_refl _))).mono ?_
  rintro e w3 ⟨rfl, hb3⟩
  rw [HSZ.out]
  have HB3 := hid hb3
  clear hb3
  go_wp2_with fail
  go_ret
  refine ⟨congrArg (fun x => Ending.returned (Value.int .i64 x)) ?_, (HB1.out.trans (HB2.out.mono HB1.out.size)).trans (HB3.out.mono (Nat.le_trans HB1.out.size HB2.out.size))⟩
  simp
  omega

set_option maxHeartbeats 1000000 in
set_option maxRecDepth 100000 in
theorem put_nil (C : List Value) (w : World) :
    Calls Tryz.prog 74 #[.pointer none, .agg C.toArray] w fun e w' => e = .returned (.tuple #[.slice none 0 0, .int .i64 18]) ∧ Below w.heap.size w w' := by
  go_enter Tryz.func74, Tryz.ntmps74
  go_wp2_with fail
  go_ret2
  exact ⟨rfl, (Below.refl _ _).alloc (Nat.le_refl _) _⟩

set_option maxHeartbeats 1000000 in
set_option maxRecDepth 100000 in
theorem put_no (ad : Addr) (k : Int) (nm bs : List Int) (a : Option Addr) (cap : Nat) (w : World) (hn : nm.length = 32) (hR : rightB k bs.length = false) :
    Calls Tryz.prog 74 #[.pointer (some ad), .agg (recA k nm (.slice a bs.length cap)).toArray] w fun e w' => e = .returned (.tuple #[.slice none 0 0, .int .i64 1]) ∧ Below w.heap.size w w' := by
  have HC0 := hid (recA_0 k nm (.slice a bs.length cap))
  have HC33 := hid (recA_33 k nm (.slice a bs.length cap) hn)
  have HL := hid (recA_length k nm (.slice a bs.length cap) hn)
  have HRR := hid hR
  clear hR
  obtain ⟨C, hC⟩ : ∃ C, recA k nm (.slice a bs.length cap) = C := ⟨_, rfl⟩
  rw [hC] at HC0 HC33 HL
  rw [hC]
  clear hC hn
  have HR := hid (range_new w C 52)
  have HI : Hid ((Tryz.prog.info? 52).map (·.size) = some C.length) := by rw [Hid, HL.out]; exact Tryz.info35
  go_enter Tryz.func74, Tryz.ntmps74
  go_wp2_with (refine wpList_load_mid (by rfl) 52 _ (by rfl) w.heap.size 0 (by rfl) C _ ?hc Tryz.underlying52 rfl HI.out ?_; (case hc => exact HR.out))
  refine (right13_any C k _ _ _ _ HC0.out HC33.out).mono ?_
  rintro e w1 ⟨rfl, hb1⟩
  rw [HRR.out]
  have HB1 : Hid (Below w.heap.size w w1) := ((Below.refl _ _).alloc (Nat.le_refl _) _).trans (hb1.mono (by simp))
  clear hb1
  go_wp2_with fail
  go_ret2
  exact ⟨rfl, HB1.out⟩

set_option maxHeartbeats 2000000 in
set_option maxRecDepth 100000 in
theorem put_yes (b : Nat) (k : Int) (nm bs : List Int) (v : Value) (w : World) (hT : TabX w b) (hb : Tlv.BySl 0 w.heap.size w v bs) (hR : RightR k nm bs) :
    Calls Tryz.prog 74 #[.pointer (some ⟨b, 0, none⟩), .agg (recA k nm v).toArray] w fun e w' => ∃ v', e = .returned (.tuple #[v', .int .i64 0]) ∧ Crc.Own w' w.heap.size v' (nats (frameR k nm bs)) ∧ Kept b w w' ∧ TabX w' b := by
  obtain ⟨a, cap, rfl, hr⟩ := id hb
  clear hr
  have HB := hid hb
  have hn := hR.2.2.2.1
  have HC0 := hid (recA_0 k nm (.slice a bs.length cap))
  have HC33 := hid (recA_33 k nm (.slice a bs.length cap) hn)
  have HL := hid (recA_length k nm (.slice a bs.length cap) hn)
  have HRR := hid hR
  have HSZ := hid (szT_rec hR)
  have HFL := hid (formR_length hR)
  have HT := hid hT
  have hbw := hT.lt
  clear hR hb hT
  have HV := hid (value_any k nm bs (.slice a bs.length cap))
  obtain ⟨C, hC⟩ : ∃ C, recA k nm (.slice a bs.length cap) = C := ⟨_, rfl⟩
  rw [hC] at HC0 HC33 HL HV
  rw [hC]
  clear hC hn
  have HR := hid (range_new w C 52)
  have HI : Hid ((Tryz.prog.info? 52).map (·.size) = some C.length) := by rw [Hid, HL.out]; exact Tryz.info35
  go_enter Tryz.func74, Tryz.ntmps74
  go_wp2_with (refine wpList_load_mid (by rfl) 52 _ (by rfl) w.heap.size 0 (by rfl) C _ ?hc Tryz.underlying52 rfl HI.out ?_; (case hc => exact HR.out))
  refine (right13_any C k _ _ _ _ HC0.out HC33.out).mono ?_
  rintro e w1 ⟨rfl, hb1⟩
  rw [rightB_of HRR.out]
  have HB1 : Hid (Below w.heap.size w w1) := ((Below.refl _ _).alloc (Nat.le_refl _) _).trans (hb1.mono (by simp))
  have HR1 := hid (rangeAt_below HR.out hb1 (by simp))
  clear hb1
  go_wp2_with (refine wpList_load_mid (by rfl) 52 _ (by rfl) w.heap.size 0 (by rfl) C _ ?hc Tryz.underlying52 rfl HI.out ?_; (case hc => exact HR1.out))
  refine (HV.out w1 HRR.out.1 HRR.out.2.1 HRR.out.2.2.2.1 HRR.out.2.2.2.2.1 (HB.out.agree (Agree.below HB1.out) (Nat.le_refl _) HB1.out.size)).mono ?_
  rintro e w2 ⟨sb, sk, rfl, hr2, hb2⟩
  have HR2 := hid hr2
  have HB2 : Hid (Below w.heap.size w w2) := HB1.out.trans (hb2.mono HB1.out.size)
  clear hr2 hb2
  go_wp2_with fail
  refine (Tlv.Put_yes (recT k nm bs) sb sk _ (HR2.out.agree (Agree.refl _ _ _) (Nat.zero_le _) (Nat.le_refl _)) (by rw [HSZ.out]; omega)).mono ?_
  rintro e w3 ⟨vf, rfl, hf3, hb3⟩
  obtain ⟨af, cf, rfl, hrf⟩ := id hf3
  clear hrf
  have HF3 := hid hf3
  have HB3 : Hid (Below w.heap.size w w3) := HB2.out.trans (hb3.mono HB2.out.size)
  have hz2 : w.heap.size ≤ w2.heap.size := HB2.out.size
  clear hf3 hb3
  go_wp2_with fail
  obtain ⟨f, n, hf, ht⟩ := (HT.out.below HB3.out)
  have hcf : Crc.BySl b w3 (.slice af (Tlv.formOf 2 (recT k nm bs)).length cf) (nats (formR k nm bs)) := toCrc HF3.out.toS (fun g hg => ⟨by omega, hg.2⟩)
  refine (Crc.seal_any b f n _ (nats (formR k nm bs)) _ hf ht hcf (by rw [nats_length, HFL.out]; have := HRR.out.2.2.1; omega)).mono ?_
  rintro e w4 ⟨v', rfl, ho, hk4, ht4⟩
  have HO := hid ho
  have HK4 := hid hk4
  have HT4 := hid ht4
  clear ho hk4 ht4 ht hcf hf
  go_wp2_with fail
  go_ret2
  refine ⟨v', rfl, ?_, (Kept.below HB3.out).trans HK4.out, TabX.of HT4.out⟩
  rw [frameR, sealI_nats]
  exact HO.out.mono HB3.out.size

end Go.Proofs.YtkekajmmcjacgaaGreatDoor
end

section
/-
  A pack is begun.
-/
namespace Go.Proofs.YtkekajmmcjacgaaGreatDoor
open Go.RowKit Go.Shelf
open Sim (hid Kp No PS Done Blk nm pCreate finds pBytes)

theorem TabX.kp {L : Nat → Prop} {w w' : World} {b : Nat} (h : TabX w b) (k : Kp L w w') (hb : ¬ L b) : TabX w' b := by
  have hlt := h.lt
  obtain ⟨f, n, hf, ht⟩ := h
  refine ⟨f, n, hf, ?_⟩
  obtain ⟨h1, h2, h3, h4, h5, h6, h7⟩ := ht
  have c : ∀ j, w'.cell? ⟨b, j, none⟩ = w.cell? ⟨b, j, none⟩ := fun j => k.cell (p := ⟨b, j, none⟩) hlt hb
  refine ⟨Nat.lt_of_lt_of_le h1 k.size, (c _).trans h2, (c _).trans h3, (c _).trans h4, fun j hj => ?_, fun e j hj => (c _).trans (h6 e j hj), fun j => (k.frozen (p := ⟨b, j, none⟩) hlt hb).trans (h7 j)⟩
  obtain ⟨x, hx⟩ := h5 j hj
  exact ⟨x, (c _).trans hx⟩
theorem kp_kept {b : Nat} {w w' : World} (k : Crc.Kept b w w') : Kp (fun x => x = b) w w' := ⟨k.os, k.tape, k.output, k.size, fun i hi hL => k.block i hi hL⟩
theorem sys_kept {P : Nat → Prop} {N b s : Nat} {w w' : World} {p : PS} (h : Sim.Sys P N w s p) (k : Crc.Kept b w w') (hb : ¬ P b) : Sim.Sys P N w' s p :=
  h.kp (kp_kept k) (fun x hx => by rw [hx]; exact hb)

/-- A writer's cells. -/
def wrC (s b : Nat) (i sz ct : Int) (cl : Bool) : List Value := [.pointer (some ⟨s, 0, none⟩), .pointer (some ⟨b, 0, none⟩), .int .i64 i, .int .i64 sz, .int .i64 ct, .bool cl]
def WrAt (w : World) (g s b : Nat) (i sz ct : Int) (cl : Bool) : Prop := Blk w g 157 (wrC s b i sz ct cl)

theorem name_le (p : ByteArray) (hp : p.size ≤ 100) (i : Nat) (h : i < 100) : (sortB p i).size ≤ 20000000 := by
  have := dec_small i h
  have e : (sortB p i).size = p.size + (Lib.decDigits i).length := by
    rw [sortB, ByteArray.size_append]
    rfl
  omega

set_option maxHeartbeats 1000000 in
theorem begin_any {P : Nat → Prop} {N : Nat} (w : World) (s b : Nat) (p : PS) (i : Nat) (h1 : 1 ≤ i) (h2 : i < 100) (h : Sim.Sys P N w s p) (hN : N + 1 ≤ 1000) :
    Calls Tryz.prog 14 #[.pointer (some ⟨s, 0, none⟩), .pointer (some ⟨b, 0, none⟩), .int .i64 (i : Int)] w fun e w' =>
      (finds p (nm (nameP i)) = 0 ∧ e = .returned (.tuple #[.pointer none, .int .i64 6]) ∧ Kp No w w') ∨
      (finds p (nm (nameP i)) ≠ 0 ∧ ∃ x, p.files x = none ∧
        (((pCreate (nm (nameT i)) x p).1 ≠ 0 ∧ e = .returned (.tuple #[.pointer none, .int .i64 ((pCreate (nm (nameT i)) x p).1 : Nat)]) ∧ Done P (N + 1) w w' s (pCreate (nm (nameT i)) x p).2) ∨
         ((pCreate (nm (nameT i)) x p).1 = 0 ∧ ∃ g P', e = .returned (.tuple #[.pointer (some ⟨g, 0, none⟩), .int .i64 0]) ∧ WrAt w' g s b i 0 0 false ∧ Sim.Sys P' (N + 1) w' s (pCreate (nm (nameT i)) x p).2 ∧ Kp P w w' ∧ (∀ x, P' x → P x ∨ w.heap.size ≤ x) ∧ ¬ P' g ∧ w.heap.size ≤ g))) := by
  have HID : Hid (∀ V, Calls Tryz.prog 64 #[.int .i64 (i : Int)] V fun e w' => e = .returned (.bool true) ∧ w' = V) := fun V => by
    have h := isID_any (i : Int) V
    rwa [show idB (i : Int) = true from by simp [idB]; omega] at h
  have HNM := hid (fun V => pname_small i h1 h2 V)
  have HTM := hid (fun V => ptemp_small i h1 h2 V)
  have HSZ := hid (Sim.size_any w s p (nameP i) (name_le _ (by decide) i h2) h)
  have HCR := hid (fun V (k : Kp No w V) => Sim.create_any V s p (nameT i) (name_le _ (by decide) i h2) (h.kept k) hN)
  generalize (pBytes (nm (nameP i)) p).length = ln at HSZ
  by_cases h0 : finds p (nm (nameP i)) = 0
  · rw [h0] at HSZ
    go_enter Tryz.func14, Tryz.ntmps14
    go_wp2_with (first
      | (go_at_call 64; refine (HID.out _).mono ?_; rintro e w1 ⟨rfl, h⟩; subst w1)
      | (go_at_call 49; refine (HNM.out _).mono ?_; rintro e w1 ⟨rfl, h⟩; subst w1)
      | (go_at_call 65; refine HSZ.out.mono ?_; rintro e w1 ⟨rfl, h⟩; have HK := hid h; clear h))
    go_ret2
    exact .inl ⟨h0, rfl, HK.out⟩
  · have HF := hid h0
    obtain ⟨F, hF⟩ : ∃ F, finds p (nm (nameP i)) = F := ⟨_, rfl⟩
    rw [hF] at HSZ h0
    have hF0 : ¬ ((F : Int) = 0) := by omega
    clear hF
    go_enter Tryz.func14, Tryz.ntmps14
    go_wp2_with (first
      | (go_at_call 64; refine (HID.out _).mono ?_; rintro e w1 ⟨rfl, h⟩; subst w1)
      | (go_at_call 49; refine (HNM.out _).mono ?_; rintro e w1 ⟨rfl, h⟩; subst w1)
      | (go_at_call 67; refine (HTM.out _).mono ?_; rintro e w2 ⟨rfl, h⟩; subst w2)
      | (go_at_call 65; refine HSZ.out.mono ?_; rintro e w1 ⟨rfl, h⟩; have HK := hid h; clear h))
    refine (HCR.out w1 HK.out).mono ?_
    rintro e w3 ⟨x, hx, rfl, P', hS, hKp, hP'⟩
    have HX := hid (And.intro hx (And.intro hS (And.intro hKp hP')))
    clear hx hS hKp hP'
    by_cases hc : (pCreate (nm (nameT i)) x p).1 = 0
    · have HC := hid hc
      rw [hc]
      clear hc
      go_wp2_with fail
      go_ret2
      obtain ⟨hx, hS, hKp, hP'⟩ := HX.out
      have hk0 := HK.out.size
      have hk1 := hKp.size
      refine .inr ⟨HF.out, x, hx, .inr ⟨HC.out, w3.heap.size, P', rfl, Blk.new w3 157 (wrC s b i 0 0 false), hS.kept ((Kp.refl _ _).alloc _), ?_, fun y hy => ?_, fun hy => ?_, by omega⟩⟩
      · exact (HK.out.ofNo.trans hKp (fun _ hx => .inl hx)).alloc _
      · rcases hP' y hy with h | h
        · exact .inl h
        · right; omega
      · have := hS.lt _ hy; omega
    · have HC := hid hc
      obtain ⟨G, hG⟩ : ∃ G, (pCreate (nm (nameT i)) x p).1 = G := ⟨_, rfl⟩
      have HG := hid hG
      rw [hG] at hc ⊢
      have hG0 : ¬ ((G : Int) = 0) := by omega
      clear hG
      go_wp2_with fail
      go_ret2
      obtain ⟨hx, hS, hKp, hP'⟩ := HX.out
      refine .inr ⟨HF.out, x, hx, .inl ⟨HC.out, by rw [HG.out]; rfl, Done.after ⟨P', hS, hKp, hP'⟩ HK.out⟩⟩
end Go.Proofs.YtkekajmmcjacgaaGreatDoor
end

section
/-
  What is said of no file system, no table, no writer.
-/
namespace Go.Proofs.YtkekajmmcjacgaaGreatDoor
open Go.RowKit Go.Shelf
open Sim (hid Kp No PS Done Blk nm pCreate finds pBytes)

theorem begin_nil (v : Value) (z : Int) (w : World) : Calls Tryz.prog 14 #[.pointer none, v, .int .i64 z] w fun e w' => e = .returned (.tuple #[.pointer none, .int .i64 18]) ∧ w' = w := by
  go_enter Tryz.func14, Tryz.ntmps14
  go_wp2
  go_ret2
  exact ⟨rfl, rfl⟩
theorem begin_nilT (a : Addr) (z : Int) (w : World) : Calls Tryz.prog 14 #[.pointer (some a), .pointer none, .int .i64 z] w fun e w' => e = .returned (.tuple #[.pointer none, .int .i64 18]) ∧ w' = w := by
  go_enter Tryz.func14, Tryz.ntmps14
  go_wp2
  go_ret2
  exact ⟨rfl, rfl⟩
theorem wrongW_nil (w : World) : Calls Tryz.prog 73 #[.pointer none] w fun e w' => e = .returned (.int .i64 18) ∧ w' = w := by
  go_enter Tryz.func73, Tryz.ntmps73
  go_wp2
  go_ret
  exact ⟨rfl, rfl⟩
theorem wrongW_any (w : World) (g s b : Nat) (i sz ct : Int) (cl : Bool) (h : WrAt w g s b i sz ct cl) : Calls Tryz.prog 73 #[.pointer (some ⟨g, 0, none⟩)] w fun e w' => e = .returned (.int .i64 (if cl then 13 else 0)) ∧ w' = w := by
  have c0 : w.cell? ⟨g, 0, none⟩ = some (.pointer (some ⟨s, 0, none⟩)) := h.cell 0
  have c5 : w.cell? ⟨g, 5, none⟩ = some (.bool cl) := h.cell 5
  clear h
  cases cl with
  | false =>
    go_enter Tryz.func73, Tryz.ntmps73
    go_wp2
    go_ret
    exact ⟨rfl, rfl⟩
  | true =>
    go_enter Tryz.func73, Tryz.ntmps73
    go_wp2
    go_ret
    exact ⟨rfl, rfl⟩
theorem sizeW_nil (w : World) : Calls Tryz.prog 43 #[.pointer none] w fun e w' => e = .returned (.int .i64 0) ∧ w' = w := by
  go_enter Tryz.func43, Tryz.ntmps43
  go_wp2
  go_ret
  exact ⟨rfl, rfl⟩
theorem countW_nil (w : World) : Calls Tryz.prog 44 #[.pointer none] w fun e w' => e = .returned (.int .i64 0) ∧ w' = w := by
  go_enter Tryz.func44, Tryz.ntmps44
  go_wp2
  go_ret
  exact ⟨rfl, rfl⟩
theorem sealW_nil (w : World) : Calls Tryz.prog 19 #[.pointer none] w fun e w' => e = .returned (.int .i64 18) ∧ w' = w := by
  go_enter Tryz.func19, Tryz.ntmps19
  go_wp2_with (go_at_call 73; refine (wrongW_nil _).mono ?_; rintro e w1 ⟨rfl, h⟩; subst w1)
  go_ret
  exact ⟨rfl, rfl⟩
theorem abortW_nil (w : World) : Calls Tryz.prog 21 #[.pointer none] w fun e w' => e = .returned (.int .i64 18) ∧ w' = w := by
  go_enter Tryz.func21, Tryz.ntmps21
  go_wp2_with (go_at_call 73; refine (wrongW_nil _).mono ?_; rintro e w1 ⟨rfl, h⟩; subst w1)
  go_ret
  exact ⟨rfl, rfl⟩
theorem drop_nil (z : Int) (w : World) : Calls Tryz.prog 33 #[.pointer none, .int .i64 z] w fun e w' => e = .returned (.int .i64 18) ∧ w' = w := by
  go_enter Tryz.func33, Tryz.ntmps33
  go_wp2
  go_ret
  exact ⟨rfl, rfl⟩
theorem clean_nil (w : World) : Calls Tryz.prog 31 #[.pointer none] w fun e w' => e = .returned (.tuple #[.int .i64 0, .int .i64 18]) ∧ w' = w := by
  go_enter Tryz.func31, Tryz.ntmps31
  go_wp2
  go_ret2
  exact ⟨rfl, rfl⟩
theorem pread_nil (v : Value) (z : Int) (w : World) : Calls Tryz.prog 84 #[.pointer none, v, .int .i64 z] w fun e w' => e = .returned (.tuple #[.slice none 0 0, .int .i64 18]) ∧ w' = w := by
  go_enter Tryz.func84, Tryz.ntmps84
  go_wp2
  go_ret2
  exact ⟨rfl, rfl⟩
theorem pread_nilT (a : Addr) (z : Int) (w : World) : Calls Tryz.prog 84 #[.pointer (some a), .pointer none, .int .i64 z] w fun e w' => e = .returned (.tuple #[.slice none 0 0, .int .i64 18]) ∧ w' = w := by
  go_enter Tryz.func84, Tryz.ntmps84
  go_wp2
  go_ret2
  exact ⟨rfl, rfl⟩
theorem load_nil (a : Addr) (z : Int) (w : World) : Calls Tryz.prog 23 #[.pointer none, .pointer (some a), .int .i64 z] w fun e w' => e = .returned (.tuple #[.slice none 0 0, .int .i64 18]) ∧ w' = w := by
  go_enter Tryz.func23, Tryz.ntmps23
  go_wp2_with (go_at_call 84; refine (pread_nil _ _ _).mono ?_; rintro e w1 ⟨rfl, h⟩; subst w1)
  go_ret2
  exact ⟨rfl, rfl⟩
/-- Nothing is picked of no file system. -/
theorem pickS_nil (f : Value) (w : World) : Calls Tryz.prog 107 #[.pointer none, f] w fun e w' => e = .returned (.slice none 0 0) ∧ w' = w := by
  go_enter Tryz.func107, Tryz.ntmps107
  go_wp2_with (go_at_call 97; refine (Sim.list_nil _).mono ?_; rintro e w1 ⟨rfl, h⟩; subst w1)
  go_loop [5, 13] (fun l i => l = .slice none 0 0 ∧ i = .int .i64 0) (fun _ _ => 0)
  case atStart => exact ⟨rfl, rfl⟩
  case round =>
    obtain ⟨rfl, rfl⟩ := hrel
    go_wp2
    go_ret
    exact ⟨rfl, rfl⟩
theorem pickI_nil (f : Value) (w : World) : Calls Tryz.prog 103 #[.pointer none, f] w fun e w' => e = .returned (.slice none 0 0) ∧ w' = w := by
  go_enter Tryz.func103, Tryz.ntmps103
  go_wp2_with (go_at_call 97; refine (Sim.list_nil _).mono ?_; rintro e w1 ⟨rfl, h⟩; subst w1)
  go_loop [5, 13] (fun l i => l = .slice none 0 0 ∧ i = .int .i64 0) (fun _ _ => 0)
  case atStart => exact ⟨rfl, rfl⟩
  case round =>
    obtain ⟨rfl, rfl⟩ := hrel
    go_wp2
    go_ret
    exact ⟨rfl, rfl⟩
theorem temps_nil (w : World) : Calls Tryz.prog 41 #[.pointer none] w fun e w' => e = .returned (.slice none 0 0) ∧ Below w.heap.size w w' := by
  go_enter Tryz.func41, Tryz.ntmps41
  go_wp2_with (go_at_call 107; refine (pickS_nil _ _).mono ?_; rintro e w1 ⟨rfl, h⟩; subst w1)
  go_ret
  exact ⟨rfl, Below.refl _ _⟩
theorem ids_nil (w : World) : Calls Tryz.prog 38 #[.pointer none] w fun e w' => e = .returned (.slice none 0 0) ∧ Below w.heap.size w w' := by
  have hs : Hid (∀ V, Calls Tryz.prog 105 #[.slice none 0 0] V fun e w' => e = .returned (.tuple #[]) ∧ w' = V) := fun V => Any.slices_Sort_int_none Sim.Tryz.sortI none 0 V
  go_enter Tryz.func38, Tryz.ntmps38
  go_wp2_with (first
    | (go_at_call 103; refine (pickI_nil _ _).mono ?_; rintro e w1 ⟨rfl, h⟩; subst w1)
    | (go_at_call 105; refine (hs.out _).mono ?_; rintro e w1 ⟨rfl, h⟩; subst w1))
  go_ret
  exact ⟨rfl, Below.refl _ _⟩
end Go.Proofs.YtkekajmmcjacgaaGreatDoor
end
