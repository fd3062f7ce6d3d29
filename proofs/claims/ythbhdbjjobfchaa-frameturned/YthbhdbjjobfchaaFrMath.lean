/-
  Plain mathematics of frames: a record's form, and what is read of one.
-/
import Derived.Test.YthbhdbjjobfchaaFrValue
import Derived.Test.YthbhdbjjobfchaaCrcBurst
namespace Go.Proofs.Ythbhdbjjobfchaa
open Go.RowKit
open Tlv (Tr)

def nats (xs : List Int) : List Nat := xs.map Int.toNat
def ints (xs : List Nat) : List Int := xs.map fun x : Nat => (x : Int)
theorem nats_length (xs : List Int) : (nats xs).length = xs.length := by simp [nats]
theorem ints_length (xs : List Nat) : (ints xs).length = xs.length := by simp [ints]
theorem nats_ints (xs : List Nat) : nats (ints xs) = xs := by simp [nats, ints, Function.comp_def]
theorem nats_append (a b : List Int) : nats (a ++ b) = nats a ++ nats b := by simp [nats]
theorem ints_append (a b : List Nat) : ints (a ++ b) = ints a ++ ints b := by simp [ints]
theorem ints_nats (xs : List Int) (h : ∀ x ∈ xs, 0 ≤ x ∧ x ≤ 255) : ints (nats xs) = xs := by
  induction xs with
  | nil => rfl
  | cons x xs ih =>
    have h1 := h x (List.mem_cons_self ..)
    have e : ints (nats (x :: xs)) = (x.toNat : Int) :: ints (nats xs) := rfl
    rw [e, ih (fun y hy => h y (List.mem_cons_of_mem _ hy)), Int.toNat_of_nonneg h1.1]
theorem nats_lt (xs : List Int) (h : ∀ x ∈ xs, 0 ≤ x ∧ x ≤ 255) : ∀ x ∈ nats xs, x < 256 := by
  intro x hx
  obtain ⟨y, hy, rfl⟩ := List.mem_map.1 hx
  have := h y hy
  omega
theorem ints_bd (xs : List Nat) (h : ∀ x ∈ xs, x < 256) : ∀ x ∈ ints xs, 0 ≤ x ∧ x ≤ 255 := by
  intro x hx
  obtain ⟨y, hy, rfl⟩ := List.mem_map.1 hx
  have := h y hy
  omega

/-- The sum behind. -/
def sumI (xs : List Int) : List Int := ints (Crc.le4 (Crc.more 0 (nats xs)))
/-- Bytes with their sum behind them. -/
def sealI (xs : List Int) : List Int := xs ++ sumI xs
theorem sumI_length (xs : List Int) : (sumI xs).length = 4 := by rw [sumI, ints_length, Crc.le4_len]
theorem sealI_length (xs : List Int) : (sealI xs).length = xs.length + 4 := by rw [sealI, List.length_append, sumI_length]
theorem sealI_nats (xs : List Int) : nats (sealI xs) = nats xs ++ Crc.le4 (Crc.more 0 (nats xs)) := by rw [sealI, nats_append, sumI, nats_ints]
theorem sealI_bd (xs : List Int) (h : ∀ x ∈ xs, 0 ≤ x ∧ x ≤ 255) : ∀ x ∈ sealI xs, 0 ≤ x ∧ x ≤ 255 := by
  intro x hx
  rcases List.mem_append.1 hx with hx | hx
  · exact h x hx
  · exact ints_bd _ (Crc.le4_lt (Crc.more_lt _ _)) x hx

/-- What a right record is. -/
def RightR (k : Int) (nm bs : List Int) : Prop := 1 ≤ k ∧ k ≤ 9 ∧ bs.length ≤ 5000 ∧ nm.length = 32 ∧ (∀ x ∈ nm, 0 ≤ x ∧ x ≤ 255) ∧ ∀ x ∈ bs, 0 ≤ x ∧ x ≤ 255

/-- A record's form. -/
def formR (k : Int) (nm bs : List Int) : List Int := Tlv.formOf 2 (recT k nm bs)
/-- Its frame. -/
def frameR (k : Int) (nm bs : List Int) : List Int := sealI (formR k nm bs)

theorem nsz_small {k : Int} (h0 : 1 ≤ k) (h1 : k ≤ 9) : Tlv.nsz k = 1 := by
  have : k = 1 ∨ k = 2 ∨ k = 3 ∨ k = 4 ∨ k = 5 ∨ k = 6 ∨ k = 7 ∨ k = 8 ∨ k = 9 := by omega
  rcases this with rfl | rfl | rfl | rfl | rfl | rfl | rfl | rfl | rfl <;> decide

theorem recT_right {k : Int} {nm bs : List Int} (h : RightR k nm bs) : (Tlv.bsz 2 (recT k nm bs) 65535 8).2 = true := by
  obtain ⟨h0, h1, hl, hn, _, _⟩ := h
  rw [recT, Tlv.bsz_3 _ _ _ (by omega), Tlv.lsz_go (by omega)]
  have e := nsz_small h0 h1
  simp only [Tlv.lszGo]
  rw [Tlv.bsz_1 _ _ _ (by omega), e]
  simp only [show decide ((1 : Int) ≤ 65535 - 0 - 3) = true from rfl, if_true]
  rw [Tlv.bsz_2 _ _ _ (by omega), hn]
  simp only [show decide (((32 : Nat) : Int) ≤ 65535 - (0 + (3 + 1)) - 3) = true from rfl, if_true]
  rw [Tlv.bsz_2 _ _ _ (by omega)]
  simp only [show decide ((bs.length : Int) ≤ 65535 - (0 + (3 + 1) + (3 + ((32 : Nat) : Int))) - 3) = true by simp; omega, if_true]

theorem recT_num {k : Int} {nm bs : List Int} (h0 : 1 ≤ k) (h1 : k ≤ 9) : Tlv.NumOk 2 (recT k nm bs) := by
  have z : ∀ (n : Nat) (x : Int) (ys : List Int), 0 ≤ x → x ≤ 18446744073709551615 → Tlv.NumOk (0 + 1) (Tr.mk n x ys []) := fun n x ys a b => ⟨a, b, fun k hk => by cases hk⟩
  refine ⟨by simp [recT, Tr.mk, Tlv.Tr.hd], by simp [recT, Tr.mk, Tlv.Tr.hd], fun x hx => ?_⟩
  have hx' : x = (Tr.mk 1 k [] [] : Tr 1) ∨ x = Tr.mk 2 0 nm [] ∨ x = Tr.mk 2 0 bs [] := by
    have h : x ∈ [(Tr.mk 1 k [] [] : Tr 1), Tr.mk 2 0 nm [], Tr.mk 2 0 bs []] := hx
    simpa using h
  rcases hx' with rfl | rfl | rfl
  · exact z 1 k [] (by omega) (by omega)
  · exact z 2 0 nm (by omega) (by omega)
  · exact z 2 0 bs (by omega) (by omega)

/-- The form, byte by byte. -/
theorem formR_eq {k : Int} {nm bs : List Int} (h : RightR k nm bs) : formR k nm bs =
    3 :: ((42 + bs.length : Nat) : Int) / 256 :: ((42 + bs.length : Nat) : Int) % 256 :: (1 :: 0 :: 1 :: k :: 2 :: 0 :: 32 :: (nm ++ 2 :: (bs.length : Int) / 256 :: (bs.length : Int) % 256 :: bs)) := by
  obtain ⟨h0, h1, hl, hn, _, _⟩ := h
  have e := nsz_small h0 h1
  have b1 : Tlv.bodyOf 1 (Tr.mk 1 k [] []) = [k] := by
    have : Tlv.bodyOf 1 (Tr.mk 1 k [] []) = Tlv.numB (Tlv.nsz k).toNat k := rfl
    rw [this, e]
    have : Tlv.numB (1 : Int).toNat k = [k / 1 % 256] := rfl
    rw [this]
    congr 1
    omega
  have b2 : ∀ xs, Tlv.bodyOf 1 (Tr.mk 2 0 xs []) = xs := fun _ => rfl
  have f1 : Tlv.formOf 1 (Tr.mk 1 k [] []) = [1, 0, 1, k] := by
    have : Tlv.formOf 1 (Tr.mk 1 k [] []) = 1 :: ((Tlv.bodyOf 1 (Tr.mk 1 k [] [])).length / 256 : Int) :: ((Tlv.bodyOf 1 (Tr.mk 1 k [] [])).length % 256 : Int) :: Tlv.bodyOf 1 (Tr.mk 1 k [] []) := rfl
    rw [this, b1]
    simp
  have f2 : ∀ xs : List Int, Tlv.formOf 1 (Tr.mk 2 0 xs []) = 2 :: (xs.length : Int) / 256 :: (xs.length : Int) % 256 :: xs := fun _ => rfl
  have bd : Tlv.bodyOf 2 (recT k nm bs) = 1 :: 0 :: 1 :: k :: 2 :: 0 :: 32 :: (nm ++ 2 :: (bs.length : Int) / 256 :: (bs.length : Int) % 256 :: bs) := by
    rw [Tlv.bodyOf_kids rfl]
    have : (recT k nm bs).kd.map (Tlv.formOf 1) = [Tlv.formOf 1 (Tr.mk 1 k [] []), Tlv.formOf 1 (Tr.mk 2 0 nm []), Tlv.formOf 1 (Tr.mk 2 0 bs [])] := rfl
    rw [this, f1, f2, f2, hn]
    simp
  have : formR k nm bs = 3 :: ((Tlv.bodyOf 2 (recT k nm bs)).length / 256 : Int) :: ((Tlv.bodyOf 2 (recT k nm bs)).length % 256 : Int) :: Tlv.bodyOf 2 (recT k nm bs) := rfl
  rw [this, bd]
  have hlen : (1 :: 0 :: 1 :: k :: 2 :: 0 :: 32 :: (nm ++ 2 :: (bs.length : Int) / 256 :: (bs.length : Int) % 256 :: bs)).length = 42 + bs.length := by
    simp [hn]; omega
  rw [hlen]

theorem formR_length {k : Int} {nm bs : List Int} (h : RightR k nm bs) : (formR k nm bs).length = 45 + bs.length := by
  rw [formR_eq h]
  have := h.2.2.2.1
  simp [this]; omega

theorem frameR_length {k : Int} {nm bs : List Int} (h : RightR k nm bs) : (frameR k nm bs).length = 49 + bs.length := by
  rw [frameR, sealI_length, formR_length h]; omega

theorem formR_bd {k : Int} {nm bs : List Int} (h : RightR k nm bs) : ∀ x ∈ formR k nm bs, 0 ≤ x ∧ x ≤ 255 := by
  rw [formR_eq h]
  obtain ⟨h0, h1, hl, hn, hx, hy⟩ := h
  intro x hm
  simp only [List.mem_cons, List.mem_append] at hm
  rcases hm with rfl | rfl | rfl | rfl | rfl | rfl | rfl | rfl | rfl | rfl | hm | rfl | rfl | rfl | hm
  all_goals first | omega | exact hx x hm | exact hy x hm

theorem frameR_bd {k : Int} {nm bs : List Int} (h : RightR k nm bs) : ∀ x ∈ frameR k nm bs, 0 ≤ x ∧ x ≤ 255 := sealI_bd _ (formR_bd h)

theorem szT_rec {k : Int} {nm bs : List Int} (h : RightR k nm bs) : Tlv.szT 2 (recT k nm bs) = ((45 + bs.length : Nat) : Int) := by
  have h1 := recT_right h
  rw [Tlv.szT, if_pos h1, Tlv.bsz_len _ _ _ _ h1]
  have h2 := formR_length h
  have h3 : (formR k nm bs).length = 3 + (Tlv.bodyOf 2 (recT k nm bs)).length := by rw [formR]; simp [Tlv.formOf]; omega
  omega

/-- The record whose value a tree is. -/
def recOf (t : Tr 9) : Option (Int × List Int × List Int) :=
  match t.kd with
  | [a, b, c] => if t.hd.1 = 3 ∧ a.hd.1 = 1 ∧ b.hd.1 = 2 ∧ c.hd.1 = 2 ∧ b.hd.2.2.length = 32 ∧ 1 ≤ a.hd.2.1 ∧ a.hd.2.1 ≤ 9 ∧ c.hd.2.2.length ≤ 5000 then some (a.hd.2.1, b.hd.2.2, c.hd.2.2) else none
  | _ => none

theorem bsz_oe {n : Nat} {t : Tr (n + 1)} {room deep : Int} (h : (Tlv.bsz (n + 1) t room deep).2 = true) : (t.hd.1 = 1 ∨ t.hd.2.1 = 0) ∧ (t.hd.1 = 2 ∨ t.hd.2.2 = []) ∧ (t.hd.1 = 3 ∨ t.kd = []) := by
  simp only [Tlv.bsz] at h
  split at h
  · simp at h
  · rename_i h0
    have h1 := (not_or.1 h0).2
    have h2 : Tlv.oeB t.hd.1 t.hd.2.1 t.hd.2.2.length t.kd.length = true := by simpa using h1
    have h3 := Tlv.oeB_iff.1 h2
    refine ⟨h3.1, h3.2.1.imp id List.length_eq_zero_iff.1, h3.2.2.imp id List.length_eq_zero_iff.1⟩

theorem same_leaf {a : Tr 8} {tag x : Int} {ys : List Int} : Tlv.sameT 8 a 1 (Tr.mk tag x ys []) = true ↔ a.hd = (tag, x, ys) ∧ a.kd = [] := by
  simp only [Tlv.sameT, Bool.and_eq_true, decide_eq_true_eq]
  refine ⟨fun h => ⟨h.1, ?_⟩, fun h => ⟨h.1, ?_⟩⟩
  · have := Tlv.sameL_len h.2
    exact List.length_eq_zero_iff.1 this
  · rw [h.2]; rfl

theorem same_rec {t : Tr 9} {a b c : Tr 8} (hk : t.kd = [a, b, c]) (hr : (Tlv.bsz 9 t 65535 8).2 = true) (k : Int) (nm bs : List Int) :
    Tlv.sameT 9 t 2 (recT k nm bs) = true ↔ t.hd.1 = 3 ∧ a.hd.1 = 1 ∧ a.hd.2.1 = k ∧ b.hd.1 = 2 ∧ b.hd.2.2 = nm ∧ c.hd.1 = 2 ∧ c.hd.2.2 = bs := by
  have e : Tlv.sameT 9 t 2 (recT k nm bs) = (decide (t.hd = (3, 0, [])) && Tlv.sameL (fun a b => Tlv.sameT 8 a 1 b) t.kd [Tr.mk 1 k [] [], Tr.mk 2 0 nm [], Tr.mk 2 0 bs []]) := rfl
  rw [e, hk]
  simp only [Tlv.sameL, Bool.and_eq_true, decide_eq_true_eq, same_leaf, and_true]
  have ht := bsz_oe hr
  constructor
  · rintro ⟨h1, ⟨h2, h3⟩, ⟨h4, h5⟩, h6, h7⟩
    exact ⟨by rw [h1], by rw [h2], by rw [h2], by rw [h4], by rw [h4], by rw [h6], by rw [h6]⟩
  · rintro ⟨h1, h2, h3, h4, h5, h6, h7⟩
    have hf := (Tlv.Rt.facts ⟨8, hr⟩).2.2.2 h1
    rw [hk] at hf
    obtain ⟨_, _, da, ra⟩ := hf a (by simp)
    obtain ⟨_, _, db, rb⟩ := hf b (by simp)
    obtain ⟨_, _, dc, rc⟩ := hf c (by simp)
    have oa := bsz_oe ra
    have ob := bsz_oe rb
    have oc := bsz_oe rc
    have p : ∀ (n : Nat) (u : Tr n) (x y : Int) (zs : List Int), u.hd.1 = x → u.hd.2.1 = y → u.hd.2.2 = zs → u.hd = (x, y, zs) := fun n u x y zs p q r => by rw [← p, ← q, ← r]
    refine ⟨p _ _ _ _ _ h1 (ht.1.resolve_left (by omega)) (ht.2.1.resolve_left (by omega)), ⟨p _ _ _ _ _ h2 h3 (oa.2.1.resolve_left (by omega)), oa.2.2.resolve_left (by omega)⟩, ⟨p _ _ _ _ _ h4 (ob.1.resolve_left (by omega)) h5, ob.2.2.resolve_left (by omega)⟩, p _ _ _ _ _ h6 (oc.1.resolve_left (by omega)) h7, oc.2.2.resolve_left (by omega)⟩

/-- What is copied into 32 bytes. -/
def pad32 (xs : List Int) : List Int := xs.take 32 ++ List.replicate (32 - xs.length) 0
theorem pad32_length (xs : List Int) : (pad32 xs).length = 32 := by simp [pad32]; omega
theorem pad32_same (xs : List Int) : xs = pad32 xs ↔ xs.length = 32 := by
  constructor
  · intro h; rw [h, pad32_length]
  · intro h; rw [pad32, h, List.take_of_length_le (by omega)]; simp

/-- The way the program goes: make the value anew, and look whether it is the same. -/
theorem recOf_eq {t : Tr 9} {a b c : Tr 8} (hk : t.kd = [a, b, c]) (hr : (Tlv.bsz 9 t 65535 8).2 = true) {k : Int} (h0 : 0 ≤ a.hd.2.1) (h1 : a.hd.2.1 ≤ 18446744073709551615) (hw : k = wrap64 a.hd.2.1) :
    recOf t = if rightB k c.hd.2.2.length = true ∧ Tlv.sameT 9 t 2 (recT k (pad32 b.hd.2.2) c.hd.2.2) = true then some (k, pad32 b.hd.2.2, c.hd.2.2) else none := by
  rw [recOf, hk]
  simp only [same_rec hk hr]
  have hwk : 1 ≤ k → k ≤ 9 → a.hd.2.1 = k := by
    intro a1 a2
    rw [hw] at a1 a2 ⊢
    unfold wrap64 at a1 a2 ⊢
    omega
  by_cases hc : t.hd.1 = 3 ∧ a.hd.1 = 1 ∧ b.hd.1 = 2 ∧ c.hd.1 = 2 ∧ b.hd.2.2.length = 32 ∧ 1 ≤ a.hd.2.1 ∧ a.hd.2.1 ≤ 9 ∧ c.hd.2.2.length ≤ 5000
  · obtain ⟨c1, c2, c3, c4, c5, c6, c7, c8⟩ := hc
    have hka : k = a.hd.2.1 := by rw [hw, IntWalk.wrap64_in _ ⟨by omega, by omega⟩]
    rw [if_pos ⟨c1, c2, c3, c4, c5, c6, c7, c8⟩, if_pos]
    · rw [hka, ← (pad32_same _).2 c5]
    · refine ⟨by simp [rightB]; omega, c1, c2, hka.symm, c3, (pad32_same _).2 c5, c4, trivial⟩
  · rw [if_neg hc, if_neg]
    rintro ⟨hr1, s1, s2, s3, s4, s5, s6, _⟩
    simp [rightB] at hr1
    exact hc ⟨s1, s2, s4, s6, (pad32_same _).1 s5, by omega, by omega, by omega⟩

/-- No record, but a fault. -/
def noRec (f : Int) : Int × (Int × List Int × List Int) × Nat := (f, (0, List.replicate 32 0, []), 0)
/-- What Take answers: the fault, the record, how many bytes. -/
def takeF (bs : List Int) : Int × (Int × List Int × List Int) × Nat :=
  match Tlv.rd 8 bs with
  | none => noRec 16
  | some (t, m) =>
    if bs.length - m < 4 then noRec 16
    else if sumI (bs.take m) ≠ (bs.drop m).take 4 then noRec 4
    else match recOf t with
      | none => noRec 3
      | some r => (0, r, m + 4)

theorem endOf_ge (bs : List Int) : 3 ≤ Tlv.endOf bs := by unfold Tlv.endOf; omega
theorem endOf_of {bs cs : List Int} (h1 : bs[1]? = cs[1]?) (h2 : bs[2]? = cs[2]?) : Tlv.endOf bs = Tlv.endOf cs := by
  unfold Tlv.endOf
  rw [List.getD_eq_getElem?_getD, List.getD_eq_getElem?_getD, List.getD_eq_getElem?_getD, List.getD_eq_getElem?_getD, h1, h2]
theorem endOf_take (bs : List Int) {E : Nat} (h3 : 3 ≤ E) : Tlv.endOf (bs.take E) = Tlv.endOf bs :=
  endOf_of (by rw [List.getElem?_take_of_lt (by omega)]) (by rw [List.getElem?_take_of_lt (by omega)])

theorem rd_short {bs : List Int} (h : bs.length < 3) : Tlv.rd 8 bs = none := by rw [Tlv.rd_eq, Tlv.rd1, if_pos h]
theorem rd_cut {bs : List Int} (h : bs.length < Tlv.endOf bs) : Tlv.rd 8 bs = none := by
  rw [Tlv.rd_eq, Tlv.rd1]
  by_cases h3 : bs.length < 3
  · rw [if_pos h3]
  · rw [if_neg h3, if_pos h]
theorem rd_end {bs : List Int} {t : Tr 9} {m : Nat} (h : Tlv.rd 8 bs = some (t, m)) : m = Tlv.endOf bs := by
  rw [Tlv.rd_eq, Tlv.rd1] at h
  split at h
  · simp at h
  · split at h
    · simp at h
    · simp only [Option.map_eq_some_iff, Prod.mk.injEq] at h
      obtain ⟨_, _, _, rfl⟩ := h
      rfl

/-- The form cut out by its own head. -/
theorem get_take {bs : List Int} (h3 : 3 ≤ bs.length) (hE : Tlv.endOf bs ≤ bs.length) : Tlv.getT (bs.take (Tlv.endOf bs)) = (Tlv.rd 8 bs).map Prod.fst := by
  have g3 := endOf_ge bs
  have hl : (bs.take (Tlv.endOf bs)).length = Tlv.endOf bs := by rw [List.length_take]; omega
  have e : Tlv.rd 8 (bs.take (Tlv.endOf bs)) = Tlv.rd 8 bs := by
    rw [Tlv.rd_eq, Tlv.rd_eq, Tlv.rd1, Tlv.rd1, endOf_take _ g3, hl, if_neg (by omega), if_neg (by omega), if_neg (by omega), if_neg (by omega), List.take_take, Nat.min_self]
    rw [List.getD_eq_getElem?_getD, List.getD_eq_getElem?_getD, List.getElem?_take_of_lt (by omega)]
  unfold Tlv.getT
  rw [e, hl]
  cases h : Tlv.rd 8 bs with
  | none => rfl
  | some x =>
    obtain ⟨t, m⟩ := x
    have := rd_end h
    simp [this]

theorem takeF_none {bs : List Int} (h : Tlv.rd 8 bs = none) : takeF bs = noRec 16 := by rw [takeF, h]
theorem takeF_some {bs : List Int} {t : Tr 9} {m : Nat} (h : Tlv.rd 8 bs = some (t, m)) : takeF bs = if bs.length - m < 4 then noRec 16
    else if sumI (bs.take m) ≠ (bs.drop m).take 4 then noRec 4
    else match recOf t with
      | none => noRec 3
      | some r => (0, r, m + 4) := by rw [takeF, h]

theorem takeF_pos {bs : List Int} (h : (takeF bs).1 = 0) : 4 ≤ (takeF bs).2.2 ∧ (takeF bs).2.2 ≤ bs.length := by
  cases hr : Tlv.rd 8 bs with
  | none => rw [takeF_none hr] at h; simp [noRec] at h
  | some x =>
    obtain ⟨t, m⟩ := x
    have hm := Tlv.rd_pos hr
    rw [takeF_some hr] at h ⊢
    by_cases h1 : bs.length - m < 4
    · rw [if_pos h1] at h; simp [noRec] at h
    · rw [if_neg h1] at h ⊢
      by_cases h2 : sumI (bs.take m) ≠ (bs.drop m).take 4
      · rw [if_pos h2] at h; simp [noRec] at h
      · rw [if_neg h2] at h ⊢
        cases hq : recOf t with
        | none => simp [hq, noRec] at h
        | some r => simp; omega

theorem takeF_nil : takeF [] = noRec 16 := takeF_none (rd_short (by simp))

/-- A record's frame, whatever is behind it. -/
theorem take_frame {k : Int} {nm bs : List Int} (h : RightR k nm bs) (rest : List Int) : takeF (frameR k nm bs ++ rest) = (0, (k, nm, bs), 49 + bs.length) := by
  have hl := formR_length h
  obtain ⟨t, hr, hs⟩ := Tlv.form_rd 2 8 (recT k nm bs) 65535 (sumI (formR k nm bs) ++ rest) (recT_num h.1 h.2.1) (by omega) (recT_right h)
  have e : frameR k nm bs ++ rest = formR k nm bs ++ (sumI (formR k nm bs) ++ rest) := by rw [frameR, sealI, List.append_assoc]
  have hr' : Tlv.rd 8 (formR k nm bs ++ (sumI (formR k nm bs) ++ rest)) = some (t, (formR k nm bs).length) := hr
  have hbt : (Tlv.bsz 9 t 65535 8).2 = true := by
    have hb : Tlv.rd 8 (formR k nm bs) = some (t, (formR k nm bs).length) := by
      obtain ⟨t2, hr2, _⟩ := Tlv.form_rd 2 8 (recT k nm bs) 65535 [] (recT_num h.1 h.2.1) (by omega) (recT_right h)
      have hr3 : Tlv.rd 8 (formR k nm bs ++ []) = some (t2, (formR k nm bs).length) := hr2
      rw [List.append_nil] at hr3
      have := Tlv.rd_append hr3 (sumI (formR k nm bs) ++ rest)
      rw [hr'] at this
      rw [hr3, this]
    exact (Tlv.rd_form 8 _ t _ (formR_bd h) hb).2
  have hrec : recOf t = some (k, nm, bs) := by
    have e1 : Tlv.sameT 9 t 2 (recT k nm bs) = (decide (t.hd = (3, 0, [])) && Tlv.sameL (fun a b => Tlv.sameT 8 a 1 b) t.kd [Tr.mk 1 k [] [], Tr.mk 2 0 nm [], Tr.mk 2 0 bs []]) := rfl
    have hs2 := hs
    rw [e1, Bool.and_eq_true] at hs2
    have hlen := Tlv.sameL_len hs2.2
    match hk : t.kd, hlen with
    | [a, b, c], _ =>
      obtain ⟨s1, s2, s3, s4, s5, s6, s7⟩ := (same_rec hk hbt k nm bs).1 hs
      obtain ⟨g1, g2, g3, g4, _, _⟩ := h
      rw [recOf, hk]
      simp only []
      rw [if_pos ⟨s1, s2, s4, s6, by rw [s5]; exact g4, by omega, by omega, by rw [s7]; exact g3⟩, s3, s5, s7]
  rw [e, takeF_some hr', hrec]
  have h4 := sumI_length (formR k nm bs)
  have hf : ¬ (formR k nm bs ++ (sumI (formR k nm bs) ++ rest)).length - (formR k nm bs).length < 4 := by simp [h4]
  have ht : (formR k nm bs ++ (sumI (formR k nm bs) ++ rest)).take (formR k nm bs).length = formR k nm bs := by rw [List.take_left']; rfl
  have hd : ((formR k nm bs ++ (sumI (formR k nm bs) ++ rest)).drop (formR k nm bs).length).take 4 = sumI (formR k nm bs) := by rw [List.drop_left' rfl, List.take_left' h4]
  rw [if_neg hf, ht, hd, if_neg (fun h => h rfl)]
  simp only [hl]
  congr 2
  omega

/-- A frame that is cut off. -/
theorem take_cut {k : Int} {nm bs : List Int} (h : RightR k nm bs) {c : Nat} (hc : c < 49 + bs.length) : takeF ((frameR k nm bs).take c) = noRec 16 := by
  have hl := formR_length h
  by_cases h1 : c < (formR k nm bs).length
  · have e : (frameR k nm bs).take c = (formR k nm bs).take c := by rw [frameR, sealI, List.take_append_of_le_length (by omega)]
    rw [e]
    exact takeF_none (Tlv.cut_none (recT_num h.1 h.2.1) (recT_right h) h1)
  · have e : (frameR k nm bs).take c = formR k nm bs ++ (sumI (formR k nm bs)).take (c - (formR k nm bs).length) := by
      rw [frameR, sealI, List.take_append, List.take_of_length_le (by omega)]
    obtain ⟨t, hr, _⟩ := Tlv.form_rd 2 8 (recT k nm bs) 65535 ((sumI (formR k nm bs)).take (c - (formR k nm bs).length)) (recT_num h.1 h.2.1) (by omega) (recT_right h)
    have hr' : Tlv.rd 8 (formR k nm bs ++ (sumI (formR k nm bs)).take (c - (formR k nm bs).length)) = some (t, (formR k nm bs).length) := hr
    rw [e, takeF_some hr', if_pos]
    have h4 := sumI_length (formR k nm bs)
    simp [h4]
    omega

end Go.Proofs.Ythbhdbjjobfchaa
