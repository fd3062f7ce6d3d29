/- Of the proof: the texts PkRef, SimMap, SimRep, SimLook, SimTell, SimUsed, SimDo, SimStep, one behind the other. -/
import Derived.Test.YtophnjcoaglbnaaGreatDoorB1
import Derived.Test.YtophnjcoaglbnaaGreatDoorSimShelf
import Derived.Maps.RangeWalk
import Derived.Maps.Ext
import Derived.Sort.OwnSorted
section
/-
  The document's names, and ids.
-/
namespace Go.Proofs.YtophnjcoaglbnaaGreatDoor
open Go.RowKit Go.Shelf
open Sim (hid byt sidx take_byt len_data mem_byt)

theorem rright_any (z : Int) (w : World) : Calls Tryz.prog 16 #[.int .i64 z] w fun e w' => e = .returned (.bool (idB z)) ∧ w' = w := by
  by_cases h1 : 1 ≤ z
  · by_cases h2 : z ≤ 999999
    · go_enter Tryz.func16, Tryz.ntmps16
      go_wp2
      go_ret
      exact ⟨by simp [idB, h1, h2], rfl⟩
    · have h2' : 999999 < z := by omega
      go_enter Tryz.func16, Tryz.ntmps16
      go_wp2
      go_ret
      exact ⟨by simp [idB, h1, h2], rfl⟩
  · have h1' : z < 1 := by omega
    go_enter Tryz.func16, Tryz.ntmps16
    go_wp2
    go_ret
    exact ⟨by rw [idB, decide_eq_false (show ¬ 1 ≤ z by omega), Bool.false_and]; rfl, rfl⟩

def packB : ByteArray := ⟨#[112, 97, 99, 107, 46]⟩
def tmpB : ByteArray := ⟨#[116, 109, 112, 46]⟩

set_option maxHeartbeats 1000000 in
theorem rname_any (z : Int) (w : World) : Calls Tryz.prog 13 #[.int .i64 z] w fun e w' => e = .returned (.string (nameZ packB z)) ∧ Below w.heap.size w w' := by
  have HR := hid (rright_any z w)
  cases hi : idB z with
  | false =>
    rw [hi] at HR
    have e : nameZ packB z = ⟨#[]⟩ := by rw [nameZ, hi]; rfl
    rw [e]
    clear hi e
    go_enter Tryz.func13, Tryz.ntmps13
    go_wp2_with (go_at_call 16; refine HR.out.mono ?_; rintro e w1 ⟨rfl, h⟩; subst w1)
    go_ret
    exact ⟨rfl, Below.refl _ _⟩
  | true =>
    rw [hi] at HR
    obtain ⟨u, rfl⟩ : ∃ u : Nat, z = u := ⟨z.toNat, by have : 1 ≤ z ∧ z ≤ 999999 := (by simpa [idB] using hi); omega⟩
    have hu : 1 ≤ u ∧ u ≤ 999999 := by simp [idB] at hi; omega
    rw [nameZ_of hu.1 hu.2]
    have HD := hid (decimal_any u hu.2 w)
    have hl := dec_six hu.2
    have hsz : ¬ 9223372036854775807 < 5 + (Lib.decDigits u).length := by omega
    clear hi
    go_enter Tryz.func13, Tryz.ntmps13
    go_wp2_with (first | (go_at_call 16; refine HR.out.mono ?_; rintro e w1 ⟨rfl, h⟩; subst w1) | (go_at_call 50; refine HD.out.mono ?_; rintro e w1 ⟨rfl, h⟩; have HB := hid h; clear h))
    go_ret
    exact ⟨rfl, HB.out⟩
set_option maxHeartbeats 1000000 in
theorem rtemp_any (z : Int) (w : World) : Calls Tryz.prog 15 #[.int .i64 z] w fun e w' => e = .returned (.string (nameZ tmpB z)) ∧ Below w.heap.size w w' := by
  have HR := hid (rright_any z w)
  cases hi : idB z with
  | false =>
    rw [hi] at HR
    have e : nameZ tmpB z = ⟨#[]⟩ := by rw [nameZ, hi]; rfl
    rw [e]
    clear hi e
    go_enter Tryz.func15, Tryz.ntmps15
    go_wp2_with (go_at_call 16; refine HR.out.mono ?_; rintro e w1 ⟨rfl, h⟩; subst w1)
    go_ret
    exact ⟨rfl, Below.refl _ _⟩
  | true =>
    rw [hi] at HR
    obtain ⟨u, rfl⟩ : ∃ u : Nat, z = u := ⟨z.toNat, by have : 1 ≤ z ∧ z ≤ 999999 := (by simpa [idB] using hi); omega⟩
    have hu : 1 ≤ u ∧ u ≤ 999999 := by simp [idB] at hi; omega
    rw [nameZ_of hu.1 hu.2]
    have HD := hid (decimal_any u hu.2 w)
    have hl := dec_six hu.2
    have hsz : ¬ 9223372036854775807 < 4 + (Lib.decDigits u).length := by omega
    clear hi
    go_enter Tryz.func15, Tryz.ntmps15
    go_wp2_with (first | (go_at_call 16; refine HR.out.mono ?_; rintro e w1 ⟨rfl, h⟩; subst w1) | (go_at_call 50; refine HD.out.mono ?_; rintro e w1 ⟨rfl, h⟩; have HB := hid h; clear h))
    go_ret
    exact ⟨rfl, HB.out⟩

/-! ### The document's ID -/
theorem name_data {u : Nat} (h1 : 1 ≤ u) (h2 : u ≤ 999999) : (nameZ packB (u : Int)).data.toList = packB.data.toList ++ Lib.decDigits u := by rw [nameZ_of h1 h2, app_data]
/-- It is no pack's name. -/
def NoId (s : ByteArray) : Prop := ∀ u : Nat, 1 ≤ u → u ≤ 999999 → nameZ packB (u : Int) ≠ s
theorem noId_of {s : ByteArray} (h : NoId s) : idOf packB s = (0, false) := idOf_eq (by decide) (0, false) (fun h => by cases h) (fun _ => ⟨rfl, h⟩)
theorem noId_len {s : ByteArray} (h : s.size < 6 ∨ 11 < s.size) : NoId s := fun u h1 h2 e => by
  have := congrArg (fun b : ByteArray => b.data.toList.length) e
  simp only [name_data h1 h2, List.length_append] at this
  rw [len_data s] at this
  have h5 : packB.data.toList.length = 5 := rfl
  have := dec_pos u
  have := dec_six h2
  omega
theorem noId_pre {s : ByteArray} (h : s.data.toList.take 5 ≠ packB.data.toList) : NoId s := fun u h1 h2 e => by
  apply h
  rw [← e, name_data h1 h2]
  exact List.take_left' rfl
theorem noId_dig {s : ByteArray} {c : UInt8} (h5 : c ∈ s.data.toList.drop 5) (h : digB c = false) : NoId s := fun u h1 h2 e => by
  rw [← e, name_data h1 h2, List.drop_left' (show packB.data.toList.length = 5 from rfl)] at h5
  have := dec_digs u c h5
  rw [h] at this
  cases this
theorem noId_val {s : ByteArray} (h : nameZ packB (valD 0 (s.data.toList.drop 5) : Nat) ≠ s) : NoId s := fun u h1 h2 e => by
  apply h
  have hd : s.data.toList.drop 5 = Lib.decDigits u := by rw [← e, name_data h1 h2, List.drop_left' (show packB.data.toList.length = 5 from rfl)]
  rw [hd, dec_val]
  exact e
theorem isId_val {s : ByteArray} {v : Nat} (h : nameZ packB (v : Int) = s) (h6 : 6 ≤ s.size) : idOf packB s = ((v : Int), true) := by
  have hid1 : idB (v : Int) = true := by
    cases hi : idB (v : Int) with
    | true => rfl
    | false =>
      rw [nameZ, hi, if_neg (by simp)] at h
      rw [← h] at h6
      have : (⟨#[]⟩ : ByteArray).size = 0 := rfl
      omega
  have hv : 1 ≤ v ∧ v ≤ 999999 := by simp [idB] at hid1; omega
  rw [← h]
  exact idOf_name hv.1 hv.2

set_option maxHeartbeats 4000000 in
set_option maxRecDepth 100000 in
theorem rid_any (s : ByteArray) (hs : s.size ≤ 1000000) (w : World) : Calls Tryz.prog 11 #[.string s] w fun e w' => e = .returned (.tuple #[.int .i64 (idOf packB s).1, .bool (idOf packB s).2]) ∧ Below w.heap.size w w' := by
  by_cases h1 : s.size < 6
  · rw [noId_of (noId_len (.inl h1))]
    have h1' : (s.size : Int) < 6 := by omega
    go_enter Tryz.func11, Tryz.ntmps11
    go_wp2
    go_ret2
    exact ⟨rfl, Below.refl _ _⟩
  · have h1' : ¬ (s.size : Int) < 6 := by omega
    by_cases h2 : 11 < s.size
    · rw [noId_of (noId_len (.inr h2))]
      have h2' : (11 : Int) < (s.size : Int) := by omega
      go_enter Tryz.func11, Tryz.ntmps11
      go_wp2
      go_ret2
      exact ⟨rfl, Below.refl _ _⟩
    · have h2' : ¬ (11 : Int) < (s.size : Int) := by omega
      have hpre : (s.extract 0 5).toList = s.data.toList.take 5 := by rw [ByteArray.toList_eq, ByteArray.data_extract, Array.toList_extract]; rfl
      by_cases h3 : s.data.toList.take 5 = packB.data.toList
      · have h3' : ((s.extract 0 5).toList == [112, 97, 99, 107, 46]) = true := by rw [hpre, h3]; rfl
        have HPR := hid h3
        have hd5 : s.data.toList.drop 5 = s.data.toList.drop 5 := rfl
        clear hpre h3 hd5
        go_enter Tryz.func11, Tryz.ntmps11
        go_wp2_with fail
        go_loopw [4, 5] (fun n x wr => ∃ (i : Nat), x = .int .i64 (i : Int) ∧ 5 ≤ i ∧ i ≤ s.size ∧ n = .int .i64 ((valD 0 ((s.data.toList.take i).drop 5) : Nat) : Int) ∧ Hid (((s.data.toList.take i).drop 5).all digB = true) ∧ wr = w) (fun _ x _ => s.size - (intOf x).toNat)
        case atStart => exact ⟨5, rfl, by omega, by omega, by rw [List.drop_take, Nat.sub_self, List.take_zero]; rfl, by rw [Hid, List.drop_take, Nat.sub_self, List.take_zero]; rfl, rfl⟩
        case round =>
          obtain ⟨i, rfl, h5i, hi, rfl, HI, rfl⟩ := hrel
          by_cases hlt : i < s.size
          · have hx := sidx s i hlt
            have hT := take_byt s i hlt
            have hM : Hid (s.data.toList.getD i 0 ∈ s.data.toList.drop 5) := by
              have h' : i < s.data.toList.length := by rw [len_data]; exact hlt
              rw [Hid, List.getD_eq_getElem?_getD, List.getElem?_eq_getElem h', Option.getD_some]
              rw [List.mem_iff_getElem?]
              exact ⟨i - 5, by rw [List.getElem?_drop, show 5 + (i - 5) = i by omega, List.getElem?_eq_getElem h']⟩
            have hlen5 : 5 ≤ (s.data.toList.take i).length := by rw [List.length_take, len_data]; omega
            obtain ⟨c, hc1, hc2⟩ : ∃ c, s.data.toList.getD i 0 = c ∧ byt s i = c.toNat := ⟨_, rfl, rfl⟩
            rw [hc1] at hT hM
            rw [hc2] at hx
            have HV : Hid (valD 0 ((s.data.toList.take (i + 1)).drop 5) = valD 0 ((s.data.toList.take i).drop 5) * 10 + (c.toNat - 48)) := by
              rw [Hid, hT, List.drop_append_of_le_length hlen5, valD_append]
              rfl
            have HA : Hid (digB c = true → ((s.data.toList.take (i + 1)).drop 5).all digB = true) := fun hd => by
              rw [hT, List.drop_append_of_le_length hlen5, List.all_append, HI.out]
              simp [hd]
            have HVL : Hid (valD 0 ((s.data.toList.take i).drop 5) < 1000000) := by
              have h1 := valD_le _ 0 HI.out
              have h2 : ((s.data.toList.take i).drop 5).length ≤ 6 := by rw [List.length_drop, List.length_take, len_data]; omega
              have h3 : 10 ^ ((s.data.toList.take i).drop 5).length ≤ 10 ^ 6 := Nat.pow_le_pow_right (by omega) h2
              have e : (10 : Nat) ^ 6 = 1000000 := by decide
              rw [Hid]
              omega
            clear hT hc1 hc2 hlen5
            have hcl : c.toNat < 256 := UInt8.toNat_lt _
            have hdg : Hid (digB c = (decide (48 ≤ c.toNat) && decide (c.toNat ≤ 57))) := rfl
            have hvl := HVL.out
            generalize valD 0 ((s.data.toList.take i).drop 5) = v at *
            generalize c.toNat = n at hx hcl hdg HV
            by_cases g1 : n < 48
            · have g1' : (n : Int) < 48 := by omega
              have HNO := hid (noId_of (noId_dig hM.out (by rw [hdg.out, decide_eq_false (by omega)]; rfl)))
              go_wp2
              go_ret2
              exact ⟨by rw [HNO.out]; rfl, Below.refl _ _⟩
            · have g1' : ¬ (n : Int) < 48 := by omega
              by_cases g2 : 57 < n
              · have g2' : (57 : Int) < n := by omega
                have HNO := hid (noId_of (noId_dig hM.out (by rw [hdg.out, decide_eq_false (p := n ≤ 57) (by omega), Bool.and_false])))
                go_wp2
                go_ret2
                exact ⟨by rw [HNO.out]; rfl, Below.refl _ _⟩
              · have g2' : ¬ (57 : Int) < n := by omega
                have HD := hid (HA.out (by rw [hdg.out, decide_eq_true (by omega), decide_eq_true (by omega)]; rfl))
                have w1 : IntKind.u8.wrap ((n : Int) - 48) = (n : Int) - 48 := by rw [IntKind.wrap_u8]; omega
                have w2 : IntKind.i64.wrap ((n : Int) - 48) = (n : Int) - 48 := by rw [IntKind.wrap_i64]; omega
                have w3 : IntKind.i64.wrap ((v : Int) * 10) = (v : Int) * 10 := by rw [IntKind.wrap_i64]; omega
                have w4 : IntKind.i64.wrap ((v : Int) * 10 + ((n : Int) - 48)) = (v : Int) * 10 + ((n : Int) - 48) := by rw [IntKind.wrap_i64]; omega
                go_wp2
                go_roundw
                case rel => exact ⟨i + 1, by go_num, by omega, by omega, by rw [HV.out]; congr 1; omega, HD.out, by first | rfl | trivial⟩
                case measure => simp [intOf]; omega
          · have htk : s.data.toList.take i = s.data.toList := List.take_of_length_le (by rw [len_data]; omega)
            rw [htk]
            have HRN := hid (rname_any (valD 0 (s.data.toList.drop 5) : Nat) wr)
            have h6 : 6 ≤ s.size := by omega
            by_cases hq : nameZ packB (valD 0 (s.data.toList.drop 5) : Nat) = s
            · have HID := hid (isId_val hq h6)
              rw [hq] at HRN
              have heq : (s.toList == s.toList) = true := by simp
              clear hq HI htk
              generalize valD 0 (s.data.toList.drop 5) = v at *
              go_wp2_with (go_at_call 13; refine HRN.out.mono ?_; rintro e w1 ⟨rfl, h⟩; have HB := hid h; clear h)
              go_ret2
              exact ⟨by rw [HID.out]; rfl, HB.out⟩
            · have HID := hid (noId_of (noId_val hq))
              have heq : ((nameZ packB (valD 0 (s.data.toList.drop 5) : Nat)).toList == s.toList) = false := by
                rw [beq_eq_false_iff_ne, ByteArray.toList_eq, ByteArray.toList_eq]
                exact fun e => hq (bytes_inj e)
              clear hq HI htk
              generalize nameZ packB (valD 0 (s.data.toList.drop 5) : Nat) = nz at *
              generalize valD 0 (s.data.toList.drop 5) = v at *
              go_wp2_with (go_at_call 13; refine HRN.out.mono ?_; rintro e w1 ⟨rfl, h⟩; have HB := hid h; clear h)
              go_ret2
              exact ⟨by rw [HID.out]; rfl, HB.out⟩
      · have h3' : ((s.extract 0 5).toList == [112, 97, 99, 107, 46]) = false := by rw [hpre, beq_eq_false_iff_ne]; exact h3
        rw [noId_of (noId_pre h3)]
        clear hpre h3
        go_enter Tryz.func11, Tryz.ntmps11
        go_wp2
        go_ret2
        exact ⟨rfl, Below.refl _ _⟩

end Go.Proofs.YtophnjcoaglbnaaGreatDoor
end

section
/-
  A directory in memory: a map from names to files; looked at, written, copied, its names.
-/
namespace Go.Proofs.YtophnjcoaglbnaaGreatDoor.Sim
open Go.RowKit Go.Maps Go.Sort Go.Shelf

/-- How a pointer to a file reads: its block. -/
def ptrR (v : Value) : Option (DD × List MemPlace) :=
  match v with
  | .pointer (some a) => if a.off = 0 ∧ a.spot = none then some (fileD a.block, []) else none
  | .pointer none => some (.nil, [])
  | _ => none
def ptrV (b : Option Nat) : Value := .pointer (b.map fun x => ⟨x, 0, none⟩)
theorem ptrR_some (b : Nat) : ptrR (.pointer (some ⟨b, 0, none⟩)) = some (fileD b, []) := rfl
theorem ptrR_inv {v : Value} {y : DD × List MemPlace} (h : ptrR v = some y) : ∃ c, v = ptrV c ∧ y = (match c with | some b => fileD b | none => .nil, []) := by
  unfold ptrR at h
  split at h
  · rename_i a
    split at h
    · rename_i ha
      obtain ⟨bl, off, spot⟩ := a
      obtain ⟨h1, h2⟩ := ha
      simp at h1 h2
      subst h1 h2
      cases h
      exact ⟨some bl, rfl, rfl⟩
    · cases h
  · cases h
    exact ⟨none, rfl, rfl⟩
  · cases h
theorem fileD_inj {a b : Nat} (h : fileD a = fileD b) : a = b := by
  unfold fileD at h
  simp at h
  omega

theorem Tryz.keyed : Keyed Tryz.prog 9 := string_keyed Tryz.underlying9
theorem Tryz.key (n : Nm) (h : n.length ≤ 1000000) : keyOf Tryz.prog 9 (encStr n) = some (.string n) := by
  have h1 : (⟨n.toArray⟩ : ByteArray).size ≤ maxLen := by
    have : (⟨n.toArray⟩ : ByteArray).size = n.length := by simp [ByteArray.size]
    rw [this]; unfold maxLen; omega
  have := Go.WideMaps.keyOf_string_mk (P := Tryz.prog) (k := 9) Tryz.underlying9 h1
  simpa using this
theorem Tryz.zeroP (w : World) : (zeroValue 129).run Tryz.prog w = .ok (.pointer none) w := by kernel_rfl

/-- Block b is a map that is the directory l. -/
def MapAt (w : World) (b : Nat) (l : Dir) : Prop := w.ownsMap Tryz.prog 9 ptrR b l.length (dirD l)
theorem MapAt.of {w : World} {b n : Nat} {l : Dir} (h : w.ownsMap Tryz.prog 9 ptrR b n (dirD l)) : MapAt w b l := by
  obtain ⟨es, clock, hb, F, hs, hD⟩ := h
  refine ⟨es, clock, hb, F, ?_, hD⟩
  have h1 : Maps.size (dirD l) = es.size := by rw [hD]; simp [Maps.size, length_sorted]
  rw [dirD_size] at h1
  omega
theorem MapAt.lt {w : World} {b : Nat} {l : Dir} (h : MapAt w b l) : b < w.heap.size := World.ownsMap.lt h
theorem MapAt.kp {L : Nat → Prop} {w w' : World} {b : Nat} {l : Dir} (h : MapAt w b l) (k : Kp L w w') (hb : ¬ L b) : MapAt w' b l := by
  have hlt := h.lt
  obtain ⟨es, clock, h1, r⟩ := h
  exact ⟨es, clock, (k.block b hlt hb).trans h1, r⟩
theorem MapAt.ris {w : World} {b : Nat} {l : Dir} (h : MapAt w b l) : Ris l := ris_of_canon (World.ownsMap.canon h Tryz.keyed)
theorem MapAt.blk {w : World} {b b' : Nat} {l : Dir} {t : TypeId} {cs : List Value} (h : MapAt w b l) (h' : Blk w b' t cs) : b ≠ b' := by
  intro e
  subst e
  obtain ⟨es, clock, h1, _⟩ := h
  unfold Blk at h'
  rw [h1] at h'
  cases h'
theorem MapAt.row {w : World} {b : Nat} {l : Dir} {e : TypeId} {sz n : Nat} {v : Value} {xs : List Value} (h : MapAt w b l) (h' : Row w e sz v n xs) : v.ownBlock ≠ some b := by
  obtain ⟨es, clock, h1, _⟩ := h
  rcases h'.2 with ⟨rfl, _⟩ | ⟨g, cap, cur, rfl, _, hgg, _⟩
  · simp [Value.ownBlock]
  · intro hx
    simp [Value.ownBlock] at hx
    subst hx
    rw [h1] at hgg
    cases hgg
theorem MapAt.new (w : World) : MapAt (w.alloc (.map #[] 0)) w.heap.size [] := World.ownsMap_made _ _ _ _

theorem MapAt.look {w : World} {b : Nat} {l : Dir} (h : MapAt w b l) (n : Nm) (hn : n.length ≤ 1000000) : (Instr.lookup 95 (.map (some b)) (encStr n) false).run Tryz.prog w = .ok (ptrV (dfind l n)) w := by
  obtain ⟨v, ps, hrun, hv⟩ := World.ownsMap.lookup h Tryz.keyed Tryz.underlying95 (Tryz.zeroP w) (zd := .nil) (zp := []) rfl (Tryz.key n hn)
  rw [dirD_at] at hv
  obtain ⟨c, rfl, hc⟩ := ptrR_inv hv
  have e : c = dfind l n := by
    cases hd : dfind l n with
    | none =>
      rw [hd] at hc
      cases c with
      | none => rfl
      | some x => simp [fileD] at hc
    | some y =>
      rw [hd] at hc
      cases c with
      | none => simp [fileD] at hc
      | some x =>
        simp only [Prod.mk.injEq] at hc
        rw [fileD_inj hc.1]
  rw [hrun, e]
theorem look_nil (w : World) (n : Nm) (hn : n.length ≤ 1000000) : (Instr.lookup 95 (.map none) (encStr n) false).run Tryz.prog w = .ok (.pointer none) w := by
  have := Maps.look_nil (w := w) false Tryz.keyed Tryz.underlying95 (Tryz.zeroP w) (Tryz.key n hn)
  simpa using this

/-- A directory, made or not. -/
def MapV (w : World) (v : Value) (l : Dir) : Prop := (v = .map none ∧ l = []) ∨ ∃ b, v = .map (some b) ∧ MapAt w b l
theorem MapV.look {w : World} {v : Value} {l : Dir} (h : MapV w v l) (n : Nm) (hn : n.length ≤ 1000000) : (Instr.lookup 95 v (encStr n) false).run Tryz.prog w = .ok (ptrV (dfind l n)) w := by
  rcases h with ⟨rfl, rfl⟩ | ⟨b, rfl, h⟩
  · exact look_nil w n hn
  · exact h.look n hn

/-! ### Written -/
section
variable (w : World) {ops : Array Oper} {rest : List Oper} {o : Oper} {a : Act} {Q : Exit → Act → World → Prop}
theorem wp_store (hg : o.guard = none) (m x v : Operand) (hop : o.op = Op.mapUpdate 95 m x v) (b f : Nat) (l : Dir) (n : Nm) (hm : a.eval m = .map (some b)) (hx : a.eval x = encStr n) (hv : a.eval v = .pointer (some ⟨f, 0, none⟩))
    (h : MapAt w b l) (hn : n.length ≤ 1000000) (hl : l.length ≤ 1000000) (hK : ∀ w', MapAt w' b (dput l n f) → Kp (· = b) w w' → w'.heap.size = w.heap.size → wpList Tryz.prog ops Q rest (a.put o.dst undef) w') : wpList Tryz.prog ops Q (o :: rest) a w := by
  refine wpList_plain hg fun K' hK' => ?_
  obtain ⟨w', hrun, r1, r2⟩ := World.ownsMap.store h Tryz.keyed Tryz.underlying95 (by unfold maxLen; omega) (Tryz.key n hn) (ptrR_some f)
  unfold Oper.wp
  simp [execOp, hop, hm, hx, hv, hrun, Result.andThen]
  rw [dirD_put] at r1
  refine hK' _ _ (hK w' (MapAt.of r1) ((Kp.refl _ _).grown r2.grown (fun x hx => .inl (by simpa using hx.symm))) ?_)
  obtain ⟨es, clock, es', clock', _, rfl⟩ := r2
  simp [ChangeMaps.setBlock]
theorem wp_drop (hg : o.guard = none) (m x : Operand) (hop : o.op = Op.call { callee := Callee.builtin Builtin.delete, args := #[m, x], argTypes := #[95, 9] }) (b : Nat) (l : Dir) (n : Nm) (hm : a.eval m = .map (some b)) (hx : a.eval x = encStr n)
    (h : MapAt w b l) (hn : n.length ≤ 1000000) (hK : ∀ w', MapAt w' b (ddel l n) → Kp (· = b) w w' → w'.heap.size = w.heap.size → wpList Tryz.prog ops Q rest (a.put o.dst (.tuple #[])) w') : wpList Tryz.prog ops Q (o :: rest) a w := by
  refine wpList_plain hg fun K' hK' => ?_
  obtain ⟨w', hrun, r1, r2⟩ := World.ownsMap.drop h Tryz.keyed Tryz.underlying95 (Tryz.key n hn) o.type
  unfold Oper.wp
  simp [execOp, hop, resolve, invoke, builtin, hm, hx, hrun, Result.andThen]
  rw [dirD_del] at r1
  refine hK' _ _ (hK w' (MapAt.of r1) ((Kp.refl _ _).grown r2.grown (fun x hx => .inl (by simpa using hx.symm))) ?_)
  obtain ⟨es, clock, es', clock', _, rfl⟩ := r2
  simp [ChangeMaps.setBlock]
end

/-! ### maps.Clone -/
theorem mclone_any (w : World) (b : Nat) (l : Dir) (h : MapAt w b l) : Calls Tryz.prog 62 #[.map (some b)] w fun e w' => e = .returned (.map (some w.heap.size)) ∧ MapAt w' w.heap.size l ∧ MapAt w' b l ∧ Kp No w w' ∧ w'.heap.size = w.heap.size + 1 := by
  obtain ⟨es, clock, hb, F, hs, hD⟩ := h
  have hlt : b < w.heap.size := (Array.getElem?_eq_some_iff.1 hb).1
  have hcon := AnyW.maps_Clone Tryz.cloneM b es clock w hb
  refine hcon.mono ?_
  rintro e w' ⟨rfl, rfl⟩
  exact ⟨rfl, ⟨es, clock, (MapKept.heap_alloc w _).1, F, hs, hD⟩, ⟨es, clock, (Below.heap_alloc _ _ b hlt).trans hb, F, hs, hD⟩, (Kp.refl _ _).alloc _, by simp⟩
theorem mclone_nil (w : World) : Calls Tryz.prog 62 #[.map none] w fun e w' => e = .returned (.map none) ∧ w' = w := AnyW.maps_Clone_nil Tryz.cloneM w
theorem mclone_v (w : World) (v : Value) (l : Dir) (h : MapV w v l) : Calls Tryz.prog 62 #[v] w fun e w' => ∃ v', e = .returned v' ∧ ((v = .map none ∧ v' = .map none ∧ w' = w) ∨ ∃ b, v = .map (some b) ∧ v' = .map (some w.heap.size) ∧ MapAt w' w.heap.size l) ∧ Kp No w w' := by
  rcases h with ⟨rfl, rfl⟩ | ⟨b, rfl, h⟩
  · refine (mclone_nil w).mono ?_
    rintro e w' ⟨rfl, rfl⟩
    exact ⟨_, rfl, .inl ⟨rfl, rfl, rfl⟩, Kp.refl _ _⟩
  · refine (mclone_any w b l h).mono ?_
    rintro e w' ⟨rfl, h1, _, h3, _⟩
    exact ⟨_, rfl, .inr ⟨b, rfl, rfl, h1⟩, h3⟩

/-! ### Names, rising -/
theorem bb_lt : ∀ (a b : List UInt8), bytesBefore a b = true → a < b
  | [], [], h => by simp [bytesBefore] at h
  | [], _ :: _, _ => List.nil_lt_cons _ _
  | _ :: _, [], h => by simp [bytesBefore] at h
  | x :: r, y :: s, h => by
    rw [List.cons_lt_cons_iff]
    simp [bytesBefore] at h
    rcases h with h | ⟨h1, h2⟩
    · exact .inl h
    · exact .inr ⟨h1, bb_lt r s h2⟩
theorem sorted_names {l : Dir} (h : Ris l) : (l.map (·.1)).mergeSort leB = l.map (·.1) := by
  refine List.mergeSort_of_pairwise ?_
  rw [List.pairwise_map]
  refine List.Pairwise.imp ?_ h
  intro a b hab
  simp only [leB, decide_eq_true_eq]
  exact List.le_of_lt (bb_lt _ _ hab)

theorem Tryz.sorts (m : Nat) : AnyZ.SortsIn Tryz.prog Tryz.sorted_ren Fence.wide m :=
  ⟨fun blk off cap ss W hH hblk hsz => callsIn_wide.2 (AnyM.slices_Sort_string Tryz.sort blk off cap ss W hH hblk hsz),
   fun p cap W => callsIn_wide.2 (AnyM.slices_Sort_string_none Tryz.sort p cap W)⟩
theorem Tryz.maps_Keys (mb : Option Nat) (W : World) : CallsIn Fence.wide 5 Tryz.prog 102 #[.map mb] W fun e w' => e = .returned (.func (.func 135) #[] #[.pointer (some ⟨W.heap.size, 0, none⟩)]) ∧ w' = W.alloc (.cells #[.map mb] 95) :=
  AnyZ.keys_in Tryz.keys Fence.wide 5 trivial rfl mb W

set_option maxHeartbeats 1000000 in
theorem Tryz.sorted_keys (b nn : Nat) (D0 : DD) (R : Value → Option (DD × List MemPlace)) (w : World) (hown : w.ownsMap Tryz.prog 9 R b nn D0) (hmax : Maps.size D0 ≤ maxLen) (hbytes : Maps.size D0 * 16 ≤ 140737488355328) :
    CallsIn Fence.wide 5 Tryz.prog 101 #[.func (.func 135) #[] #[.pointer (some ⟨w.heap.size, 0, none⟩)]] (w.alloc (.cells #[.map (some b)] 95)) fun e w' => ∃ (v : Value) (ss : List (List UInt8)), e = .returned v ∧ ss.Perm (strKeys D0) ∧
      w'.ownsRow (w.alloc (.cells #[.map (some b)] 95)).heap.size 9 1 v ss.length ((ss.mergeSort (fun x y => decide (x ≤ y))).map encStr) ∧ (v = .slice none 0 0 ↔ ss = []) ∧ Below (w.alloc (.cells #[.map (some b)] 95)).heap.size (w.alloc (.cells #[.map (some b)] 95)) w' := by
  have hbl := hown.lt
  have hseq : SeqGives Fence.wide 2 Tryz.prog 135 #[.pointer (some ⟨w.heap.size, 0, none⟩)] encStr (fun ss => ss.Perm (strKeys D0)) (Maps.size D0) (w.alloc (.cells #[.map (some b)] 95)) :=
    AnyZ.keys_gives (ρ := Tryz.keys_ren) { Tryz.keys with } Fence.wide _ trivial rfl (by omega) w.heap.size b nn D0 _ (by simp) (by simp) (by
      obtain ⟨es, clock, hb, Ft, hs, hD⟩ := hown
      exact ⟨es, clock, (Below.heap_alloc _ _ b hbl).trans hb, Ft, hs, hD⟩)
  exact AnyZ.sorted_in Tryz.sorted Fence.wide 5 trivial trivial trivial trivial rfl (by omega) (Tryz.sorts _) (enters_of Tryz.func134 (by kernel_rfl) rfl) 135 #[.pointer (some ⟨w.heap.size, 0, none⟩)] trivial (enters_of Tryz.func135 (by kernel_rfl) rfl) _ _ hmax hbytes _ hseq

set_option maxHeartbeats 1000000 in
theorem Tryz.sorted_nil (w : World) :
    CallsIn Fence.wide 5 Tryz.prog 101 #[.func (.func 135) #[] #[.pointer (some ⟨w.heap.size, 0, none⟩)]] (w.alloc (.cells #[.map none] 95)) fun e w' => ∃ (v : Value) (ss : List (List UInt8)), e = .returned v ∧ ss = [] ∧
      w'.ownsRow (w.alloc (.cells #[.map none] 95)).heap.size 9 1 v ss.length ((ss.mergeSort (fun x y => decide (x ≤ y))).map encStr) ∧ (v = .slice none 0 0 ↔ ss = []) ∧ Below (w.alloc (.cells #[.map none] 95)).heap.size (w.alloc (.cells #[.map none] 95)) w' := by
  have hseq : SeqGives Fence.wide 2 Tryz.prog 135 #[.pointer (some ⟨w.heap.size, 0, none⟩)] encStr (fun ss : List (List UInt8) => ss = []) 0 (w.alloc (.cells #[.map none] 95)) :=
    AnyZ.keys_gives_nil (ρ := Tryz.keys_ren) { Tryz.keys with } Fence.wide _ trivial rfl w.heap.size _ (by simp) (by simp)
  exact AnyZ.sorted_in Tryz.sorted Fence.wide 5 trivial trivial trivial trivial rfl (by omega) (Tryz.sorts _) (enters_of Tryz.func134 (by kernel_rfl) rfl) 135 #[.pointer (some ⟨w.heap.size, 0, none⟩)] trivial (enters_of Tryz.func135 (by kernel_rfl) rfl) _ 0 (Nat.zero_le _) (by omega) _ hseq

/-- v is a row of the call's own, of the names ns, new. -/
def OwnN (w : World) (v : Value) (ns : List Nm) : Prop := Row w 9 1 v ns.length (ns.map encStr)

set_option maxHeartbeats 1000000 in
/-- (directory).names. -/
theorem names_any (w : World) (v : Value) (l : Dir) (h : MapV w v l) (hl : l.length ≤ 100000) :
    Calls Tryz.prog 60 #[v] w fun e w' => ∃ u, e = .returned u ∧ OwnN w' u (l.map (·.1)) ∧ (∀ x, u.ownBlock = some x → w.heap.size ≤ x) ∧ Kp No w w' := by
  rcases h with ⟨rfl, rfl⟩ | ⟨b, rfl, h⟩
  · refine (callsIn_wide (n := 6)).1 ?_
    have hfK : Fence.wide.fn 102 := trivial
    have hfS : Fence.wide.fn 101 := trivial
    refine callsIn_of_wp Tryz.func60 rfl trivial ?_ rfl
    simp only [Tryz.ntmps60]
    gi_wp2_with (first
      | (gi_at_call 102; refine (Tryz.maps_Keys none _).mono ?_; rintro e w' ⟨rfl, rfl⟩)
      | (gi_at_call 101; refine (Tryz.sorted_nil w).mono ?_; rintro e w' ⟨v, ss, rfl, rfl, hrow, hnil, hb⟩))
    go_ret
    refine ⟨v, rfl, ?_, ?_, ?_⟩
    · have := hnil.2 (by first | rfl | trivial)
      subst this
      exact Row.nil _ _ _
    · have := hnil.2 (by first | rfl | trivial)
      subst this
      simp [Value.ownBlock]
    · exact ((Kp.refl _ _).alloc _).andNone (Kp.below hb)
  · have hsz : Maps.size (dirD l) = l.length := dirD_size l
    refine (callsIn_wide (n := 6)).1 ?_
    have hfK : Fence.wide.fn 102 := trivial
    have hfS : Fence.wide.fn 101 := trivial
    have HM := hid h
    have HC := hid (Tryz.sorted_keys b l.length (dirD l) ptrR w h (by rw [hsz]; unfold maxLen; omega) (by rw [hsz]; omega))
    clear h hsz
    refine callsIn_of_wp Tryz.func60 rfl trivial ?_ rfl
    simp only [Tryz.ntmps60]
    gi_wp2_with (first
      | (gi_at_call 102; refine (Tryz.maps_Keys (some b) _).mono ?_; rintro e w' ⟨rfl, rfl⟩)
      | (gi_at_call 101; refine (HC.out).mono ?_; rintro e w' ⟨v, ss, rfl, hS, hrow, hnil, hb⟩))
    go_ret
    have e1 : ss.mergeSort leB = l.map (·.1) := by
      rw [dirD_keys] at hS
      rw [mergeSort_of_perm hS, sorted_names HM.out.ris]
    have e2 : ss.length = (l.map (·.1)).length := by rw [dirD_keys] at hS; exact hS.length_eq
    have hrow' : w'.ownsRow (w.alloc (.cells #[.map (some b)] 95)).heap.size 9 1 v ss.length ((ss.mergeSort leB).map encStr) := hrow
    rw [e1, e2] at hrow'
    refine ⟨v, rfl, ?_, fun x hx => ?_, ?_⟩
    · refine ⟨hrow'.1, ?_⟩
      rcases hrow'.2 with h | ⟨g, cap, cur, rfl, hb, r⟩
      · exact .inl h
      · exact .inr ⟨g, cap, cur, rfl, Nat.zero_le _, r⟩
    · have := (hrow'.lt x hx).1
      simp at this
      omega
    · exact ((Kp.refl _ _).alloc _).andNone (Kp.below hb)

end Go.Proofs.YtophnjcoaglbnaaGreatDoor.Sim
end

section
/-
  The system in memory: its struct, its two maps, its changes, its files.
-/
namespace Go.Proofs.YtophnjcoaglbnaaGreatDoor.Sim
open Go.RowKit

/-- A name as a text, and a text as a name. -/
def sOf (n : Nm) : ByteArray := ⟨n.toArray⟩
def nm (s : ByteArray) : Nm := s.data.toList
theorem nm_sOf (n : Nm) : nm (sOf n) = n := rfl
theorem sOf_nm (s : ByteArray) : sOf (nm s) = s := by unfold sOf nm; simp
theorem enc_nm (s : ByteArray) : encStr (nm s) = .string s := by show Value.string (sOf (nm s)) = _; rw [sOf_nm]
theorem nm_len (s : ByteArray) : (nm s).length = s.size := len_data s
theorem sOf_size (n : Nm) : (sOf n).size = n.length := by rw [← nm_len, nm_sOf]
theorem sOf_inj {a b : Nm} (h : sOf a = sOf b) : a = b := by rw [← nm_sOf a, h, nm_sOf]

theorem MapV.lookS {w : World} {v : Value} {l : Dir} (h : MapV w v l) (s : ByteArray) (hn : s.size ≤ 1000000) : (Instr.lookup 95 v (.string s) false).run Tryz.prog w = .ok (ptrV (dfind l (nm s))) w := by
  rw [← enc_nm]
  exact h.look (nm s) (by rw [nm_len]; exact hn)

/-! ### The struct -/
def fsCells (p : PS) (vs vf vc : Value) : List Value := [.int .i64 (p.room : Int), vs, vf, vc, .bool p.down, .bool p.armed, .int .i64 (p.left : Int), .int .i64 (p.steps : Int)]
/-- A change's cells. -/
def pcV (c : PC) : Option Nat := if c.kind = 0 then some c.file else none
def chgCells (c : PC) : List Value := [.int .i64 (c.kind : Int), .string (sOf c.nm), .string (sOf c.to), ptrV (pcV c)]
def chgs (l : List PC) : List Value := l.flatMap chgCells
theorem chgs_append (l m : List PC) : chgs (l ++ m) = chgs l ++ chgs m := by simp [chgs]
theorem chgs_one (c : PC) : chgs [c] = chgCells c := by simp [chgs]
theorem chgs_length (l : List PC) : (chgs l).length = l.length * 4 := by
  induction l with
  | nil => rfl
  | cons c r ih => simp only [chgs, List.flatMap_cons, List.length_append, List.length_cons] at ih ⊢; rw [ih]; simp [chgCells]; omega
theorem chgs_at (l : List PC) (i : Nat) (c : PC) (h : l[i]? = some c) (j : Nat) (hj : j < 4) : (chgs l)[i * 4 + j]? = (chgCells c)[j]? := by
  induction l generalizing i with
  | nil => simp at h
  | cons d r ih =>
    have e : chgs (d :: r) = chgCells d ++ chgs r := by simp [chgs]
    rw [e]
    cases i with
    | zero =>
      simp at h
      subst h
      rw [List.getElem?_append_left (by simp [chgCells]; omega)]
      simp
    | succ i =>
      rw [List.getElem?_append_right (by simp [chgCells]; omega)]
      have : (i + 1) * 4 + j - (chgCells d).length = i * 4 + j := by simp [chgCells]; omega
      rw [this]
      exact ih i (by simpa using h)
theorem chgCells_one (c : PC) : ∀ u ∈ chgCells c, u.oneCell' = true := by
  intro u hu
  simp [chgCells] at hu
  rcases hu with rfl | rfl | rfl | rfl <;> rfl

/-- A file in memory: its struct in block b, its bytes in v. -/
structure FileAt (w : World) (b : Nat) (v : Value) (f : Fl) : Prop where
  blk : Blk w b 142 [v, .int .i64 (f.safe : Int)]
  own : OwnB w v f.b
  byt : ∀ x ∈ f.b, x < 256
  le : f.safe ≤ f.b.length
theorem FileAt.kp {L : Nat → Prop} {w w' : World} {b : Nat} {v : Value} {f : Fl} (h : FileAt w b v f) (k : Kp L w w') (hb : ¬ L b) (hv : ∀ x, v.ownBlock = some x → ¬ L x) : FileAt w' b v f :=
  ⟨h.blk.kp k hb, h.own.row.kp k hv, h.byt, h.le⟩

/-- What holds of the state alone. N: a bound that grows with each call. -/
structure PInv (N : Nat) (p : PS) : Prop where
  seen_eq : p.seen = p.chg.foldl pdo p.safe
  okc : okcs p.safe p.chg
  has : ∀ e ∈ p.safe, (p.files e.2).isSome = true
  hasC : ∀ c ∈ p.chg, c.kind = 0 → (p.files c.file).isSome = true
  nodup : (p.safe.map (·.2) ++ (p.chg.filter (fun c => c.kind == 0)).map (·.file)).Nodup
  nmS : ∀ e ∈ p.safe, e.1.length ≤ 40
  nmC : ∀ c ∈ p.chg, c.nm.length ≤ 40 ∧ c.to.length ≤ 40
  nmade : p.made = false → p.chg = [] ∧ p.safe = []
  room : p.room ≤ 99000
  left : p.left ≤ 9223372036854775807
  steps : p.steps ≤ N
  lsum : p.safe.length + p.chg.length ≤ N
  lfile : ∀ b f, p.files b = some f → f.b.length ≤ 200 * N
  big : N ≤ 1000

theorem length_fold : ∀ (l : List PC) (d : Dir), (l.foldl pdo d).length ≤ d.length + l.length
  | [], _ => Nat.le_refl _
  | c :: r, d => by
    have h1 := length_fold r (pdo d c)
    have h2 := length_pdo d c
    simp only [List.foldl_cons, List.length_cons]
    omega
theorem PInv.lsafe {N : Nat} {p : PS} (h : PInv N p) : p.safe.length ≤ N := by have := h.lsum; omega
theorem PInv.lchg {N : Nat} {p : PS} (h : PInv N p) : p.chg.length ≤ N := by have := h.lsum; omega
theorem PInv.lseen {N : Nat} {p : PS} (h : PInv N p) : p.seen.length ≤ N := by
  have h1 := length_fold p.chg p.safe
  rw [← h.seen_eq] at h1
  have := h.lsum
  omega

structure Rp (P : Nat → Prop) (I : PS → Prop) (w : World) (s : Nat) (p : PS) (vs vf vc : Value) (u : Nat → Value) : Prop where
  lt : ∀ x, P x → x < w.heap.size
  ps : P s
  blk : Blk w s 103 (fsCells p vs vf vc)
  seen : MapV w vs p.seen
  safe : MapV w vf p.safe
  unmade : p.made = false → vs = .map none ∧ vf = .map none
  mades : p.made = true → ∃ a b, vs = .map (some a) ∧ vf = .map (some b) ∧ a ≠ b ∧ P a ∧ P b
  chg : Row w 165 4 vc p.chg.length (chgs p.chg)
  pc : ∀ x, vc.ownBlock = some x → P x
  file : ∀ b f, p.files b = some f → P b ∧ FileAt w b (u b) f ∧ ∀ x, (u b).ownBlock = some x → P x
  sep : ∀ b b' f f', p.files b = some f → p.files b' = some f' → b ≠ b' → ∀ x, (u b).ownBlock = some x → (u b').ownBlock ≠ some x
  inv : I p

/-- The system of the state p lies at s, in blocks of which P. -/
def Sys (P : Nat → Prop) (N : Nat) (w : World) (s : Nat) (p : PS) : Prop := ∃ vs vf vc u, Rp P (PInv N) w s p vs vf vc u

theorem MapV.kp {L : Nat → Prop} {w w' : World} {v : Value} {l : Dir} (h : MapV w v l) (k : Kp L w w') (hP : ∀ b, v = .map (some b) → ¬ L b) : MapV w' v l := by
  rcases h with h | ⟨b, rfl, h⟩
  · exact .inl h
  · exact .inr ⟨b, rfl, h.kp k (hP b rfl)⟩
theorem Rp.mapS {P : Nat → Prop} {I : PS → Prop} {w : World} {s : Nat} {p : PS} {vs vf vc : Value} {u : Nat → Value} (h : Rp P I w s p vs vf vc u) : (∀ b, vs = .map (some b) → P b) ∧ ∀ b, vf = .map (some b) → P b := by
  cases hm : p.made with
  | false =>
    obtain ⟨rfl, rfl⟩ := h.unmade hm
    exact ⟨fun b hb => (by cases hb), fun b hb => (by cases hb)⟩
  | true =>
    obtain ⟨a, b, rfl, rfl, _, ha, hb⟩ := h.mades hm
    exact ⟨fun x hx => (by cases hx; exact ha), fun x hx => (by cases hx; exact hb)⟩
/-- What is done elsewhere leaves it as it is. -/
theorem Rp.kp {P L : Nat → Prop} {I : PS → Prop} {w w' : World} {s : Nat} {p : PS} {vs vf vc : Value} {u : Nat → Value} (h : Rp P I w s p vs vf vc u) (k : Kp L w w') (hL : ∀ x, L x → ¬ P x) : Rp P I w' s p vs vf vc u where
  lt x hx := Nat.lt_of_lt_of_le (h.lt x hx) k.size
  ps := h.ps
  blk := h.blk.kp k (fun hl => hL _ hl h.ps)
  seen := h.seen.kp k (fun b hb hl => hL _ hl (h.mapS.1 b hb))
  safe := h.safe.kp k (fun b hb hl => hL _ hl (h.mapS.2 b hb))
  unmade := h.unmade
  mades := h.mades
  chg := h.chg.kp k (fun x hx hl => hL _ hl (h.pc x hx))
  pc := h.pc
  file b f hf := by
    obtain ⟨h1, h2, h3⟩ := h.file b f hf
    exact ⟨h1, h2.kp k (fun hl => hL _ hl h1) (fun x hx hl => hL _ hl (h3 x hx)), h3⟩
  sep := h.sep
  inv := h.inv
theorem Sys.kp {P L : Nat → Prop} {N : Nat} {w w' : World} {s : Nat} {p : PS} (h : Sys P N w s p) (k : Kp L w w') (hL : ∀ x, L x → ¬ P x) : Sys P N w' s p := by
  obtain ⟨vs, vf, vc, u, h⟩ := h
  exact ⟨vs, vf, vc, u, h.kp k hL⟩
theorem Sys.kept {P : Nat → Prop} {N : Nat} {w w' : World} {s : Nat} {p : PS} (h : Sys P N w s p) (k : Kp No w w') : Sys P N w' s p := h.kp k (fun _ hx => hx.elim)
theorem PInv.mono {N M : Nat} {p : PS} (h : PInv N p) (hm : N ≤ M) (hb : M ≤ 1000) : PInv M p :=
  { h with steps := Nat.le_trans h.steps hm, lsum := Nat.le_trans h.lsum hm, lfile := fun b f hf => Nat.le_trans (h.lfile b f hf) (Nat.mul_le_mul_left _ hm), big := hb }
theorem Sys.more {P : Nat → Prop} {N M : Nat} {w : World} {s : Nat} {p : PS} (h : Sys P N w s p) (hm : N ≤ M) (hb : M ≤ 1000) : Sys P M w s p := by
  obtain ⟨vs, vf, vc, u, h⟩ := h
  exact ⟨vs, vf, vc, u, { h with inv := h.inv.mono hm hb }⟩
theorem Sys.lt {P : Nat → Prop} {N : Nat} {w : World} {s : Nat} {p : PS} (h : Sys P N w s p) : ∀ x, P x → x < w.heap.size := by
  obtain ⟨vs, vf, vc, u, h⟩ := h
  exact h.lt
theorem Sys.inv {P : Nat → Prop} {N : Nat} {w : World} {s : Nat} {p : PS} (h : Sys P N w s p) : PInv N p := by
  obtain ⟨vs, vf, vc, u, h⟩ := h
  exact h.inv

/-! ### The files that names lead to are there -/
theorem mem_pdo {d : Dir} {c : PC} {e : Nm × Nat} (hok : okc d c) (h : e ∈ pdo d c) : e ∈ d ∨ (c.kind = 0 ∧ e = (c.nm, c.file)) ∨ (c.kind = 2 ∧ ∃ b, dfind d c.nm = some b ∧ e = (c.to, b)) := by
  unfold pdo at h
  split at h
  · rename_i hk
    rcases mem_dput.1 h with rfl | h
    · exact .inr (.inl ⟨hk, rfl⟩)
    · exact .inl h.1
  · split at h
    · exact .inl (mem_ddel.1 h).1
    · have hk : c.kind = 2 := by have := hok.1; omega
      rcases mem_dput.1 h with rfl | h
      · obtain ⟨b, hb⟩ := Option.isSome_iff_exists.1 (hok.2 hk)
        exact .inr (.inr ⟨hk, b, hb, by rw [hb]; rfl⟩)
      · exact .inl (mem_ddel.1 h.1).1
theorem fold_has {F : Nat → Prop} {M : Nm → Prop} : ∀ (l : List PC) (d : Dir), okcs d l → (∀ e ∈ d, F e.2 ∧ M e.1) → (∀ c ∈ l, (c.kind = 0 → F c.file) ∧ M c.nm ∧ M c.to) → ∀ e ∈ l.foldl pdo d, F e.2 ∧ M e.1
  | [], _, _, hd, _ => hd
  | c :: r, d, hok, hd, hc => by
    refine fold_has r (pdo d c) hok.2 (fun e he => ?_) (fun c' hc' => hc c' (by simp [hc']))
    obtain ⟨c1, c2, c3⟩ := hc c (by simp)
    rcases mem_pdo hok.1 he with h | ⟨hk, rfl⟩ | ⟨_, b, hb, rfl⟩
    · exact hd e h
    · exact ⟨c1 hk, c2⟩
    · exact ⟨(hd _ (mem_of_dfind hb)).1, c3⟩
theorem PInv.hasSeen {N : Nat} {p : PS} (h : PInv N p) : ∀ e ∈ p.seen, (p.files e.2).isSome = true ∧ e.1.length ≤ 40 := by
  rw [h.seen_eq]
  exact fold_has (F := fun b => (p.files b).isSome = true) (M := fun n => n.length ≤ 40) p.chg p.safe h.okc (fun e he => ⟨h.has e he, h.nmS e he⟩) (fun c hc => ⟨h.hasC c hc, (h.nmC c hc).1, (h.nmC c hc).2⟩)
theorem PInv.hasFound {N : Nat} {p : PS} (h : PInv N p) {n : Nm} {b : Nat} (hb : dfind p.seen n = some b) : p.files b = some (fileAt p b) := by
  obtain ⟨f, hf⟩ := Option.isSome_iff_exists.1 ((h.hasSeen _ (mem_of_dfind hb)).1)
  simp only at hf
  rw [fileAt, hf]
  rfl

end Go.Proofs.YtophnjcoaglbnaaGreatDoor.Sim
end

section
/-
  What tells alone: wrong, find, Read, Size, Down, Steps.
-/
namespace Go.Proofs.YtophnjcoaglbnaaGreatDoor.Sim
open Go.RowKit

theorem pNameS_any (s : ByteArray) (hs : s.size ≤ 1000000) (w : World) : Calls Tryz.prog 87 #[.string s] w fun e w' => e = .returned (.bool (nameB (nm s))) ∧ Kp No w w' := pName_any s hs w

/-- A slice of names, as it is handed to wrong. -/
def NsAt (w : World) (v : Value) (ns : List Nm) : Prop :=
  ∃ a cap, v = .slice a ns.length cap ∧ ns.length ≤ 100 ∧ (∀ n ∈ ns, n.length ≤ 1000000) ∧ (ns ≠ [] → ∃ g, a = some ⟨g, 0, none⟩ ∧ g < w.heap.size ∧ ∀ i, i < ns.length → w.cell? ⟨g, i, none⟩ = some (.string (sOf (ns.getD i []))))

theorem wrong_nil (v : Value) (w : World) : Calls Tryz.prog 51 #[.pointer none, v] w fun e w' => e = .returned (.int .i64 18) ∧ w' = w := by
  go_enter Tryz.func51, Tryz.ntmps51
  go_wp2
  go_ret
  exact ⟨rfl, rfl⟩

set_option maxHeartbeats 1000000 in
theorem wrong_any (sb : Nat) (v : Value) (ns : List Nm) (d : Bool) (w : World) (hd : w.cell? ⟨sb, 4, none⟩ = some (.bool d)) (h : NsAt w v ns) :
    Calls Tryz.prog 51 #[.pointer (some ⟨sb, 0, none⟩), v] w fun e w' => e = .returned (.int .i64 ((if d then 12 else if ns.all nameB then 0 else 10 : Nat) : Int)) ∧ Kp No w w' := by
  obtain ⟨a, cap, rfl, hl, hn, hc⟩ := h
  have HN := hid hn
  have HC := hid hc
  clear hn hc
  cases d with
  | true =>
    go_enter Tryz.func51, Tryz.ntmps51
    go_wp2
    go_ret
    exact ⟨rfl, Kp.refl _ _⟩
  | false =>
    simp only [Bool.false_eq_true, if_false]
    obtain ⟨r, hr⟩ : ∃ r : Nat, (if ns.all nameB = true then 0 else 10) = r := ⟨_, rfl⟩
    have HR := hid hr
    rw [hr]
    clear hr
    have hnot : ∀ (x : Bool) (w : World), (Op.unary .not (.bool x)).run Tryz.prog w = .ok (.bool (!x)) w := fun _ _ => rfl
    go_enter Tryz.func51, Tryz.ntmps51
    go_wp2
    go_loopw [15] (fun x wr => ∃ i : Nat, x = .int .i64 i ∧ i ≤ ns.length ∧ Hid ((ns.take i).all nameB = true) ∧ Hid (Kp No w wr)) (fun x _ => ns.length - (intOf x).toNat)
    case atStart => exact ⟨0, rfl, by omega, by simp [Hid], Kp.refl _ _⟩
    case round =>
      obtain ⟨i, rfl, hi, HI, HK⟩ := hrel
      by_cases hlt : i < ns.length
      · obtain ⟨g, rfl, hg, hcell⟩ := HC.out (by intro e; subst e; simp at hlt)
        have c1 := (HK.out.cell (p := ⟨g, i, none⟩) hg (fun h => h.elim)).trans (hcell i hlt)
        have hmem : ns.getD i [] ∈ ns := by rw [List.getD_eq_getElem?_getD, List.getElem?_eq_getElem hlt, Option.getD_some]; exact List.getElem_mem hlt
        have HT : Hid (ns.take (i + 1) = ns.take i ++ [ns.getD i []]) := by rw [Hid, List.take_succ_eq_append_getElem hlt, List.getD_eq_getElem?_getD, List.getElem?_eq_getElem hlt, Option.getD_some]
        have HM := hid hmem
        have hsz : Hid ((sOf (ns.getD i [])).size ≤ 1000000) := by rw [Hid, sOf_size]; exact HN.out _ hmem
        have hnm : Hid (nm (sOf (ns.getD i [])) = ns.getD i []) := nm_sOf _
        generalize sOf (ns.getD i []) = s at *
        generalize ns.getD i [] = n at *
        clear hcell hmem HC
        cases hok : nameB n with
        | true =>
          have HO := hid hok
          clear hok
          go_wp2_with (go_at_call 87; refine (pNameS_any s hsz.out _).mono ?_; rintro e w2 ⟨rfl, hk⟩; rw [hnm.out, HO.out]; have HK2 := hid hk; clear hk)
          go_roundw
          case rel => exact ⟨i + 1, by go_num, by omega, by rw [Hid, HT.out, List.all_append, HI.out]; simp [HO.out], HK.out.andNone HK2.out⟩
          case measure => simp [intOf]; omega
        | false =>
          have HO := hid hok
          clear hok
          go_wp2_with (go_at_call 87; refine (pNameS_any s hsz.out _).mono ?_; rintro e w2 ⟨rfl, hk⟩; rw [hnm.out, HO.out]; have HK2 := hid hk; clear hk)
          go_ret
          refine ⟨?_, HK.out.andNone HK2.out⟩
          rw [← HR.out, List.all_eq_false.2 ⟨n, HM.out, by simp [HO.out]⟩]
          rfl
      · go_wp2
        go_ret
        refine ⟨?_, HK.out⟩
        have := HI.out
        rw [List.take_of_length_le (by omega)] at this
        rw [← HR.out, this]
        rfl

theorem NsAt.one (w : World) (s : ByteArray) (hs : s.size ≤ 1000000) : NsAt (w.alloc (.cells #[.string s] 9)) (.slice (some ⟨w.heap.size, 0, none⟩) 1 1) [nm s] := by
  refine ⟨_, 1, rfl, by simp, by simp [nm_len, hs], fun _ => ⟨_, rfl, by simp, fun i hi => ?_⟩⟩
  have : i = 0 := by simpa using hi
  subst this
  rw [World.cell?_alloc_at _ _ _ _ rfl]
  simp [sOf_nm]
theorem NsAt.two (w : World) (s t : ByteArray) (hs : s.size ≤ 1000000) (ht : t.size ≤ 1000000) : NsAt (w.alloc (.cells #[.string s, .string t] 9)) (.slice (some ⟨w.heap.size, 0, none⟩) 2 2) [nm s, nm t] := by
  refine ⟨_, 2, rfl, by simp, by simp [nm_len, hs, ht], fun _ => ⟨_, rfl, by simp, fun i hi => ?_⟩⟩
  rw [World.cell?_alloc_at _ _ _ _ rfl]
  have : i = 0 ∨ i = 1 := by simp at hi; omega
  rcases this with rfl | rfl
  · simp [sOf_nm]
  · simp [sOf_nm]
theorem NsAt.none (w : World) : NsAt w (.slice none 0 0) [] := ⟨_, 0, rfl, by decide, by simp, fun h => absurd rfl h⟩

/-- The cells of a system's struct. -/
theorem Rp.c {P : Nat → Prop} {I : PS → Prop} {w : World} {s : Nat} {p : PS} {vs vf vc : Value} {u : Nat → Value} (h : Rp P I w s p vs vf vc u) (j : Nat) : w.cell? ⟨s, j, none⟩ = (fsCells p vs vf vc)[j]? := h.blk.cell j

theorem find_nil (t : ByteArray) (w : World) : Calls Tryz.prog 72 #[.pointer none, .string t] w fun e w' => e = .returned (.tuple #[.pointer none, .int .i64 18]) ∧ Kp No w w' := by
  go_enter Tryz.func72, Tryz.ntmps72
  go_wp2_with (go_at_call 51; refine (wrong_nil _ _).mono ?_; rintro e w1 ⟨rfl, h1⟩; subst w1)
  go_ret2
  exact ⟨rfl, (Kp.refl _ _).alloc _⟩

/-- Where a name leads, if nothing is wrong. -/
def foundP (p : PS) (n : Nm) : Option Nat := if finds p n = 0 then dfind p.seen n else none

set_option maxHeartbeats 1000000 in
theorem find_any {P : Nat → Prop} {N : Nat} (w : World) (s : Nat) (p : PS) (t : ByteArray) (ht : t.size ≤ 1000000) (h : Sys P N w s p) :
    Calls Tryz.prog 72 #[.pointer (some ⟨s, 0, none⟩), .string t] w fun e w' => e = .returned (.tuple #[ptrV (foundP p (nm t)), .int .i64 (finds p (nm t) : Nat)]) ∧ Kp No w w' := by
  obtain ⟨vs, vf, vc, u, h⟩ := h
  have H := hid h
  have hsl := h.lt s h.ps
  have q4 : w.cell? ⟨s, 4, none⟩ = some (.bool p.down) := h.c 4
  have q1 : w.cell? ⟨s, 1, none⟩ = some vs := h.c 1
  have hW : Hid (∀ W, Kp No w W → W.cell? ⟨s, 1, none⟩ = some vs ∧ (Instr.lookup 95 vs (.string t) false).run Tryz.prog W = .ok (ptrV (dfind p.seen (nm t))) W) := fun W k =>
    ⟨(k.cell (p := ⟨s, 1, none⟩) hsl (fun h => h.elim)).trans q1, (H.out.seen.kp k (fun _ _ h => h.elim)).lookS t ht⟩
  have HC : Hid (Calls Tryz.prog 51 #[.pointer (some ⟨s, 0, none⟩), .slice (some ⟨w.heap.size, 0, none⟩) 1 1] (w.alloc (.cells #[.string t] 9)) fun e w' => e = .returned (.int .i64 (wrongs p [nm t] : Nat)) ∧ Kp No w w') := by
    refine (wrong_any s _ [nm t] p.down _ ?_ (NsAt.one w t ht)).mono ?_
    · exact (((Kp.refl No w).alloc _).cell (p := ⟨s, 4, none⟩) hsl (fun h => h.elim)).trans q4
    · rintro e w' ⟨rfl, hk⟩
      exact ⟨rfl, ((Kp.refl No w).alloc _).andNone hk⟩
  clear h q1 q4
  by_cases hw : wrongs p [nm t] = 0
  · rw [hw] at HC
    cases hd : dfind p.seen (nm t) with
    | none =>
      have e1 : finds p (nm t) = 5 := by simp [finds, hw, hd]
      have e2 : foundP p (nm t) = none := by simp [foundP, e1]
      rw [e1, e2]
      rw [hd] at hW
      clear e1 e2 hd hw
      go_enter Tryz.func72, Tryz.ntmps72
      go_wp2_with (go_at_call 51; refine (HC.out).mono ?_; rintro e w1 ⟨rfl, hk⟩; have HK := hid hk; obtain ⟨r1, r2⟩ := hW.out _ hk; have e0 : ptrV none = .pointer none := rfl; rw [e0] at r2; clear hk e0)
      go_ret2
      exact ⟨rfl, HK.out⟩
    | some b =>
      have e1 : finds p (nm t) = 0 := by simp [finds, hw, hd]
      have e2 : foundP p (nm t) = some b := by simp [foundP, e1, hd]
      rw [e1, e2]
      rw [hd] at hW
      clear e1 e2 hd hw
      go_enter Tryz.func72, Tryz.ntmps72
      go_wp2_with (go_at_call 51; refine (HC.out).mono ?_; rintro e w1 ⟨rfl, hk⟩; have HK := hid hk; obtain ⟨r1, r2⟩ := hW.out _ hk; have e0 : ptrV (some b) = .pointer (some ⟨b, 0, none⟩) := rfl; rw [e0] at r2; clear hk e0)
      go_ret2
      exact ⟨rfl, HK.out⟩
  · have e1 : finds p (nm t) = wrongs p [nm t] := by simp [finds, hw]
    have e2 : foundP p (nm t) = none := by simp [foundP, e1, hw]
    rw [e1, e2]
    generalize wrongs p [nm t] = x at *
    have hne : ((x : Int) != 0) = true := by simp; omega
    clear e1 e2 hw
    go_enter Tryz.func72, Tryz.ntmps72
    go_wp2_with (go_at_call 51; refine (HC.out).mono ?_; rintro e w1 ⟨rfl, hk⟩; have HK := hid hk; clear hk)
    go_ret2
    exact ⟨rfl, HK.out⟩

end Go.Proofs.YtophnjcoaglbnaaGreatDoor.Sim
end

section
/-
  What tells alone: Read, Size, Down, Steps, List.
-/
namespace Go.Proofs.YtophnjcoaglbnaaGreatDoor.Sim
open Go.RowKit

theorem OwnB.kept {w w' : World} {v : Value} {xs : List Nat} (h : OwnB w v xs) (k : Kp No w w') : OwnB w' v xs := h.row.kept k
theorem pBytes_of {p : PS} {n : Nm} {b : Nat} (h : foundP p n = some b) : finds p n = 0 ∧ dfind p.seen n = some b ∧ pBytes n p = (fileAt p b).b := by
  unfold foundP at h
  split at h
  · rename_i h0
    refine ⟨h0, h, ?_⟩
    simp [pBytes, h0, blockOf, h]
  · cases h
theorem found_zero {N : Nat} {p : PS} {n : Nm} (_hi : PInv N p) (h : finds p n = 0) : ∃ b, foundP p n = some b := by
  unfold finds at h
  split at h
  · omega
  · split at h
    · rename_i h1 h2
      obtain ⟨b, hb⟩ := Option.isSome_iff_exists.1 h2
      refine ⟨b, ?_⟩
      unfold foundP finds
      rw [if_neg h1, if_pos h2, if_pos rfl, hb]
    · cases h

theorem read_nil (t : ByteArray) (w : World) : Calls Tryz.prog 107 #[.pointer none, .string t] w fun e w' => e = .returned (.tuple #[.slice none 0 0, .int .i64 18]) ∧ Kp No w w' := by
  go_enter Tryz.func107, Tryz.ntmps107
  go_wp2_with (go_at_call 72; refine (find_nil t _).mono ?_; rintro e w1 ⟨rfl, h1⟩; have H1 := hid h1; clear h1)
  go_ret2
  exact ⟨rfl, H1.out⟩
theorem size_nil (t : ByteArray) (w : World) : Calls Tryz.prog 53 #[.pointer none, .string t] w fun e w' => e = .returned (.tuple #[.int .i64 0, .int .i64 18]) ∧ Kp No w w' := by
  go_enter Tryz.func53, Tryz.ntmps53
  go_wp2_with (go_at_call 72; refine (find_nil t _).mono ?_; rintro e w1 ⟨rfl, h1⟩; have H1 := hid h1; clear h1)
  go_ret2
  exact ⟨rfl, H1.out⟩

set_option maxHeartbeats 1000000 in
theorem read_any {P : Nat → Prop} {N : Nat} (w : World) (s : Nat) (p : PS) (t : ByteArray) (ht : t.size ≤ 1000000) (h : Sys P N w s p) :
    Calls Tryz.prog 107 #[.pointer (some ⟨s, 0, none⟩), .string t] w fun e w' => ∃ ad cap, e = .returned (.tuple #[.slice ad (pBytes (nm t) p).length cap, .int .i64 (finds p (nm t) : Nat)]) ∧
      OwnB w' (.slice ad (pBytes (nm t) p).length cap) (pBytes (nm t) p) ∧ (∀ x, (Value.slice ad (pBytes (nm t) p).length cap).ownBlock = some x → w.heap.size ≤ x) ∧ Kp No w w' := by
  have HC := hid (find_any w s p t ht h)
  have hI := h.inv
  by_cases h0 : finds p (nm t) = 0
  · obtain ⟨b, hb⟩ := found_zero hI h0
    obtain ⟨_, hd, hy⟩ := pBytes_of hb
    have hf := hI.hasFound hd
    have hlen := hI.lfile b _ hf
    have hbig := hI.big
    obtain ⟨vs, vf, vc, u, hR⟩ := h
    obtain ⟨hPb, hF, hPu⟩ := hR.file b _ hf
    have hbl := hR.lt b hPb
    have hul : ∀ x, (u b).ownBlock = some x → x < w.heap.size := fun x hx => hR.lt x (hPu x hx)
    have HF := hid hF
    rw [hy, h0]
    rw [h0, hb] at HC
    have e0 : ptrV (some b) = .pointer (some ⟨b, 0, none⟩) := rfl
    rw [e0] at HC
    generalize (fileAt p b) = f at *
    clear hy hd hf hR hF e0
    obtain ⟨a, cap, hv, _⟩ := HF.out.own.shape
    generalize u b = v at *
    subst hv
    go_enter Tryz.func107, Tryz.ntmps107
    go_wp2_with (go_at_call 72; refine (HC.out).mono ?_; rintro e w1 ⟨rfl, h1⟩; have H1 := hid h1; have c0 : w1.cell? ⟨b, 0, none⟩ = some (.slice a f.b.length cap) := (h1.cell (p := ⟨b, 0, none⟩) hbl (fun h => h.elim)).trans (HF.out.blk.cell 0); clear h1)
    refine (clone_any (P := fun _ => True) _ f.b w1 ((HF.out.own.kept H1.out).byP (fun _ _ => trivial) (by omega) HF.out.byt) (by omega)).mono ?_
    rintro e w2 ⟨ad, cap2, rfl, ho, hn, hk⟩
    have HO := hid ho
    have HN := hid hn
    have HK := hid hk
    clear ho hn hk
    go_wp2
    go_ret2
    exact ⟨ad, cap2, rfl, HO.out, fun x hx => Nat.le_trans H1.out.size (HN.out x hx), H1.out.andNone HK.out⟩
  · have hy : pBytes (nm t) p = [] := by simp [pBytes, h0]
    have hn : foundP p (nm t) = none := by simp [foundP, h0]
    rw [hy]
    rw [hn] at HC
    have e0 : ptrV none = .pointer none := rfl
    rw [e0] at HC
    generalize finds p (nm t) = x at *
    have hne : ((x : Int) != 0) = true := by simp; omega
    clear hy hn h0 h hI e0
    go_enter Tryz.func107, Tryz.ntmps107
    go_wp2_with (go_at_call 72; refine (HC.out).mono ?_; rintro e w1 ⟨rfl, h1⟩; have H1 := hid h1; clear h1)
    go_ret2
    exact ⟨none, 0, rfl, OwnB.nil _, by simp [Value.ownBlock], H1.out⟩

set_option maxHeartbeats 1000000 in
theorem size_any {P : Nat → Prop} {N : Nat} (w : World) (s : Nat) (p : PS) (t : ByteArray) (ht : t.size ≤ 1000000) (h : Sys P N w s p) :
    Calls Tryz.prog 53 #[.pointer (some ⟨s, 0, none⟩), .string t] w fun e w' => e = .returned (.tuple #[.int .i64 ((pBytes (nm t) p).length : Nat), .int .i64 (finds p (nm t) : Nat)]) ∧ Kp No w w' := by
  have HC := hid (find_any w s p t ht h)
  have hI := h.inv
  by_cases h0 : finds p (nm t) = 0
  · obtain ⟨b, hb⟩ := found_zero hI h0
    obtain ⟨_, hd, hy⟩ := pBytes_of hb
    have hf := hI.hasFound hd
    have hlen := hI.lfile b _ hf
    have hbig := hI.big
    obtain ⟨vs, vf, vc, u, hR⟩ := h
    obtain ⟨hPb, hF, hPu⟩ := hR.file b _ hf
    have hbl := hR.lt b hPb
    have HF := hid hF
    rw [hy, h0]
    rw [h0, hb] at HC
    have e0 : ptrV (some b) = .pointer (some ⟨b, 0, none⟩) := rfl
    rw [e0] at HC
    generalize (fileAt p b) = f at *
    clear hy hd hf hR hF e0
    obtain ⟨a, cap, hv, _⟩ := HF.out.own.shape
    generalize u b = v at *
    subst hv
    go_enter Tryz.func53, Tryz.ntmps53
    go_wp2_with (go_at_call 72; refine (HC.out).mono ?_; rintro e w1 ⟨rfl, h1⟩; have H1 := hid h1; have c0 : w1.cell? ⟨b, 0, none⟩ = some (.slice a f.b.length cap) := (h1.cell (p := ⟨b, 0, none⟩) hbl (fun h => h.elim)).trans (HF.out.blk.cell 0); clear h1)
    go_ret2
    exact ⟨rfl, H1.out⟩
  · have hy : pBytes (nm t) p = [] := by simp [pBytes, h0]
    have hn : foundP p (nm t) = none := by simp [foundP, h0]
    rw [hy]
    rw [hn] at HC
    have e0 : ptrV none = .pointer none := rfl
    rw [e0] at HC
    generalize finds p (nm t) = x at *
    have hne : ((x : Int) != 0) = true := by simp; omega
    clear hy hn h0 h hI e0
    go_enter Tryz.func53, Tryz.ntmps53
    go_wp2_with (go_at_call 72; refine (HC.out).mono ?_; rintro e w1 ⟨rfl, h1⟩; have H1 := hid h1; clear h1)
    go_ret2
    exact ⟨rfl, H1.out⟩


/-! ### List -/
theorem list_nil (w : World) : Calls Tryz.prog 105 #[.pointer none] w fun e w' => e = .returned (.slice none 0 0) ∧ w' = w := by
  go_enter Tryz.func105, Tryz.ntmps105
  go_wp2
  go_ret
  exact ⟨rfl, rfl⟩
theorem list_any {P : Nat → Prop} {N : Nat} (w : World) (s : Nat) (p : PS) (h : Sys P N w s p) :
    Calls Tryz.prog 105 #[.pointer (some ⟨s, 0, none⟩)] w fun e w' => ∃ u, e = .returned u ∧ OwnN w' u (pList p) ∧ (∀ x, u.ownBlock = some x → w.heap.size ≤ x) ∧ Kp No w w' := by
  obtain ⟨vs, vf, vc, u, h⟩ := h
  have q4 : w.cell? ⟨s, 4, none⟩ = some (.bool p.down) := h.c 4
  have q1 : w.cell? ⟨s, 1, none⟩ = some vs := h.c 1
  have HN := hid (names_any w vs p.seen h.seen (by have := h.inv.lseen; have := h.inv.big; omega))
  clear h
  unfold pList
  cases hd : p.down with
  | true =>
    rw [hd] at q4
    clear hd
    go_enter Tryz.func105, Tryz.ntmps105
    go_wp2
    go_ret
    exact ⟨_, rfl, Row.nil _ _ _, by simp [Value.ownBlock], Kp.refl _ _⟩
  | false =>
    rw [hd] at q4
    clear hd
    simp only [Bool.false_eq_true, if_false]
    go_enter Tryz.func105, Tryz.ntmps105
    go_wp2_with (go_at_call 60; refine (HN.out).mono ?_; rintro e w1 ⟨u1, rfl, h1, h2, h3⟩; have H1 := hid h1; have H2 := hid h2; have H3 := hid h3; clear h1 h2 h3)
    go_ret
    exact ⟨u1, rfl, H1.out, H2.out, H3.out⟩

end Go.Proofs.YtophnjcoaglbnaaGreatDoor.Sim
end

section
/-
  Used: the bytes of all files that are seen, in whatever order.
-/
namespace Go.Proofs.YtophnjcoaglbnaaGreatDoor.Sim
open Go.RowKit Go.Maps

/-- The files of those names that are no longer to come. -/
def sumBy (g : Nat → Nat) (l : Dir) (left : Lit → Bool) : Nat := (l.map fun e => if left (.string e.1) then 0 else g e.2).sum
theorem sumBy_start (g : Nat → Nat) (l : Dir) : sumBy g l (Maps.has (dirD l)) = 0 := by
  unfold sumBy
  have : ∀ e ∈ l, Maps.has (dirD l) (.string e.1) = true := by
    intro e he
    rw [dirD_has]
    cases hd : dfind l e.1 with
    | none => exact absurd rfl (dfind_none hd e he)
    | some b => rfl
  generalize Maps.has (dirD l) = h at this
  induction l with
  | nil => rfl
  | cons x r ih =>
    rw [List.map_cons, List.sum_cons, this x (by simp), ih (fun e he => this e (by simp [he]))]
    simp
theorem sumBy_end (g : Nat → Nat) (l : Dir) (left : Lit → Bool) (h : ∀ k, left k = false) : sumBy g l left = (l.map fun e => g e.2).sum := by
  unfold sumBy
  congr 1
  apply List.map_congr_left
  intro e _
  rw [h]
  rfl
theorem sumBy_step (g : Nat → Nat) (left : Lit → Bool) (n : Nm) (b : Nat) : ∀ (l : Dir), (l.map (·.1)).Nodup → (n, b) ∈ l → left (.string n) = true → sumBy g l (fun z => left z && !z.sameKey (.string n)) = sumBy g l left + g b
  | [], _, h, _ => by simp at h
  | x :: r, hn, h, hl => by
    rw [List.map_cons, List.nodup_cons] at hn
    unfold sumBy
    rw [List.map_cons, List.map_cons, List.sum_cons, List.sum_cons]
    rcases List.mem_cons.1 h with e | h
    · have hr : (r.map fun e => if (left (.string e.1) && !(Lit.string e.1).sameKey (.string n)) = true then 0 else g e.2) = r.map fun e => if left (.string e.1) = true then 0 else g e.2 := by
        apply List.map_congr_left
        intro e' he'
        have : (Lit.string e'.1).sameKey (.string n) = false := by
          rw [sameKey_str]
          simp
          intro e2
          exact hn.1 (List.mem_map.2 ⟨e', he', by rw [e2, ← e]⟩)
        rw [this]
        simp
      rw [hr, ← e]
      simp [hl, sameKey_str]
      omega
    · have ih := sumBy_step g left n b r hn.2 h hl
      unfold sumBy at ih
      rw [ih]
      have : (Lit.string x.1).sameKey (.string n) = false := by
        rw [sameKey_str]
        simp
        intro e2
        exact hn.1 (List.mem_map.2 ⟨(n, b), h, by simp [e2]⟩)
      simp only [this, Bool.not_false, Bool.and_true]
      omega
theorem sumBy_le (g : Nat → Nat) (B : Nat) (left : Lit → Bool) : ∀ (l : Dir), (∀ e ∈ l, g e.2 ≤ B) → sumBy g l left ≤ l.length * B
  | [], _ => by simp [sumBy]
  | x :: r, h => by
    have ih := sumBy_le g B left r (fun e he => h e (by simp [he]))
    unfold sumBy at ih ⊢
    rw [List.map_cons, List.sum_cons, List.length_cons, Nat.add_mul]
    have := h x (by simp)
    split <;> omega

theorem used_nil (w : World) : Calls Tryz.prog 93 #[.pointer none] w fun e w' => e = .returned (.int .i64 0) ∧ w' = w := by
  go_enter Tryz.func93, Tryz.ntmps93
  go_wp2
  go_ret
  exact ⟨rfl, rfl⟩

set_option maxHeartbeats 1000000 in
theorem used_any {P : Nat → Prop} {N : Nat} (w : World) (s : Nat) (p : PS) (h : Sys P N w s p) : Calls Tryz.prog 93 #[.pointer (some ⟨s, 0, none⟩)] w fun e w' => e = .returned (.int .i64 (used p : Nat)) ∧ Kp No w w' := by
  have hI := h.inv
  have hB : Hid (∀ left, sumBy (fun b => (fileAt p b).b.length) p.seen left ≤ 1000 * 200000) := fun left => by
    refine Nat.le_trans (sumBy_le _ 200000 left p.seen (fun e he => ?_)) (Nat.mul_le_mul_right _ (Nat.le_trans hI.lseen hI.big))
    obtain ⟨f, hf⟩ := Option.isSome_iff_exists.1 (hI.hasSeen e he).1
    have := hI.lfile _ f hf
    have := hI.big
    simp only [fileAt, hf, Option.getD_some]
    omega
  obtain ⟨vs, vf, vc, u, h⟩ := h
  have q1 : w.cell? ⟨s, 1, none⟩ = some vs := h.c 1
  have hsl := h.lt s h.ps
  have HF : Hid (∀ e ∈ p.seen, ∃ a cap, w.cell? ⟨e.2, 0, none⟩ = some (.slice a (fileAt p e.2).b.length cap) ∧ e.2 < w.heap.size) := fun e he => by
    obtain ⟨f, hf⟩ := Option.isSome_iff_exists.1 (hI.hasSeen e he).1
    obtain ⟨h1, h2, _⟩ := h.file _ f hf
    obtain ⟨a, cap, hv, _⟩ := h2.own.shape
    have : fileAt p e.2 = f := by simp [fileAt, hf]
    rw [this]
    exact ⟨a, cap, by rw [← hv]; exact h2.blk.cell 0, h.lt _ h1⟩
  rcases h.seen with ⟨rfl, hs⟩ | ⟨b, rfl, hM⟩
  · have hu : used p = 0 := by simp [used, hs]
    rw [hu]
    clear HF hB h hs hu
    have hrn := run_range_nilMap (P := Tryz.prog) w 95 9 129 Tryz.underlying95
    have hnx : ∀ ty, (Instr.next (.pointer (some ⟨w.heap.size, 0, none⟩)) false ty).run Tryz.prog (w.alloc (.mapIter none 0 #[] 0)) = _ := fun ty => run_next_nilMap w ty 0 0 #[]
    go_enter Tryz.func93, Tryz.ntmps93
    go_wp2
    refine wp_loop_rounds 1 ?_
    rw [rounds_succ]
    go_wp2
    go_ret
    exact ⟨rfl, (Kp.refl _ _).alloc _⟩
  · have HM := hid hM
    have hnd := hid hM.ris.nodup
    have hbl := hM.lt
    clear hM h
    go_enter Tryz.func93, Tryz.ntmps93
    go_wp2_with (first | (at_range; refine wpList_range_own _ rfl _ 95 rfl 9 129 Tryz.keyed Tryz.underlying95 ptrR b p.seen.length (dirD p.seen) rfl HM.out ?_; intro w0 hrg0 hg0 hs0) | go_in)
    go_frame
    have hrg := hid hrg0
    have hg := hid hg0
    clear hrg0 hg0 hs0
    go_loopw [3, 5] (fun x _ wr => ∃ left cnt, x = .int .i64 (sumBy (fun b => (fileAt p b).b.length) p.seen left : Nat) ∧ Hid (wr.ranges Tryz.prog 9 ptrR b w.heap.size p.seen.length (dirD p.seen) left cnt) ∧ Hid (Kp No w wr)) (fun _ _ wr => wr.rangeLeft b w.heap.size)
    case atStart => exact ⟨Maps.has (dirD p.seen), Maps.size (dirD p.seen), by rw [sumBy_start]; rfl, hrg.out, (Kp.refl _ _).grown hg.out (by simp)⟩
    case round =>
      obtain ⟨left, cnt, rfl, HR, HK⟩ := hrel
      go_wp2_with (first | (at_next; refine wpList_next_ranges _ rfl _ rfl 9 Tryz.keyed ptrR encStr ptrV (fun key kl hk => by obtain ⟨x, hx, _⟩ := Maps.keyOf_str Tryz.underlying9 hk; exact ⟨x, hx⟩) (fun v y hv => by obtain ⟨c, rfl, _⟩ := ptrR_inv hv; exact ⟨c, rfl⟩) b w.heap.size p.seen.length (dirD p.seen) left cnt rfl HR.out ?_ ?_) | go_in)
      · intro _ hl0
        have HL := hid hl0
        clear hl0
        go_wp2
        go_ret
        refine ⟨?_, HK.out⟩
        rw [used, ← sumBy_end (fun b => (fileAt p b).b.length) p.seen left HL.out]
        rfl
      · intro x c kl yd yp w2 cnt2 hkey hlk hv hat hrg2 hlt hg2 hs2 hen
        obtain ⟨x', ex, rfl, _⟩ := Maps.keyOf_str Tryz.underlying9 hkey
        obtain rfl : x = x' := encStr_inj ex
        obtain ⟨c', hc1, hc2⟩ := ptrR_inv hv
        have hdx : ∃ f, dfind p.seen x = some f := by
          have := has_true_of_atKey hat
          rw [dirD_has] at this
          exact Option.isSome_iff_exists.1 this
        obtain ⟨f, hf⟩ := hdx
        have hcf : c = some f := by
          have h1 := hat .nil
          rw [dirD_at, hf] at h1
          have hcc : c = c' := by
            unfold ptrV at hc1
            cases c <;> cases c' <;> simp at hc1 <;> simp [hc1]
          subst hcc
          cases c with
          | none => simp at hc2; rw [← h1] at hc2; simp [fileD] at hc2
          | some y =>
            simp at hc2
            rw [← h1] at hc2
            rw [fileD_inj hc2.1]
        subst hcf
        have hmem := mem_of_dfind hf
        obtain ⟨a, cap, hcell, hfl⟩ := HF.out _ hmem
        have HK2 : Hid (Kp No w w2) := HK.out.grown hg2 (fun y hy => .inr (by simp at hy; omega))
        have c0 := (HK2.out.cell (p := ⟨f, 0, none⟩) hfl (fun h => h.elim)).trans hcell
        have HS := hid (sumBy_step (fun b => (fileAt p b).b.length) left x f p.seen hnd.out hmem hlk)
        have hb2 := hB.out left
        have hb3 := hB.out (fun z => left z && !z.sameKey (.string x))
        rw [HS.out] at hb3
        have HR2 := hid hrg2
        have HE : (Instr.entry (.pointer (some ⟨w.heap.size, 0, none⟩))).run Tryz.prog w2 = .ok (.tuple #[encStr x, .pointer (some ⟨f, 0, none⟩)]) w2 := hen
        have e0 : ptrV (some f) = .pointer (some ⟨f, 0, none⟩) := rfl
        rw [e0]
        simp only at hcell c0 hb3 HS
        generalize sumBy (fun b => (fileAt p b).b.length) p.seen left = S at *
        obtain ⟨L, hL⟩ : ∃ L, (fileAt p f).b.length = L := ⟨_, rfl⟩
        rw [hL] at c0 hb3 HS
        clear hs2 hen hv hat hkey hlk hc1 hc2 hrg2 hg2 hf hmem hcell e0 hL
        go_wp2
        go_roundw
        case rel => exact ⟨_, cnt2, by rw [HS.out]; go_num, HR2, HK2⟩
        case measure => rw [HR2.out.left_eq, HR.out.left_eq]; exact hlt

end Go.Proofs.YtophnjcoaglbnaaGreatDoor.Sim
end

section
/-
  (directory).do: changes, done one behind the other to a map.
-/
namespace Go.Proofs.YtophnjcoaglbnaaGreatDoor.Sim
open Go.RowKit Go.Maps

/-- A slice of changes that is read. -/
def ChAt (w : World) (v : Value) (cs : List PC) : Prop :=
  ∃ a cap, v = .slice a cs.length cap ∧ cs.length ≤ cap ∧ cap ≤ maxLen ∧ cs.length ≤ 100000 ∧ (cs ≠ [] → ∃ g, a = some ⟨g, 0, none⟩ ∧ g < w.heap.size ∧ ∀ i c, cs[i]? = some c → ∀ j, j < 4 → w.cell? ⟨g, i * 4 + j, none⟩ = (chgCells c)[j]?)
theorem Row.chAt {w : World} {v : Value} {cs : List PC} (h : Row w 165 4 v cs.length (chgs cs)) (hl : cs.length ≤ 100000) : ChAt w v cs := by
  rcases h.2 with ⟨rfl, h0⟩ | ⟨g, cap, cur, rfl, hg, hh, hn, hc, hs, ht⟩
  · have : cs = [] := List.length_eq_zero_iff.1 h0
    subst this
    exact ⟨none, 0, rfl, Nat.le_refl _, Nat.zero_le _, by simp, fun h => absurd rfl h⟩
  · refine ⟨_, cap, rfl, hn, hc, hl, fun _ => ⟨g, rfl, (Array.getElem?_eq_some_iff.1 hh).1, fun i c hi j hj => ?_⟩⟩
    have hil : i < cs.length := (List.getElem?_eq_some_iff.1 hi).1
    rw [h.cellAt (i * 4 + j) (by omega)]
    exact chgs_at cs i c hi j hj
theorem ChAt.front {w : World} {a : Option Addr} {n cap : Nat} {cs : List PC} (h : ChAt w (.slice a n cap) cs) (k : Nat) (hk : k ≤ cs.length) : ChAt w (.slice a k cap) (cs.take k) := by
  obtain ⟨a', cap', e, h1, h2, h3, h4⟩ := h
  cases e
  have hl : (cs.take k).length = k := List.length_take_of_le hk
  refine ⟨a, cap, by rw [hl], by omega, h2, by omega, fun hne => ?_⟩
  obtain ⟨g, hg, hgl, hc⟩ := h4 (fun e => hne (by rw [e]; simp))
  refine ⟨g, hg, hgl, fun i c hi j hj => hc i c ?_ j hj⟩
  have hik : i < k := by have := (List.getElem?_eq_some_iff.1 hi).1; omega
  rw [List.getElem?_take_of_lt hik] at hi
  exact hi
theorem ChAt.one (w : World) (c : PC) : ChAt (w.alloc (.cells (chgCells c).toArray 165)) (.slice (some ⟨w.heap.size, 0, none⟩) 1 1) [c] := by
  refine ⟨_, 1, rfl, by simp, by decide, by simp, fun _ => ⟨_, rfl, by simp, fun i d hi j hj => ?_⟩⟩
  have hi0 : i = 0 := by have := (List.getElem?_eq_some_iff.1 hi).1; simpa using this
  subst hi0
  simp at hi
  subst hi
  rw [World.cell?_alloc_at _ _ _ _ rfl]
  simp
theorem MapAt.noCell {w : World} {b : Nat} {l : Dir} (h : MapAt w b l) (j : Nat) : w.cell? ⟨b, j, none⟩ = none := by
  obtain ⟨es, clock, hb, _⟩ := h
  simp [World.cell?, hb]

theorem wp_look (w : World) {ops : Array Oper} {rest : List Oper} {o : Oper} {a : Act} {Q : Exit → Act → World → Prop} (hg : o.guard = none) (m x : Operand) (hop : o.op = Op.lookup 95 m x false) (b : Nat) (l : Dir) (n : Nm) (f : Nat) (hm : a.eval m = .map (some b)) (hx : a.eval x = encStr n)
    (h : MapAt w b l) (hn : n.length ≤ 1000000) (hf : dfind l n = some f) (hK : wpList Tryz.prog ops Q rest (a.put o.dst (.pointer (some ⟨f, 0, none⟩))) w) : wpList Tryz.prog ops Q (o :: rest) a w := by
  refine wpList_plain hg fun K' hK' => ?_
  have hrun := h.look n hn
  rw [hf, show ptrV (some f) = .pointer (some ⟨f, 0, none⟩) from rfl] at hrun
  unfold Oper.wp
  simp [execOp, hop, hm, hx, hrun, Result.andThen]
  exact hK' _ _ hK

/-- No change, whatever the map. -/
theorem do_none (mv : Value) (w : World) (v : Value) (h : ChAt w v []) : Calls Tryz.prog 100 #[mv, v] w fun e w' => e = .returned (.tuple #[]) ∧ w' = w := by
  obtain ⟨a, cap, rfl, _⟩ := h
  go_enter Tryz.func100, Tryz.ntmps100
  go_wp2
  refine wp_loop_rounds 1 ?_
  rw [rounds_succ]
  go_wp2
  go_end0
  exact ⟨rfl, rfl⟩

set_option maxHeartbeats 2000000 in
theorem do_any (w : World) (mb : Nat) (l : Dir) (v : Value) (cs : List PC) (hm : MapAt w mb l) (h : ChAt w v cs) (hok : okcs l cs) (hn : ∀ c ∈ cs, c.nm.length ≤ 1000000 ∧ c.to.length ≤ 1000000) (hl : l.length + cs.length ≤ 100000) :
    Calls Tryz.prog 100 #[.map (some mb), v] w fun e w' => e = .returned (.tuple #[]) ∧ MapAt w' mb (cs.foldl pdo l) ∧ Kp (· = mb) w w' := by
  obtain ⟨a, cap, rfl, h1, h2, h3, h4⟩ := h
  have HM := hid hm
  have HC := hid h4
  have HOK := hid hok
  have HN := hid hn
  have hmb := hm.lt
  clear hm h4 hok hn
  go_enter Tryz.func100, Tryz.ntmps100
  go_wp2
  go_loopw [9] (fun x wr => ∃ i : Nat, x = .int .i64 i ∧ i ≤ cs.length ∧ Hid (MapAt wr mb ((cs.take i).foldl pdo l)) ∧ Hid (((cs.take i).foldl pdo l).length ≤ l.length + i) ∧ Hid (Kp (· = mb) w wr)) (fun x _ => cs.length - (intOf x).toNat)
  case atStart => exact ⟨0, rfl, by omega, by simpa using HM, by simp [Hid], Kp.refl _ _⟩
  case round =>
    obtain ⟨i, rfl, hi, HI, HL, HK⟩ := hrel
    by_cases hlt : i < cs.length
    · obtain ⟨g, rfl, hg, hcell⟩ := HC.out (by intro e; subst e; simp at hlt)
      obtain ⟨c, hc⟩ : ∃ c, cs[i]? = some c := ⟨_, List.getElem?_eq_getElem hlt⟩
      have hgm : g ≠ mb := by
        intro e
        subst e
        have h0 := hcell i c hc 0 (by omega)
        rw [HM.out.noCell] at h0
        simp [chgCells] at h0
      have hcc : ∀ j, j < 4 → wr.cell? ⟨g, i * 4 + j, none⟩ = (chgCells c)[j]? := fun j hj => (HK.out.cell (p := ⟨g, i * 4 + j, none⟩) hg hgm).trans (hcell i c hc j hj)
      have HT : Hid (cs.take (i + 1) = cs.take i ++ [c]) := by rw [Hid, List.take_add_one, hc]; rfl
      have hok : okc ((cs.take i).foldl pdo l) c := by
        have h5 := HOK.out
        rw [← List.take_append_drop i cs, okcs_append] at h5
        have h6 := h5.2
        have h7 : cs.drop i = c :: cs.drop (i + 1) := by rw [List.drop_eq_getElem_cons hlt]; congr 1; rw [List.getElem?_eq_getElem hlt] at hc; simpa using hc
        rw [h7] at h6
        exact h6.1
      have HCN := hid (HN.out c (List.mem_of_getElem? hc))
      have HTF : Hid ((cs.take (i + 1)).foldl pdo l = pdo ((cs.take i).foldl pdo l) c) := by rw [Hid, HT.out, List.foldl_append]; rfl
      have HLN : Hid ((pdo ((cs.take i).foldl pdo l) c).length ≤ l.length + (i + 1)) := by
        have h8 := length_pdo ((cs.take i).foldl pdo l) c
        have h9 := HL.out
        rw [Hid]
        omega
      have hdl : Hid (((cs.take i).foldl pdo l).length ≤ 1000000) := by have := HL.out; rw [Hid]; omega
      generalize (cs.take i).foldl pdo l = d at *
      have e0 : wr.cell? ⟨g, i * 4, none⟩ = some (.int .i64 (c.kind : Int)) := hcc 0 (by omega)
      have e1 : wr.cell? ⟨g, i * 4 + 1, none⟩ = some (.string (sOf c.nm)) := hcc 1 (by omega)
      have e2 : wr.cell? ⟨g, i * 4 + 2, none⟩ = some (.string (sOf c.to)) := hcc 2 (by omega)
      have e3 : wr.cell? ⟨g, i * 4 + 3, none⟩ = some (ptrV (pcV c)) := hcc 3 (by omega)
      have HX : Hid (ptrV (pcV c) = ptrV (pcV c)) := rfl
      obtain ⟨hk2, hk3⟩ := hok
      have HEN : Hid (encStr c.nm = .string (sOf c.nm) ∧ encStr c.to = .string (sOf c.to)) := ⟨rfl, rfl⟩
      clear hcc hcell hc HT
      have hkk : c.kind = 0 ∨ c.kind = 1 ∨ c.kind = 2 := by omega
      rcases hkk with hk | hk | hk
      · have HP : Hid (pdo d c = dput d c.nm c.file) := by rw [Hid, pdo, if_pos hk]
        rw [show pcV c = some c.file by simp [pcV, hk]] at e3
        rw [show ptrV (some c.file) = .pointer (some ⟨c.file, 0, none⟩) from rfl] at e3
        rw [hk] at e0
        clear hk hk2 hk3 HX
        generalize sOf c.nm = sn at *
        generalize sOf c.to = st at *
        go_wp2_with (first | (at_mapUpdate; refine wp_store _ rfl _ _ _ rfl mb c.file d c.nm rfl ?hx rfl ?hm HCN.out.1 hdl.out ?_; (case hx => exact HEN.out.1.symm); (case hm => exact HI.out.kp (L := No) ((Kp.refl _ _).alloc _) (fun h => h)); intro w2 hm2 hk2 hs2; have HM2 := hid hm2; have HK2 := hid hk2; clear hm2 hk2 hs2) | go_in)
        go_roundw
        case rel => exact ⟨i + 1, by go_num, by omega, by rw [HTF.out, HP.out]; exact HM2, by rw [HTF.out]; exact HLN, ((HK.out.alloc _).trans HK2.out (fun x hx => .inl hx))⟩
        case measure => simp [intOf]; omega
      · have HP : Hid (pdo d c = ddel d c.nm) := by rw [Hid, pdo, if_neg (by omega), if_pos hk]
        rw [hk] at e0
        have HI2 : Hid (∀ o, MapAt (wr.alloc o) mb d) := fun o => HI.out.kp (L := No) ((Kp.refl _ _).alloc _) (fun h => h)
        clear hk hk2 hk3 HX
        rw [show ptrV (pcV c) = .pointer ((pcV c).map fun x => ⟨x, 0, none⟩) from rfl] at e3
        generalize ((pcV c).map fun x => (⟨x, 0, none⟩ : Addr)) = pv at e3
        generalize sOf c.nm = sn at *
        generalize sOf c.to = st at *
        go_wp2_with (first | (at_delete; refine wp_drop _ rfl _ _ rfl mb d c.nm rfl ?hx ?hm HCN.out.1 ?_; (case hx => exact HEN.out.1.symm); (case hm => exact HI2.out _); intro w2 hm2 hk2 hs2; have HM2 := hid hm2; have HK2 := hid hk2; clear hm2 hk2 hs2) | go_in)
        go_roundw
        case rel => exact ⟨i + 1, by go_num, by omega, by rw [HTF.out, HP.out]; exact HM2, by rw [HTF.out]; exact HLN, ((HK.out.alloc _).trans HK2.out (fun x hx => .inl hx))⟩
        case measure => simp [intOf]; omega
      · obtain ⟨f, hf⟩ := Option.isSome_iff_exists.1 (hk3 hk)
        have HP : Hid (pdo d c = dput (ddel d c.nm) c.to f) := by rw [Hid, pdo, if_neg (by omega), if_neg (by omega), hf]; rfl
        rw [hk] at e0
        have HI2 : Hid (∀ o, MapAt (wr.alloc o) mb d) := fun o => HI.out.kp (L := No) ((Kp.refl _ _).alloc _) (fun h => h)
        have HF := hid hf
        have hdl2 : Hid ((ddel d c.nm).length ≤ 1000000) := Nat.le_trans (length_ddel _ _) hdl.out
        have hwz : wr.heap.size ≠ mb := by have := HI.out.lt; omega
        have tok1 : True := trivial
        clear hk hk2 hk3 HX hf
        rw [show ptrV (pcV c) = .pointer ((pcV c).map fun x => ⟨x, 0, none⟩) from rfl] at e3
        generalize ((pcV c).map fun x => (⟨x, 0, none⟩ : Addr)) = pv at e3
        generalize sOf c.nm = sn at *
        generalize sOf c.to = st at *
        go_wp2_with (first | (at_lookup; refine wp_look _ rfl _ _ rfl mb d c.nm f rfl ?hx ?hm HCN.out.1 HF.out ?_; (case hx => exact HEN.out.1.symm); (case hm => exact HI2.out _)) | (at_delete; refine wp_drop _ rfl _ _ rfl mb d c.nm rfl ?hx ?hm HCN.out.1 ?_; (case hx => exact HEN.out.1.symm); (case hm => exact HI2.out _); intro w2 hm2 hk2 hs2; have HM2 := hid hm2; have HK2 := hid hk2; have f1 : w2.cell? ⟨wr.heap.size, 1, none⟩ = some (.string sn) := (hk2.cell (p := ⟨wr.heap.size, 1, none⟩) (by simp) hwz).trans (World.cell?_alloc_at _ _ _ _ rfl); have f2 : w2.cell? ⟨wr.heap.size, 2, none⟩ = some (.string st) := (hk2.cell (p := ⟨wr.heap.size, 2, none⟩) (by simp) hwz).trans (World.cell?_alloc_at _ _ _ _ rfl); clear hm2 hk2 hs2) | (at_mapUpdate; refine wp_store _ rfl _ _ _ rfl mb f (ddel d c.nm) c.to rfl ?hx rfl ?hm HCN.out.2 hdl2.out ?_; (case hx => exact HEN.out.2.symm); (case hm => exact HM2.out); intro w3 hm3 hk3 hs3; have HM3 := hid hm3; have HK3 := hid hk3; clear hm3 hk3 hs3) | go_in)
        go_roundw
        case rel => exact ⟨i + 1, by go_num, by omega, by rw [HTF.out, HP.out]; exact HM3, by rw [HTF.out]; exact HLN, ((HK.out.alloc _).trans HK2.out (fun x hx => .inl hx)).trans HK3.out (fun x hx => .inl hx)⟩
        case measure => simp [intOf]; omega
    · go_wp2
      go_end0
      have ht : cs.take i = cs := List.take_of_length_le (by omega)
      rw [ht] at HI
      exact ⟨rfl, HI.out, HK.out⟩

end Go.Proofs.YtophnjcoaglbnaaGreatDoor.Sim
end

section
/-
  A step: whether it goes down here, or what is done.
-/
namespace Go.Proofs.YtophnjcoaglbnaaGreatDoor.Sim
open Go.RowKit Go.Maps

theorem Kp.set1 (w : World) (s j : Nat) (x : Value) : Kp (· = s) w (w.setCell ⟨s, j, none⟩ x) := (Kp.refl (· = s) w).setCell (p := ⟨s, j, none⟩) (.inl rfl) x
theorem PInv.tick {N : Nat} {p : PS} (h : PInv N p) (hb : N + 1 ≤ 1000) : PInv (N + 1) (tick p) :=
  { (h.mono (M := N + 1) (by omega) hb) with
    steps := by have := h.steps; show p.steps + 1 ≤ N + 1; omega
    left := by have := h.left; show (if p.armed then p.left - 1 else p.left) ≤ _; split <;> omega }
theorem PInv.fall {N : Nat} {p : PS} (h : PInv N p) : PInv N (fall p) := { h with }

/-- Other scalars in the struct. -/
theorem Rp.cells {P : Nat → Prop} {I J : PS → Prop} {w W : World} {s : Nat} {p q : PS} {vs vf vc : Value} {u : Nat → Value} (h : Rp P I w s p vs vf vc u) (k : Kp (· = s) w W) (hb : Blk W s 103 (fsCells q vs vf vc))
    (e1 : q.made = p.made) (e2 : q.seen = p.seen) (e3 : q.safe = p.safe) (e4 : q.chg = p.chg) (e5 : q.files = p.files) (hi : J q) : Rp P J W s q vs vf vc u where
  lt x hx := Nat.lt_of_lt_of_le (h.lt x hx) k.size
  ps := h.ps
  blk := hb
  seen := by
    rw [e2]
    rcases h.seen with ⟨h1, h2⟩ | ⟨b, h1, h2⟩
    · exact .inl ⟨h1, h2⟩
    · exact .inr ⟨b, h1, h2.kp k (h2.blk h.blk)⟩
  safe := by
    rw [e3]
    rcases h.safe with ⟨h1, h2⟩ | ⟨b, h1, h2⟩
    · exact .inl ⟨h1, h2⟩
    · exact .inr ⟨b, h1, h2.kp k (h2.blk h.blk)⟩
  unmade := by rw [e1]; exact h.unmade
  mades := by rw [e1]; exact h.mades
  chg := by rw [e4]; exact h.chg.kp k (fun x hx e => (h.chg.ne h.blk (by decide)) (by rw [hx, e]))
  pc := h.pc
  file b f hf := by
    rw [e5] at hf
    obtain ⟨h1, h2, h3⟩ := h.file b f hf
    exact ⟨h1, h2.kp k (fun e => (h2.blk.ne h.blk (by decide)) e) (fun x hx e => (h2.own.row.ne h.blk (by decide)) (by rw [hx, e])), h3⟩
  sep := by rw [e5]; exact h.sep
  inv := hi

theorem add_any (a : Addr) (n d : Int) (w : World) (hc : w.cell? a = some (.int .i64 n)) (hz : w.frozen? a = false) :
    Calls Tryz.prog 131 #[.pointer (some a), .int .i64 d] w fun e w' => e = .returned (.int .i64 (wrap64 (n + d))) ∧ w' = w.setCell a (.int .i64 (wrap64 (n + d))) := by
  have hadd := run_call_add (P := Tryz.prog) Tryz.func166 (by kernel_rfl) (by kernel_rfl) (by kernel_rfl) .i64 (by kernel_rfl) (y := d) (s := wrap64 (n + d)) hc hz (by simp [go_sem, wrap64, IntKind.wrap_i64])
  go_enter Tryz.func131, Tryz.ntmps131
  go_wp2
  go_ret
  exact ⟨rfl, rfl⟩
theorem wrap_small (n : Nat) (h : n ≤ 1000000) : wrap64 ((n : Int) + 1) = ((n + 1 : Nat) : Int) := by unfold wrap64; omega

set_option maxHeartbeats 1000000 in
theorem step_dead {P : Nat → Prop} {N : Nat} (w : World) (s : Nat) (p : PS) (h : Sys P N w s p) (hd : dead p = true) (fv : Value) :
    Calls Tryz.prog 94 #[.pointer (some ⟨s, 0, none⟩), fv] w fun e w' => e = .returned (.int .i64 12) ∧ Sys P N w' s (fall p) ∧ Kp (· = s) w w' := by
  obtain ⟨vs, vf, vc, u, h⟩ := h
  have h' : p.armed = true ∧ p.left = 0 := by simpa [dead] using hd
  have q4 : w.cell? ⟨s, 4, none⟩ = some (.bool p.down) := h.c 4
  have q5 : w.cell? ⟨s, 5, none⟩ = some (.bool p.armed) := h.c 5
  have q6 : w.cell? ⟨s, 6, none⟩ = some (.int .i64 (p.left : Int)) := h.c 6
  have f4 := h.blk.frozen 4
  rw [h'.1] at q5
  rw [h'.2] at q6
  have H := hid h
  clear h h' hd
  go_enter Tryz.func94, Tryz.ntmps94
  go_wp2
  go_ret
  have k : Kp (· = s) w (w.setCell ⟨s, 4, none⟩ (.bool true)) := Kp.set1 _ _ _ _
  exact ⟨rfl, ⟨vs, vf, vc, u, H.out.cells k (H.out.blk.setCell 4 (.bool true)) rfl rfl rfl rfl rfl H.out.inv.fall⟩, k⟩

set_option maxHeartbeats 2000000 in
theorem step_live {P : Nat → Prop} {N : Nat} (w : World) (s : Nat) (p : PS) (h : Sys P N w s p) (hd : dead p = false) (hN : N + 1 ≤ 1000) (f : FuncId) (caps : Array Value)
    (ent : ∀ args w, (callFunc f args).run Tryz.prog w = .ok (.enter f args) w) (T : World → Prop)
    (hc : ∀ W, Kp (· = s) w W → Sys P (N + 1) W s (tick p) → Calls Tryz.prog f caps W fun e w' => e = .returned (.tuple #[]) ∧ T w') :
    Calls Tryz.prog 94 #[.pointer (some ⟨s, 0, none⟩), .func (.func f) #[] caps] w fun e w' => e = .returned (.int .i64 0) ∧ T w' := by
  obtain ⟨vs, vf, vc, u, h⟩ := h
  have hst := Nat.le_trans h.inv.steps h.inv.big
  have hle := h.inv.left
  have q5 : w.cell? ⟨s, 5, none⟩ = some (.bool p.armed) := h.c 5
  have q6 : w.cell? ⟨s, 6, none⟩ = some (.int .i64 (p.left : Int)) := h.c 6
  have q7 : w.cell? ⟨s, 7, none⟩ = some (.int .i64 (p.steps : Int)) := h.c 7
  have f6 := h.blk.frozen 6
  have f7 := h.blk.frozen 7
  have H := hid h
  have HT := hid (h.inv.tick hN)
  have HC := hid hc
  clear h hc
  cases ha : p.armed with
  | true =>
    have hl : p.left ≠ 0 := by intro e; simp [dead, ha, e] at hd
    rw [ha] at q5
    have hne : ((p.left : Int) == 0) = false := by simp; omega
    have hl1 : (1 : Int) ≤ (p.left : Int) := by omega
    have k1 : Hid (Kp (· = s) w (w.setCell ⟨s, 6, none⟩ (.int .i64 ((p.left : Int) - 1)))) := Kp.set1 _ _ _ _
    have q7' : (w.setCell ⟨s, 6, none⟩ (.int .i64 ((p.left : Int) - 1))).cell? ⟨s, 7, none⟩ = some (.int .i64 (p.steps : Int)) := (cell_other (by decide)).trans q7
    have f7' : (w.setCell ⟨s, 6, none⟩ (.int .i64 ((p.left : Int) - 1))).frozen? ⟨s, 7, none⟩ = false := by simpa using f7
    have HA := add_any ⟨s, 7, none⟩ p.steps 1 _ q7' f7'
    rw [wrap_small _ (by omega)] at HA
    have HA := hid HA
    have k2 : Hid (Kp (· = s) w ((w.setCell ⟨s, 6, none⟩ (.int .i64 ((p.left : Int) - 1))).setCell ⟨s, 7, none⟩ (.int .i64 ((p.steps + 1 : Nat) : Int)))) := k1.out.trans (Kp.set1 _ _ _ _) (fun x hx => .inl hx)
    have hS : Hid (Sys P (N + 1) ((w.setCell ⟨s, 6, none⟩ (.int .i64 ((p.left : Int) - 1))).setCell ⟨s, 7, none⟩ (.int .i64 ((p.steps + 1 : Nat) : Int))) s (tick p)) := by
      refine ⟨vs, vf, vc, u, H.out.cells k2.out ?_ rfl rfl rfl rfl rfl HT.out⟩
      have := (H.out.blk.setCell 6 (.int .i64 ((p.left : Int) - 1))).setCell 7 (.int .i64 ((p.steps + 1 : Nat) : Int))
      have hcast : ((p.left - 1 : Nat) : Int) = (p.left : Int) - 1 := by omega
      simpa [fsCells, tick, ha, hcast] using this
    generalize (w.setCell ⟨s, 6, none⟩ (.int .i64 ((p.left : Int) - 1))).setCell ⟨s, 7, none⟩ (.int .i64 ((p.steps + 1 : Nat) : Int)) = W at *
    clear ha hd q7' f7' k1
    go_enter Tryz.func94, Tryz.ntmps94
    go_wp2_with (first | (go_at_call 131; refine (HA.out).mono ?_; rintro e w1 ⟨rfl, h1⟩; subst w1) | (go_at_fn f; refine (HC.out W k2.out hS.out).mono ?_; rintro e w2 ⟨rfl, ht⟩; have HT2 := hid ht; clear ht))
    go_ret
    exact ⟨rfl, HT2.out⟩
  | false =>
    rw [ha] at q5
    have HA := add_any ⟨s, 7, none⟩ p.steps 1 w q7 f7
    rw [wrap_small _ (by omega)] at HA
    have HA := hid HA
    have k1 : Hid (Kp (· = s) w (w.setCell ⟨s, 7, none⟩ (.int .i64 ((p.steps + 1 : Nat) : Int)))) := Kp.set1 _ _ _ _
    have hS : Hid (Sys P (N + 1) (w.setCell ⟨s, 7, none⟩ (.int .i64 ((p.steps + 1 : Nat) : Int))) s (tick p)) := by
      refine ⟨vs, vf, vc, u, H.out.cells k1.out ?_ rfl rfl rfl rfl rfl HT.out⟩
      have := H.out.blk.setCell 7 (.int .i64 ((p.steps + 1 : Nat) : Int))
      simpa [fsCells, tick, ha] using this
    generalize w.setCell ⟨s, 7, none⟩ (.int .i64 ((p.steps + 1 : Nat) : Int)) = W at *
    clear ha hd
    go_enter Tryz.func94, Tryz.ntmps94
    go_wp2_with (first | (go_at_call 131; refine (HA.out).mono ?_; rintro e w1 ⟨rfl, h1⟩; subst w1) | (go_at_fn f; refine (HC.out W k1.out hS.out).mono ?_; rintro e w2 ⟨rfl, ht⟩; have HT2 := hid ht; clear ht))
    go_ret
    exact ⟨rfl, HT2.out⟩

end Go.Proofs.YtophnjcoaglbnaaGreatDoor.Sim
end
