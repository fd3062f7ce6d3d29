/-
  A text as a hash: Parse, walked.
-/
import Derived.Test.YtbmdnjmdehmahaaText
import Derived.Test.YtbmdnjmdehmahaaEq
import Derived.Laws.ResultCell
namespace Go.Proofs.Ytbmdnjmdehmahaa
open Go.RowKit

/-- A digit's number; 16: it is none. -/
def dgt (c : Nat) : Nat := if 48 ≤ c ∧ c ≤ 57 then c - 48 else if 97 ≤ c ∧ c ≤ 102 then c - 87 else 16
/-- Digits put in, two a byte. -/
def pk (D : Nat → Nat) : Nat → List Nat
  | 0 => List.replicate 32 0
  | i + 1 => (pk D i).set (i / 2) (((pk D i).getD (i / 2) 0 * 16 + D i) % 256)
theorem pk_length (D : Nat → Nat) : ∀ i, (pk D i).length = 32
  | 0 => by simp [pk]
  | i + 1 => by rw [pk, List.length_set, pk_length D i]
theorem pk_lt (D : Nat → Nat) : ∀ i, ∀ x ∈ pk D i, x < 256
  | 0 => zero_lt32
  | i + 1 => by
    intro x hx
    rw [pk] at hx
    rcases List.mem_or_eq_of_mem_set hx with h | rfl
    · exact pk_lt D i x h
    · exact Nat.mod_lt _ (by decide)
where zero_lt32 : ∀ x ∈ pk D 0, x < 256 := by intro x hx; obtain ⟨_, rfl⟩ := List.mem_replicate.1 hx; decide

/-- A text's byte. -/
def byt (s : ByteArray) (i : Nat) : Nat := (s.data.toList.getD i 0).toNat
theorem byt_lt (s : ByteArray) (i : Nat) : byt s i < 256 := UInt8.toNat_lt _
/-- The hash whose text s is, and a fault. -/
def parseOf (s : ByteArray) : List Nat × Int := if s.size = 64 ∧ (List.range 64).all (fun i => decide (dgt (byt s i) < 16)) = true then (pk (fun i => dgt (byt s i)) 64, 0) else (List.replicate 32 0, 3)

theorem ib_fin : ∀ c : Fin 256, Lib.indexByte [48, 49, 50, 51, 52, 53, 54, 55, 56, 57, 97, 98, 99, 100, 101, 102] c.val.toUInt8 = if dgt c.val < 16 then (dgt c.val : Int) else -1 := by decide +kernel
theorem ib (c : Nat) (h : c < 256) : Lib.indexByte [48, 49, 50, 51, 52, 53, 54, 55, 56, 57, 97, 98, 99, 100, 101, 102] (c : Int).toNat.toUInt8 = if dgt c < 16 then (dgt c : Int) else -1 := ib_fin ⟨c, h⟩
theorem sidx (s : ByteArray) (i : Nat) (h : i < s.size) (w : World) : (Instr.index 9 (.string s) (.int .i64 (i : Int))).run Try.prog w = .ok (.int .u8 (byt s i : Nat)) w := by
  simp [Instr.index, asIntOf, run_underlying Try.underlying9]
  have e : s[i]? = some s[i] := getElem?_pos s i h
  have e2 : byt s i = (s[i]).toNat := by
    have h' : i < s.data.toList.length := by simpa using h
    simp [byt, List.getElem?_eq_getElem h', ByteArray.getElem_eq_getElem_data]
  rw [e, e2]
  rfl
theorem or_4 (x d : Nat) (hd : d < 16) : bits .or .u8 ((x * 16 % 256 : Nat) : Int) (d : Int) = (((x * 16 + d) % 256 : Nat) : Int) := by
  have h := u8_or_nat (x * 16 % 256) d (Nat.mod_lt _ (by decide)) (by omega)
  rw [h]
  have e : x * 16 % 256 = 2 ^ 4 * (x % 16) := by omega
  rw [e, ← Nat.two_pow_add_eq_or_of_lt (by omega : d < 2 ^ 4)]
  omega

theorem results_cell_mid2 {P : Program} {fn : Func} {p u : Tmp} {ty : TypeId} (h : fn.results = #[.cell p ty, .tmp u]) (tmps : Array Value) (w : World) (g o : Nat) (cs : List Value) (d : TypeDesc)
    (hp : tmps.getD p undef = .pointer (some ⟨g, o, none⟩)) (hc : w.rangeAt g o cs)
    (hu : P.underlying ty = some d) (hd : d.isRow = true) (hi : (P.info? ty).map (·.size) = some cs.length) :
    (results fn tmps).run P w = .ok (.tuple #[.agg cs.toArray, tmps.getD u undef]) w := by
  have hp' : tmps[p]?.getD undef = .pointer (some ⟨g, o, none⟩) := by simpa using hp
  rw [results_cell_tmp h]
  simp [hp', asAddr, run_loadVar_mid w g o ty cs d hc hu hd hi]

theorem pk_next (D : Nat → Nat) (i : Nat) : pk D (i + 1) = (pk D i).set (i / 2) (((pk D i).getD (i / 2) 0 * 16 + D i) % 256) := rfl
theorem parse_bad {s : ByteArray} (i : Nat) (hi : i < 64) (hd : ¬ dgt (byt s i) < 16) : parseOf s = (List.replicate 32 0, 3) := by
  unfold parseOf
  rw [if_neg]
  rintro ⟨_, ha⟩
  have := List.all_eq_true.1 ha i (List.mem_range.2 hi)
  simp at this
  omega
theorem parse_long {s : ByteArray} (h : s.size ≠ 64) : parseOf s = (List.replicate 32 0, 3) := by
  unfold parseOf
  rw [if_neg (fun k => h k.1)]
theorem parse_good {s : ByteArray} (h : s.size = 64) (hd : ∀ i, i < 64 → dgt (byt s i) < 16) : parseOf s = (pk (fun i => dgt (byt s i)) 64, 0) := by
  unfold parseOf
  rw [if_pos ⟨h, List.all_eq_true.2 fun i hi => by simpa using hd i (List.mem_range.1 hi)⟩]

/-- The two blocks that Parse makes. -/
def PRows (w wr : World) (ps : List Nat) : Prop :=
  BytesAt wr (w.heap.size + 1) 0 ps ∧ (∀ j, wr.frozen? ⟨w.heap.size + 1, j, none⟩ = false) ∧ wr.there w.heap.size 0 32 ∧ Below w.heap.size w wr ∧ w.heap.size + 1 < wr.heap.size
theorem prows_new (w : World) : PRows w ((w.alloc (.cells (u8s (List.replicate 32 0)).toArray 30)).alloc (.cells (u8s (List.replicate 32 0)).toArray 30)) (List.replicate 32 0) := by
  have h := heap_alloc2_new w (.cells (u8s (List.replicate 32 0)).toArray 30) (.cells (u8s (List.replicate 32 0)).toArray 30)
  refine ⟨BytesAt.of_block h, fun j => frozen_of_row _ _ _ _ _ h, there_of_block (heap_alloc2_old _ _ _) 0 32 (by decide), ((Below.refl _ _).alloc (Nat.le_refl _) _).alloc (by simp) _, by simp⟩
theorem PRows.set {w wr : World} {ps : List Nat} (h : PRows w wr ps) (i x : Nat) (hi : i < ps.length) : PRows w (wr.setCell ⟨w.heap.size + 1, i, none⟩ (.int .u8 ((x : Nat) : Int))) (ps.set i x) := by
  obtain ⟨h1, h2, h3, h4, h5⟩ := h
  refine ⟨?_, fun j => by rw [World.frozen?_setCell]; exact h2 j, fun j hj => ?_, h4.setCell (by show w.heap.size ≤ w.heap.size + 1; omega) _, by simpa using h5⟩
  · have k := h1.set i x hi
    rw [Nat.zero_add] at k
    exact k
  · have h := h3 j hj
    exact ⟨by rw [World.cell?_setCell_other _ _ _ _ (by simp)]; exact h.1, by rw [World.frozen?_setCell]; exact h.2⟩
theorem PRows.end {w wr : World} {ps : List Nat} (h : PRows w wr ps) (cs : List Value) : Below w.heap.size w (wr.setCells w.heap.size 0 cs) :=
  ((Kp.below (l := []) h.2.2.2.1).setCells (.inr (Nat.le_refl _)) _ _).toBelow (by simp)
theorem PRows.back {w wr : World} {ps : List Nat} (h : PRows w wr ps) (cs : List Value) (hc : cs.length = 32) : World.rangeAt (wr.setCells w.heap.size 0 cs) w.heap.size 0 cs :=
  World.rangeAt_setCells_same _ _ _ _ (by rw [hc]; exact h.2.2.1)

set_option maxHeartbeats 1000000 in
set_option maxRecDepth 100000 in
theorem parse_any (s : ByteArray) (w : World) :
    Calls Try.prog 18 #[.string s] w fun e w' => e = .returned (.tuple #[.agg (u8s (parseOf s).1).toArray, .int .i64 (parseOf s).2]) ∧ Below w.heap.size w w' := by
  have hix := sidx s
  have HIX := hid hix
  clear hix
  have HZ : Hid ((u8s (List.replicate 32 0)).length = 32) := by rw [Hid, u8s_length]; rfl
  have HI2 : Hid ((Try.prog.info? 30).map (·.size) = some (u8s (List.replicate 32 0)).toArray.size) := by rw [Hid, List.size_toArray, HZ.out]; exact Try.info30
  have H1c : Hid ((u8s (List.replicate 32 0)).toArray.all (·.oneCell') = true) := all_oneCell_toArray (u8s_one _)
  by_cases h64 : s.size = 64
  · have hd : decide ((s.size : Int) = 64) = true := by simp; omega
    have HR := hid (prows_new w)
    have H64 := hid h64
    go_enter Try.func18, Try.ntmps18
    go_wp2_with fail
    rw [z32]
    obtain ⟨W1, hW1⟩ : ∃ W1, (w.alloc (.cells (u8s (List.replicate 32 0)).toArray 30)).alloc (.cells (u8s (List.replicate 32 0)).toArray 30) = W1 := ⟨_, rfl⟩
    rw [hW1] at HR ⊢
    clear hW1 h64 hd
    go_loopw [13] (fun x wr => ∃ i : Nat, x = .int .i64 i ∧ i ≤ 64 ∧ Hid ((∀ j, j < i → dgt (byt s j) < 16) ∧ PRows w wr (pk (fun j => dgt (byt s j)) i))) (fun x _ => 64 - (intOf x).toNat)
    case atStart => exact ⟨0, rfl, by omega, by omega, HR.out⟩
    case round =>
      obtain ⟨i, rfl, hi, HI⟩ := hrel
      by_cases hlt : i < 64
      · have hix := HIX.out i (by rw [H64.out]; exact hlt)
        have hltI : (i : Int) < 64 := by omega
        have hbl := byt_lt s i
        have HN := hid (pk_next (fun j => dgt (byt s j)) i)
        have HPB := hid (parse_bad (s := s) i hlt)
        have HDG : Hid (∀ j, j < i + 1 → j = i ∨ j < i) := fun j hj => by omega
        obtain ⟨c, hc⟩ : ∃ c, byt s i = c := ⟨_, rfl⟩
        have HC := hid hc
        rw [hc] at hix hbl HPB
        simp only [hc] at HN
        clear hc
        go_wp2_with fail
        refine (indexByte_any _ _ wr).mono ?_
        rintro e w2 ⟨rfl, hw2⟩
        subst w2
        rw [ib c hbl]
        by_cases hdg : dgt c < 16
        · rw [if_pos hdg]
          have HXB := hid (getD_lt (pk_lt (fun j => dgt (byt s j)) i) (i / 2))
          have c1 := HI.out.2.1 (i / 2) (by rw [pk_length]; omega)
          rw [Nat.zero_add] at c1
          have f1 := HI.out.2.2.1 (i / 2)
          generalize (pk (fun j => dgt (byt s j)) i).getD (i / 2) 0 = x at *
          have HDC : Hid (dgt (byt s i) < 16) := by rw [Hid, HC.out]; exact hdg
          obtain ⟨d, hd⟩ : ∃ d, dgt c = d := ⟨_, rfl⟩
          rw [hd] at hdg HN ⊢
          clear hd
          have q2 : ((i : Int) / 2).toNat = i / 2 := by omega
          have q2a : (0 : Int) ≤ (i : Int) / 2 := by omega
          have q2b : (i : Int) / 2 < 32 := by omega
          have h0I : (0 : Int) ≤ (i : Int) := by omega
          have hor := or_4 x d hdg
          go_wp2_with fail
          have hcst : ((x * 16 % 256 : Nat) : Int) = (x : Int) * 16 % 256 := by omega
          rw [hcst] at hor
          rw [hor]
          refine ⟨⟨i + 1, rfl, by omega, fun j hj => ?_, ?_⟩, by simp [intOf]; omega⟩
          · rcases HDG.out j hj with rfl | h
            · exact HDC.out
            · exact HI.out.1 j h
          · rw [HN.out]
            exact HI.out.2.set (i / 2) _ (by rw [pk_length]; omega)
        · rw [if_neg hdg]
          have HPX := hid (HPB.out hdg)
          go_wp2_with (refine wpList_store_mid (by rfl) 30 _ _ (by rfl) w.heap.size 0 (u8s (List.replicate 32 0)).toArray (by rfl) (by rfl) ?ht HI2.out H1c.out ?_; (case ht => exact HI.out.2.2.2.1))
          refine bodyPost_ret (v := .tuple #[.agg (u8s (List.replicate 32 0)).toArray, .int .i64 3]) ?_ rfl ⟨by rw [HPX.out], ?_⟩
          · exact results_cell_mid2 Try.results18 _ _ w.heap.size 0 _ _ rfl (HI.out.2.back _ HZ.out) Try.underlying30 rfl (by rw [HZ.out]; exact Try.info30)
          · exact HI.out.2.end _
      · have hi64 : i = 64 := by omega
        subst hi64
        have HPX := hid (parse_good (s := s) H64.out HI.out.1)
        obtain ⟨P, hP⟩ : ∃ P, pk (fun j => dgt (byt s j)) 64 = P := ⟨_, rfl⟩
        have HPL : Hid ((u8s P).length = 32) := by rw [Hid, u8s_length, ← hP, pk_length]
        rw [hP] at HI HPX
        clear hP
        have HRG : Hid (wr.rangeAt (w.heap.size + 1) 0 (u8s P)) := HI.out.2.1.range
        have HIP : Hid ((Try.prog.info? 30).map (·.size) = some (u8s P).length) := by rw [Hid, HPL.out]; exact Try.info30
        have HIP2 : Hid ((Try.prog.info? 30).map (·.size) = some (u8s P).toArray.size) := by rw [Hid, List.size_toArray]; exact HIP.out
        have H1p : Hid ((u8s P).toArray.all (·.oneCell') = true) := all_oneCell_toArray (u8s_one _)
        have HTT : Hid (wr.there w.heap.size 0 (u8s P).toArray.size) := by
          have e : (u8s P).toArray.size = 32 := by rw [List.size_toArray, HPL.out]
          rw [Hid, e]
          exact HI.out.2.2.2.1
        go_wp2_with (first | (refine wpList_load_mid (by rfl) 30 _ (by rfl) (w.heap.size + 1) 0 (by rfl) (u8s P) _ ?hc Try.underlying30 rfl HIP.out ?_; (case hc => exact HRG.out)) | (refine wpList_store_mid (by rfl) 30 _ _ (by rfl) w.heap.size 0 (u8s P).toArray (by rfl) (by rfl) ?ht HIP2.out H1p.out ?_; (case ht => exact HTT.out)))
        refine bodyPost_ret (v := .tuple #[.agg (u8s P).toArray, .int .i64 0]) ?_ rfl ⟨by rw [HPX.out], ?_⟩
        · exact results_cell_mid2 Try.results18 _ _ w.heap.size 0 _ _ rfl (HI.out.2.back _ HPL.out) Try.underlying30 rfl HIP.out
        · exact HI.out.2.end _
  · have HP := hid (parse_long h64)
    have HR := hid (prows_new w)
    have hd : decide ((s.size : Int) = 64) = false := by simp; omega
    go_enter Try.func18, Try.ntmps18
    go_wp2_with (refine wpList_store_mid (by rfl) 30 _ _ (by rfl) w.heap.size 0 (u8s (List.replicate 32 0)).toArray (by rfl) (by rfl) ?ht HI2.out H1c.out ?_; (case ht => exact HR.out.2.2.1))
    refine bodyPost_ret (v := .tuple #[.agg (u8s (List.replicate 32 0)).toArray, .int .i64 3]) ?_ rfl ⟨by rw [HP.out], ?_⟩
    · exact results_cell_mid2 Try.results18 _ _ w.heap.size 0 _ _ rfl (HR.out.back _ HZ.out) Try.underlying30 rfl (by rw [HZ.out]; exact Try.info30)
    · exact HR.out.end _

/-! ### The reference's -/
theorem rdigit_walk (c : Nat) (hc : c < 256) (R : Int) (HR : Hid ((if dgt c < 16 then (dgt c : Int) else -1) = R)) (w : World) :
    Calls Try.prog 36 #[.int .u8 (c : Int)] w fun e w' => e = .returned (.int .i64 R) ∧ w' = w := by
  by_cases h1 : 48 ≤ c ∧ c ≤ 57
  · have e : Hid ((c : Int) - 48 = R) := by
      have h := HR.out
      rw [dgt, if_pos h1, if_pos (by omega)] at h
      rw [Hid, ← h]
      omega
    have i1 : (48 : Int) ≤ c := by omega
    have i2 : (c : Int) ≤ 57 := by omega
    have i3 : IntKind.u8.wrap ((c : Int) - 48) = (c : Int) - 48 := by rw [IntKind.wrap_u8]; omega
    clear h1
    go_enter Try.func36, Try.ntmps36
    go_wp2_with fail
    go_ret
    rw [e.out]
    exact ⟨rfl, rfl⟩
  · by_cases h2 : 97 ≤ c ∧ c ≤ 102
    · have e : Hid ((c : Int) - 97 + 10 = R) := by
        have h := HR.out
        rw [dgt, if_neg h1, if_pos h2, if_pos (by omega)] at h
        rw [Hid, ← h]
        omega
      have i1 : (57 : Int) < c := by omega
      have i2 : (c : Int) ≤ 102 := by omega
      have i0 : (48 : Int) ≤ c := by omega
      have i4 : (97 : Int) ≤ c := by omega
      have i3 : IntKind.u8.wrap ((c : Int) - 97) = (c : Int) - 97 := by rw [IntKind.wrap_u8]; omega
      clear h1 h2
      go_enter Try.func36, Try.ntmps36
      go_wp2_with fail
      go_ret
      rw [e.out]
      exact ⟨rfl, rfl⟩
    · have e : Hid ((-1 : Int) = R) := by
        have h := HR.out
        rw [dgt, if_neg h1, if_neg h2, if_neg (by omega)] at h
        exact h
      have : c < 48 ∨ (57 < c ∧ c < 97) ∨ 102 < c := by omega
      clear h1 h2
      rcases this with h | ⟨h, h'⟩ | h
      · have i1 : (c : Int) < 48 := by omega
        have i2 : (c : Int) < 97 := by omega
        go_enter Try.func36, Try.ntmps36
        go_wp2_with fail
        go_ret
        rw [← e.out]
        exact ⟨rfl, rfl⟩
      · have i1 : (c : Int) < 97 := by omega
        have i2 : (57 : Int) < c := by omega
        have i0 : (48 : Int) ≤ c := by omega
        go_enter Try.func36, Try.ntmps36
        go_wp2_with fail
        go_ret
        rw [← e.out]
        exact ⟨rfl, rfl⟩
      · have i1 : (102 : Int) < c := by omega
        have i2 : (57 : Int) < c := by omega
        have i0 : (48 : Int) ≤ c := by omega
        have i4 : (97 : Int) ≤ c := by omega
        go_enter Try.func36, Try.ntmps36
        go_wp2_with fail
        go_ret
        rw [← e.out]
        exact ⟨rfl, rfl⟩
theorem rdigit_any (c : Nat) (hc : c < 256) (w : World) :
    Calls Try.prog 36 #[.int .u8 (c : Int)] w fun e w' => e = .returned (.int .i64 (if dgt c < 16 then (dgt c : Int) else -1)) ∧ w' = w := rdigit_walk c hc _ rfl w
end Go.Proofs.Ytbmdnjmdehmahaa
