/-
  Join: the bytes of all, one behind the other.
-/
import Derived.Test.YtinijgkkmfdfiaaDoorMem
import Derived.Lib.SlBuf
import Derived.Lib.MakeNoZero
import Derived.Laws.Externs
namespace Go.Proofs.YtinijgkkmfdfiaaDoor
open Go.RowKit

/-- Bytes as the library tells them. -/
def u8l (xs : List Nat) : List UInt8 := xs.map UInt8.ofNat
theorem u8l_length (xs : List Nat) : (u8l xs).length = xs.length := by simp [u8l]
theorem u8l_append (xs ys : List Nat) : u8l (xs ++ ys) = u8l xs ++ u8l ys := by simp [u8l]
theorem u8_toNat {x : Nat} (h : x < 256) : (UInt8.ofNat x).toNat = x := by simp; omega

theorem ByP.holds {P : Nat → Prop} {w : World} {v : Value} {bs : List Nat} (h : ByP P w v bs) : Lib.HoldsBytes w v (u8l bs) := by
  obtain ⟨a, cap, rfl, h2, h3, h4, h5, h6, h7⟩ := h
  refine ⟨a, cap, by rw [u8l_length], fun e => by rw [(h4 e).1]; rfl, fun x hx i y hy => ?_⟩
  have hi : i < bs.length := by
    have := (List.getElem?_eq_some_iff.1 hy).1
    rwa [u8l_length] at this
  obtain ⟨g, o, e, _, hg, hc⟩ := h7 (by intro e; subst e; simp at hi)
  rw [hx] at e
  cases e
  rw [addr_add, hc i hi]
  have hb : bs.getD i 0 < 256 := getD_lt h6 hi
  rw [u8l, List.getElem?_map, List.getElem?_eq_getElem hi, Option.map_some, Option.some.injEq] at hy
  rw [← hy, u8_toNat (h6 _ (List.getElem_mem hi)), getD_at hi]

/-- A buffer that is filled: bytes. -/
theorem buf_full {w0 wr : World} {N : Nat} {acc : List Nat} (hb : Lib.Buf w0 wr w0.heap.size N (u8l acc)) (hN : acc.length = N) (hm : N ≤ 1000000) (h6 : ∀ x ∈ acc, x < 256) :
    ByP (w0.heap.size ≤ ·) wr (.slice (some ⟨w0.heap.size, 0, none⟩) N N) acc := by
  subst hN
  refine ⟨_, _, rfl, Nat.le_refl _, by unfold maxLen; omega, by simp, by omega, h6, fun hne => ⟨w0.heap.size, 0, rfl, Nat.le_refl _, ?_, fun i hi => ?_⟩⟩
  · have hp := List.length_pos_iff.2 hne
    obtain ⟨u, hu⟩ := Option.isSome_iff_exists.1 (hb.there 0 hp)
    exact World.block_lt_of_cell? wr ⟨w0.heap.size, 0, none⟩ hu
  have := hb.holds i (UInt8.ofNat acc[i]) (by rw [u8l, List.getElem?_map, List.getElem?_eq_getElem hi]; rfl)
  rw [Nat.zero_add, this, u8_toNat (h6 _ (List.getElem_mem hi)), getD_at hi]

theorem Tryd.size5 : (Tryd.prog.info? 5).map (·.size) = some 1 := by kernel_rfl
theorem Tryd.sz5 (w : World) : (Go.sizeOf 5).run Tryd.prog w = .ok 1 w := by kernel_rfl

theorem take_flat (cs : List (List Nat)) (i : Nat) (h : i < cs.length) : (cs.take (i + 1)).flatten = (cs.take i).flatten ++ cs.getD i [] := by
  rw [List.take_succ_eq_append_getElem h, List.flatten_append, List.getD_eq_getElem?_getD, List.getElem?_eq_getElem h]
  simp
theorem take_flat_le (cs : List (List Nat)) (i : Nat) : (cs.take i).flatten.length ≤ cs.flatten.length := by
  have : cs.flatten.length = (cs.take i).flatten.length + (cs.drop i).flatten.length := by
    rw [← List.length_append, ← List.flatten_append, List.take_append_drop]
  omega
theorem LsP.bts {P : Nat → Prop} {w : World} {v : Value} {cs : List (List Nat)} (h : LsP P w v cs) : ∀ x ∈ cs.flatten, x < 256 := by
  intro x hx
  obtain ⟨c, hc, hx⟩ := List.mem_flatten.1 hx
  obtain ⟨i, hi, rfl⟩ := List.getElem_of_mem hc
  obtain ⟨a, cap, _, _, _, _, _, h7⟩ := h
  obtain ⟨g, o, _, _, _, hcc⟩ := h7 (by intro e; subst e; simp at hi)
  obtain ⟨u, _, hu⟩ := hcc i hi
  obtain ⟨_, _, _, _, _, _, _, h6, _⟩ := hu
  rw [List.getD_eq_getElem?_getD, List.getElem?_eq_getElem hi, Option.getD_some] at h6
  exact h6 x hx

set_option maxHeartbeats 4000000 in
set_option maxRecDepth 100000 in
theorem join_many {P : Nat → Prop} (w : World) (v : Value) (cs : List (List Nat)) (h : LsP P w v cs) (h2 : 2 ≤ cs.length) (hfl : cs.flatten.length ≤ 1000000) :
    Calls Tryd.prog 38 #[v, .slice none 0 0] w fun e w' => ∃ a cap, e = .returned (.slice a cs.flatten.length cap) ∧ ByP (w.heap.size ≤ ·) w' (.slice a cs.flatten.length cap) cs.flatten ∧ Below w.heap.size w w' := by
  have HB := hid h.bts
  obtain ⟨a, cap, rfl, hcap, hcm, _, hl6, h7⟩ := h
  obtain ⟨g, o, rfl, _, hg, hc⟩ := h7 (by intro e; subst e; simp at h2)
  have HC := hid hc
  clear h7 hc
  obtain ⟨n, hn⟩ : ∃ n, cs.length = n := ⟨_, rfl⟩
  have HN := hid hn
  rw [hn] at h2 hcap hl6 ⊢
  clear hn
  obtain ⟨T, hT⟩ : ∃ T, cs.flatten.length = T := ⟨_, rfl⟩
  have HT := hid hT
  rw [hT] at hfl ⊢
  clear hT
  unfold maxLen at hcm
  have f0 : ((n : Int) == 0) = false := beq_eq_false_iff_ne.2 (by omega)
  have f1 : ((n : Int) == 1) = false := beq_eq_false_iff_ne.2 (by omega)
  go_enter Tryd.func38, Tryd.ntmps38
  go_wp2
  go_loop [5, 44] (fun s5 s44 => ∃ i : Nat, i ≤ n ∧ s44 = .int .i64 i ∧ s5 = .int .i64 ((cs.take i).flatten.length : Nat)) (fun _ s44 => n - (intOf s44).toNat)
  case atStart => exact ⟨0, Nat.zero_le _, rfl, rfl⟩
  case round =>
    obtain ⟨i, hi, rfl, rfl⟩ := hrel
    by_cases hlt : i < n
    · obtain ⟨u, cu, hu⟩ := HC.out i (by have := HN.out; omega)
      obtain ⟨au, cpu, rfl, _⟩ := hu
      have hs1 : Hid ((cs.take (i + 1)).flatten.length = (cs.take i).flatten.length + (cs.getD i []).length) := by rw [Hid, take_flat cs i (by have := HN.out; omega), List.length_append]
      have hs2 := take_flat_le cs (i + 1)
      rw [hs1.out, HT.out] at hs2
      generalize (cs.getD i []).length = D at *
      generalize (cs.take i).flatten.length = T0 at *
      have hb : ¬ (9223372036854775807 - (T0 : Int) < (D : Int)) := by omega
      have hiI : (i : Int) < (n : Int) := by omega
      go_wp2
      go_round
      case rel => exact ⟨i + 1, by omega, by go_num, by rw [hs1.out]; go_num⟩
      case measure => simp [intOf]; omega
    · obtain rfl : i = n := by omega
      have hall : cs.take i = cs := by rw [← HN.out, List.take_length]
      rw [hall, HT.out]
      clear hall
      obtain ⟨cz, hrunM, hle, hlm⟩ := Lib.run_makeNoZero (P := Tryd.prog) w #[3] 25 5 Tryd.underlying25 T (by omega)
      have hcall : (callFunc 48 #[.int .i64 (T : Int)]).run Tryd.prog w = .ok (.value (.slice (some ⟨w.heap.size, 0, none⟩) T cz.size)) ((w.alloc (.cells cz 5)).drewN 2) := by
        rw [run_callFunc_extern Tryd.func48 (by kernel_rfl) (by kernel_rfl) (by kernel_rfl) (e := Extern.BytealgMakeNoZero.makeNoZero #[3] #[25]) (by kernel_rfl), hrunM]
        rfl
      clear hrunM
      have i0 : (0 : Int) ≤ (T : Int) := by omega
      have i1 : (T : Int) ≤ (cz.size : Int) := by omega
      have i2 : cz.size ≤ 9223372036854775807 := by have := hlm (by unfold maxLen; omega); unfold maxLen at this; omega
      have B0 := Lib.Buf.start w cz 5 T 2 hle
      obtain ⟨u0, cu0, hu0⟩ := HC.out 0 (by have := HN.out; omega)
      obtain ⟨au0, cpu0, e0, _⟩ := id hu0
      have hc0 : ((w.alloc (.cells cz 5)).drewN 2).cell? ⟨g, o, none⟩ = some u0 := Lib.Below.cellOf B0.below (by simpa using cu0) (Nat.le_refl _)
      have hl0 : Hid ((cs.take 1).flatten = cs.getD 0 []) := by rw [Hid, take_flat cs 0 (by have := HN.out; omega)]; simp
      have hD : Hid (∃ D, (cs.getD 0 []).length = D) := ⟨_, rfl⟩
      have hl0le : (cs.getD 0 []).length ≤ T := by have := take_flat_le cs 1; rw [hl0.out, HT.out] at this; exact this
      obtain ⟨w1, hr1, B1⟩ := Lib.copy_part (P := Tryd.prog) w _ w.heap.size T [] (u8l (cs.getD 0 [])) u0 25 3 5 Tryd.underlying25 Tryd.size5 (Nat.le_refl _) B0 hu0.holds (by rw [u8l_length, List.length_nil]; omega)
      rw [List.length_nil, Lib.tailV_zero, u8l_length] at hr1
      rw [List.nil_append, ← hl0.out] at B1
      rw [e0] at hr1 hc0
      obtain ⟨D, hD⟩ := hD.out
      rw [hD] at hr1 hc0 hl0le
      have HD := hid hD
      have HB1 := hid B1
      have hcap1 : ¬ cap = 1 := by omega
      clear B1 B0 hu0 cu0 hD e0
      go_wp2_with (at_builtin; refine Lib.wpList_copy_run _ rfl _ _ 25 25 rfl _ _ rfl rfl hr1 ?_)
      clear hr1 hcall hc0
      have hl1 : Hid (D = (cs.take (0 + 1)).flatten.length) := by rw [Hid, Nat.zero_add, hl0.out, HD.out]
      rw [hl1.out]
      go_loopw [9, 72] (fun s9 s72 wr => ∃ j : Nat, j ≤ i - 1 ∧ s72 = .int .i64 j ∧ s9 = .int .i64 ((cs.take (j + 1)).flatten.length : Nat) ∧ Hid (Lib.Buf w wr w.heap.size T (u8l (cs.take (j + 1)).flatten))) (fun _ s72 _ => i - (intOf s72).toNat)
      case atStart => exact ⟨0, by omega, rfl, rfl, HB1.out⟩
      case round =>
        obtain ⟨j, hj, rfl, rfl, HBJ⟩ := hrel
        by_cases hjn : j < i - 1
        · have hjz : (j : Int) < ((i - 1 : Nat) : Int) := by omega
          obtain ⟨u, cu, hu⟩ := HC.out (j + 1) (by have := HN.out; omega)
          obtain ⟨au, cpu, eu, _⟩ := id hu
          have hcw : wr.cell? ⟨g, o + 1 + j, none⟩ = some u := by
            have := Lib.Below.cellOf HBJ.out.below cu (Nat.le_refl _)
            rwa [show o + (j + 1) = o + 1 + j by omega] at this
          have hs1 : Hid ((cs.take (j + 1 + 1)).flatten = (cs.take (j + 1)).flatten ++ cs.getD (j + 1) []) := take_flat cs (j + 1) (by have := HN.out; omega)
          have hs2 := take_flat_le cs (j + 1 + 1)
          rw [hs1.out, List.length_append, HT.out] at hs2
          obtain ⟨w3, hr3, B3⟩ := Lib.copy_part (P := Tryd.prog) w wr w.heap.size T (u8l (cs.take (j + 1)).flatten) (u8l (cs.getD (j + 1) [])) u 25 3 5 Tryd.underlying25 Tryd.size5 (Nat.le_refl _) HBJ.out hu.holds (by rw [u8l_length, u8l_length]; omega)
          rw [u8l_length, u8l_length, eu] at hr3
          rw [eu] at hcw
          rw [← u8l_append, ← hs1.out] at B3
          have HB3 := hid B3
          have hlen3 : Hid ((cs.take (j + 1 + 1)).flatten.length = (cs.take (j + 1)).flatten.length + (cs.getD (j + 1) []).length) := by rw [Hid, hs1.out, List.length_append]
          clear B3 cu hu eu HBJ
          generalize (cs.getD (j + 1) []).length = D3 at *
          generalize (cs.take (j + 1)).flatten.length = T0 at *
          have hsl1 : ∀ W, (Instr.slice 25 (.slice (some ⟨w.heap.size, 0, none⟩) T T) (some (.int .i64 (T0 : Int))) none none).run Tryd.prog W = .ok (Lib.tailV w.heap.size T T0) W := fun W => Lib.run_slice_tailV W 25 5 Tryd.underlying25 Tryd.sz5 _ T T0 (by omega)
          have hr2 : (Builtin.copy_ #[25, 25] 3 #[Lib.tailV w.heap.size T T0, .slice none 0 0]).run Tryd.prog wr = .ok (.int .i64 0) wr := run_copy_none (P := Tryd.prog) wr 25 25 3 5 _ none _ _ 0 0 Tryd.underlying25 Tryd.size5 (by simp)
          go_wp2_with (at_builtin; first | refine Lib.wpList_copy_run _ rfl _ _ 25 25 rfl _ _ rfl rfl hr2 ?_ | refine Lib.wpList_copy_run _ rfl _ _ 25 25 rfl _ _ rfl rfl hr3 ?_)
          go_roundw
          case rel => exact ⟨j + 1, by omega, by go_num, by rw [hlen3.out]; go_num, HB3.out⟩
          case measure => simp [intOf]; omega
        · obtain rfl : j = i - 1 := by omega
          have hjz : ¬ (((i - 1 : Nat) : Int) < ((i - 1 : Nat) : Int)) := by omega
          have hall : cs.take (i - 1 + 1) = cs := by rw [show i - 1 + 1 = cs.length by have := HN.out; omega, List.take_length]
          rw [hall, HT.out]
          rw [hall] at HBJ
          clear hall
          go_wp2
          go_ret
          exact ⟨_, _, rfl, buf_full HBJ.out HT.out hfl HB.out, HBJ.out.below⟩

set_option maxHeartbeats 1000000 in
theorem join_one {P : Nat → Prop} (w : World) (v : Value) (c : List Nat) (h : LsP P w v [c]) (hl : c.length ≤ 1000000) :
    Calls Tryd.prog 38 #[v, .slice none 0 0] w fun e w' => ∃ a cap, e = .returned (.slice a c.length cap) ∧ ByP (w.heap.size ≤ ·) w' (.slice a c.length cap) c ∧ Below w.heap.size w w' := by
  obtain ⟨a, cap, rfl, hcap, hcm, _, _, h7⟩ := h
  obtain ⟨g, o, rfl, _, hg, hc⟩ := h7 (by simp)
  obtain ⟨u, cu, hu⟩ := hc 0 (by simp)
  rw [show ([c] : List (List Nat)).getD 0 [] = c from rfl] at hu
  have HU := hid hu
  obtain ⟨au, cpu, rfl, _, _, _, _, h6, _⟩ := hu
  have H6 := hid h6
  have cu0 : w.cell? ⟨g, o, none⟩ = some (.slice au c.length cpu) := by simpa using cu
  rw [show ([c] : List (List Nat)).length = 1 from rfl] at hcap ⊢
  unfold maxLen at hcm
  clear h7 hc h6 cu
  go_enter Tryd.func38, Tryd.ntmps38
  go_wp2_with (at_builtin; refine app_rowS _ rfl _ _ 25 5 (.int .u8 0) 1 rfl Tryd.underlying25 Tryd.info5 rfl (.slice none 0 0) _ [] (cl c) c.length (by rw [cl_length]; simp) rfl rfl (Row.nil _ _) HU.out.src hl (by decide) ?_; intro a' cap' w' hrow hg2 hv; have HROW := hid hrow; have HG := hid hg2; have HV := hid hv; clear hrow hg2 hv)
  go_ret
  refine ⟨_, _, rfl, ?_, (Below.refl _ _).grown HG.out (Nat.le_refl _) (fun k hk => by simp [Value.ownBlock] at hk)⟩
  have hO : OwnB w' (.slice a' c.length cap') c := by
    have h := HROW.out
    rwa [List.nil_append] at h
  exact hO.byP (fun x hx => by
    rcases HV.out with e | e
    · rw [e] at hx; simp [Value.ownBlock] at hx
    · rw [e] at hx; have := Option.some.inj hx; omega) hl H6.out

theorem join_none (w : World) (a : Option Addr) (cap : Nat) :
    Calls Tryd.prog 38 #[.slice a 0 cap, .slice none 0 0] w fun e w' => ∃ a cap, e = .returned (.slice a 0 cap) ∧ ByP (w.heap.size ≤ ·) w' (.slice a 0 cap) [] ∧ Below w.heap.size w w' := by
  go_enter Tryd.func38, Tryd.ntmps38
  go_wp2
  go_ret
  exact ⟨_, _, rfl, ⟨_, 0, rfl, Nat.le_refl _, Nat.zero_le _, by simp, by simp, by simp, fun h => absurd rfl h⟩, (Below.refl _ _).alloc (Nat.le_refl _) _⟩

theorem join38_any {P : Nat → Prop} (w : World) (v : Value) (cs : List (List Nat)) (h : LsP P w v cs) (hfl : cs.flatten.length ≤ 1000000) :
    Calls Tryd.prog 38 #[v, .slice none 0 0] w fun e w' => ∃ a cap, e = .returned (.slice a cs.flatten.length cap) ∧ ByP (w.heap.size ≤ ·) w' (.slice a cs.flatten.length cap) cs.flatten ∧ Below w.heap.size w w' := by
  cases cs with
  | nil =>
    obtain ⟨a, cap, rfl, _⟩ := h
    exact join_none w a cap
  | cons c r =>
    cases r with
    | nil =>
      have e : ([c] : List (List Nat)).flatten = c := by simp
      rw [e] at hfl ⊢
      exact join_one w v c h hfl
    | cons d r => exact join_many w v (c :: d :: r) h (by simp) hfl

/-- Join. -/
theorem join_any {P : Nat → Prop} (w : World) (v : Value) (cs : List (List Nat)) (h : LsP P w v cs) (hfl : cs.flatten.length ≤ 1000000) :
    Calls Tryd.prog 25 #[v] w fun e w' => ∃ a cap, e = .returned (.slice a cs.flatten.length cap) ∧ ByP (w.heap.size ≤ ·) w' (.slice a cs.flatten.length cap) cs.flatten ∧ Below w.heap.size w w' := by
  have HC := hid (join38_any w v cs h hfl)
  clear h
  generalize cs.flatten = fl at *
  go_enter Tryd.func25, Tryd.ntmps25
  go_wp2_with fail
  refine HC.out.mono ?_
  rintro e w' ⟨a, cap, rfl, hb, hB⟩
  have H1 := hid hb
  have H2 := hid hB
  clear hb hB
  go_wp2
  go_ret
  exact ⟨a, cap, rfl, H1.out, H2.out⟩

end Go.Proofs.YtinijgkkmfdfiaaDoor
