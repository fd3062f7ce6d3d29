/- Of the proof: the texts NdFit, NdSameF, NdPutsW, NdOpenF, NdOpenB, one behind the other. -/
import Derived.Test.YtenfahecnkdhaaaB6
import Derived.Test.YtenfahecnkdhaaaB7
import Derived.Test.YtenfahecnkdhaaaB4
import Derived.Test.YtenfahecnkdhaaaB10
import Derived.Test.YtenfahecnkdhaaaB12
import Derived.Test.YtenfahecnkdhaaaB3
section
/-
  Plain mathematics: files and entries that are light have forms.
-/
namespace Go.Proofs.Ytenfahecnkdhaaa.Nd
open Go.RowKit
open Tlv (Tr)
set_option linter.unusedSimpArgs false

/-- A tree that takes at most so much. -/
def Fit (n : Nat) (t : Tr n) (M : Nat) (deep : Int) : Prop := (Tlv.bodyOf n t).length ≤ M ∧ ∀ room : Int, (M : Int) ≤ room → (Tlv.bsz n t room deep).2 = true
theorem fit_bytes {n : Nat} {bs : List Int} {M : Nat} {deep : Int} (h : bs.length ≤ M) : Fit (n + 1) (Tr.mk 2 0 bs []) M deep := by
  refine ⟨?_, fun room hr => ?_⟩
  · simp only [Tlv.bodyOf, Tr.mk, Tlv.Tr.hd]
    simpa using h
  · rw [Tlv.bsz_2 bs room deep (by omega)]
    simp
    omega
theorem nsz_le (q : Int) : 0 ≤ Tlv.nsz q ∧ Tlv.nsz q ≤ 8 := by
  have := Tlv.bitLen_le64 q.toNat
  unfold Tlv.nsz
  omega
theorem fit_num {n : Nat} {q : Int} {M : Nat} {deep : Int} (h : 8 ≤ M) : Fit (n + 1) (Tr.mk 1 q [] []) M deep := by
  have h1 := nsz_le q
  refine ⟨?_, fun room hr => ?_⟩
  · have : Tlv.bodyOf (n + 1) (Tr.mk 1 q [] []) = Tlv.numB (Tlv.nsz q).toNat q := by simp [Tlv.bodyOf, Tr.mk, Tlv.Tr.hd]
    rw [this, Tlv.numB_length]
    omega
  · rw [Tlv.bsz_1 q room deep (by omega)]
    simp
    omega
theorem lszGo_fit {n : Nat} {M : Nat} (room deep : Int) : ∀ (ks : List (Tr n)) (acc : Int), (∀ k ∈ ks, Fit n k M (deep - 1)) → acc + (ks.length : Int) * ((M : Int) + 3) ≤ room → (Tlv.lszGo (Tlv.bsz n) room deep acc ks).2 = true
  | [], _, _, _ => rfl
  | k :: ks, acc, h, hr => by
    have hk := h k (by simp)
    simp only [List.length_cons, Int.natCast_add, Int.add_mul, Int.one_mul, Int.natCast_one] at hr
    have hnn : (0 : Int) ≤ (ks.length : Int) * ((M : Int) + 3) := Int.mul_nonneg (by omega) (by omega)
    have h1 := hk.2 (room - acc - 3) (by omega)
    simp only [Tlv.lszGo]
    rw [if_pos h1]
    refine lszGo_fit room deep ks _ (fun x hx => h x (by simp [hx])) ?_
    rw [Tlv.bsz_len n k _ _ h1]
    have := hk.1
    omega
theorem fit_flat {n M : Nat} {deep : Int} : ∀ (ks : List (Tr n)), (∀ k ∈ ks, Fit n k M deep) → ((ks.map (Tlv.formOf n)).flatten).length ≤ ks.length * (M + 3)
  | [], _ => by simp
  | k :: ks, h => by
    have h1 := (h k (by simp)).1
    have h2 := fit_flat ks (fun x hx => h x (by simp [hx]))
    simp only [List.map_cons, List.flatten_cons, List.length_append, List.length_cons, Nat.add_mul, Nat.one_mul]
    have : (Tlv.formOf n k).length = 3 + (Tlv.bodyOf n k).length := by simp [Tlv.formOf]; omega
    omega
theorem fit_list {n M M' : Nat} {ks : List (Tr n)} {deep : Int} (hd : deep ≠ 0) (h : ∀ k ∈ ks, Fit n k M (deep - 1)) (hm : ks.length * (M + 3) ≤ M') : Fit (n + 1) (Tr.mk 3 0 [] ks) M' deep := by
  refine ⟨?_, fun room hr => ?_⟩
  · rw [Tlv.bodyOf_kids rfl]
    exact Nat.le_trans (fit_flat ks h) hm
  · rw [Tlv.bsz_3 ks room deep (by omega)]
    unfold Tlv.lsz
    rw [if_neg hd]
    have h3 : ((ks.length * (M + 3) : Nat) : Int) = (ks.length : Int) * ((M : Int) + 3) := by
      rw [Int.natCast_mul, Int.natCast_add]
      rfl
    have h4 : ((ks.length * (M + 3) : Nat) : Int) ≤ (M' : Int) := Int.ofNat_le.2 hm
    rw [h3] at h4
    refine lszGo_fit room deep ks 0 h ?_
    rw [Int.zero_add]
    exact Int.le_trans h4 hr
theorem fit_sz {t : Tr 3} {M : Nat} (h : Fit 3 t M 8) (hm : M ≤ 65535) : Tlv.szT 3 t ≠ 0 := by
  have h1 := h.2 65535 (by omega)
  rw [Tlv.szT, if_pos h1, Tlv.bsz_len _ _ _ _ h1]
  omega
theorem sz_file {s : Int} {d : List (List Int)} (hd : ∀ h ∈ d, HOk h) (hl : d.length ≤ 300) : Tlv.szT 3 (fileT s d) ≠ 0 := by
  refine fit_sz (M := 30000) (fit_list (M := 10500) (by omega) (fun k hk => ?_) (by simp)) (by omega)
  rcases List.mem_cons.1 hk with rfl | hk
  · exact fit_num (by omega)
  · have hk2 := List.mem_singleton.1 hk
    subst hk2
    refine fit_list (M := 32) (by omega) (fun x hx => ?_) (by simp; omega)
    obtain ⟨h, hh, rfl⟩ := List.mem_map.1 hx
    exact fit_bytes (by rw [(hd h hh).1]; exact Nat.le_refl _)
theorem sz_ents {d : List Ent} (hd : ∀ e ∈ d, EOk e) (hl : d.length ≤ 100) (hn : ∀ e ∈ d, e.1.length ≤ 100) : Tlv.szT 3 (entsT d) ≠ 0 := by
  refine fit_sz (M := 40000) (fit_list (M := 309) (by omega) (fun k hk => ?_) (by simp; omega)) (by omega)
  obtain ⟨e, he, rfl⟩ := List.mem_map.1 hk
  refine fit_list (M := 100) (by omega) (fun x hx => ?_) (by simp)
  rcases List.mem_cons.1 hx with rfl | hx
  · exact fit_bytes (hn e he)
  · rcases List.mem_cons.1 hx with rfl | hx
    · exact fit_num (by omega)
    · have hx2 := List.mem_singleton.1 hx
      subst hx2
      exact fit_bytes (by rw [(hd e he).2.1]; omega)
end Go.Proofs.Ytenfahecnkdhaaa.Nd
end

section
/-
  Files of the document's type as the program's, and the other way around; are two files the same?
-/
namespace Go.Proofs.Ytenfahecnkdhaaa.Nd
open Go.RowKit
open Sim (hid Kp No)
set_option linter.unusedSimpArgs false

set_option maxHeartbeats 1000000 in
theorem lfile_any (w : World) (s : Int) (x : Option Addr) (n c : Nat) :
    Calls Try.prog 10 #[.agg #[.int .i64 s, .slice x n c]] w fun e w' => e = .returned (.agg #[.int .i64 s, .slice x n c]) ∧ Kp No w w' := by
  go_enter Try.func10, Try.ntmps10
  go_wp2
  refine bodyPost_ret (v := .agg #[.int .i64 s, .slice x n c]) (by simp [results, Try.results10, go_sem]) rfl ⟨rfl, ((Kp.refl No w).alloc _).alloc _⟩
end Go.Proofs.Ytenfahecnkdhaaa.Nd
end

section
/-
  The walk of NodePuts.
-/
namespace Go.Proofs.Ytenfahecnkdhaaa.Nd
open Go.RowKit
open Tlv (Tr Agree)
open Sim (hid Kp No)
set_option linter.unusedSimpArgs false

set_option maxHeartbeats 2000000 in
theorem rChunk_any (w : World) (v : Value) (b : List Int) (hv : Tlv.BySl 0 w.heap.size w v b) :
    Calls Try.prog 16 #[v] w fun e w' => Put1 (1 ≤ b.length ∧ b.length ≤ 4096) 1 b w' e ∧ Below w.heap.size w w' := by
  obtain ⟨a, c, rfl, hxx⟩ := id hv
  clear hxx
  have HV := hid hv
  have HB0 : Hid (Below w.heap.size w (w.alloc (.cells #[.int .i64 0, .slice none 0 0] 29))) := (Below.refl _ w).alloc (Nat.le_refl _) _
  obtain ⟨n, hn⟩ : ∃ n, b.length = n := ⟨_, rfl⟩
  have HN := hid hn
  rw [hn] at HV ⊢
  clear hv hn
  have fin : ∀ w', Put1 (1 ≤ n ∧ n ≤ 4096) 1 b w' = Put1 (1 ≤ b.length ∧ b.length ≤ 4096) 1 b w' := fun w' => by rw [HN.out]
  have HFI := hid fin
  clear fin
  by_cases h1 : (n : Int) < 1
  · have HO : Hid (¬ (1 ≤ n ∧ n ≤ 4096)) := by rw [Hid]; omega
    go_enter Try.func16, Try.ntmps16
    go_wp2
    refine bodyPost_ret (v := .tuple #[.agg #[.int .i64 0, .slice none 0 0], .int .i64 1]) (by simp [results, Try.results16, go_sem]) rfl ⟨put1_no HO.out, ?_⟩
    first | exact HB0.out | exact (HB0.out.setCell (by simp) _).setCell (by simp) _
  · by_cases h2 : (n : Int) > 4096
    · have HO : Hid (¬ (1 ≤ n ∧ n ≤ 4096)) := by rw [Hid]; omega
      go_enter Try.func16, Try.ntmps16
      go_wp2
      refine bodyPost_ret (v := .tuple #[.agg #[.int .i64 0, .slice none 0 0], .int .i64 1]) (by simp [results, Try.results16, go_sem]) rfl ⟨put1_no HO.out, ?_⟩
      first | exact HB0.out | exact (HB0.out.setCell (by simp) _).setCell (by simp) _
    · have HO : Hid (1 ≤ n ∧ n ≤ 4096) := by rw [Hid]; omega
      go_enter Try.func16, Try.ntmps16
      go_wp2
      refine bodyPost_ret (v := .tuple #[.agg #[.int .i64 1, .slice a n c], .int .i64 0]) (by simp [results, Try.results16, go_sem]) rfl ⟨put1_yes HO.out HN.out (HV.out.agree ?_ (Nat.le_refl _) (by simp)), ?_⟩
      · first | exact (Agree.refl _ _ _).alloc (Nat.le_refl _) _ | exact (((Agree.refl _ _ _).alloc (Nat.le_refl _) _).setCell (.inr (by simp)) _).setCell (.inr (by simp)) _
      · first | exact (Below.refl _ _).alloc (Nat.le_refl _) _ | exact HB0.out | exact (HB0.out.setCell (by simp) _).setCell (by simp) _

set_option maxHeartbeats 4000000 in
set_option maxRecDepth 100000 in
/-- The same objects, with the same faults. -/
theorem lsame_any (w : World) (k f : Int) (a a' : Option Addr) (n c c' : Nat) (bs : List Int) (h : Tlv.BySl 0 w.heap.size w (.slice a n c) bs) (h' : Tlv.BySl 0 w.heap.size w (.slice a' n c') bs) :
    Calls Try.prog 17 #[.agg #[.int .i64 k, .slice a n c], .int .i64 f, .agg #[.int .i64 k, .slice a' n c'], .int .i64 f] w fun e w' => e = .returned (.bool true) ∧ Kp No w w' := by
  obtain ⟨W0, hW0⟩ : ∃ W, (w.alloc (.cells #[.int .i64 k, .slice a n c] 31)).alloc (.cells #[.int .i64 k, .slice a' n c'] 29) = W := ⟨_, rfl⟩
  have HK0 : Hid (Kp No w W0) := by rw [Hid, ← hW0]; exact ((Kp.refl No w).alloc _).alloc _
  have HX : Hid (∀ V, Kp No W0 V → V.cell? ⟨w.heap.size, 0, none⟩ = some (.int .i64 k) ∧ V.cell? ⟨w.heap.size, 1, none⟩ = some (.slice a n c) ∧ V.cell? ⟨w.heap.size + 1, 0, none⟩ = some (.int .i64 k) ∧ V.cell? ⟨w.heap.size + 1, 1, none⟩ = some (.slice a' n c')) := fun V hV => by
    have hz : W0.heap.size = w.heap.size + 2 := by rw [← hW0]; simp
    have e : ∀ b o, b < w.heap.size + 2 → V.cell? ⟨b, o, none⟩ = W0.cell? ⟨b, o, none⟩ := fun b o hb => hV.cell (p := ⟨b, o, none⟩) (by show b < _; omega) (fun x => x)
    rw [e _ _ (by omega), e _ _ (by omega), e _ _ (by omega), e _ _ (by omega), ← hW0]
    simp [go_sem]
  have HSO := hid (fun (V : World) (hV : Kp No W0 V) => sameObj_any V k k _ _ bs bs (h.agree (Agree.below (HK0.out.andNone hV).toBelow') (Nat.le_refl _) (HK0.out.andNone hV).size) (h'.agree (Agree.below (HK0.out.andNone hV).toBelow') (Nat.le_refl _) (HK0.out.andNone hV).size))
  rw [show decide (k = k ∧ bs = bs) = true by simp] at HSO
  clear h h'
  go_enter Try.func17, Try.ntmps17
  go_wp2_with fail
  refine wp_region_held_drew (S := fun V => Kp No W0 V) (by kernel_rfl) ((Kp.refl _ _).drew) (fun hHeld => ?_)
  refine wpAnyH_take (i := 0) (oi := { dst := some 9, op := Op.load 31 (Operand.tmp 4), type := 31, pos := "law.go:37", after := #[], guard := none }) (v := .agg #[.int .i64 k, .slice a n c]) rfl (by kernel_rfl) (by kernel_rfl) (by kernel_rfl) (fun _ _ _ h => h) (Or.inl ⟨by rfl, fun w' hw' => by (obtain ⟨q0, q1, q2, q3⟩ := HX.out _ hw'; clear hw'; go_simp)⟩) hHeld ?_
  simp only [Act.put, List.setIfInBounds_toArray, List.set_cons_zero, List.set_cons_succ]
  refine wpAnyH_take (i := 2) (oi := { dst := some 11, op := Op.load 29 (Operand.tmp 6), type := 29, pos := "law.go:37", after := #[], guard := none }) (v := .agg #[.int .i64 k, .slice a' n c']) rfl (by kernel_rfl) (by kernel_rfl) (by kernel_rfl) (fun _ _ _ h => h) (Or.inl ⟨by rfl, fun w' hw' => by (obtain ⟨q0, q1, q2, q3⟩ := HX.out _ hw'; clear hw'; go_simp)⟩) hHeld ?_
  simp only [Act.put, List.setIfInBounds_toArray, List.set_cons_zero, List.set_cons_succ]
  refine wpAnyH_ready (rs := [1]) (by kernel_rfl) (by simp) ?_
  refine (AllReadyH.cons (o := { dst := some 10, op := Op.call { callee := Callee.value (Operand.func 36), args := #[Operand.tmp 9], argTypes := #[31] }, type := 29, pos := "law.go:37", after := #[{ on := 0, ground := Ground.data }], guard := none }) rfl (fun K hK => ?_) AllReadyH.nil)
  go_simp
  refine (backObj_any _ k a n c).mono ?_
  rintro e' w1 ⟨rfl, hb⟩
  have HK1 : Hid (Kp No W0 w1) := ((Kp.refl No W0).drew).andNone hb
  clear hb
  go_wp2_with fail
  refine hK.out _ _ (HK1.out) (fun hh => ?_)
  clear hK K hHeld
  have hHeld := hh
  clear hh
  try simp only [Act.put, List.setIfInBounds_toArray, List.set_cons_zero, List.set_cons_succ]
  refine wpAnyH_ready (rs := [3]) (by kernel_rfl) (by simp) ?_
  refine (AllReadyH.cons (o := { dst := some 12, op := Op.call { callee := Callee.value (Operand.func 35), args := #[Operand.tmp 10, Operand.tmp 11], argTypes := #[29, 29] }, type := 4, pos := "law.go:37", after := #[{ on := 1, ground := Ground.data }, { on := 2, ground := Ground.data }, { on := 1, ground := Ground.chain }], guard := none }) rfl (fun K hK => ?_) AllReadyH.nil)
  go_simp
  refine (HSO.out _ HK1.out).mono ?_
  rintro e' w2 ⟨rfl, hb⟩
  have HK2 : Hid (Kp No W0 w2) := HK1.out.andNone hb
  clear hb
  go_wp2_with fail
  refine hK.out _ _ (HK2.out) (fun hh => ?_)
  clear hK K hHeld
  have hHeld := hh
  clear hh
  try simp only [Act.put, List.setIfInBounds_toArray, List.set_cons_zero, List.set_cons_succ]
  refine wpAnyH_take (i := 4) (oi := { dst := some 13, op := Op.move (Operand.tmp 12), type := 4, pos := "law.go:37", after := #[{ on := 3, ground := Ground.data }, { on := 3, ground := Ground.chain }], guard := none }) (v := .bool true) rfl (by kernel_rfl) (by kernel_rfl) (by kernel_rfl) (fun _ _ _ h => h) (Or.inl ⟨by rfl, fun w' hw' => by (clear hw'; go_simp)⟩) hHeld ?_
  simp only [Act.put, List.setIfInBounds_toArray, List.set_cons_zero, List.set_cons_succ]
  refine wpAnyH_take (i := 5) (oi := { dst := some 14, op := Op.move (Operand.tmp 1), type := 32, pos := "law.go:37", after := #[{ on := 4, ground := Ground.guard }], guard := some (4, true) }) (v := .int .i64 f) rfl (by kernel_rfl) (by kernel_rfl) (by kernel_rfl) (fun _ _ _ h => h) (Or.inl ⟨by rfl, fun w' hw' => by (clear hw'; go_simp)⟩) hHeld ?_
  simp only [Act.put, List.setIfInBounds_toArray, List.set_cons_zero, List.set_cons_succ]
  refine wpAnyH_take (i := 6) (oi := { dst := some 15, op := Op.move (Operand.tmp 3), type := 32, pos := "law.go:37", after := #[{ on := 4, ground := Ground.guard }], guard := some (4, true) }) (v := .int .i64 f) rfl (by kernel_rfl) (by kernel_rfl) (by kernel_rfl) (fun _ _ _ h => h) (Or.inl ⟨by rfl, fun w' hw' => by (clear hw'; go_simp)⟩) hHeld ?_
  simp only [Act.put, List.setIfInBounds_toArray, List.set_cons_zero, List.set_cons_succ]
  refine wpAnyH_take (i := 7) (oi := { dst := some 16, op := Op.binOp BinOp.eql 32 (Operand.tmp 14) (Operand.tmp 15) 32, type := 4, pos := "law.go:37", after := #[{ on := 5, ground := Ground.data }, { on := 6, ground := Ground.data }, { on := 4, ground := Ground.guard }], guard := some (4, true) }) (v := .bool true) rfl (by kernel_rfl) (by kernel_rfl) (by kernel_rfl) (fun _ _ _ h => h) (Or.inl ⟨by rfl, fun w' hw' => by (clear hw'; go_simp)⟩) hHeld ?_
  simp only [Act.put, List.setIfInBounds_toArray, List.set_cons_zero, List.set_cons_succ]
  refine wpAnyH_take (i := 8) (oi := { dst := some 17, op := Op.pick (Operand.tmp 13) (Operand.tmp 16) (Operand.const (Value.bool false)), type := 4, pos := "law.go:37", after := #[{ on := 4, ground := Ground.data }, { on := 7, ground := Ground.data }], guard := none }) (v := .bool true) rfl (by kernel_rfl) (by kernel_rfl) (by kernel_rfl) (fun _ _ _ h => h) (Or.inl ⟨by rfl, fun w' hw' => by (clear hw'; go_simp)⟩) hHeld ?_
  simp only [Act.put, List.setIfInBounds_toArray, List.set_cons_zero, List.set_cons_succ]
  refine wpAnyH_take (i := 9) (oi := { dst := some 8, op := Op.assign (Operand.tmp 17), type := 4, pos := "law.go:37", after := #[{ on := 8, ground := Ground.data }, { on := 4, ground := Ground.chain }, { on := 0, ground := Ground.phase }, { on := 1, ground := Ground.phase }, { on := 2, ground := Ground.phase }, { on := 3, ground := Ground.phase }, { on := 4, ground := Ground.phase }, { on := 5, ground := Ground.phase }, { on := 6, ground := Ground.phase }, { on := 7, ground := Ground.phase }, { on := 8, ground := Ground.phase }], guard := none }) (v := .bool true) rfl (by kernel_rfl) (by kernel_rfl) (by kernel_rfl) (fun _ _ _ h => h) (Or.inl ⟨by rfl, fun w' hw' => by (clear hw'; go_simp)⟩) hHeld ?_
  simp only [Act.put, List.setIfInBounds_toArray, List.set_cons_zero, List.set_cons_succ]
  refine wpAnyH_done (by kernel_rfl) ?_ _
  clear hHeld
  go_wp2_with fail
  go_ret
  exact ⟨rfl, HK0.out.andNone HK2.out⟩

theorem obj_box {w W : World} {k : Int} {a : Option Addr} {n c : Nat} {bs : List Int} {T : TypeId} (hW : w.alloc (.cells #[.int .i64 k, .slice a n c] T) = W) (hy : Tlv.BySl 0 w.heap.size w (.slice a n c) bs) :
    ∀ V, Kp No W V → V.cell? ⟨w.heap.size, 0, none⟩ = some (.int .i64 k) ∧ V.cell? ⟨w.heap.size, 1, none⟩ = some (.slice a n c) ∧ Tlv.BySl 0 V.heap.size V (.slice a n c) bs := fun V hV => by
  subst hW
  have hs := hV.size
  simp at hs
  have e : ∀ o, V.cell? ⟨w.heap.size, o, none⟩ = (w.alloc (.cells #[.int .i64 k, .slice a n c] T)).cell? ⟨w.heap.size, o, none⟩ := fun o => hV.cell (p := ⟨w.heap.size, o, none⟩) (by simp) (fun x => x)
  rw [e, e]
  exact ⟨by simp, by simp, hy.agree (Tlv.Agree.below (((Below.refl _ w).alloc (Nat.le_refl _) _).trans (hV.toBelow'.mono (by simp)))) (Nat.le_refl _) (by omega)⟩
theorem pair_put {OK : Prop} {K : Int} {F : List Int} {k k' f f' : Int} {bs bs' : List Int} (h : (OK ∧ k = K ∧ f = 0 ∧ bs = F) ∨ (¬ OK ∧ k = 0 ∧ f = 1 ∧ bs = [])) (h' : (OK ∧ k' = K ∧ f' = 0 ∧ bs' = F) ∨ (¬ OK ∧ k' = 0 ∧ f' = 1 ∧ bs' = [])) : k' = k ∧ f' = f ∧ bs' = bs := by
  rcases h with ⟨h1, rfl, rfl, rfl⟩ | ⟨h1, rfl, rfl, rfl⟩ <;> rcases h' with ⟨h2, rfl, rfl, rfl⟩ | ⟨h2, rfl, rfl, rfl⟩
  · exact ⟨rfl, rfl, rfl⟩
  · exact absurd h1 h2
  · exact absurd h2 h1
  · exact ⟨rfl, rfl, rfl⟩
theorem by_len {L B : Nat} {w : World} {a : Option Addr} {n c : Nat} {bs : List Int} (h : Tlv.BySl L B w (.slice a n c) bs) : n = bs.length := by
  obtain ⟨_, _, e, _⟩ := h
  simp only [Value.slice.injEq] at e
  exact e.2.1

set_option maxHeartbeats 8000000 in
set_option maxRecDepth 100000 in
theorem nputs_dark (w : World) (sx : Int) (ax al ab : Option Addr) (nx cx nl cl nb cb : Nat) (q : Bool) (hq : q = false ∨ 5000 < (nb : Int))
    (h1 : ∀ V, Kp No w V → Calls Try.prog 7 #[.agg #[.int .i64 sx, .slice ax nx cx], .slice al nl cl, .agg #[.int .i64 0, .slice none 0 0]] V fun e w' => e = .returned (.bool q) ∧ Kp No V w') :
    Calls Try.prog 3 #[.agg #[.int .i64 sx, .slice ax nx cx], .slice al nl cl, .slice ab nb cb] w fun e w' => e = .returned (.bool true) ∧ Below w.heap.size w w' := by
  have H1 := hid h1
  clear h1
  have HB : Hid (Kp No w (w.alloc (.cells #[.int .i64 sx, .slice ax nx cx] 24))) := (Kp.refl No w).alloc _
  cases q with
  | false =>
    clear hq
    go_enter Try.func3, Try.ntmps3
    go_wp2_with fail
    refine (H1.out _ HB.out).mono ?_
    rintro e w1 ⟨rfl, k1⟩
    have HK1 := hid (HB.out.andNone k1)
    clear k1
    go_wp2_with fail
    refine (alive_any _).mono ?_
    rintro e w2 ⟨rfl, hb2⟩
    have HBB := hid (HK1.out.toBelow'.trans (hb2.mono HK1.out.size))
    clear hb2
    go_wp2_with fail
    go_ret
    exact ⟨rfl, HBB.out⟩
  | true =>
    have hn : 5000 < (nb : Int) := by rcases hq with h | h; cases h; exact h
    clear hq
    go_enter Try.func3, Try.ntmps3
    go_wp2_with fail
    refine (H1.out _ HB.out).mono ?_
    rintro e w1 ⟨rfl, k1⟩
    have HK1 := hid (HB.out.andNone k1)
    clear k1
    go_wp2_with fail
    refine (alive_any _).mono ?_
    rintro e w2 ⟨rfl, hb2⟩
    have HBB := hid (HK1.out.toBelow'.trans (hb2.mono HK1.out.size))
    clear hb2
    go_wp2_with fail
    go_ret
    exact ⟨rfl, HBB.out⟩

set_option maxHeartbeats 16000000 in
set_option maxRecDepth 100000 in
theorem nputs_main (w : World) (sx : Int) (vx vl vb : Value) (dx : List (List Int)) (l : List Ent) (bb : List Int)
    (hx : HV (· < w.heap.size) w vx dx) (hl : EV (· < w.heap.size) w vl l) (hb : Tlv.BySl 0 w.heap.size w vb bb) (hq : lightN dx.length l 0 = true) (hbl : bb.length ≤ 5000) :
    Calls Try.prog 3 #[.agg #[.int .i64 sx, vx], vl, vb] w fun e w' => e = .returned (.bool true) ∧ Below w.heap.size w w' := by
  have hs := lightN_short hq
  obtain ⟨ax, cx, rfl, hxx⟩ := id hx
  clear hxx
  obtain ⟨al, cl, rfl, hxx⟩ := id hl
  clear hxx
  obtain ⟨ab, cb, rfl, hxx⟩ := id hb
  clear hxx
  have HOL := hid hl.ok
  have HL1 := hid (fun (V : World) (hV : Kp No w V) => light_any V _ l _ sx 0 ax none dx.length cx 0 0 (hl.kept hV))
  rw [hq] at HL1
  have hkl : ∀ {V : World}, Kp No w V → HV (· < V.heap.size) V (.slice ax dx.length cx) dx := fun hV => (hx.kept hV).imp (fun g hg => Nat.lt_of_lt_of_le hg hV.size)
  have hel : ∀ {V : World}, Kp No w V → EV (· < V.heap.size) V (.slice al l.length cl) l := fun hV => (hl.kept hV).mono (fun g hg => Nat.lt_of_lt_of_le hg hV.size)
  have HPX := hid (fun (V : World) (hV : Kp No w V) => putFile_any V sx _ dx (hkl hV) (by omega))
  have HQX := hid (fun (V : World) (hV : Kp No w V) => rPutFile_any V sx _ dx (hkl hV) (by omega) (fun _ => sz_file hx.ok (by omega)))
  have hnl : ∀ e ∈ l, e.1.length ≤ 1000000 := fun e he => Nat.le_trans (hs.2.2.2 e he) (by omega)
  have HOW := hid (fun (V : World) (hV : Kp No w V) => own_any V _ l _ (hl.kept hV) (by omega))
  have HPD := hid (fun (V : World) (r : Value) (P : Nat → Prop) (hr : EV P V r l) => putDir_any V r l P hr (by omega) hnl)
  have HQD := hid (fun (V : World) (hV : Kp No w V) => rPutDir_any V _ l (hel hV) (by omega) hnl (fun _ => sz_ents hl.ok (by omega) (fun e he => Nat.le_trans (hs.2.2.2 e he) (by omega))))
  have hby : ∀ {V : World}, Kp No w V → Tlv.BySl 0 V.heap.size V (.slice ab bb.length cb) bb := fun hV => hb.agree (Agree.below hV.toBelow') (Nat.le_refl _) hV.size
  have HPC := hid (fun (V : World) (hV : Kp No w V) => chunk_any V _ bb (hby hV))
  have HQC := hid (fun (V : World) (hV : Kp No w V) => rChunk_any V _ bb (hby hV))
  clear hx hl hb hkl hel hby hq hs hnl
  obtain ⟨nx, hnx⟩ : ∃ n, dx.length = n := ⟨_, rfl⟩
  obtain ⟨nl, hnl⟩ : ∃ n, l.length = n := ⟨_, rfl⟩
  obtain ⟨nb, hnb⟩ : ∃ n, bb.length = n := ⟨_, rfl⟩
  have hg5 : (nb : Int) ≤ 5000 := by omega
  have HNL := hid hnl
  have hfx : ∀ (u w : World) e, FiAns u w sx dx e → Put1 (fileB sx dx.length = true ∧ objP (fileT sx dx)) 2 (Tlv.formOf 3 (fileT sx dx)) w e := fun _ _ _ h => fans_put h
  have hfd : ∀ (u w : World) e, DAns u w l e → Put1 (RightP l ∧ objP (entsT l)) 3 (Tlv.formOf 3 (entsT l)) w e := fun _ _ _ h => dans_put h
  have hfc : ∀ (u w : World) e, CAns u w bb e → Put1 (1 ≤ bb.length ∧ bb.length ≤ 4096) 1 bb w e := fun _ _ _ h => cans_put h
  rw [hnx] at HPX HQX HL1 hfx ⊢
  rw [hnl] at HOW HQD HL1 ⊢
  rw [hnb] at HPC HQC hfc ⊢
  have HFX := hid hfx
  have HFD := hid hfd
  have HFC := hid hfc
  clear hnx hnl hnb hbl hfx hfd hfc
  generalize (fileB sx nx = true ∧ objP (fileT sx dx)) = OKX at *
  generalize (RightP l ∧ objP (entsT l)) = OKD at *
  generalize (1 ≤ nb ∧ nb ≤ 4096) = OKC at *
  generalize Tlv.formOf 3 (fileT sx dx) = FX at *
  generalize Tlv.formOf 3 (entsT l) = FD at *
  obtain ⟨W0, hW0⟩ : ∃ W, w.alloc (.cells #[.int .i64 sx, .slice ax nx cx] 24) = W := ⟨_, rfl⟩
  have HB : Hid (Kp No w W0) := by rw [Hid, ← hW0]; exact (Kp.refl No w).alloc _
  have HX : Hid (∀ V, Kp No W0 V → V.cell? ⟨w.heap.size, 0, none⟩ = some (.int .i64 sx) ∧ V.cell? ⟨w.heap.size, 1, none⟩ = some (.slice ax nx cx)) := fun V hV => by
    have hz : W0.heap.size = w.heap.size + 1 := by rw [← hW0]; simp
    have e : ∀ o, V.cell? ⟨w.heap.size, o, none⟩ = W0.cell? ⟨w.heap.size, o, none⟩ := fun o => hV.cell (p := ⟨w.heap.size, o, none⟩) (by show w.heap.size < _; omega) (fun x => x)
    rw [e, e, ← hW0]
    simp
  obtain ⟨x0, x1⟩ := HX.out W0 (Kp.refl _ _)
  go_enter Try.func3, Try.ntmps3
  go_wp2_with fail
  refine (HL1.out _ HB.out).mono ?_
  rintro e w1 ⟨rfl, k1⟩
  have HK1 := hid k1
  clear x0 x1 hW0 k1 HL1
  obtain ⟨x0, x1⟩ := HX.out w1 HK1.out
  go_wp2_with fail
  refine (lfile_any w1 sx ax nx cx).mono ?_
  rintro e w2 ⟨rfl, k2⟩
  have HK2 := hid (HK1.out.andNone k2)
  clear x0 x1 k2
  go_wp2_with fail
  refine (HPX.out _ (HB.out.andNone HK2.out)).mono ?_
  rintro e wb1 ⟨hr1, hbb1⟩
  obtain ⟨k1, a1, n1, c1, f1, bs1, rfl, hy1, ho1⟩ := HFX.out _ _ _ hr1
  have HO1 := hid ho1
  obtain ⟨WB1, hWB1⟩ : ∃ W, wb1.alloc (.cells #[.int .i64 k1, .slice a1 n1 c1] 31) = W := ⟨_, rfl⟩
  have HKB1 : Hid (Kp No W0 WB1) := by rw [Hid, ← hWB1]; exact ((HK2.out).andNone (Kp.below hbb1)).alloc _
  have HA1 := hid (obj_box hWB1 hy1)
  clear hr1 hbb1 hy1 ho1
  obtain ⟨x0, x1⟩ := HX.out WB1 HKB1.out
  go_wp2_with fail
  refine (HQX.out _ (HB.out.andNone HKB1.out)).mono ?_
  rintro e wb2 ⟨hr2, hbb2⟩
  obtain ⟨k2, a2, n2, c2, f2, bs2, rfl, hy2, ho2⟩ := id hr2
  have HO2 := hid ho2
  obtain ⟨WB2, hWB2⟩ : ∃ W, wb2.alloc (.cells #[.int .i64 k2, .slice a2 n2 c2] 29) = W := ⟨_, rfl⟩
  have HKB2 : Hid (Kp No W0 WB2) := by rw [Hid, ← hWB2]; exact ((HKB1.out).andNone (Kp.below hbb2)).alloc _
  have HK12 : Hid (Kp No WB1 WB2) := by rw [Hid, ← hWB2]; exact ((Kp.refl No WB1).andNone (Kp.below hbb2)).alloc _
  have HA2 := hid (obj_box hWB2 hy2)
  clear hr2 hbb2 hy2 ho2 x0 x1 hWB1
  go_wp2_with fail
  refine (HOW.out _ (HB.out.andNone HKB2.out)).mono ?_
  rintro e w5 ⟨r5, rfl, hm5⟩
  have HK5 := hid (HKB2.out.andNone hm5.2.2)
  have HKX3 := hid hm5.2.2
  have HE5 := hid (ev_of_rowT (P := fun _ => True) hm5.1 HOL.out (fun _ _ => trivial))
  have HPD5 := hid (HPD.out w5 r5 _ HE5.out)
  obtain ⟨a9, c9, rfl, hxx⟩ := id HE5.out
  clear hxx hm5
  go_wp2_with fail
  refine HPD5.out.mono ?_
  rintro e wb3 ⟨hr3, hbb3⟩
  obtain ⟨k3, a3, n3, c3, f3, bs3, rfl, hy3, ho3⟩ := HFD.out _ _ _ hr3
  have HO3 := hid ho3
  obtain ⟨WB3, hWB3⟩ : ∃ W, wb3.alloc (.cells #[.int .i64 k3, .slice a3 n3 c3] 31) = W := ⟨_, rfl⟩
  have HKB3 : Hid (Kp No W0 WB3) := by rw [Hid, ← hWB3]; exact ((HK5.out).andNone (Kp.below hbb3)).alloc _
  have HK23 : Hid (Kp No WB2 WB3) := by rw [Hid, ← hWB3]; exact ((HKX3.out).andNone (Kp.below hbb3)).alloc _
  have HA3 := hid (obj_box hWB3 hy3)
  clear hr3 hbb3 hy3 ho3 hWB2
  go_wp2_with fail
  refine (HQD.out _ (HB.out.andNone HKB3.out)).mono ?_
  rintro e wb4 ⟨hr4, hbb4⟩
  obtain ⟨k4, a4, n4, c4, f4, bs4, rfl, hy4, ho4⟩ := id hr4
  have HO4 := hid ho4
  obtain ⟨WB4, hWB4⟩ : ∃ W, wb4.alloc (.cells #[.int .i64 k4, .slice a4 n4 c4] 29) = W := ⟨_, rfl⟩
  have HKB4 : Hid (Kp No W0 WB4) := by rw [Hid, ← hWB4]; exact ((HKB3.out).andNone (Kp.below hbb4)).alloc _
  have HK34 : Hid (Kp No WB3 WB4) := by rw [Hid, ← hWB4]; exact ((Kp.refl No WB3).andNone (Kp.below hbb4)).alloc _
  have HA4 := hid (obj_box hWB4 hy4)
  clear hr4 hbb4 hy4 ho4 hWB3
  go_wp2_with fail
  refine (HPC.out _ (HB.out.andNone HKB4.out)).mono ?_
  rintro e wb5 ⟨hr5, hbb5⟩
  obtain ⟨k5, a5, n5, c5, f5, bs5, rfl, hy5, ho5⟩ := HFC.out _ _ _ hr5
  have HO5 := hid ho5
  obtain ⟨WB5, hWB5⟩ : ∃ W, wb5.alloc (.cells #[.int .i64 k5, .slice a5 n5 c5] 31) = W := ⟨_, rfl⟩
  have HKB5 : Hid (Kp No W0 WB5) := by rw [Hid, ← hWB5]; exact ((HKB4.out).andNone (Kp.below hbb5)).alloc _
  have HK45 : Hid (Kp No WB4 WB5) := by rw [Hid, ← hWB5]; exact ((Kp.refl No WB4).andNone (Kp.below hbb5)).alloc _
  have HA5 := hid (obj_box hWB5 hy5)
  clear hr5 hbb5 hy5 ho5 hWB4
  go_wp2_with fail
  refine (HQC.out _ (HB.out.andNone HKB5.out)).mono ?_
  rintro e wb6 ⟨hr6, hbb6⟩
  obtain ⟨k6, a6, n6, c6, f6, bs6, rfl, hy6, ho6⟩ := id hr6
  have HO6 := hid ho6
  obtain ⟨WB6, hWB6⟩ : ∃ W, wb6.alloc (.cells #[.int .i64 k6, .slice a6 n6 c6] 29) = W := ⟨_, rfl⟩
  have HKB6 : Hid (Kp No W0 WB6) := by rw [Hid, ← hWB6]; exact ((HKB5.out).andNone (Kp.below hbb6)).alloc _
  have HK56 : Hid (Kp No WB5 WB6) := by rw [Hid, ← hWB6]; exact ((Kp.refl No WB5).andNone (Kp.below hbb6)).alloc _
  have HA6 := hid (obj_box hWB6 hy6)
  clear hr6 hbb6 hy6 ho6 hWB5
  obtain ⟨e1, e2, e3⟩ := pair_put HO1.out HO2.out
  subst e1
  subst e2
  subst e3
  obtain ⟨e1, e2, e3⟩ := pair_put HO3.out HO4.out
  subst e1
  subst e2
  subst e3
  obtain ⟨e1, e2, e3⟩ := pair_put HO5.out HO6.out
  subst e1
  subst e2
  subst e3
  have HKK1 : Hid (∀ V, Kp No WB6 V → Kp No WB1 V) := fun V hV => HK12.out.andNone (HK23.out.andNone (HK34.out.andNone (HK45.out.andNone (HK56.out.andNone hV))))
  have HKK2 : Hid (∀ V, Kp No WB6 V → Kp No WB2 V) := fun V hV => HK23.out.andNone (HK34.out.andNone (HK45.out.andNone (HK56.out.andNone hV)))
  have HKK3 : Hid (∀ V, Kp No WB6 V → Kp No WB3 V) := fun V hV => HK34.out.andNone (HK45.out.andNone (HK56.out.andNone hV))
  have HKK4 : Hid (∀ V, Kp No WB6 V → Kp No WB4 V) := fun V hV => HK45.out.andNone (HK56.out.andNone hV)
  have HKK5 : Hid (∀ V, Kp No WB6 V → Kp No WB5 V) := fun V hV => HK56.out.andNone hV
  obtain ⟨p0, p1, p2⟩ := HA1.out _ (HKK1.out WB6 (Kp.refl _ _))
  obtain ⟨q0, q1, q2⟩ := HA2.out _ (HKK2.out WB6 (Kp.refl _ _))
  have en : n2 = n1 := (by_len q2).trans (by_len p2).symm
  subst en
  have HS1 := hid (lsame_any WB6 k2 f2 a1 a2 n2 c1 c2 _ p2 q2)
  clear p2 q2
  go_wp2_with fail
  refine HS1.out.mono ?_
  rintro e w11 ⟨rfl, k11⟩
  have HK11 := hid k11
  clear p0 p1 q0 q1 k11 HS1
  obtain ⟨p0, p1, p2⟩ := HA3.out _ (HKK3.out w11 HK11.out)
  obtain ⟨q0, q1, q2⟩ := HA4.out _ (HKK4.out w11 HK11.out)
  have en : n4 = n3 := (by_len q2).trans (by_len p2).symm
  subst en
  have HS1 := hid (lsame_any w11 k4 f4 a3 a4 n4 c3 c4 _ p2 q2)
  clear p2 q2
  go_wp2_with fail
  refine HS1.out.mono ?_
  rintro e w12 ⟨rfl, k12⟩
  have HK12' := hid (HK11.out.andNone k12)
  clear p0 p1 q0 q1 k12 HS1
  obtain ⟨p0, p1, p2⟩ := HA5.out _ (HKK5.out w12 HK12'.out)
  obtain ⟨q0, q1, q2⟩ := HA6.out _ HK12'.out
  have en : n6 = n5 := (by_len q2).trans (by_len p2).symm
  subst en
  have HS1 := hid (lsame_any w12 k6 f6 a5 a6 n6 c5 c6 _ p2 q2)
  clear p2 q2
  go_wp2_with fail
  refine HS1.out.mono ?_
  rintro e w13 ⟨rfl, k13⟩
  have HK13 := hid (HK12'.out.andNone k13)
  clear p0 p1 q0 q1 k13 HS1
  go_wp2_with fail
  refine (alive_any _).mono ?_
  rintro e w14 ⟨rfl, hb14⟩
  have HBE : Hid (Below w.heap.size w w14) := (HB.out.andNone (HKB6.out.andNone HK13.out)).toBelow'.trans (hb14.mono (HB.out.andNone (HKB6.out.andNone HK13.out)).size)
  clear hb14
  go_wp2_with fail
  go_ret
  exact ⟨rfl, HBE.out⟩
end Go.Proofs.Ytenfahecnkdhaaa.Nd
end

section
/-
  Files and objects that came in.
-/
namespace Go.Proofs.Ytenfahecnkdhaaa.Nd
open Go.RowKit Go.ChangeShapes Go.WideShapes
open Sim (hid Kp No)

theorem mapM_len {α β : Type} {f : α → Option β} : ∀ (L : List α) (ys : List β), L.mapM f = some ys → ys.length = L.length
  | [], ys, h => by
    simp only [List.mapM_nil, pure, Option.some.injEq] at h
    subst h
    rfl
  | a :: L, ys, h => by
    rw [List.mapM_cons] at h
    simp only [bind, Option.bind_eq_some_iff, pure, Option.some.injEq] at h
    obtain ⟨y, hy, zs, hzs, rfl⟩ := h
    simp [mapM_len L zs hzs]
theorem cells_len {w : World} {base n : Nat} {a : Addr} {cs : List Value} (h : w.cells? base a n = some cs) : cs.length = n := by
  unfold World.cells? at h
  split at h
  · simpa using mapM_len _ _ h
  · cases h
theorem struct2 {P : Program} {H : Type} {enc : TypeId × Value → H} {w : World} {base : Nat} {spare : Nat → Bool} {held : Bool} {t : TypeId} {f0 f1 : Field} {fuel : Nat} {cs : List Value} {x : DataW H × List MemPlace} (ht : P.underlying t = some (.struct #[f0, f1])) (h : DataW.trod enc P w base spare held fuel t cs = some x) :
    ∃ y0 y1 n, cs.length = P.cellsOf t ∧ DataW.trod enc P w base spare held n f0.type ((cs.drop f0.offset).take (P.cellsOf f0.type)) = some y0 ∧
      DataW.trod enc P w base spare held n f1.type ((cs.drop f1.offset).take (P.cellsOf f1.type)) = some y1 := by
  obtain ⟨xs, n, _, rfl, hl, hlen, hf⟩ := DataW.trod_struct ht h
  match xs, hlen with
  | [y0, y1], _ => exact ⟨y0, y1, n, hl, by simpa using hf 0 f0 rfl, by simpa using hf 1 f1 rfl⟩

set_option maxRecDepth 100000 in
theorem hashes_of {H : Type} {enc : TypeId × Value → H} {W : World} {a0 : Option Addr} {len cap fuel : Nat} {x : DataW H × List MemPlace}
    (h : DataW.trod enc Try.prog W 0 (fun _ => true) true fuel 22 [.slice a0 len cap] = some x) :
    ∃ d : List (List Int), d.length = len ∧ HV (fun g => g < W.heap.size) W (.slice a0 len cap) d := by
  rcases Go.Deep.open_slice Try.underlying22 h with ⟨hcs, _⟩ | ⟨a, l, c, m, n, D, Pl, hcs, _, hl, hm, hmm, _, hr⟩
  · simp only [List.cons.injEq, Value.slice.injEq, and_true] at hcs
    obtain ⟨rfl, rfl, rfl⟩ := hcs
    exact ⟨[], rfl, HV.nil _ _⟩
  · simp only [List.cons.injEq, Value.slice.injEq, and_true] at hcs
    obtain ⟨rfl, rfl, rfl⟩ := hcs
    simp only [if_true] at hmm
    subst hmm
    have e26 : Try.prog.cellsOf 68 = 32 := by kernel_rfl
    rw [e26] at hr
    have each : ∀ r, r < len → ∃ t : List Int, HOk t ∧ ∀ i, i < 32 → W.cell? ((a.add (r * 32)).add i) = (b8 t)[i]? := by
      intro r hr1
      obtain ⟨cs', h1, h2⟩ := hr r (by omega)
      obtain ⟨hs, g2, hln, hwf⟩ := arr_ints Try.underlying68 Try.underlying5 (by kernel_rfl) (cells_len h1) h2
      exact ⟨hs, ⟨hln, fun y hy => u8_wf (hwf y hy)⟩, fun i hi => by rw [cells_get h1 i hi, g2]; rfl⟩
    obtain ⟨y, hy⟩ := Go.Deep.choose_lt each
    have hlen : ((List.range len).map y).length = len := by simp
    have hget : ∀ j t, ((List.range len).map y)[j]? = some t → j < len ∧ t = y j := fun j t hj => by
      have hjl : j < len := by
        have := (List.getElem?_eq_some_iff.1 hj).1
        simpa using this
      simp only [List.getElem?_map, List.getElem?_range hjl, Option.map_some, Option.some.injEq] at hj
      exact ⟨hjl, hj.symm⟩
    refine ⟨(List.range len).map y, hlen, some a, _, by rw [hlen], by rw [hlen]; exact hl, hm, by simp, fun e he => ?_, fun hne => ?_⟩
    · obtain ⟨j, hj⟩ := List.mem_iff_getElem?.1 he
      obtain ⟨hjl, rfl⟩ := hget j e hj
      exact (hy j hjl).1
    · have hpos : 0 < len := by
        have := List.length_pos_iff.2 hne
        omega
      have h00 := (hy 0 hpos).2 0 (by omega)
      obtain ⟨v0, hv0⟩ : ∃ v, (b8 (y 0))[0]? = some v := ⟨_, List.getElem?_eq_getElem (by rw [b8_length, (hy 0 hpos).1.1]; omega)⟩
      rw [hv0] at h00
      have ha : a.spot = none := by
        rw [Nat.zero_mul] at h00
        have e : (a.add 0) = a := rfl
        rw [e] at h00
        exact spot_none h00
      obtain ⟨b, o, s⟩ := a
      simp only at ha
      subst ha
      have hb : b < W.heap.size := by
        rw [addr_plus, addr_plus] at h00
        exact World.block_lt_of_cell? W _ h00
      refine ⟨b, o, rfl, hb, hb, fun j t hj => ?_⟩
      obtain ⟨hjl, rfl⟩ := hget j t hj
      refine ⟨(hy j hjl).1, fun i v hv => ?_⟩
      have hi : i < 32 := by
        have := (List.getElem?_eq_some_iff.1 hv).1
        rw [b8_length, (hy j hjl).1.1] at this
        exact this
      have h := (hy j hjl).2 i hi
      rw [addr_plus, addr_plus, hv] at h
      exact h

set_option maxRecDepth 100000 in
/-- A file that came in. -/
theorem open_file {H : Type} {enc : TypeId × Value → H} {W : World} {r : Reach} {base : Nat} {v : Value} {dd : DataW H} {p : List MemPlace} (hv : Value.okWide Try.prog W r base 24 v) (h : DataW.Trod enc Try.prog W 0 (fun _ => true) true 24 v dd p) :
    ∃ (s : Int) (a : Option Addr) (n c : Nat) (d : List (List Int)), v = .agg #[.int .i64 s, .slice a n c] ∧ d.length = n ∧ HV (fun g => g < W.heap.size) W (.slice a n c) d := by
  obtain ⟨cs, rfl, hsz⟩ := okWide_struct Try.underlying24 hv
  obtain ⟨fuel, hf⟩ := h
  have hf' : DataW.trod enc Try.prog W 0 (fun _ => true) true fuel 24 cs.toList = some (dd, p) := hf
  obtain ⟨_, y1, m, hl, h0, h1⟩ := struct2 Try.underlying24 hf'
  have e75 : Try.prog.cellsOf 24 = 2 := by kernel_rfl
  have e3 : Try.prog.cellsOf 3 = 1 := by kernel_rfl
  have e22 : Try.prog.cellsOf 22 = 1 := by kernel_rfl
  rw [e75] at hl
  simp only [e3, e22] at h0 h1
  obtain ⟨s, g0, _, _⟩ := DataW.trod_int Try.underlying3 h0
  obtain ⟨u0, u1, hcs⟩ : ∃ u0 u1, cs.toList = [u0, u1] := by
    match hk : cs.toList, hl with
    | [u0, u1], _ => exact ⟨u0, u1, rfl⟩
  rw [hcs] at g0 h1
  simp at g0
  have h1' : DataW.trod enc Try.prog W 0 (fun _ => true) true m 22 [u1] = some y1 := by simpa using h1
  have hsl : ∃ a n c, u1 = .slice a n c := by
    rcases Go.Deep.open_slice Try.underlying22 h1' with ⟨h, _⟩ | ⟨a, l, c, _, _, _, _, h, _⟩
    · simp at h
      exact ⟨_, _, _, h⟩
    · simp at h
      exact ⟨_, _, _, h⟩
  obtain ⟨a, n, c, rfl⟩ := hsl
  obtain ⟨d, hd, hh⟩ := hashes_of h1'
  have e : cs = #[u0, .slice a n c] := by
    apply Array.toList_inj.1
    rw [hcs]
  exact ⟨s, a, n, c, d, by rw [e, g0], hd, hh⟩

end Go.Proofs.Ytenfahecnkdhaaa.Nd
end

section
/-
  Bytes that came in.
-/
namespace Go.Proofs.Ytenfahecnkdhaaa.Nd
open Go.RowKit Go.ChangeShapes Go.WideShapes
open Sim (hid Kp No)

set_option maxRecDepth 100000 in
theorem open_bytes {H : Type} {enc : TypeId × Value → H} {W : World} {r : Reach} {base : Nat} {v : Value} {dd : DataW H} {p : List MemPlace} (hv : Value.okWide Try.prog W r base 26 v) (h : DataW.Trod enc Try.prog W 0 (fun _ => true) true 26 v dd p) :
    ∃ (a : Option Addr) (n c : Nat), v = .slice a n c ∧ (n ≤ 140737488355328 → ∃ bs : List Int, bs.length = n ∧ Tlv.BySl 0 W.heap.size W (.slice a n c) bs) := by
  obtain ⟨a0, n0, c0, rfl⟩ := okWide_slice Try.underlying26 hv
  obtain ⟨fuel, hf⟩ := h
  rcases open_ints Try.underlying26 Try.underlying5 (by kernel_rfl) hf with ⟨hc, _⟩ | ⟨x, l, c, zs, hc, _, h2, h3, h4, _, h5, h6⟩
  · simp [Value.cells] at hc
    obtain ⟨rfl, rfl, rfl⟩ := hc
    exact ⟨none, 0, 0, rfl, fun _ => ⟨[], rfl, Tlv.BySl.none _ _ _⟩⟩
  · simp [Value.cells] at hc
    obtain ⟨rfl, rfl, rfl⟩ := hc
    refine ⟨some x, n0, c0, rfl, fun hll => ?_⟩
    have hzl : zs.length = c0 := by simpa using h4
    have hlen : (zs.take n0).length = n0 := List.length_take_of_le (by omega)
    refine ⟨zs.take n0, hlen, _, c0, by rw [hlen], by rw [hlen]; exact h2, h3, by simp, by rw [hlen]; omega, fun y hy => u8_wf (h6 y (List.mem_of_mem_take hy)), fun hne => ?_⟩
    have hpos : 0 < n0 := by have := List.length_pos_iff.2 hne; omega
    have c0' := h5 0 (by omega)
    have hx := spot_none c0'
    obtain ⟨b, o, sp⟩ := x
    simp only at hx
    subst hx
    refine ⟨b, o, rfl, Nat.zero_le _, World.block_lt_of_cell? W _ c0', fun i hi => ?_⟩
    have := h5 i (by omega)
    rw [addr_plus] at this
    rw [this]
    rw [hlen] at hi
    simp [hi]
end Go.Proofs.Ytenfahecnkdhaaa.Nd
end
