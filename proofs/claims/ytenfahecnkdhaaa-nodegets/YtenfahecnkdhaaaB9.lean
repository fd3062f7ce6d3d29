/- Of the proof: the texts NdFile, TlvSame, NdGetFile, NdEntry, one behind the other. -/
import Derived.Test.YtenfahecnkdhaaaB8
import Derived.Test.YtenfahecnkdhaaaB6
import Derived.Laws.BytesArg
section
/-
  file, of the program: what a value's fields tell.
-/
namespace Go.Proofs.Ytenfahecnkdhaaa.Nd
open Go.RowKit
open Tlv (Tr Agree)
open Sim (hid Kp No)
set_option linter.unusedSimpArgs false

theorem FI.start (w1 : World) (s : Int) : FI w1 w1.heap.size s [] (.slice none 0 0) (w1.alloc (.cells #[.int .i64 s, .slice none 0 0] 35)) :=
  ⟨by simp, by simp, by simp, by simp, HMine.nil _ _, (Below.refl _ _).alloc (Nat.le_refl _) _⟩
set_option maxHeartbeats 4000000 in
set_option maxRecDepth 100000 in
theorem file_any (w : World) (v : Value) (t0 t1 : Tr 8) (hv : Tlv.KSl 0 w.heap.size w (Tlv.Rep 0 w.heap.size w 8) v [t0, t1]) (hl : t1.kd.length ≤ 1000000) :
    Calls Try.prog 49 #[v] w fun e w' => ∃ a l c, e = .returned (.agg #[.int .i64 (wrap64 t0.hd.2.1), .slice a l c]) ∧ HV (fun g => w.heap.size ≤ g) w' (.slice a l c) (kidsH t1.kd) ∧ Below w.heap.size w w' := by
  obtain ⟨a, c, rfl, hxx⟩ := id hv
  clear hxx
  obtain ⟨g, o, t, sb0, sk0, rfl, hg, ht, c00, c01, c02, c03, r0⟩ := kid_at hv (k := 0) (by simp)
  obtain ⟨g', o', t', sb1, sk1, e, hg', ht', c10, c11, c12, c13, r1⟩ := kid_at hv (k := 1) (by simp)
  simp only [Option.some.injEq, Addr.mk.injEq] at e
  obtain ⟨rfl, rfl, hxx⟩ := e
  clear hxx
  simp only [List.getElem?_cons_zero, List.getElem?_cons_succ, Option.some.injEq] at ht ht'
  subst ht
  subst ht'
  clear c00 c02 c03 r0 hv c10 c11 c12 hg'
  simp only [Nat.zero_mul, Nat.one_mul, Nat.add_zero, Nat.add_assoc, Nat.reduceAdd, List.length_cons, List.length_nil] at c01 c13 ⊢
  obtain ⟨q, hq⟩ : ∃ q, t0.hd.2.1 = q := ⟨_, rfl⟩
  rw [hq] at c01 ⊢
  clear hq
  obtain ⟨hxa, hxb, hxc, hks⟩ := r1
  clear hxa hxb hxc
  obtain ⟨a1, p1, rfl, hxx⟩ := id hks
  clear hxx
  obtain ⟨ks, hks'⟩ : ∃ ks, t1.kd = ks := ⟨_, rfl⟩
  rw [hks'] at hks hl c13 ⊢
  clear hks' t1 t0
  obtain ⟨n, hn⟩ : ∃ n, ks.length = n := ⟨_, rfl⟩
  have HN := hid hn
  rw [hn] at hks hl c13
  have HKS := hid hks
  clear hn hks
  go_enter Try.func49, Try.ntmps49
  go_wp2_with fail
  go_loopw [17] (fun i wr => ∃ (k : Nat) (av : Option Addr) (cv : Nat), i = .int .i64 (k : Int) ∧ k ≤ n ∧ Hid (FI (w.alloc (.cells #[.int .i64 0, .slice none 0 0] 35)) (w.heap.size + 1) (wrap64 q) ((kidsH ks).take k) (.slice av k cv) wr)) (fun i _ => n - (intOf i).toNat)
  case atStart => exact ⟨0, none, 0, rfl, Nat.zero_le _, show FI _ _ _ _ _ _ from by simpa using FI.start (w.alloc (.cells #[.int .i64 0, .slice none 0 0] 35)) (wrap64 q)⟩
  case round =>
    obtain ⟨k, av, cv, rfl, hkn, HS⟩ := hrel
    have HB : Hid (Below w.heap.size w wr) := ((Below.refl _ _).alloc (Nat.le_refl _) _).trans (HS.out.2.2.2.2.2.mono (by simp))
    by_cases hlt : k < n
    · have hltI : (k : Int) < (n : Int) := by omega
      have hwk : IntKind.i64.wrap ((k : Int) + 1) = ((k + 1 : Nat) : Int) := by rw [IntKind.wrap_i64]; omega
      obtain ⟨g2, o2, t, sb, sk, rfl, hg2, ht, d0, d1, d2, d3, hr⟩ := kid_at HKS.out (k := k) (by rw [HN.out]; exact hlt)
      obtain ⟨hxa, hxb, hby, ⟨ak, ck, rfl, hxc⟩⟩ := hr
      clear hxa hxb hxc
      obtain ⟨ab, cb, rfl, hxx⟩ := id hby
      clear hxx
      rw [← HB.out.cell (p := ⟨g2, _, none⟩) hg2] at d0 d1 d2 d3
      have hg2r : g2 < wr.heap.size := Nat.lt_of_lt_of_le hg2 HB.out.size
      have HNX : Hid ((kidsH ks).take k ++ [h32 t.hd.2.2] = (kidsH ks).take (k + 1)) := by
        rw [Hid, List.take_add_one]
        simp [kidsH, ht]
      have HLK : Hid (∀ k, k ≤ n → ((kidsH ks).take k).length = k) := fun j hj => by
        have := HN.out
        simp [kidsH]
        omega
      have HOKH : Hid (HOk (h32 t.hd.2.2)) := h32_ok (Tlv.BySl.bytes hby)
      have hbr : Tlv.BySl 0 wr.heap.size wr (.slice ab t.hd.2.2.length cb) t.hd.2.2 := bySl_lift hby HB.out
      obtain ⟨tg, htg⟩ : ∃ x, t.hd.1 = x := ⟨_, rfl⟩
      obtain ⟨nm, hnm⟩ : ∃ x, t.hd.2.1 = x := ⟨_, rfl⟩
      obtain ⟨bs, hbs⟩ : ∃ x, t.hd.2.2 = x := ⟨_, rfl⟩
      obtain ⟨lk, hlk⟩ : ∃ x, t.kd.length = x := ⟨_, rfl⟩
      rw [htg] at d0
      rw [hnm] at d1
      rw [hbs] at hbr d2 HNX HOKH
      rw [hlk] at d3
      obtain ⟨lb, hlb⟩ : ∃ lb, bs.length = lb := ⟨_, rfl⟩
      rw [hlb] at hbr d2
      clear hby ht htg hnm hbs hlk t hlb
      obtain ⟨W1, hW1⟩ : ∃ W1, wr.alloc (.cells #[.int .i64 tg, .int .u64 nm, .slice ab lb cb, .slice ak lk ck] 95) = W1 := ⟨_, rfl⟩
      have HK1 : Hid (Kp No wr W1) := by rw [Hid, ← hW1]; exact (Kp.refl No wr).alloc _
      have hz1 : W1.heap.size = wr.heap.size + 1 := by rw [← hW1]; simp
      have HBY : Hid (Tlv.BySl 0 W1.drew.heap.size W1.drew (.slice ab lb cb) bs) := hbr.agree (by rw [← hW1]; exact ((Agree.refl _ _ _).alloc (Nat.le_refl _) _).drew) (Nat.le_refl _) (by simp [hz1])
      have hlb1 : W1.cell? ⟨wr.heap.size, 2, none⟩ = some (.slice ab lb cb) := by rw [← hW1]; simp
      have HLB : Hid (∀ V, Kp (fun x => x = w.heap.size + 1 ∨ (Value.slice av k cv).ownBlock = some x) W1 V → V.cell? ⟨wr.heap.size, 2, none⟩ = some (.slice ab lb cb)) := fun V hV => by
        refine (hV.cell (p := ⟨wr.heap.size, 2, none⟩) (by rw [hz1]; simp) (fun hx => ?_)).trans hlb1
        rcases hx with hx | hx
        · have h1 := HS.out.2.2.2.1
          have h2 : wr.heap.size = w.heap.size + 1 := hx
          omega
        · have h1 := HS.out.2.2.2.2.1.1.lt wr.heap.size hx
          omega
      have c3 : ∀ V, Kp No W1 V → V.cell? ⟨w.heap.size + 1, 1, none⟩ = some (.slice av k cv) := fun V hV => ((HK1.out.andNone hV).cell (p := ⟨w.heap.size + 1, 1, none⟩) HS.out.2.2.2.1 (fun x => x)).trans HS.out.2.1
      clear hbr hlb1 hz1
      go_wp2_with fail
      refine wp_region_held_drew (S := fun V => Kp (fun x => x = w.heap.size + 1 ∨ (Value.slice av k cv).ownBlock = some x) W1 V) (by kernel_rfl) ((Kp.refl _ _).drew) (fun hHeld => ?_)
      refine wpAnyH_take (i := 0) (oi := { dst := some 21, op := Op.fieldAddr 35 (Operand.tmp 3) 1, type := 0, pos := "file.go:65", after := #[], guard := none }) (v := .pointer (some ⟨w.heap.size + 1, 1, none⟩)) rfl (by kernel_rfl) (by kernel_rfl) (by kernel_rfl) (fun _ _ _ h => h) (Or.inl ⟨by rfl, fun w' hw' => by (clear hw'; go_simp)⟩) hHeld ?_
      simp only [Act.put, List.setIfInBounds_toArray, List.set_cons_zero, List.set_cons_succ]
      refine wpAnyH_take (i := 2) (oi := { dst := some 23, op := Op.fieldAddr 95 (Operand.tmp 5) 2, type := 0, pos := "file.go:65", after := #[], guard := none }) (v := .pointer (some ⟨wr.heap.size, 2, none⟩)) rfl (by kernel_rfl) (by kernel_rfl) (by kernel_rfl) (fun _ _ _ h => h) (Or.inl ⟨by rfl, fun w' hw' => by (clear hw'; go_simp)⟩) hHeld ?_
      simp only [Act.put, List.setIfInBounds_toArray, List.set_cons_zero, List.set_cons_succ]
      refine wpAnyH_take (i := 3) (oi := { dst := some 24, op := Op.load 26 (Operand.tmp 23), type := 26, pos := "file.go:65", after := #[{ on := 2, ground := Ground.data }], guard := none }) (v := .slice ab lb cb) rfl (by kernel_rfl) (by kernel_rfl) (by kernel_rfl) (fun _ _ _ h => h) (Or.inl ⟨by rfl, fun w' hw' => by (have q := HLB.out _ hw'; clear hw'; go_simp)⟩) hHeld ?_
      simp only [Act.put, List.setIfInBounds_toArray, List.set_cons_zero, List.set_cons_succ]
      refine wpAnyH_ready (rs := [1, 4]) (by kernel_rfl) (by simp) ?_
      refine (AllReadyH.cons (o := { dst := some 22, op := Op.load 22 (Operand.tmp 21), type := 22, pos := "file.go:65", after := #[{ on := 0, ground := Ground.data }], guard := none }) rfl (fun K hK => ?_) (AllReadyH.cons (o := { dst := some 25, op := Op.call { callee := Callee.value (Operand.func 73), args := #[Operand.tmp 24], argTypes := #[26] }, type := 68, pos := "file.go:65", after := #[{ on := 3, ground := Ground.data }], guard := none }) rfl (fun K hK => ?_) AllReadyH.nil))
      · have q3 := c3 W1.drew ((Kp.refl No W1).drew)
        go_simp
        refine hK.out _ _ (((Kp.refl No W1).drew).ofNo) (fun hh => ?_)
        clear hK K hHeld
        have hHeld := hh
        clear hh
        try simp only [Act.put, List.setIfInBounds_toArray, List.set_cons_zero, List.set_cons_succ]
        refine wpAnyH_ready (rs := [4]) (by kernel_rfl) (by simp) ?_
        refine (AllReadyH.cons (o := { dst := some 25, op := Op.call { callee := Callee.value (Operand.func 73), args := #[Operand.tmp 24], argTypes := #[26] }, type := 68, pos := "file.go:65", after := #[{ on := 3, ground := Ground.data }], guard := none }) rfl (fun K hK => ?_) AllReadyH.nil)
        go_simp
        refine (hash_any _ _ _ HBY.out).mono ?_
        rintro e' w2 ⟨rfl, hb2⟩
        have hb2' : Below W1.heap.size W1 w2 := (Below.refl _ _).drew.trans hb2
        have HK2 : Hid (Kp No W1 w2) := Kp.below hb2'
        obtain ⟨ad2, cap2, w4, hap, k3, kf, ks4, hvi, hkp⟩ := HS.out.step (HLK.out k hkn) (by simp) HK1.out HK2.out HOKH.out (by omega) 22
        rw [HNX.out] at hvi
        have HAP := hid hap
        have HVI := hid hvi
        have HKP := hid hkp
        clear hap hvi hkp hb2 hb2'
        go_wp2_with fail
        refine hK.out _ _ (HK2.out.ofNo) (fun hh => ?_)
        clear hK K hHeld
        have hHeld := hh
        clear hh
        try simp only [Act.put, List.setIfInBounds_toArray, List.set_cons_zero, List.set_cons_succ]
        refine wpAnyH_ready (rs := [5]) (by kernel_rfl) (by simp) ?_
        refine (AllReadyH.cons (o := { dst := some 26, op := Op.buildSlice 22 1 #[(0, Operand.tmp 25)], type := 22, pos := "file.go:65", after := #[{ on := 4, ground := Ground.data }], guard := none }) rfl (fun K hK => ?_) AllReadyH.nil)
        rw [if_pos (by rfl)]
        refine wp_valE (exec_sliceE 22 _ rfl (.agg (b8 (h32 bs)).toArray) _ rfl (run_oneH HOKH.out.1 _)) ?_
        refine hK.out _ _ ((HK2.out.alloc _).ofNo) (fun hh => ?_)
        clear hK K hHeld
        have hHeld := hh
        clear hh
        try simp only [Act.put, List.setIfInBounds_toArray, List.set_cons_zero, List.set_cons_succ]
        refine wpAnyH_ready (rs := [6]) (by kernel_rfl) (by simp) ?_
        refine (AllReadyH.cons (o := { dst := some 27, op := Op.call { callee := Callee.builtin Builtin.append, args := #[Operand.tmp 22, Operand.tmp 26], argTypes := #[22, 22] }, type := 22, pos := "file.go:65", after := #[{ on := 1, ground := Ground.data }, { on := 5, ground := Ground.data }, { on := 4, ground := Ground.chain }], guard := none }) rfl (fun K hK => ?_) AllReadyH.nil)
        rw [if_pos (by rfl)]
        refine wp_valE (exec_appE _ _ 22 rfl (.slice av k cv) (.slice (some ⟨w2.heap.size, 0, none⟩) 1 1) _ rfl rfl HAP.out) ?_
        refine hK.out _ _ (HKP.out) (fun hh => ?_)
        clear hK K hHeld
        have hHeld := hh
        clear hh
        try simp only [Act.put, List.setIfInBounds_toArray, List.set_cons_zero, List.set_cons_succ]
        refine wpAnyH_take (i := 7) (oi := { dst := some 28, op := Op.fieldAddr 35 (Operand.tmp 3) 1, type := 0, pos := "file.go:65", after := #[{ on := 0, ground := Ground.phase }, { on := 1, ground := Ground.phase }, { on := 2, ground := Ground.phase }, { on := 3, ground := Ground.phase }, { on := 4, ground := Ground.phase }, { on := 5, ground := Ground.phase }, { on := 6, ground := Ground.phase }], guard := none }) (v := .pointer (some ⟨w.heap.size + 1, 1, none⟩)) rfl (by kernel_rfl) (by kernel_rfl) (by kernel_rfl) (fun _ _ _ h => h) (Or.inl ⟨by rfl, fun w' hw' => by (clear hw'; go_simp)⟩) hHeld ?_
        simp only [Act.put, List.setIfInBounds_toArray, List.set_cons_zero, List.set_cons_succ]
        refine wpAnyH_ready (rs := [8]) (by kernel_rfl) (by simp) ?_
        refine (AllReadyH.cons (o := { dst := none, op := Op.store 22 (Operand.tmp 28) (Operand.tmp 27), type := 0, pos := "file.go:65", after := #[{ on := 7, ground := Ground.data }, { on := 6, ground := Ground.data }, { on := 6, ground := Ground.chain }, { on := 0, ground := Ground.phase }, { on := 1, ground := Ground.phase }, { on := 2, ground := Ground.phase }, { on := 3, ground := Ground.phase }, { on := 4, ground := Ground.phase }, { on := 5, ground := Ground.phase }, { on := 6, ground := Ground.phase }], guard := none }) rfl (fun K hK => ?_) AllReadyH.nil)
        go_simp
        refine hK.out _ _ (HKP.out.setCell (p := ⟨w.heap.size + 1, 1, none⟩) (.inl (.inl rfl)) _) (fun hh => ?_)
        clear hK K hHeld
        have hHeld := hh
        clear hh
        try simp only [Act.put, List.setIfInBounds_toArray, List.set_cons_zero, List.set_cons_succ]
        refine wpAnyH_done (by kernel_rfl) ?_ _
        clear hHeld
        go_wp2_with fail
        go_round
        case rel => exact ⟨k + 1, ad2, cap2, by first | rfl | go_num, by omega, HVI.out⟩
        case measure => simp [intOf]; omega
      · go_simp
        refine (hash_any _ _ _ HBY.out).mono ?_
        rintro e' w2 ⟨rfl, hb2⟩
        have hb2' : Below W1.heap.size W1 w2 := (Below.refl _ _).drew.trans hb2
        have HK2 : Hid (Kp No W1 w2) := Kp.below hb2'
        obtain ⟨ad2, cap2, w4, hap, k3, kf, ks4, hvi, hkp⟩ := HS.out.step (HLK.out k hkn) (by simp) HK1.out HK2.out HOKH.out (by omega) 22
        rw [HNX.out] at hvi
        have HAP := hid hap
        have HVI := hid hvi
        have HKP := hid hkp
        clear hap hvi hkp hb2 hb2'
        go_wp2_with fail
        refine hK.out _ _ (HK2.out.ofNo) (fun hh => ?_)
        clear hK K hHeld
        have hHeld := hh
        clear hh
        try simp only [Act.put, List.setIfInBounds_toArray, List.set_cons_zero, List.set_cons_succ]
        refine wpAnyH_ready (rs := [1, 5]) (by kernel_rfl) (by simp) ?_
        refine (AllReadyH.cons (o := { dst := some 22, op := Op.load 22 (Operand.tmp 21), type := 22, pos := "file.go:65", after := #[{ on := 0, ground := Ground.data }], guard := none }) rfl (fun K hK => ?_) (AllReadyH.cons (o := { dst := some 26, op := Op.buildSlice 22 1 #[(0, Operand.tmp 25)], type := 22, pos := "file.go:65", after := #[{ on := 4, ground := Ground.data }], guard := none }) rfl (fun K hK => ?_) AllReadyH.nil))
        · have q3 := c3 w2 (HK2.out)
          go_simp
          refine hK.out _ _ (HK2.out.ofNo) (fun hh => ?_)
          clear hK K hHeld
          have hHeld := hh
          clear hh
          try simp only [Act.put, List.setIfInBounds_toArray, List.set_cons_zero, List.set_cons_succ]
          refine wpAnyH_ready (rs := [5]) (by kernel_rfl) (by simp) ?_
          refine (AllReadyH.cons (o := { dst := some 26, op := Op.buildSlice 22 1 #[(0, Operand.tmp 25)], type := 22, pos := "file.go:65", after := #[{ on := 4, ground := Ground.data }], guard := none }) rfl (fun K hK => ?_) AllReadyH.nil)
          rw [if_pos (by rfl)]
          refine wp_valE (exec_sliceE 22 _ rfl (.agg (b8 (h32 bs)).toArray) _ rfl (run_oneH HOKH.out.1 _)) ?_
          refine hK.out _ _ ((HK2.out.alloc _).ofNo) (fun hh => ?_)
          clear hK K hHeld
          have hHeld := hh
          clear hh
          try simp only [Act.put, List.setIfInBounds_toArray, List.set_cons_zero, List.set_cons_succ]
          refine wpAnyH_ready (rs := [6]) (by kernel_rfl) (by simp) ?_
          refine (AllReadyH.cons (o := { dst := some 27, op := Op.call { callee := Callee.builtin Builtin.append, args := #[Operand.tmp 22, Operand.tmp 26], argTypes := #[22, 22] }, type := 22, pos := "file.go:65", after := #[{ on := 1, ground := Ground.data }, { on := 5, ground := Ground.data }, { on := 4, ground := Ground.chain }], guard := none }) rfl (fun K hK => ?_) AllReadyH.nil)
          rw [if_pos (by rfl)]
          refine wp_valE (exec_appE _ _ 22 rfl (.slice av k cv) (.slice (some ⟨w2.heap.size, 0, none⟩) 1 1) _ rfl rfl HAP.out) ?_
          refine hK.out _ _ (HKP.out) (fun hh => ?_)
          clear hK K hHeld
          have hHeld := hh
          clear hh
          try simp only [Act.put, List.setIfInBounds_toArray, List.set_cons_zero, List.set_cons_succ]
          refine wpAnyH_take (i := 7) (oi := { dst := some 28, op := Op.fieldAddr 35 (Operand.tmp 3) 1, type := 0, pos := "file.go:65", after := #[{ on := 0, ground := Ground.phase }, { on := 1, ground := Ground.phase }, { on := 2, ground := Ground.phase }, { on := 3, ground := Ground.phase }, { on := 4, ground := Ground.phase }, { on := 5, ground := Ground.phase }, { on := 6, ground := Ground.phase }], guard := none }) (v := .pointer (some ⟨w.heap.size + 1, 1, none⟩)) rfl (by kernel_rfl) (by kernel_rfl) (by kernel_rfl) (fun _ _ _ h => h) (Or.inl ⟨by rfl, fun w' hw' => by (clear hw'; go_simp)⟩) hHeld ?_
          simp only [Act.put, List.setIfInBounds_toArray, List.set_cons_zero, List.set_cons_succ]
          refine wpAnyH_ready (rs := [8]) (by kernel_rfl) (by simp) ?_
          refine (AllReadyH.cons (o := { dst := none, op := Op.store 22 (Operand.tmp 28) (Operand.tmp 27), type := 0, pos := "file.go:65", after := #[{ on := 7, ground := Ground.data }, { on := 6, ground := Ground.data }, { on := 6, ground := Ground.chain }, { on := 0, ground := Ground.phase }, { on := 1, ground := Ground.phase }, { on := 2, ground := Ground.phase }, { on := 3, ground := Ground.phase }, { on := 4, ground := Ground.phase }, { on := 5, ground := Ground.phase }, { on := 6, ground := Ground.phase }], guard := none }) rfl (fun K hK => ?_) AllReadyH.nil)
          go_simp
          refine hK.out _ _ (HKP.out.setCell (p := ⟨w.heap.size + 1, 1, none⟩) (.inl (.inl rfl)) _) (fun hh => ?_)
          clear hK K hHeld
          have hHeld := hh
          clear hh
          try simp only [Act.put, List.setIfInBounds_toArray, List.set_cons_zero, List.set_cons_succ]
          refine wpAnyH_done (by kernel_rfl) ?_ _
          clear hHeld
          go_wp2_with fail
          go_round
          case rel => exact ⟨k + 1, ad2, cap2, by first | rfl | go_num, by omega, HVI.out⟩
          case measure => simp [intOf]; omega
        · rw [if_pos (by rfl)]
          refine wp_valE (exec_sliceE 22 _ rfl (.agg (b8 (h32 bs)).toArray) _ rfl (run_oneH HOKH.out.1 _)) ?_
          refine hK.out _ _ ((HK2.out.alloc _).ofNo) (fun hh => ?_)
          clear hK K hHeld
          have hHeld := hh
          clear hh
          try simp only [Act.put, List.setIfInBounds_toArray, List.set_cons_zero, List.set_cons_succ]
          refine wpAnyH_ready (rs := [1]) (by kernel_rfl) (by simp) ?_
          refine (AllReadyH.cons (o := { dst := some 22, op := Op.load 22 (Operand.tmp 21), type := 22, pos := "file.go:65", after := #[{ on := 0, ground := Ground.data }], guard := none }) rfl (fun K hK => ?_) AllReadyH.nil)
          have q3 := c3 (w2.alloc (.cells (b8 (h32 bs)).toArray 68)) ((HK2.out.alloc _))
          go_simp
          refine hK.out _ _ ((HK2.out.alloc _).ofNo) (fun hh => ?_)
          clear hK K hHeld
          have hHeld := hh
          clear hh
          try simp only [Act.put, List.setIfInBounds_toArray, List.set_cons_zero, List.set_cons_succ]
          refine wpAnyH_ready (rs := [6]) (by kernel_rfl) (by simp) ?_
          refine (AllReadyH.cons (o := { dst := some 27, op := Op.call { callee := Callee.builtin Builtin.append, args := #[Operand.tmp 22, Operand.tmp 26], argTypes := #[22, 22] }, type := 22, pos := "file.go:65", after := #[{ on := 1, ground := Ground.data }, { on := 5, ground := Ground.data }, { on := 4, ground := Ground.chain }], guard := none }) rfl (fun K hK => ?_) AllReadyH.nil)
          rw [if_pos (by rfl)]
          refine wp_valE (exec_appE _ _ 22 rfl (.slice av k cv) (.slice (some ⟨w2.heap.size, 0, none⟩) 1 1) _ rfl rfl HAP.out) ?_
          refine hK.out _ _ (HKP.out) (fun hh => ?_)
          clear hK K hHeld
          have hHeld := hh
          clear hh
          try simp only [Act.put, List.setIfInBounds_toArray, List.set_cons_zero, List.set_cons_succ]
          refine wpAnyH_take (i := 7) (oi := { dst := some 28, op := Op.fieldAddr 35 (Operand.tmp 3) 1, type := 0, pos := "file.go:65", after := #[{ on := 0, ground := Ground.phase }, { on := 1, ground := Ground.phase }, { on := 2, ground := Ground.phase }, { on := 3, ground := Ground.phase }, { on := 4, ground := Ground.phase }, { on := 5, ground := Ground.phase }, { on := 6, ground := Ground.phase }], guard := none }) (v := .pointer (some ⟨w.heap.size + 1, 1, none⟩)) rfl (by kernel_rfl) (by kernel_rfl) (by kernel_rfl) (fun _ _ _ h => h) (Or.inl ⟨by rfl, fun w' hw' => by (clear hw'; go_simp)⟩) hHeld ?_
          simp only [Act.put, List.setIfInBounds_toArray, List.set_cons_zero, List.set_cons_succ]
          refine wpAnyH_ready (rs := [8]) (by kernel_rfl) (by simp) ?_
          refine (AllReadyH.cons (o := { dst := none, op := Op.store 22 (Operand.tmp 28) (Operand.tmp 27), type := 0, pos := "file.go:65", after := #[{ on := 7, ground := Ground.data }, { on := 6, ground := Ground.data }, { on := 6, ground := Ground.chain }, { on := 0, ground := Ground.phase }, { on := 1, ground := Ground.phase }, { on := 2, ground := Ground.phase }, { on := 3, ground := Ground.phase }, { on := 4, ground := Ground.phase }, { on := 5, ground := Ground.phase }, { on := 6, ground := Ground.phase }], guard := none }) rfl (fun K hK => ?_) AllReadyH.nil)
          go_simp
          refine hK.out _ _ (HKP.out.setCell (p := ⟨w.heap.size + 1, 1, none⟩) (.inl (.inl rfl)) _) (fun hh => ?_)
          clear hK K hHeld
          have hHeld := hh
          clear hh
          try simp only [Act.put, List.setIfInBounds_toArray, List.set_cons_zero, List.set_cons_succ]
          refine wpAnyH_done (by kernel_rfl) ?_ _
          clear hHeld
          go_wp2_with fail
          go_round
          case rel => exact ⟨k + 1, ad2, cap2, by first | rfl | go_num, by omega, HVI.out⟩
          case measure => simp [intOf]; omega
    · have hltI : ¬ (k : Int) < (n : Int) := by omega
      have hkn' : k = n := by omega
      subst hkn'
      have hF := HS.out
      have ek : (kidsH ks).take k = kidsH ks := List.take_of_length_le (by simp [kidsH, HN.out])
      rw [ek] at hF
      obtain ⟨f0, f1, ff, fs, fm, fb⟩ := hF
      have r0 : wr.cell? ⟨w.heap.size, 0, none⟩ = some (.int .i64 0) := by rw [fb.cell (p := ⟨w.heap.size, 0, none⟩) (by simp)]; simp [go_sem]
      have r1 : wr.cell? ⟨w.heap.size, 1, none⟩ = some (.slice none 0 0) := by rw [fb.cell (p := ⟨w.heap.size, 1, none⟩) (by simp)]; simp [go_sem]
      have rf : ∀ o, wr.frozen? ⟨w.heap.size, o, none⟩ = false := fun o => by rw [fb.frozen (p := ⟨w.heap.size, o, none⟩) (by simp)]; simp [go_sem]
      have rs : w.heap.size < wr.heap.size := by omega
      have HFM := hid fm.hv
      clear fb fm ek HS hlt
      go_wp2_with fail
      obtain ⟨q0, q1⟩ := set2_read (u0 := .int .i64 (wrap64 q)) (u1 := .slice av k cv) r0 r1
      refine bodyPost_ret (v := .agg #[.int .i64 (wrap64 q), .slice av k cv]) (by simp [results, Try.results49, go_sem, q0, q1]) rfl ⟨av, k, cv, rfl, ?_, ?_⟩
      · have hkk : Kp (· = w.heap.size) wr ((wr.setCell ⟨w.heap.size, 0, none⟩ (.int .i64 (wrap64 q))).setCell ⟨w.heap.size, 1, none⟩ (.slice av k cv)) := ((Kp.refl (· = w.heap.size) _).setCell (p := ⟨w.heap.size, 0, none⟩) (.inl rfl) _).setCell (p := ⟨w.heap.size, 1, none⟩) (.inl rfl) _
        exact hv_kept2 HFM.out hkk (fun g hg => ⟨by omega, by omega⟩)
      · exact (HB.out.setCell (by simp) _).setCell (by simp) _
end Go.Proofs.Ytenfahecnkdhaaa.Nd
end

section
/-
  What Same of tlv answers of any two trees.
-/
namespace Go.Proofs.Ytenfahecnkdhaaa.Tlv
open Go.RowKit
attribute [local go_sem ↓] Go.wp_at_zero Go.wp_at_succ

theorem conv_bytes {L B : Nat} {w : World} {v : Value} {bs : List Int} (h : BySl L B w v bs) : (convert 26 9 v).run Try.prog w = .ok (.string (strOfNums bs)) w := by
  obtain ⟨a, cap, rfl, h2, h3, h4, h5, h6, h7⟩ := h
  by_cases hne : bs = []
  · subst hne
    rw [List.length_nil, run_convert_bytes_string w 26 9 5 _ 0 cap Try.underlying26 Try.underlying5 Try.underlying9]
    cases a <;> simp [Conv.bytesToString, loadCells]
    all_goals rfl
  · obtain ⟨b, o, rfl, _, _, hc⟩ := h7 hne
    exact run_convert_bytes_arg w 26 5 Try.underlying26 Try.underlying5 b o bs.length cap bs rfl hc 9 Try.underlying9

theorem strOfNums_inj {xs ys : List Int} (hx : ∀ x ∈ xs, 0 ≤ x ∧ x ≤ 255) (hy : ∀ x ∈ ys, 0 ≤ x ∧ x ≤ 255) (h : strOfNums xs = strOfNums ys) : xs = ys := by
  have e := congrArg (fun s : ByteArray => s.data.toList) h
  simp only [strOfNums_data] at e
  have inv : ∀ zs : List Int, (∀ x ∈ zs, 0 ≤ x ∧ x ≤ 255) → (zs.map fun n => UInt8.ofNat n.toNat).map (fun u => (u.toNat : Int)) = zs := by
    intro zs hz
    induction zs with
    | nil => rfl
    | cons z zs ih =>
      have := hz z (List.mem_cons_self ..)
      simp only [List.map_cons]
      rw [ih (fun x hx => hz x (List.mem_cons_of_mem _ hx))]
      congr 1
      simp
      omega
  rw [← inv xs hx, ← inv ys hy, e]

set_option maxHeartbeats 400000 in
theorem equal_any (v v' : Value) (xs ys : List Int) (w : World) (h : BySl 0 w.heap.size w v xs) (h' : BySl 0 w.heap.size w v' ys) :
    Calls Try.prog 83 #[v, v'] w fun e w' => e = .returned (.bool (decide (xs = ys))) ∧ w' = w := by
  have c1 := conv_bytes h
  have c2 := conv_bytes h'
  have hq : ((strOfNums xs).toList == (strOfNums ys).toList) = decide (xs = ys) := by
    obtain ⟨_, _, _, _, _, _, _, h6, _⟩ := h
    obtain ⟨_, _, _, _, _, _, _, h6', _⟩ := h'
    rw [Bool.eq_iff_iff, decide_eq_true_eq, beq_iff_eq, ByteArray.toList_eq, ByteArray.toList_eq]
    exact ⟨fun e => strOfNums_inj h6 h6' (by cases hx : strOfNums xs; cases hy : strOfNums ys; rw [hx, hy] at e; simpa using e), fun e => by rw [e]⟩
  clear h h'
  go_enter Try.func83, Try.ntmps83
  go_wp2_with fail
  go_ret
  exact ⟨rfl, rfl⟩

theorem hd_dec (a b : Int × Int × List Int) : decide (a = b) = (decide (a.1 = b.1) && (decide (a.2.1 = b.2.1) && decide (a.2.2 = b.2.2))) := by
  obtain ⟨a1, a2, a3⟩ := a
  obtain ⟨b1, b2, b3⟩ := b
  simp [Prod.mk.injEq, Bool.decide_and]

def SameTOk (n : Nat) : Prop := ∀ (m : Nat) (t : Tr n) (u : Tr m) (sb sk sb' sk' : Value) (deep : Int) (w : World), Rep 0 w.heap.size w n t sb sk → Rep 0 w.heap.size w m u sb' sk' → (n : Int) ≤ deep → deep ≤ 131072 →
  Calls Try.prog 74 #[.agg #[.int .i64 t.hd.1, .int .u64 t.hd.2.1, sb, sk], .agg #[.int .i64 u.hd.1, .int .u64 u.hd.2.1, sb', sk'], .int .i64 deep] w fun e w' => e = .returned (.bool (sameT n t m u)) ∧ Below w.heap.size w w'

set_option maxHeartbeats 2000000 in
set_option maxRecDepth 100000 in
theorem same_any : ∀ n, SameTOk n
  | 0 => fun _ t => by cases t
  | n + 1 => by
    intro m t u sb sk sb' sk' deep w h h' hd0 hd1
    cases m with
    | zero => cases u
    | succ m =>
    have ih := same_any n
    obtain ⟨hn0, hn1, hby, hks⟩ := h
    obtain ⟨hn0', hn1', hby', hks'⟩ := h'
    have HB := hid hby
    have HK := hid hks
    have HB' := hid hby'
    have HK' := hid hks'
    obtain ⟨ab, cb, rfl, hrb⟩ := hby
    obtain ⟨ak, ck, rfl, hrk⟩ := hks
    obtain ⟨ab', cb', rfl, hrb'⟩ := hby'
    obtain ⟨ak', ck', rfl, hrk'⟩ := hks'
    clear hrb hrk hrb' hrk'
    have hkl : t.kd.length ≤ 2199023255552 := by obtain ⟨_, _, _, _, _, _, h, _⟩ := HK.out; exact h
    obtain ⟨R, hR⟩ : ∃ R, sameT (n + 1) t (m + 1) u = R := ⟨_, rfl⟩
    rw [hR]
    have HR : Hid (((decide (t.hd.1 = u.hd.1) && (decide (t.hd.2.1 = u.hd.2.1) && decide (t.hd.2.2 = u.hd.2.2))) && sameL (fun a b => sameT n a m b) t.kd u.kd) = R) := by rw [← hd_dec]; exact hR
    clear hR
    have hdz : (deep == 0) = false := by simp; omega
    generalize t.kd = ks at *
    generalize t.hd.2.2 = bs at *
    generalize t.hd.2.1 = num at *
    generalize t.hd.1 = tag at *
    generalize u.kd = ks' at *
    generalize u.hd.2.2 = bs' at *
    generalize u.hd.2.1 = num' at *
    generalize u.hd.1 = tag' at *
    by_cases ht : tag = tag'
    case neg =>
      have htb : (tag != tag') = true := by simpa using ht
      have Hr : Hid (R = false) := by rw [Hid, ← HR.out]; simp [ht]
      clear ht
      go_enter Try.func74, Try.ntmps74
      go_wp2_with fail
      go_ret
      exact ⟨by rw [Hr.out]; rfl, ((Below.refl _ _).alloc (Nat.le_refl _) _).alloc (by simp) _⟩
    case pos =>
    subst ht
    by_cases hu : num = num'
    case neg =>
      have hub : (num != num') = true := by simpa using hu
      have Hr : Hid (R = false) := by rw [Hid, ← HR.out]; simp [hu]
      clear hu
      go_enter Try.func74, Try.ntmps74
      go_wp2_with fail
      go_ret
      exact ⟨by rw [Hr.out]; rfl, ((Below.refl _ _).alloc (Nat.le_refl _) _).alloc (by simp) _⟩
    case pos =>
    subst hu
    have hA : Agree 0 w.heap.size w ((w.alloc (Obj.cells #[Value.int .i64 tag, Value.int .u64 num, Value.slice ab bs.length cb, Value.slice ak ks.length ck] 95)).alloc (Obj.cells #[Value.int .i64 tag, Value.int .u64 num, Value.slice ab' bs'.length cb', Value.slice ak' ks'.length ck'] 95)) := ((Agree.refl _ _ _).alloc (Nat.le_refl _) _).alloc (by simp) _
    have q1 := hid (HB.out.agree hA (Nat.le_refl _) (B' := w.heap.size + 1 + 1) (by omega))
    have q2 := hid (HB'.out.agree hA (Nat.le_refl _) (B' := w.heap.size + 1 + 1) (by omega))
    clear hA
    go_enter Try.func74, Try.ntmps74
    go_wp2_with fail
    refine (equal_any _ _ bs bs' _ (by simpa using q1.out) (by simpa using q2.out)).mono ?_
    rintro e w1 ⟨rfl, hw1⟩
    have x3 : w1.cell? ⟨w.heap.size, 3, none⟩ = some (.slice ak ks.length ck) := by rw [hw1]; simp [go_sem]
    have y3 : w1.cell? ⟨w.heap.size + 1, 3, none⟩ = some (.slice ak' ks'.length ck') := by rw [hw1]; simp [go_sem]
    have hz1 : w1.heap.size = w.heap.size + 2 := by rw [hw1]; simp
    have Hbel : Hid (Below w.heap.size w w1) := by rw [hw1]; exact ((Below.refl _ _).alloc (Nat.le_refl _) _).alloc (by simp) _
    clear hw1 q1 q2
    by_cases hbs : bs = bs'
    case neg =>
      rw [decide_eq_false hbs]
      have Hr : Hid (R = false) := by rw [Hid, ← HR.out]; simp [hbs]
      clear hbs
      go_wp2_with fail
      go_ret
      exact ⟨by rw [Hr.out]; rfl, Hbel.out⟩
    case pos =>
    rw [decide_eq_true hbs]
    have HR2 : Hid (sameL (fun a b => sameT n a m b) ks ks' = R) := by rw [Hid, ← HR.out]; simp [hbs]
    clear hbs HR
    by_cases hl : ks.length = ks'.length
    case neg =>
      have hlb : ((ks.length : Int) != (ks'.length : Int)) = true := by simp; omega
      have Hr : Hid (R = false) := by
        rw [Hid, ← HR2.out]
        cases e : sameL (fun a b => sameT n a m b) ks ks' with
        | false => rfl
        | true => exact absurd (sameL_len e) hl
      clear hl
      go_wp2_with fail
      go_ret
      exact ⟨by rw [Hr.out]; rfl, Hbel.out⟩
    case pos =>
    obtain ⟨L, hL⟩ : ∃ L, ks.length = L := ⟨_, rfl⟩
    have HLk := hid hL
    have HLk' : Hid (ks'.length = L) := by rw [Hid, ← hl]; exact hL
    rw [← hl, hL] at y3 ⊢
    rw [hL] at x3 hkl
    clear hl hL
    go_wp2_with fail
    go_loopw [45] (fun i wr => ∃ k : Nat, k ≤ L ∧ i = .int .i64 k ∧ Hid (Below w1.heap.size w1 wr) ∧ Hid (sameL (fun a b => sameT n a m b) (ks.drop k) (ks'.drop k) = R)) (fun i _ => L - (intOf i).toNat)
    case atStart => exact ⟨0, Nat.zero_le _, rfl, Below.refl _ _, HR2⟩
    case round =>
      obtain ⟨k, hk, rfl, HI, HS⟩ := hrel
      have hws := HI.out.size
      have Y3 : wr.cell? ⟨w.heap.size + 1, 3, none⟩ = some (.slice ak' L ck') := (HI.out.cell (p := ⟨w.heap.size + 1, 3, none⟩) (by simp; omega)).trans y3
      by_cases hltL : k < L
      · have hlt : k < ks.length := by rw [HLk.out]; exact hltL
        have hlt' : k < ks'.length := by rw [HLk'.out]; exact hltL
        obtain ⟨_, _, ea, _, _, _, _, h7⟩ := HK.out
        simp only [Value.slice.injEq, true_and] at ea
        obtain ⟨rfl, rfl⟩ := ea
        obtain ⟨b, o, rfl, _, hbw, hc⟩ := h7 (by intro e; subst e; simp at hlt)
        obtain ⟨_, _, ea, _, _, _, _, h7'⟩ := HK'.out
        simp only [Value.slice.injEq] at ea
        obtain ⟨rfl, _, rfl⟩ := ea
        obtain ⟨b', o', rfl, _, hbw', hc'⟩ := h7' (by intro e; subst e; simp at hlt')
        obtain ⟨sb, sk, c0, c1, c2, c3, hrep⟩ := hc k ks[k] (List.getElem?_eq_getElem hlt)
        obtain ⟨sb', sk', c0', c1', c2', c3', hrep'⟩ := hc' k ks'[k] (List.getElem?_eq_getElem hlt')
        clear hc hc' h7 h7'
        obtain ⟨a1, l1, p1, a2, l2, p2, rfl, rfl⟩ := hrep.sl
        obtain ⟨a3, l3, p3, a4, l4, p4, rfl, rfl⟩ := hrep'.sl
        have hbel : Hid (Below w.heap.size w wr) := Hbel.out.trans (HI.out.mono (by omega))
        have hR := hid hrep
        have hR' := hid hrep'
        clear hrep hrep'
        have d0 := (hbel.out.cell (p := ⟨b, o + k * 4, none⟩) hbw).trans c0
        have d1 := (hbel.out.cell (p := ⟨b, o + k * 4 + 1, none⟩) hbw).trans c1
        have d2 := (hbel.out.cell (p := ⟨b, o + k * 4 + 2, none⟩) hbw).trans c2
        have d3 := (hbel.out.cell (p := ⟨b, o + k * 4 + 3, none⟩) hbw).trans c3
        have d0' := (hbel.out.cell (p := ⟨b', o' + k * 4, none⟩) hbw').trans c0'
        have d1' := (hbel.out.cell (p := ⟨b', o' + k * 4 + 1, none⟩) hbw').trans c1'
        have d2' := (hbel.out.cell (p := ⟨b', o' + k * 4 + 2, none⟩) hbw').trans c2'
        have d3' := (hbel.out.cell (p := ⟨b', o' + k * 4 + 3, none⟩) hbw').trans c3'
        clear c0 c1 c2 c3 c0' c1' c2' c3'
        have HD : Hid ((sameT n ks[k] m ks'[k] && sameL (fun a b => sameT n a m b) (ks.drop (k + 1)) (ks'.drop (k + 1))) = R) := by
          rw [Hid, ← HS.out, List.drop_eq_getElem_cons hlt, List.drop_eq_getElem_cons hlt']
          rfl
        generalize ks[k] = t1 at *
        generalize ks'[k] = u1 at *
        have hcall : Hid (∀ W, Below w.heap.size w W → Calls Try.prog 74 #[.agg #[.int .i64 t1.hd.1, .int .u64 t1.hd.2.1, .slice a1 l1 p1, .slice a2 l2 p2], .agg #[.int .i64 u1.hd.1, .int .u64 u1.hd.2.1, .slice a3 l3 p3, .slice a4 l4 p4], .int .i64 (deep - 1)] W fun e w' => e = .returned (.bool (sameT n t1 m u1)) ∧ Below W.heap.size W w') :=
          fun W hW => ih m t1 u1 _ _ _ _ (deep - 1) W (hR.out.agree (Agree.below hW) (Nat.le_refl _) hW.size) (hR'.out.agree (Agree.below hW) (Nat.le_refl _) hW.size) (by omega) (by omega)
        have hwd : IntKind.i64.wrap (deep - 1) = deep - 1 := by rw [IntKind.wrap_i64]; omega
        have hkI0 : (0 : Int) ≤ (k : Int) := by omega
        have hkI1 : (k : Int) < (L : Int) := by omega
        clear hlt hlt'
        have hbwr : b < wr.heap.size := by omega
        have hbx2 : w.heap.size + 1 < wr.heap.size := by omega
        have hbwr' : b' < wr.heap.size := by omega
        generalize sameT n t1 m u1 = q at hcall HD
        cases q with
        | true =>
          go_wp2_with fail
          obtain ⟨W, hW⟩ : ∃ W, wr.alloc (Obj.cells #[Value.int .i64 t1.hd.1, Value.int .u64 t1.hd.2.1, Value.slice a1 l1 p1, Value.slice a2 l2 p2] 95) = W := ⟨_, rfl⟩
          have v0 : W.cell? ⟨wr.heap.size, 0, none⟩ = some (.int .i64 t1.hd.1) := by rw [← hW]; simp [go_sem]
          have v1 : W.cell? ⟨wr.heap.size, 1, none⟩ = some (.int .u64 t1.hd.2.1) := by rw [← hW]; simp [go_sem]
          have v2 : W.cell? ⟨wr.heap.size, 2, none⟩ = some (.slice a1 l1 p1) := by rw [← hW]; simp [go_sem]
          have v3 : W.cell? ⟨wr.heap.size, 3, none⟩ = some (.slice a2 l2 p2) := by rw [← hW]; simp [go_sem]
          have x3' : W.cell? ⟨w.heap.size + 1, 3, none⟩ = some (.slice (some ⟨b', o', none⟩) L ck') := by rw [← hW, World.cell?_alloc_past _ _ _ hbx2]; exact Y3
          have e0' : W.cell? ⟨b', o' + k * 4, none⟩ = some (.int .i64 u1.hd.1) := by rw [← hW, World.cell?_alloc_past _ _ _ hbwr']; exact d0'
          have e1' : W.cell? ⟨b', o' + k * 4 + 1, none⟩ = some (.int .u64 u1.hd.2.1) := by rw [← hW, World.cell?_alloc_past _ _ _ hbwr']; exact d1'
          have e2' : W.cell? ⟨b', o' + k * 4 + 2, none⟩ = some (.slice a3 l3 p3) := by rw [← hW, World.cell?_alloc_past _ _ _ hbwr']; exact d2'
          have e3' : W.cell? ⟨b', o' + k * 4 + 3, none⟩ = some (.slice a4 l4 p4) := by rw [← hW, World.cell?_alloc_past _ _ _ hbwr']; exact d3'
          have hBW : Hid (Below w.heap.size w W) := by rw [← hW]; exact hbel.out.alloc hbel.out.size _
          have hIW : Hid (Below w1.heap.size w1 W) := by rw [← hW]; exact HI.out.alloc hws _
          rw [hW]
          clear hW d0 d1 d2 d3 d0' d1' d2' d3' Y3
          have hc9 := hid (hcall.out W.drew hBW.out.drew)
          go_region_with ((go_at_call 74; refine hc9.out.mono ?_; rintro e w2 ⟨rfl, hb2⟩; have HB2 := hid hb2; clear hb2))
          all_goals go_wp2_with fail
          all_goals
            go_roundw
            case rel => exact ⟨k + 1, by omega, by go_num, (hIW.out.drew).trans (HB2.out.mono hIW.out.size), by simpa [Hid] using HD.out⟩
            case measure => simp [intOf]; omega
        | false =>
          go_wp2_with fail
          obtain ⟨W, hW⟩ : ∃ W, wr.alloc (Obj.cells #[Value.int .i64 t1.hd.1, Value.int .u64 t1.hd.2.1, Value.slice a1 l1 p1, Value.slice a2 l2 p2] 95) = W := ⟨_, rfl⟩
          have v0 : W.cell? ⟨wr.heap.size, 0, none⟩ = some (.int .i64 t1.hd.1) := by rw [← hW]; simp [go_sem]
          have v1 : W.cell? ⟨wr.heap.size, 1, none⟩ = some (.int .u64 t1.hd.2.1) := by rw [← hW]; simp [go_sem]
          have v2 : W.cell? ⟨wr.heap.size, 2, none⟩ = some (.slice a1 l1 p1) := by rw [← hW]; simp [go_sem]
          have v3 : W.cell? ⟨wr.heap.size, 3, none⟩ = some (.slice a2 l2 p2) := by rw [← hW]; simp [go_sem]
          have x3' : W.cell? ⟨w.heap.size + 1, 3, none⟩ = some (.slice (some ⟨b', o', none⟩) L ck') := by rw [← hW, World.cell?_alloc_past _ _ _ hbx2]; exact Y3
          have e0' : W.cell? ⟨b', o' + k * 4, none⟩ = some (.int .i64 u1.hd.1) := by rw [← hW, World.cell?_alloc_past _ _ _ hbwr']; exact d0'
          have e1' : W.cell? ⟨b', o' + k * 4 + 1, none⟩ = some (.int .u64 u1.hd.2.1) := by rw [← hW, World.cell?_alloc_past _ _ _ hbwr']; exact d1'
          have e2' : W.cell? ⟨b', o' + k * 4 + 2, none⟩ = some (.slice a3 l3 p3) := by rw [← hW, World.cell?_alloc_past _ _ _ hbwr']; exact d2'
          have e3' : W.cell? ⟨b', o' + k * 4 + 3, none⟩ = some (.slice a4 l4 p4) := by rw [← hW, World.cell?_alloc_past _ _ _ hbwr']; exact d3'
          have hBW : Hid (Below w.heap.size w W) := by rw [← hW]; exact hbel.out.alloc hbel.out.size _
          have hIW : Hid (Below w1.heap.size w1 W) := by rw [← hW]; exact HI.out.alloc hws _
          rw [hW]
          clear hW d0 d1 d2 d3 d0' d1' d2' d3' Y3
          have hc9 := hid (hcall.out W.drew hBW.out.drew)
          go_region_with ((go_at_call 74; refine hc9.out.mono ?_; rintro e w2 ⟨rfl, hb2⟩; have HB2 := hid hb2; clear hb2))
          all_goals go_wp2_with fail
          all_goals go_ret
          all_goals exact ⟨by rw [← HD.out]; rfl, (hBW.out.drew).trans (HB2.out.mono hBW.out.size)⟩
      · go_wp2_with fail
        go_ret
        refine ⟨?_, Hbel.out.trans (HI.out.mono (by omega))⟩
        rw [← HS.out, List.drop_of_length_le (by rw [HLk.out]; omega), List.drop_of_length_le (by rw [HLk'.out]; omega)]
        rfl

set_option maxHeartbeats 400000 in
theorem Same_any {n m : Nat} (t : Tr n) (u : Tr m) (sb sk sb' sk' : Value) (w : World) (h : Rep 0 w.heap.size w n t sb sk) (h' : Rep 0 w.heap.size w m u sb' sk') (hn : n ≤ 131072) :
    Calls Try.prog 50 #[.agg #[.int .i64 t.hd.1, .int .u64 t.hd.2.1, sb, sk], .agg #[.int .i64 u.hd.1, .int .u64 u.hd.2.1, sb', sk']] w fun e w' => e = .returned (.bool (sameT n t m u)) ∧ Below w.heap.size w w' := by
  obtain ⟨a1, l1, p1, a2, l2, p2, rfl, rfl⟩ := h.sl
  obtain ⟨a3, l3, p3, a4, l4, p4, rfl, rfl⟩ := h'.sl
  have H := hid h
  have H' := hid h'
  clear h h'
  go_enter Try.func50, Try.ntmps50
  go_wp2_with fail
  have hA : ∀ o o', Below w.heap.size w ((w.alloc o).alloc o') := fun o o' => ((Below.refl _ _).alloc (Nat.le_refl _) o).alloc (by simp) o'
  refine (same_any n m t u _ _ _ _ 131072 _ (H.out.agree (Agree.below (hA _ _)) (Nat.le_refl _) (hA _ _).size) (H'.out.agree (Agree.below (hA _ _)) (Nat.le_refl _) (hA _ _).size) (by omega) (by omega)).mono ?_
  rintro e w1 ⟨rfl, hb1⟩
  have HB : Hid (Below w.heap.size w w1) := (hA _ _).trans (hb1.mono (hA _ _).size)
  clear hb1 hA
  go_wp2_with fail
  go_ret
  exact ⟨rfl, HB.out⟩

end Go.Proofs.Ytenfahecnkdhaaa.Tlv
end

section
/-
  GetFile, of the program.
-/
namespace Go.Proofs.Ytenfahecnkdhaaa.Nd
open Go.RowKit
open Tlv (Tr Agree)
open Sim (hid Kp No)
set_option linter.unusedSimpArgs false

theorem Rt_count {n : Nat} {t : Tr (n + 1)} {room : Int} (h : Tlv.Rt (n + 1) t room) : (t.kd.length : Int) ≤ room ∧ ∀ k ∈ t.kd, ∃ r, r ≤ room ∧ Tlv.Rt n k r := by
  have hf := h.facts
  by_cases h3 : t.hd.1 = 3
  · have h1 : t.kd.length ≤ (Tlv.bodyOf (n + 1) t).length := by
      rw [Tlv.bodyOf_kids h3]
      have go : ∀ ks : List (Tr n), ks.length ≤ ((ks.map (Tlv.formOf n)).flatten).length := by
        intro ks
        induction ks with
        | nil => simp
        | cons k ks ih =>
          simp only [List.map_cons, List.flatten_cons, List.length_append, List.length_cons]
          have : 1 ≤ (Tlv.formOf n k).length := by simp [Tlv.formOf]
          omega
      exact go _
    refine ⟨by omega, fun k hk => ?_⟩
    obtain ⟨r, h4, h5⟩ := hf.2.2.2 h3 k hk
    exact ⟨r, by omega, h5⟩
  · have h0 : t.kd.length = 0 := by
      obtain ⟨deep, h⟩ := h
      simp only [Tlv.bsz] at h
      split at h
      · simp at h
      · rename_i h1
        have h2 : Tlv.oeB t.hd.1 t.hd.2.1 t.hd.2.2.length t.kd.length = true := by
          cases hb : Tlv.oeB t.hd.1 t.hd.2.1 t.hd.2.2.length t.kd.length with
          | true => rfl
          | false => exact absurd (.inr hb) h1
        unfold Tlv.oeB at h2
        simp only [Bool.and_eq_true, Bool.or_eq_true, beq_iff_eq] at h2
        rcases h2.2 with h2 | h2
        · exact absurd h2 h3
        · omega
    have h1 : t.kd = [] := List.length_eq_zero_iff.1 h0
    refine ⟨by omega, fun k hk => ?_⟩
    rw [h1] at hk
    cases hk
theorem bodyT_count {bs : List Int} {t : Tr 9} (hb : ∀ x ∈ bs, 0 ≤ x ∧ x ≤ 255) (h : bodyT bs = some t) : t.kd.length ≤ 65535 ∧ ∀ k ∈ t.kd, k.kd.length ≤ 65535 := by
  unfold bodyT at h
  split at h
  · have h1 := (Tlv.get_form hb h).1
    have h2 := Rt_count (⟨8, Tlv.szT_right h1⟩ : Tlv.Rt 9 t 65535)
    refine ⟨by omega, fun k hk => ?_⟩
    obtain ⟨r, h3, h4⟩ := h2.2 k hk
    have := (Rt_count h4).1
    omega
  · cases h

/-- The file that a Body is. -/
def gfile (bs : List Int) : Option (Int × List (List Int)) := match bodyT bs with
  | none => none
  | some t => match t.kd with
    | [t0, t1] => if fileB (wrap64 t0.hd.2.1) (kidsH t1.kd).length && Tlv.sameT 9 t 3 (fileT (wrap64 t0.hd.2.1) (kidsH t1.kd)) then some (wrap64 t0.hd.2.1, kidsH t1.kd) else none
    | _ => none
def zFil : Value := .agg #[.int .i64 0, .slice none 0 0]
/-- What GetFile answers. -/
def GFA (u w : World) (K0 : Int) (bs : List Int) (e : Ending) : Prop :=
  (K0 ≠ 2 ∧ e = .returned (.tuple #[zFil, .int .i64 1])) ∨ (K0 = 2 ∧ gfile bs = none ∧ e = .returned (.tuple #[zFil, .int .i64 3])) ∨
  (∃ s d a l c, K0 = 2 ∧ gfile bs = some (s, d) ∧ e = .returned (.tuple #[.agg #[.int .i64 s, .slice a l c], .int .i64 0]) ∧ HV (fun g => g < w.heap.size ∧ u.heap.size ≤ g) w (.slice a l c) d)

set_option maxHeartbeats 8000000 in
set_option maxRecDepth 100000 in
theorem getFile_any (w : World) (K0 : Int) (v : Value) (bs : List Int) (hv : Tlv.BySl 0 w.heap.size w v bs) :
    Calls Try.prog 18 #[.agg #[.int .i64 K0, v]] w fun e w' => GFA w w' K0 bs e ∧ Below w.heap.size w w' := by
  obtain ⟨a, c, rfl, hxx⟩ := id hv
  clear hxx
  obtain ⟨n, hn⟩ : ∃ n, bs.length = n := ⟨_, rfl⟩
  rw [hn] at hv ⊢
  have HBS := hid (Tlv.BySl.bytes hv)
  obtain ⟨W0, hW0⟩ : ∃ W, (w.alloc (.cells #[.int .i64 K0, .slice a n c] 31)).alloc (.cells #[.int .i64 0, .slice none 0 0] 35) = W := ⟨_, rfl⟩
  have HB0 : Hid (Below w.heap.size w W0) := by rw [Hid, ← hW0]; exact ((Below.refl _ _).alloc (Nat.le_refl _) _).alloc (by simp) _
  have HZ0 : Hid (W0.heap.size = w.heap.size + 2) := by rw [Hid, ← hW0]; simp
  have HX0 : Hid (∀ V, Below W0.heap.size W0 V → V.cell? ⟨w.heap.size + 1, 0, none⟩ = some (.int .i64 0) ∧ V.cell? ⟨w.heap.size + 1, 1, none⟩ = some (.slice none 0 0) ∧ (∀ o, V.frozen? ⟨w.heap.size + 1, o, none⟩ = false) ∧ w.heap.size + 1 < V.heap.size) := fun V hV => by
    have hs := hV.size
    have hz := HZ0.out
    refine ⟨?_, ?_, fun o => ?_, by omega⟩
    · rw [hV.cell (p := ⟨w.heap.size + 1, 0, none⟩) (by show w.heap.size + 1 < _; omega), ← hW0]; simp [go_sem]
    · rw [hV.cell (p := ⟨w.heap.size + 1, 1, none⟩) (by show w.heap.size + 1 < _; omega), ← hW0]; simp [go_sem]
    · rw [hV.frozen (p := ⟨w.heap.size + 1, o, none⟩) (by show w.heap.size + 1 < _; omega), ← hW0]; simp [go_sem]
  have hbox : W0.cell? ⟨w.heap.size, 0, none⟩ = some (.int .i64 K0) ∧ W0.cell? ⟨w.heap.size, 1, none⟩ = some (.slice a n c) := by rw [← hW0]; simp [go_sem]
  have HBD := hid (body_any W0 K0 2 (.slice a n c) bs (hv.agree (Agree.below HB0.out) (Nat.le_refl _) HB0.out.size))
  clear hv hn
  go_enter Try.func18, Try.ntmps18
  obtain ⟨hx0, hx1⟩ := hbox
  go_wp2_with fail
  refine HBD.out.mono ?_
  rintro e w2 ⟨hres, hb2⟩
  have HB2 := hid hb2
  clear hx0 hx1 hW0 HBD hb2
  rcases hres with ⟨hk, rfl⟩ | ⟨hk, hno, rfl⟩ | ⟨t, a3, l3, p3, a4, l4, p4, hk, ht, rfl, hrep⟩
  · unfold zVal
    have HA : Hid (∀ w', GFA w w' K0 bs (.returned (.tuple #[zFil, .int .i64 1]))) := fun w' => .inl ⟨hk, rfl⟩
    obtain ⟨g0, g1, gf, hg2⟩ := HX0.out _ (HB2.out.alloc HB2.out.size (.cells #[.int .i64 0, .int .u64 0, .slice none 0 0, .slice none 0 0] 95))
    go_wp2_with fail
    obtain ⟨q0, q1⟩ := set2_read (u0 := .int .i64 0) (u1 := .slice none 0 0) g0 g1
    refine bodyPost_ret (v := .tuple #[zFil, .int .i64 1]) (by simp [results, Try.results18, go_sem, q0, q1, zFil]) rfl ⟨HA.out _, ?_⟩
    exact (((HB0.out.trans (HB2.out.mono HB0.out.size)).alloc (Nat.le_trans HB0.out.size HB2.out.size) _).setCell (by simp) _).setCell (by simp) _
  · unfold zVal
    have HA : Hid (∀ w', GFA w w' K0 bs (.returned (.tuple #[zFil, .int .i64 3]))) := fun w' => .inr (.inl ⟨hk, by rw [gfile, hno], rfl⟩)
    obtain ⟨g0, g1, gf, hg2⟩ := HX0.out _ (HB2.out.alloc HB2.out.size (.cells #[.int .i64 0, .int .u64 0, .slice none 0 0, .slice none 0 0] 95))
    go_wp2_with fail
    obtain ⟨q0, q1⟩ := set2_read (u0 := .int .i64 0) (u1 := .slice none 0 0) g0 g1
    refine bodyPost_ret (v := .tuple #[zFil, .int .i64 3]) (by simp [results, Try.results18, go_sem, q0, q1, zFil]) rfl ⟨HA.out _, ?_⟩
    exact (((HB0.out.trans (HB2.out.mono HB0.out.size)).alloc (Nat.le_trans HB0.out.size HB2.out.size) _).setCell (by simp) _).setCell (by simp) _
  · have HT := hid ht
    have HREP := hid hrep
    obtain ⟨tg, htg⟩ : ∃ x, t.hd.1 = x := ⟨_, rfl⟩
    obtain ⟨nm, hnm⟩ : ∃ x, t.hd.2.1 = x := ⟨_, rfl⟩
    obtain ⟨hxa, hxb, hxc, hks⟩ := hrep
    clear hxa hxb hxc
    have h4 : l4 = t.kd.length := by
      obtain ⟨_, _, e, _⟩ := hks
      simp only [Value.slice.injEq] at e
      exact e.2.1
    have HTG := hid htg
    have HNM := hid hnm
    rw [htg, hnm]
    clear htg hnm
    obtain ⟨W2, hW2⟩ : ∃ W, w2.alloc (.cells #[.int .i64 tg, .int .u64 nm, .slice a3 l3 p3, .slice a4 l4 p4] 95) = W := ⟨_, rfl⟩
    have HBW2 : Hid (Below W0.heap.size W0 W2) := by rw [Hid, ← hW2]; exact HB2.out.alloc HB2.out.size _
    have HZ2 : Hid (W2.heap.size = w2.heap.size + 1) := by rw [Hid, ← hW2]; simp
    have HV2 : Hid (W2.cell? ⟨w2.heap.size, 0, none⟩ = some (.int .i64 tg) ∧ W2.cell? ⟨w2.heap.size, 1, none⟩ = some (.int .u64 nm) ∧ W2.cell? ⟨w2.heap.size, 2, none⟩ = some (.slice a3 l3 p3) ∧ W2.cell? ⟨w2.heap.size, 3, none⟩ = some (.slice a4 l4 p4)) := by rw [Hid, ← hW2]; simp
    have HR2 : Hid (Tlv.Rep 0 W2.heap.size W2 9 t (.slice a3 l3 p3) (.slice a4 l4 p4)) := HREP.out.agree (by rw [← hW2]; exact (Agree.refl _ _ _).alloc (Nat.le_refl _) _) (Nat.zero_le _) (by rw [HZ2.out]; omega)
    by_cases h2 : l4 = 2
    · subst h2
      obtain ⟨t0, t1, hkd⟩ : ∃ t0 t1, t.kd = [t0, t1] := by
        match hk' : t.kd, h4 with
        | [t0, t1], _ => exact ⟨t0, t1, rfl⟩
      have HGF : Hid (gfile bs = if fileB (wrap64 t0.hd.2.1) (kidsH t1.kd).length && Tlv.sameT 9 t 3 (fileT (wrap64 t0.hd.2.1) (kidsH t1.kd)) then some (wrap64 t0.hd.2.1, kidsH t1.kd) else none) := by rw [Hid, gfile, HT.out]; simp only [hkd]
      have hcnt : t1.kd.length ≤ 65535 := (bodyT_count HBS.out HT.out).2 t1 (by rw [hkd]; simp)
      have hk2 : Tlv.KSl 0 W2.heap.size W2 (Tlv.Rep 0 W2.heap.size W2 8) (.slice a4 2 p4) [t0, t1] := by
        obtain ⟨_, _, _, h⟩ := HR2.out
        rw [hkd] at h
        exact h
      have HFL := hid (file_any W2 _ t0 t1 hk2 (by omega))
      have HLN : Hid ((kidsH t1.kd).length ≤ 65535) := by rw [Hid]; simp [kidsH, hcnt]
      obtain ⟨s, hs⟩ : ∃ s, wrap64 t0.hd.2.1 = s := ⟨_, rfl⟩
      obtain ⟨d, hd⟩ : ∃ d, kidsH t1.kd = d := ⟨_, rfl⟩
      rw [hs, hd] at HGF HFL
      rw [hd] at HLN
      obtain ⟨v0, hv0⟩ : ∃ x, W2.cell? ⟨w2.heap.size, 0, none⟩ = x := ⟨_, rfl⟩
      obtain ⟨f0, f1, f2, f3⟩ := HV2.out
      clear hks h4 hkd hk2 hs hd hv0 v0 hcnt
      go_wp2_with fail
      refine HFL.out.mono ?_
      rintro e w3 ⟨ax, lx, cx, rfl, hhv, hb3⟩
      have HHV := hid hhv
      have HB3 := hid hb3
      have HOD := hid hhv.ok
      have hlx : lx = d.length := by
        obtain ⟨_, _, e, _⟩ := hhv
        simp only [Value.slice.injEq] at e
        exact e.2.1
      have HLX := hid hlx
      clear f0 f1 f2 f3 hhv hb3 hlx HFL hW2
      obtain ⟨W3, hW3⟩ : ∃ W, w3.alloc (.cells #[.int .i64 s, .slice ax lx cx] 35) = W := ⟨_, rfl⟩
      have HZ3 : Hid (W3.heap.size = w3.heap.size + 1) := by rw [Hid, ← hW3]; simp
      have HX3 : Hid (W3.cell? ⟨w3.heap.size, 0, none⟩ = some (.int .i64 s) ∧ W3.cell? ⟨w3.heap.size, 1, none⟩ = some (.slice ax lx cx)) := by rw [Hid, ← hW3]; simp
      have HK3 : Hid (Below W2.heap.size W2 W3) := by rw [Hid, ← hW3]; exact HB3.out.alloc HB3.out.size _
      have HH3 : Hid (HV (fun g => g < W3.heap.size ∧ W2.heap.size ≤ g) W3 (.slice ax lx cx) d) := (HHV.out.kept (Kp.below (by rw [← hW3]; exact (Below.refl _ _).alloc (Nat.le_refl _) _))).lt
      have HS3 : Hid (∀ V, Kp No W3 V → V.cell? ⟨w3.heap.size, 0, none⟩ = some (.int .i64 s) ∧ V.cell? ⟨w3.heap.size, 1, none⟩ = some (.slice ax lx cx)) := fun V hV => by
        have hz := HZ3.out
        exact ⟨(hV.cell (p := ⟨w3.heap.size, 0, none⟩) (by show w3.heap.size < _; omega) (fun x => x)).trans HX3.out.1, (hV.cell (p := ⟨w3.heap.size, 1, none⟩) (by show w3.heap.size < _; omega) (fun x => x)).trans HX3.out.2⟩
      have HS2 : Hid (∀ V, Kp No W3 V → V.cell? ⟨w2.heap.size, 0, none⟩ = some (.int .i64 tg) ∧ V.cell? ⟨w2.heap.size, 1, none⟩ = some (.int .u64 nm) ∧ V.cell? ⟨w2.heap.size, 2, none⟩ = some (.slice a3 l3 p3) ∧ V.cell? ⟨w2.heap.size, 3, none⟩ = some (.slice a4 2 p4)) := fun V hV => by
        have hz := HZ2.out
        have hs := HK3.out.size
        obtain ⟨f0, f1, f2, f3⟩ := HV2.out
        have e : ∀ o, V.cell? ⟨w2.heap.size, o, none⟩ = W2.cell? ⟨w2.heap.size, o, none⟩ := fun o => (hV.cell (p := ⟨w2.heap.size, o, none⟩) (by show w2.heap.size < _; omega) (fun x => x)).trans (HK3.out.cell (p := ⟨w2.heap.size, o, none⟩) (by show w2.heap.size < _; omega))
        exact ⟨(e _).trans f0, (e _).trans f1, (e _).trans f2, (e _).trans f3⟩
      have HTAIL : Hid (∀ V, Kp No W3 V → V.cell? ⟨w.heap.size + 1, 0, none⟩ = some (.int .i64 0) ∧ V.cell? ⟨w.heap.size + 1, 1, none⟩ = some (.slice none 0 0) ∧ (∀ o, V.frozen? ⟨w.heap.size + 1, o, none⟩ = false) ∧ w.heap.size + 1 < V.heap.size) := fun V hV =>
        HX0.out V ((HBW2.out.trans (HK3.out.mono HBW2.out.size)).trans (hV.toBelow'.mono (Nat.le_trans HBW2.out.size HK3.out.size)))
      have HBW : Hid (∀ V, Kp No W3 V → Below w.heap.size w V) := fun V hV =>
        ((HB0.out.trans (HBW2.out.mono HB0.out.size)).trans (HK3.out.mono (Nat.le_trans HB0.out.size HBW2.out.size))).trans (hV.toBelow'.mono (Nat.le_trans HB0.out.size (Nat.le_trans HBW2.out.size HK3.out.size)))
      have HRT := hid (fun (V : World) => fright_any V s ax lx cx (by rw [HLX.out]; have := HLN.out; omega))
      have qx0 := HX3.out.1
      have qx1 := HX3.out.2
      cases hfb : fileB s lx with
      | false =>
        rw [hfb] at HRT
        have HG : Hid (gfile bs = none) := by rw [Hid, HGF.out, ← HLX.out, hfb]; simp
        have HA : Hid (∀ w', GFA w w' K0 bs (.returned (.tuple #[zFil, .int .i64 3]))) := fun w' => .inr (.inl ⟨hk, HG.out, rfl⟩)
        clear hfb HG HGF
        go_wp2_with fail
        refine wp_region_held_drew (S := fun V => Kp No W3 V) (by kernel_rfl) ((Kp.refl _ _).drew) (fun hHeld => ?_)
        refine wpAnyH_take (i := 0) (oi := { dst := some 24, op := Op.load 35 (Operand.tmp 6), type := 35, pos := "file.go:38", after := #[], guard := none }) (v := .agg #[.int .i64 s, .slice ax lx cx]) rfl (by kernel_rfl) (by kernel_rfl) (by kernel_rfl) (fun _ _ _ h => h) (Or.inl ⟨by rfl, fun w' hw' => by (obtain ⟨q0, q1⟩ := HS3.out _ hw'; clear hw'; go_simp)⟩) hHeld ?_
        simp only [Act.put, List.setIfInBounds_toArray, List.set_cons_zero, List.set_cons_succ]
        refine wpAnyH_ready (rs := [1]) (by kernel_rfl) (by simp) ?_
        refine (AllReadyH.cons (o := { dst := some 25, op := Op.call { callee := Callee.value (Operand.func 37), args := #[Operand.tmp 24], argTypes := #[35] }, type := 4, pos := "file.go:38", after := #[{ on := 0, ground := Ground.data }], guard := none }) rfl (fun K hK => ?_) AllReadyH.nil)
        go_simp
        refine (HRT.out _).mono ?_
        rintro e' w4 ⟨rfl, hb4⟩
        have HK4 : Hid (Kp No W3 w4) := ((Kp.refl No W3).drew).andNone (Kp.below hb4)
        clear hb4
        go_wp2_with fail
        refine hK.out _ _ (HK4.out) (fun hh => ?_)
        clear hK K hHeld
        have hHeld := hh
        clear hh
        try simp only [Act.put, List.setIfInBounds_toArray, List.set_cons_zero, List.set_cons_succ]
        refine wpAnyH_take (i := 2) (oi := { dst := some 26, op := Op.unOp UnOp.not 4 (Operand.tmp 25), type := 4, pos := "file.go:38", after := #[{ on := 1, ground := Ground.data }], guard := none }) (v := .bool true) rfl (by kernel_rfl) (by kernel_rfl) (by kernel_rfl) (fun _ _ _ h => h) (Or.inl ⟨by rfl, fun w' hw' => by (clear hw'; go_simp)⟩) hHeld ?_
        simp only [Act.put, List.setIfInBounds_toArray, List.set_cons_zero, List.set_cons_succ]
        refine wpAnyH_take (i := 3) (oi := { dst := some 27, op := Op.move (Operand.tmp 26), type := 4, pos := "file.go:38", after := #[{ on := 2, ground := Ground.data }, { on := 1, ground := Ground.chain }], guard := none }) (v := .bool true) rfl (by kernel_rfl) (by kernel_rfl) (by kernel_rfl) (fun _ _ _ h => h) (Or.inl ⟨by rfl, fun w' hw' => by (clear hw'; go_simp)⟩) hHeld ?_
        simp only [Act.put, List.setIfInBounds_toArray, List.set_cons_zero, List.set_cons_succ]
        refine wpAnyH_take (i := 4) (oi := { dst := some 28, op := Op.load 95 (Operand.tmp 4), type := 95, pos := "file.go:38", after := #[{ on := 3, ground := Ground.guard }], guard := some (3, false) }) (v := undef) rfl (by kernel_rfl) (by kernel_rfl) (by kernel_rfl) (fun _ _ _ h => h) (Or.inr ⟨by rfl, rfl⟩) hHeld ?_
        simp only [Act.put, List.setIfInBounds_toArray, List.set_cons_zero, List.set_cons_succ]
        refine wpAnyH_take (i := 5) (oi := { dst := some 29, op := Op.load 35 (Operand.tmp 6), type := 35, pos := "file.go:38", after := #[{ on := 3, ground := Ground.guard }], guard := some (3, false) }) (v := undef) rfl (by kernel_rfl) (by kernel_rfl) (by kernel_rfl) (fun _ _ _ h => h) (Or.inr ⟨by rfl, rfl⟩) hHeld ?_
        simp only [Act.put, List.setIfInBounds_toArray, List.set_cons_zero, List.set_cons_succ]
        refine wpAnyH_take (i := 6) (oi := { dst := some 30, op := Op.call { callee := Callee.value (Operand.func 39), args := #[Operand.tmp 29], argTypes := #[35] }, type := 95, pos := "file.go:38", after := #[{ on := 5, ground := Ground.data }, { on := 3, ground := Ground.chain }, { on := 3, ground := Ground.guard }], guard := some (3, false) }) (v := undef) rfl (by kernel_rfl) (by kernel_rfl) (by kernel_rfl) (fun _ _ _ h => h) (Or.inr ⟨by rfl, rfl⟩) hHeld ?_
        simp only [Act.put, List.setIfInBounds_toArray, List.set_cons_zero, List.set_cons_succ]
        refine wpAnyH_take (i := 7) (oi := { dst := some 31, op := Op.call { callee := Callee.value (Operand.func 50), args := #[Operand.tmp 28, Operand.tmp 30], argTypes := #[95, 95] }, type := 4, pos := "file.go:38", after := #[{ on := 4, ground := Ground.data }, { on := 6, ground := Ground.data }, { on := 6, ground := Ground.chain }, { on := 3, ground := Ground.guard }], guard := some (3, false) }) (v := undef) rfl (by kernel_rfl) (by kernel_rfl) (by kernel_rfl) (fun _ _ _ h => h) (Or.inr ⟨by rfl, rfl⟩) hHeld ?_
        simp only [Act.put, List.setIfInBounds_toArray, List.set_cons_zero, List.set_cons_succ]
        refine wpAnyH_take (i := 8) (oi := { dst := some 32, op := Op.unOp UnOp.not 4 (Operand.tmp 31), type := 4, pos := "file.go:38", after := #[{ on := 7, ground := Ground.data }, { on := 3, ground := Ground.guard }], guard := some (3, false) }) (v := undef) rfl (by kernel_rfl) (by kernel_rfl) (by kernel_rfl) (fun _ _ _ h => h) (Or.inr ⟨by rfl, rfl⟩) hHeld ?_
        simp only [Act.put, List.setIfInBounds_toArray, List.set_cons_zero, List.set_cons_succ]
        refine wpAnyH_take (i := 9) (oi := { dst := some 33, op := Op.pick (Operand.tmp 27) (Operand.const (Value.bool true)) (Operand.tmp 32), type := 4, pos := "file.go:38", after := #[{ on := 3, ground := Ground.data }, { on := 8, ground := Ground.data }], guard := none }) (v := .bool true) rfl (by kernel_rfl) (by kernel_rfl) (by kernel_rfl) (fun _ _ _ h => h) (Or.inl ⟨by rfl, fun w' hw' => by (clear hw'; go_simp)⟩) hHeld ?_
        simp only [Act.put, List.setIfInBounds_toArray, List.set_cons_zero, List.set_cons_succ]
        refine wpAnyH_done (by kernel_rfl) ?_ _
        clear hHeld
        obtain ⟨g0, g1, gf, hg2⟩ := HTAIL.out _ HK4.out
        go_wp2_with fail
        obtain ⟨q0, q1⟩ := set2_read (u0 := .int .i64 0) (u1 := .slice none 0 0) g0 g1
        refine bodyPost_ret (v := .tuple #[zFil, .int .i64 3]) (by simp [results, Try.results18, go_sem, q0, q1, zFil]) rfl ⟨HA.out _, ?_⟩
        exact ((HBW.out _ HK4.out).setCell (by simp) _).setCell (by simp) _
      | true =>
        rw [hfb] at HRT
        have h0s : 0 ≤ s ∧ s ≤ 2000 := by
          unfold fileB at hfb
          simp only [decide_eq_true_eq] at hfb
          exact ⟨hfb.1, hfb.2.1⟩
        have HVAL := hid (fun (V : World) (hV : Kp No W3 V) => fvalue_any V s _ d _ (HH3.out.kept hV) (fun g hg => Nat.lt_of_lt_of_le hg.1 hV.size) (by omega) (by have := HLN.out; omega))
        have HSM := hid (fun (V : World) (sb sk : Value) (h : Tlv.Rep 0 V.heap.size V 9 t (.slice a3 l3 p3) (.slice a4 2 p4)) (h' : Tlv.Rep 0 V.heap.size V 3 (fileT s d) sb sk) => Tlv.Same_any t (fileT s d) _ _ sb sk V h h' (by omega))
        rw [HTG.out, HNM.out, show (fileT s d).hd.1 = 3 from rfl, show (fileT s d).hd.2.1 = 0 from rfl] at HSM
        have HRV : Hid (∀ V, Kp No W3 V → Tlv.Rep 0 V.heap.size V 9 t (.slice a3 l3 p3) (.slice a4 2 p4)) := fun V hV =>
          HR2.out.agree (Agree.below (HK3.out.trans (hV.toBelow'.mono HK3.out.size))) (Nat.le_refl _) (Nat.le_trans HK3.out.size hV.size)
        have HFB : Hid (fileB s d.length = true) := by rw [Hid, ← HLX.out]; exact hfb
        clear hfb h0s
        go_wp2_with fail
        obtain ⟨r, hr⟩ : ∃ r, Tlv.sameT 9 t 3 (fileT s d) = r := ⟨_, rfl⟩
        have HR := hid hr
        rw [hr] at HSM
        clear hr
        refine wp_region_held_drew (S := fun V => Kp No W3 V) (by kernel_rfl) ((Kp.refl _ _).drew) (fun hHeld => ?_)
        refine wpAnyH_take (i := 0) (oi := { dst := some 24, op := Op.load 35 (Operand.tmp 6), type := 35, pos := "file.go:38", after := #[], guard := none }) (v := .agg #[.int .i64 s, .slice ax lx cx]) rfl (by kernel_rfl) (by kernel_rfl) (by kernel_rfl) (fun _ _ _ h => h) (Or.inl ⟨by rfl, fun w' hw' => by (obtain ⟨q0, q1⟩ := HS3.out _ hw'; clear hw'; go_simp)⟩) hHeld ?_
        simp only [Act.put, List.setIfInBounds_toArray, List.set_cons_zero, List.set_cons_succ]
        refine wpAnyH_ready (rs := [1]) (by kernel_rfl) (by simp) ?_
        refine (AllReadyH.cons (o := { dst := some 25, op := Op.call { callee := Callee.value (Operand.func 37), args := #[Operand.tmp 24], argTypes := #[35] }, type := 4, pos := "file.go:38", after := #[{ on := 0, ground := Ground.data }], guard := none }) rfl (fun K hK => ?_) AllReadyH.nil)
        go_simp
        refine (HRT.out _).mono ?_
        rintro e' w4 ⟨rfl, hb4⟩
        have HK4 : Hid (Kp No W3 w4) := ((Kp.refl No W3).drew).andNone (Kp.below hb4)
        clear hb4
        go_wp2_with fail
        refine hK.out _ _ (HK4.out) (fun hh => ?_)
        clear hK K hHeld
        have hHeld := hh
        clear hh
        try simp only [Act.put, List.setIfInBounds_toArray, List.set_cons_zero, List.set_cons_succ]
        refine wpAnyH_take (i := 2) (oi := { dst := some 26, op := Op.unOp UnOp.not 4 (Operand.tmp 25), type := 4, pos := "file.go:38", after := #[{ on := 1, ground := Ground.data }], guard := none }) (v := .bool false) rfl (by kernel_rfl) (by kernel_rfl) (by kernel_rfl) (fun _ _ _ h => h) (Or.inl ⟨by rfl, fun w' hw' => by (clear hw'; go_simp)⟩) hHeld ?_
        simp only [Act.put, List.setIfInBounds_toArray, List.set_cons_zero, List.set_cons_succ]
        refine wpAnyH_take (i := 3) (oi := { dst := some 27, op := Op.move (Operand.tmp 26), type := 4, pos := "file.go:38", after := #[{ on := 2, ground := Ground.data }, { on := 1, ground := Ground.chain }], guard := none }) (v := .bool false) rfl (by kernel_rfl) (by kernel_rfl) (by kernel_rfl) (fun _ _ _ h => h) (Or.inl ⟨by rfl, fun w' hw' => by (clear hw'; go_simp)⟩) hHeld ?_
        simp only [Act.put, List.setIfInBounds_toArray, List.set_cons_zero, List.set_cons_succ]
        refine wpAnyH_take (i := 4) (oi := { dst := some 28, op := Op.load 95 (Operand.tmp 4), type := 95, pos := "file.go:38", after := #[{ on := 3, ground := Ground.guard }], guard := some (3, false) }) (v := .agg #[.int .i64 tg, .int .u64 nm, .slice a3 l3 p3, .slice a4 2 p4]) rfl (by kernel_rfl) (by kernel_rfl) (by kernel_rfl) (fun _ _ _ h => h) (Or.inl ⟨by rfl, fun w' hw' => by (obtain ⟨q0, q1, q2, q3⟩ := HS2.out _ hw'; clear hw'; go_simp)⟩) hHeld ?_
        simp only [Act.put, List.setIfInBounds_toArray, List.set_cons_zero, List.set_cons_succ]
        refine wpAnyH_take (i := 5) (oi := { dst := some 29, op := Op.load 35 (Operand.tmp 6), type := 35, pos := "file.go:38", after := #[{ on := 3, ground := Ground.guard }], guard := some (3, false) }) (v := .agg #[.int .i64 s, .slice ax lx cx]) rfl (by kernel_rfl) (by kernel_rfl) (by kernel_rfl) (fun _ _ _ h => h) (Or.inl ⟨by rfl, fun w' hw' => by (obtain ⟨q0, q1⟩ := HS3.out _ hw'; clear hw'; go_simp)⟩) hHeld ?_
        simp only [Act.put, List.setIfInBounds_toArray, List.set_cons_zero, List.set_cons_succ]
        refine wpAnyH_ready (rs := [6]) (by kernel_rfl) (by simp) ?_
        refine (AllReadyH.cons (o := { dst := some 30, op := Op.call { callee := Callee.value (Operand.func 39), args := #[Operand.tmp 29], argTypes := #[35] }, type := 95, pos := "file.go:38", after := #[{ on := 5, ground := Ground.data }, { on := 3, ground := Ground.chain }, { on := 3, ground := Ground.guard }], guard := some (3, false) }) rfl (fun K hK => ?_) AllReadyH.nil)
        go_simp
        refine (HVAL.out _ HK4.out).mono ?_
        rintro e' w5 ⟨b3, m3, r3, b4, m4, r4, rfl, hrp, hb5⟩
        have HK5 : Hid (Kp No W3 w5) := HK4.out.andNone (Kp.below hb5)
        have HRP : Hid (Tlv.Rep 0 w5.heap.size w5 3 (fileT s d) (.slice b3 m3 r3) (.slice b4 m4 r4)) := hrp.agree (Agree.refl _ _ _) (Nat.zero_le _) (Nat.le_refl _)
        clear hb5 hrp
        go_wp2_with fail
        refine hK.out _ _ (HK5.out) (fun hh => ?_)
        clear hK K hHeld
        have hHeld := hh
        clear hh
        try simp only [Act.put, List.setIfInBounds_toArray, List.set_cons_zero, List.set_cons_succ]
        refine wpAnyH_ready (rs := [7]) (by kernel_rfl) (by simp) ?_
        refine (AllReadyH.cons (o := { dst := some 31, op := Op.call { callee := Callee.value (Operand.func 50), args := #[Operand.tmp 28, Operand.tmp 30], argTypes := #[95, 95] }, type := 4, pos := "file.go:38", after := #[{ on := 4, ground := Ground.data }, { on := 6, ground := Ground.data }, { on := 6, ground := Ground.chain }, { on := 3, ground := Ground.guard }], guard := some (3, false) }) rfl (fun K hK => ?_) AllReadyH.nil)
        go_simp
        refine (HSM.out _ _ _ (HRV.out _ HK5.out) HRP.out).mono ?_
        rintro e' w6 ⟨rfl, hb6⟩
        have HK6 : Hid (Kp No W3 w6) := HK5.out.andNone (Kp.below hb6)
        clear hb6
        go_wp2_with fail
        refine hK.out _ _ (HK6.out) (fun hh => ?_)
        clear hK K hHeld
        have hHeld := hh
        clear hh
        try simp only [Act.put, List.setIfInBounds_toArray, List.set_cons_zero, List.set_cons_succ]
        refine wpAnyH_take (i := 8) (oi := { dst := some 32, op := Op.unOp UnOp.not 4 (Operand.tmp 31), type := 4, pos := "file.go:38", after := #[{ on := 7, ground := Ground.data }, { on := 3, ground := Ground.guard }], guard := some (3, false) }) (v := .bool (!r)) rfl (by kernel_rfl) (by kernel_rfl) (by kernel_rfl) (fun _ _ _ h => h) (Or.inl ⟨by rfl, fun w' hw' => by (clear hw'; go_simp)⟩) hHeld ?_
        simp only [Act.put, List.setIfInBounds_toArray, List.set_cons_zero, List.set_cons_succ]
        refine wpAnyH_take (i := 9) (oi := { dst := some 33, op := Op.pick (Operand.tmp 27) (Operand.const (Value.bool true)) (Operand.tmp 32), type := 4, pos := "file.go:38", after := #[{ on := 3, ground := Ground.data }, { on := 8, ground := Ground.data }], guard := none }) (v := .bool (!r)) rfl (by kernel_rfl) (by kernel_rfl) (by kernel_rfl) (fun _ _ _ h => h) (Or.inl ⟨by rfl, fun w' hw' => by (clear hw'; go_simp)⟩) hHeld ?_
        simp only [Act.put, List.setIfInBounds_toArray, List.set_cons_zero, List.set_cons_succ]
        refine wpAnyH_done (by kernel_rfl) ?_ _
        clear hHeld
        obtain ⟨g0, g1, gf, hg2⟩ := HTAIL.out _ HK6.out
        cases r with
        | false =>
          have HG : Hid (gfile bs = none) := by rw [Hid, HGF.out, HR.out]; simp
          have HA : Hid (∀ w', GFA w w' K0 bs (.returned (.tuple #[zFil, .int .i64 3]))) := fun w' => .inr (.inl ⟨hk, HG.out, rfl⟩)
          go_wp2_with fail
          obtain ⟨q0, q1⟩ := set2_read (u0 := .int .i64 0) (u1 := .slice none 0 0) g0 g1
          refine bodyPost_ret (v := .tuple #[zFil, .int .i64 3]) (by simp [results, Try.results18, go_sem, q0, q1, zFil]) rfl ⟨HA.out _, ?_⟩
          exact ((HBW.out _ HK6.out).setCell (by simp) _).setCell (by simp) _
        | true =>
          have HG : Hid (gfile bs = some (s, d)) := by rw [Hid, HGF.out, HR.out, HFB.out]; rfl
          have HA : Hid (∀ w', HV (fun g => g < w'.heap.size ∧ w.heap.size ≤ g) w' (.slice ax lx cx) d → GFA w w' K0 bs (.returned (.tuple #[.agg #[.int .i64 s, .slice ax lx cx], .int .i64 0]))) := fun w' h => .inr (.inr ⟨s, d, ax, lx, cx, hk, HG.out, rfl, h⟩)
          obtain ⟨y0, y1⟩ := HS3.out _ HK6.out
          go_wp2_with fail
          obtain ⟨q0, q1⟩ := set2_read (u0 := .int .i64 s) (u1 := .slice ax lx cx) g0 g1
          refine bodyPost_ret (v := .tuple #[.agg #[.int .i64 s, .slice ax lx cx], .int .i64 0]) (by simp [results, Try.results18, go_sem, q0, q1]) rfl ⟨HA.out _ ?_, ?_⟩
          · have hkk : Kp (· = w.heap.size + 1) w6 ((w6.setCell ⟨w.heap.size + 1, 0, none⟩ (.int .i64 s)).setCell ⟨w.heap.size + 1, 1, none⟩ (.slice ax lx cx)) := ((Kp.refl (· = w.heap.size + 1) _).setCell (p := ⟨w.heap.size + 1, 0, none⟩) (.inl rfl) _).setCell (p := ⟨w.heap.size + 1, 1, none⟩) (.inl rfl) _
            exact hv_kept2 (HH3.out.kept HK6.out) hkk (fun g hg => ⟨by have := HZ0.out; have := HBW2.out.size; omega, Nat.lt_of_lt_of_le hg.1 (Nat.le_trans HK6.out.size hkk.size), by have := HZ0.out; have := HBW2.out.size; omega⟩)
          · exact ((HBW.out _ HK6.out).setCell (by simp) _).setCell (by simp) _
    · have hne : ¬ ((l4 : Int) = 2) := by omega
      have hneb : ((l4 : Int) == 2) = false := by simpa using hne
      have hneb2 : ((l4 : Int) != 2) = true := by simpa using hne
      have hneb3 : (l4 == 2) = false := by simpa using h2
      have hneb4 : (l4 != 2) = true := by simpa using h2
      have HG : Hid (gfile bs = none) := by
        rw [Hid, gfile, HT.out]
        show (match t.kd with | [t0, t1] => _ | _ => none) = none
        split
        · rename_i h5
          rw [h5] at h4
          exact absurd h4 h2
        · rfl
      have HA : Hid (∀ w', GFA w w' K0 bs (.returned (.tuple #[zFil, .int .i64 3]))) := fun w' => .inr (.inl ⟨hk, HG.out, rfl⟩)
      obtain ⟨f0, f1, f2, f3⟩ := HV2.out
      obtain ⟨g0, g1, gf, hg2⟩ := HX0.out _ HBW2.out
      clear h2 h4 hks
      go_wp2_with fail
      obtain ⟨q0, q1⟩ := set2_read (u0 := .int .i64 0) (u1 := .slice none 0 0) g0 g1
      refine bodyPost_ret (v := .tuple #[zFil, .int .i64 3]) (by simp [results, Try.results18, go_sem, q0, q1, zFil]) rfl ⟨HA.out _, ?_⟩
      exact ((HB0.out.trans (HBW2.out.mono HB0.out.size)).setCell (by simp) _).setCell (by simp) _
end Go.Proofs.Ytenfahecnkdhaaa.Nd
end

section
/-
  entry, of the program: what three values tell.
-/
namespace Go.Proofs.Ytenfahecnkdhaaa.Nd
open Go.RowKit
open Tlv (Tr Agree)
open Sim (hid Kp No)
set_option linter.unusedSimpArgs false

theorem exec_storeE {P : Program} {o : Oper} {a : Act} {w : World} (ty : TypeId) (x y : Operand) (ho : o.op = .store ty x y) (b off : Nat) (cells : Array Value) (hx : a.eval x = .pointer (some ⟨b, off, none⟩)) (hy : a.eval y = .agg cells)
    (ht : w.there b off cells.size) (hi : (P.info? ty).map (·.size) = some cells.size) (h1 : cells.all (·.oneCell') = true) : (execOp a.eval o).run P w = .ok .skip (w.setCells b off cells.toList) := by
  unfold execOp
  simp only [ho, hx, hy, Instr.storeAt, Instr.sureAddr, Sem.run_bind, Sem.run_pure, Result.andThen_ok, run_storeVar_mid w b off ty cells ht hi h1]
theorem wp_skipE {P : Program} {o : Oper} {a : Act} {K : Act → World → Prop} {Q : Exit → Act → World → Prop} {w w' : World} (hr : (execOp a.eval o).run P w = .ok .skip w') (h : K (a.put o.dst undef) w') : Oper.wp P o a w K Q := by
  unfold Oper.wp
  rw [hr]
  exact h
/-- The entry that three values tell. -/
def entryOf {n m k : Nat} (t0 : Tr n) (t1 : Tr m) (t2 : Tr k) : Ent := (t0.hd.2.2, decide (t1.hd.2.1 = 1), h32 t2.hd.2.2)

set_option maxHeartbeats 4000000 in
set_option maxRecDepth 100000 in
theorem entry_any (w : World) (v : Value) (t0 t1 t2 : Tr 7) (hv : Tlv.KSl 0 w.heap.size w (Tlv.Rep 0 w.heap.size w 7) v [t0, t1, t2]) :
    Calls Try.prog 53 #[v] w fun e w' => e = .returned (.agg (entC (entryOf t0 t1 t2)).toArray) ∧ EOk (entryOf t0 t1 t2) ∧ Below w.heap.size w w' := by
  obtain ⟨a, c, rfl, hxx⟩ := id hv
  clear hxx
  obtain ⟨g, o, t, sb0, sk0, rfl, hg, ht, a0, a1, a2, a3, r0⟩ := kid_at hv (k := 0) (by simp)
  obtain ⟨g', o', t', sb1, sk1, e, _, ht', b0, b1, b2, b3, r1⟩ := kid_at hv (k := 1) (by simp)
  simp only [Option.some.injEq, Addr.mk.injEq] at e
  obtain ⟨rfl, rfl, hxx⟩ := e
  clear hxx
  obtain ⟨g', o', t'', sb2, sk2, e, _, ht'', c0, c1, c2, c3, r2⟩ := kid_at hv (k := 2) (by simp)
  simp only [Option.some.injEq, Addr.mk.injEq] at e
  obtain ⟨rfl, rfl, hxx⟩ := e
  clear hxx
  simp only [List.getElem?_cons_zero, List.getElem?_cons_succ, Option.some.injEq] at ht ht' ht''
  subst ht
  subst ht'
  subst ht''
  obtain ⟨hxa, hxb, hby0, hxc⟩ := r0
  clear hxa hxb hxc
  obtain ⟨hxa, hxb, hby2, hxc⟩ := r2
  clear hxa hxb hxc
  clear hv a0 a1 a3 b0 b2 b3 c0 c1 c3 r1
  simp only [Nat.zero_mul, Nat.one_mul, Nat.add_zero, Nat.add_assoc, Nat.reduceAdd, Nat.reduceMul, List.length_cons, List.length_nil] at a2 b1 c2 ⊢
  have hEO : EOk (entryOf t0 t1 t2) := ⟨Tlv.BySl.bytes hby0, (h32_ok (Tlv.BySl.bytes hby2)).1, (h32_ok (Tlv.BySl.bytes hby2)).2⟩
  have HEO := hid hEO
  unfold entryOf at HEO ⊢
  obtain ⟨q, hq⟩ : ∃ q, t1.hd.2.1 = q := ⟨_, rfl⟩
  rw [hq] at b1 HEO ⊢
  obtain ⟨nm, hnm⟩ : ∃ x, t0.hd.2.2 = x := ⟨_, rfl⟩
  rw [hnm] at hby0 HEO ⊢
  obtain ⟨hs, hhs⟩ : ∃ x, t2.hd.2.2 = x := ⟨_, rfl⟩
  rw [hhs] at hby2 HEO ⊢
  have HOKH : Hid (HOk (h32 hs)) := h32_ok (Tlv.BySl.bytes hby2)
  obtain ⟨ln, hln⟩ : ∃ x, nm.length = x := ⟨_, rfl⟩
  obtain ⟨lh, hlh⟩ : ∃ x, hs.length = x := ⟨_, rfl⟩
  obtain ⟨an, cn, rfl, hxx⟩ := id hby0
  clear hxx
  obtain ⟨ah, ch, rfl, hxx⟩ := id hby2
  clear hxx
  rw [hln] at a2 hby0
  rw [hlh] at c2 hby2
  clear hq hnm hhs t0 t1 t2 hEO hln hlh
  obtain ⟨W0, hW0⟩ : ∃ W, w.alloc (.cells #[.string ⟨#[]⟩, .bool false, .int .u8 0, .int .u8 0, .int .u8 0, .int .u8 0, .int .u8 0, .int .u8 0, .int .u8 0, .int .u8 0, .int .u8 0, .int .u8 0, .int .u8 0, .int .u8 0, .int .u8 0, .int .u8 0, .int .u8 0, .int .u8 0, .int .u8 0, .int .u8 0, .int .u8 0, .int .u8 0, .int .u8 0, .int .u8 0, .int .u8 0, .int .u8 0, .int .u8 0, .int .u8 0, .int .u8 0, .int .u8 0, .int .u8 0, .int .u8 0, .int .u8 0, .int .u8 0] 70) = W := ⟨_, rfl⟩
  have hz0 : W0.heap.size = w.heap.size + 1 := by rw [← hW0]; simp
  have HK0 : Hid (Kp No w W0) := by rw [Hid, ← hW0]; exact (Kp.refl No w).alloc _
  have hgn : ¬ g = w.heap.size := by omega
  have HA : Hid (∀ V, Kp (· = w.heap.size) W0 V → V.cell? ⟨g, o + 2, none⟩ = some (.slice an ln cn) ∧ V.cell? ⟨g, o + 5, none⟩ = some (.int .u64 q) ∧ V.cell? ⟨g, o + 10, none⟩ = some (.slice ah lh ch)) := fun V hV => by
    have hh : ∀ j, V.cell? ⟨g, j, none⟩ = w.cell? ⟨g, j, none⟩ := fun j => (hV.cell (p := ⟨g, j, none⟩) (by rw [hz0]; show g < _; omega) hgn).trans (HK0.out.cell (p := ⟨g, j, none⟩) hg (fun x => x))
    exact ⟨(hh _).trans a2, (hh _).trans b1, (hh _).trans c2⟩
  have HCV : Hid (∀ V, Kp (· = w.heap.size) W0 V → (convert 26 9 (.slice an ln cn)).run Try.prog V = .ok (.string (txt nm)) V) := fun V hV =>
    Tlv.conv_bytes (hby0.agree (L' := 0) (B' := w.heap.size) (w' := V) (fun j _ hj => (hV.block j (by omega) (by show ¬ j = _; omega)).trans (HK0.out.block j hj (fun x => x))) (Nat.le_refl _) (Nat.le_refl _))
  have HBY : Hid (Tlv.BySl 0 W0.drew.heap.size W0.drew (.slice ah lh ch) hs) := hby2.agree (w' := W0.drew) (fun j _ hj => HK0.out.block j hj (fun x => x)) (Nat.le_refl _) (by show _ ≤ W0.heap.size; omega)
  have HTH : Hid (∀ V, Below W0.heap.size W0 V → V.there w.heap.size 0 34) := fun V hV j hj => by
    rw [hV.cell (p := ⟨w.heap.size, _, none⟩) (by show w.heap.size < _; omega), hV.frozen (p := ⟨w.heap.size, _, none⟩) (by show w.heap.size < _; omega), ← hW0]
    exact thereE _ _ _ _ (by simp) j hj
  have HB1 := hid (builtN' nm (decide (q = 1)) (h32 hs) HOKH.out.1)
  obtain ⟨C, hC⟩ : ∃ C, entC (nm, decide (q = 1), h32 hs) = C := ⟨_, rfl⟩
  have HLC : Hid (C.length = 34) := by rw [Hid, ← hC]; exact entC_length HEO.out
  have HOC : Hid (C.toArray.all (·.oneCell') = true) := by rw [Hid, ← hC]; exact all_oneCell_toArray (entC_one _)
  have HIC : Hid ((Try.prog.info? 70).map (·.size) = some C.length) := by rw [Hid, HLC.out]; exact info48
  have HEO2 := HEO
  rw [hC] at HB1 ⊢
  have HQ1 : Hid ((q == 1) = decide (q = 1)) := by rw [Hid, Bool.eq_iff_iff]; simp
  clear hC hby0 hby2 hgn a2 b1 c2
  generalize txt nm = T at *
  go_enter Try.func53, Try.ntmps53
  go_wp2_with fail
  refine wp_region_held_drew (S := fun V => Kp (· = w.heap.size) W0 V) (by kernel_rfl) ((Kp.refl _ _).drew) (fun hHeld => ?_)
  refine wpAnyH_take (i := 0) (oi := { dst := some 3, op := Op.move (Operand.tmp 0), type := 93, pos := "dir.go:113", after := #[], guard := none }) (v := .slice (some ⟨g, o, none⟩) 3 c) rfl (by kernel_rfl) (by kernel_rfl) (by kernel_rfl) (fun _ _ _ h => h) (Or.inl ⟨by rfl, fun w' hw' => by (clear hw'; go_simp)⟩) hHeld ?_
  simp only [Act.put, List.setIfInBounds_toArray, List.set_cons_zero, List.set_cons_succ]
  refine wpAnyH_take (i := 1) (oi := { dst := some 4, op := Op.indexAddr 93 (Operand.tmp 3) (Operand.const (Value.int IntKind.i64 0)), type := 0, pos := "dir.go:113", after := #[{ on := 0, ground := Ground.data }], guard := none }) (v := .pointer (some ⟨g, o, none⟩)) rfl (by kernel_rfl) (by kernel_rfl) (by kernel_rfl) (fun _ _ _ h => h) (Or.inl ⟨by rfl, fun w' hw' => by (clear hw'; go_simp)⟩) hHeld ?_
  simp only [Act.put, List.setIfInBounds_toArray, List.set_cons_zero, List.set_cons_succ]
  refine wpAnyH_take (i := 2) (oi := { dst := some 5, op := Op.fieldAddr 95 (Operand.tmp 4) 2, type := 0, pos := "dir.go:113", after := #[{ on := 1, ground := Ground.data }], guard := none }) (v := .pointer (some ⟨g, o + 2, none⟩)) rfl (by kernel_rfl) (by kernel_rfl) (by kernel_rfl) (fun _ _ _ h => h) (Or.inl ⟨by rfl, fun w' hw' => by (clear hw'; go_simp)⟩) hHeld ?_
  simp only [Act.put, List.setIfInBounds_toArray, List.set_cons_zero, List.set_cons_succ]
  refine wpAnyH_take (i := 3) (oi := { dst := some 6, op := Op.load 26 (Operand.tmp 5), type := 26, pos := "dir.go:113", after := #[{ on := 2, ground := Ground.data }], guard := none }) (v := .slice an ln cn) rfl (by kernel_rfl) (by kernel_rfl) (by kernel_rfl) (fun _ _ _ h => h) (Or.inl ⟨by rfl, fun w' hw' => by (have q := (HA.out _ hw').1; clear hw'; go_simp)⟩) hHeld ?_
  simp only [Act.put, List.setIfInBounds_toArray, List.set_cons_zero, List.set_cons_succ]
  refine wpAnyH_take (i := 4) (oi := { dst := some 7, op := Op.convert 26 9 (Operand.tmp 6), type := 9, pos := "dir.go:113", after := #[{ on := 3, ground := Ground.data }], guard := none }) (v := .string T) rfl (by kernel_rfl) (by kernel_rfl) (by kernel_rfl) (fun _ _ _ h => h) (Or.inl ⟨by rfl, fun w' hw' => exec_conv 26 9 (.tmp 6) rfl (.slice an ln cn) (.string T) rfl (HCV.out w' hw')⟩) hHeld ?_
  simp only [Act.put, List.setIfInBounds_toArray, List.set_cons_zero, List.set_cons_succ]
  refine wpAnyH_take (i := 5) (oi := { dst := some 8, op := Op.move (Operand.tmp 0), type := 93, pos := "dir.go:113", after := #[], guard := none }) (v := .slice (some ⟨g, o, none⟩) 3 c) rfl (by kernel_rfl) (by kernel_rfl) (by kernel_rfl) (fun _ _ _ h => h) (Or.inl ⟨by rfl, fun w' hw' => by (clear hw'; go_simp)⟩) hHeld ?_
  simp only [Act.put, List.setIfInBounds_toArray, List.set_cons_zero, List.set_cons_succ]
  refine wpAnyH_take (i := 6) (oi := { dst := some 9, op := Op.indexAddr 93 (Operand.tmp 8) (Operand.const (Value.int IntKind.i64 1)), type := 0, pos := "dir.go:113", after := #[{ on := 5, ground := Ground.data }], guard := none }) (v := .pointer (some ⟨g, o + 4, none⟩)) rfl (by kernel_rfl) (by kernel_rfl) (by kernel_rfl) (fun _ _ _ h => h) (Or.inl ⟨by rfl, fun w' hw' => by (clear hw'; go_simp)⟩) hHeld ?_
  simp only [Act.put, List.setIfInBounds_toArray, List.set_cons_zero, List.set_cons_succ]
  refine wpAnyH_take (i := 7) (oi := { dst := some 10, op := Op.fieldAddr 95 (Operand.tmp 9) 1, type := 0, pos := "dir.go:113", after := #[{ on := 6, ground := Ground.data }], guard := none }) (v := .pointer (some ⟨g, o + 5, none⟩)) rfl (by kernel_rfl) (by kernel_rfl) (by kernel_rfl) (fun _ _ _ h => h) (Or.inl ⟨by rfl, fun w' hw' => by (clear hw'; go_simp)⟩) hHeld ?_
  simp only [Act.put, List.setIfInBounds_toArray, List.set_cons_zero, List.set_cons_succ]
  refine wpAnyH_take (i := 8) (oi := { dst := some 11, op := Op.load 83 (Operand.tmp 10), type := 83, pos := "dir.go:113", after := #[{ on := 7, ground := Ground.data }], guard := none }) (v := .int .u64 q) rfl (by kernel_rfl) (by kernel_rfl) (by kernel_rfl) (fun _ _ _ h => h) (Or.inl ⟨by rfl, fun w' hw' => by (have q := (HA.out _ hw').2.1; clear hw'; go_simp)⟩) hHeld ?_
  simp only [Act.put, List.setIfInBounds_toArray, List.set_cons_zero, List.set_cons_succ]
  refine wpAnyH_take (i := 9) (oi := { dst := some 12, op := Op.binOp BinOp.eql 83 (Operand.tmp 11) (Operand.const (Value.int IntKind.u64 1)) 83, type := 4, pos := "dir.go:113", after := #[{ on := 8, ground := Ground.data }], guard := none }) (v := .bool (decide (q = 1))) rfl (by kernel_rfl) (by kernel_rfl) (by kernel_rfl) (fun _ _ _ h => h) (Or.inl ⟨by rfl, fun w' hw' => by (clear hw'; go_simp; exact HQ1.out)⟩) hHeld ?_
  simp only [Act.put, List.setIfInBounds_toArray, List.set_cons_zero, List.set_cons_succ]
  refine wpAnyH_take (i := 10) (oi := { dst := some 13, op := Op.move (Operand.tmp 0), type := 93, pos := "dir.go:113", after := #[], guard := none }) (v := .slice (some ⟨g, o, none⟩) 3 c) rfl (by kernel_rfl) (by kernel_rfl) (by kernel_rfl) (fun _ _ _ h => h) (Or.inl ⟨by rfl, fun w' hw' => by (clear hw'; go_simp)⟩) hHeld ?_
  simp only [Act.put, List.setIfInBounds_toArray, List.set_cons_zero, List.set_cons_succ]
  refine wpAnyH_take (i := 11) (oi := { dst := some 14, op := Op.indexAddr 93 (Operand.tmp 13) (Operand.const (Value.int IntKind.i64 2)), type := 0, pos := "dir.go:113", after := #[{ on := 10, ground := Ground.data }], guard := none }) (v := .pointer (some ⟨g, o + 8, none⟩)) rfl (by kernel_rfl) (by kernel_rfl) (by kernel_rfl) (fun _ _ _ h => h) (Or.inl ⟨by rfl, fun w' hw' => by (clear hw'; go_simp)⟩) hHeld ?_
  simp only [Act.put, List.setIfInBounds_toArray, List.set_cons_zero, List.set_cons_succ]
  refine wpAnyH_take (i := 12) (oi := { dst := some 15, op := Op.fieldAddr 95 (Operand.tmp 14) 2, type := 0, pos := "dir.go:113", after := #[{ on := 11, ground := Ground.data }], guard := none }) (v := .pointer (some ⟨g, o + 10, none⟩)) rfl (by kernel_rfl) (by kernel_rfl) (by kernel_rfl) (fun _ _ _ h => h) (Or.inl ⟨by rfl, fun w' hw' => by (clear hw'; go_simp)⟩) hHeld ?_
  simp only [Act.put, List.setIfInBounds_toArray, List.set_cons_zero, List.set_cons_succ]
  refine wpAnyH_take (i := 13) (oi := { dst := some 16, op := Op.load 26 (Operand.tmp 15), type := 26, pos := "dir.go:113", after := #[{ on := 12, ground := Ground.data }], guard := none }) (v := .slice ah lh ch) rfl (by kernel_rfl) (by kernel_rfl) (by kernel_rfl) (fun _ _ _ h => h) (Or.inl ⟨by rfl, fun w' hw' => by (have q := (HA.out _ hw').2.2; clear hw'; go_simp)⟩) hHeld ?_
  simp only [Act.put, List.setIfInBounds_toArray, List.set_cons_zero, List.set_cons_succ]
  refine wpAnyH_ready (rs := [14]) (by kernel_rfl) (by simp) ?_
  refine (AllReadyH.cons (o := { dst := some 17, op := Op.call { callee := Callee.value (Operand.func 73), args := #[Operand.tmp 16], argTypes := #[26] }, type := 68, pos := "dir.go:113", after := #[{ on := 13, ground := Ground.data }], guard := none }) rfl (fun K hK => ?_) AllReadyH.nil)
  go_simp
  refine (hash_any _ _ _ HBY.out).mono ?_
  rintro e' w2 ⟨rfl, hb2⟩
  have HB2 : Hid (Below W0.heap.size W0 w2) := (Below.refl _ _).drew.trans hb2
  clear hb2
  go_wp2_with fail
  refine hK.out _ _ ((Kp.below HB2.out)) (fun hh => ?_)
  clear hK K hHeld
  have hHeld := hh
  clear hh
  try simp only [Act.put, List.setIfInBounds_toArray, List.set_cons_zero, List.set_cons_succ]
  refine wpAnyH_take (i := 15) (oi := { dst := some 18, op := Op.build 70 #[(0, Operand.tmp 7), (1, Operand.tmp 12), (2, Operand.tmp 17)], type := 70, pos := "dir.go:113", after := #[{ on := 4, ground := Ground.data }, { on := 9, ground := Ground.data }, { on := 14, ground := Ground.data }], guard := none }) (v := .agg C.toArray) rfl (by kernel_rfl) (by kernel_rfl) (by kernel_rfl) (fun _ _ _ h => h) (yields_three (by rfl) 70 (.tmp 7) (.tmp 12) (.tmp 17) rfl (.string T) (.bool (decide (q = 1))) (.agg (b8 (h32 hs)).toArray) rfl rfl rfl _ HB1.out) hHeld ?_
  simp only [Act.put, List.setIfInBounds_toArray, List.set_cons_zero, List.set_cons_succ]
  refine wpAnyH_ready (rs := [16]) (by kernel_rfl) (by simp) ?_
  refine (AllReadyH.cons (o := { dst := none, op := Op.store 70 (Operand.tmp 2) (Operand.tmp 18), type := 0, pos := "dir.go:113", after := #[{ on := 15, ground := Ground.data }, { on := 14, ground := Ground.chain }, { on := 0, ground := Ground.phase }, { on := 1, ground := Ground.phase }, { on := 2, ground := Ground.phase }, { on := 3, ground := Ground.phase }, { on := 4, ground := Ground.phase }, { on := 5, ground := Ground.phase }, { on := 6, ground := Ground.phase }, { on := 7, ground := Ground.phase }, { on := 8, ground := Ground.phase }, { on := 9, ground := Ground.phase }, { on := 10, ground := Ground.phase }, { on := 11, ground := Ground.phase }, { on := 12, ground := Ground.phase }, { on := 13, ground := Ground.phase }, { on := 14, ground := Ground.phase }, { on := 15, ground := Ground.phase }], guard := none }) rfl (fun K hK => ?_) AllReadyH.nil)
  rw [if_pos (by rfl)]
  refine wp_skipE (exec_storeE 70 _ _ rfl w.heap.size 0 C.toArray rfl rfl (by show World.there _ _ _ C.length; rw [HLC.out]; exact HTH.out _ HB2.out) HIC.out HOC.out) ?_
  refine hK.out _ _ (((Kp.below HB2.out).trans (setCells_kp _ _ _ _) (fun x hx => .inl hx))) (fun hh => ?_)
  clear hK K hHeld
  have hHeld := hh
  clear hh
  try simp only [Act.put, List.setIfInBounds_toArray, List.set_cons_zero, List.set_cons_succ]
  refine wpAnyH_done (by kernel_rfl) ?_ _
  clear hHeld
  go_wp2_with fail
  refine bodyPost_ret (results_cell_one rfl _ _ w.heap.size 0 C _ rfl (World.rangeAt_setCells_same _ _ _ _ (by rw [HLC.out]; exact HTH.out _ HB2.out)) Try.underlying70 rfl HIC.out) rfl ⟨rfl, HEO2.out, ?_⟩
  exact (HK0.out.toBelow'.trans (HB2.out.mono HK0.out.size)).trans (setCells_bel (Nat.le_refl _) _ _ _)
end Go.Proofs.Ytenfahecnkdhaaa.Nd
end
