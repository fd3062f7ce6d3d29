/- Of the proof: the texts TlvSame, FrKit, FrSame, FrPut, PkBegin, PkNil, FrFirst, one behind the other. -/
import Derived.Test.YtaaioaocjfpajaaGreatDoorB5
import Derived.Test.YtaaioaocjfpajaaGreatDoorB4
import Derived.Laws.BytesArg
import Derived.Test.YtaaioaocjfpajaaGreatDoorB6
import Derived.Laws.ResultCell
import Derived.Stop.BytesEq
import Derived.Test.YtaaioaocjfpajaaGreatDoorB3
import Derived.Test.YtaaioaocjfpajaaGreatDoorB2
import Derived.Test.YtaaioaocjfpajaaGreatDoorB1
import Derived.Test.YtaaioaocjfpajaaGreatDoorPkShelf
section
/-
  What Same of tlv answers of any two trees.
-/
namespace Go.Proofs.YtaaioaocjfpajaaGreatDoor.Tlv
open Go.RowKit
attribute [local go_sem ↓] Go.wp_at_zero Go.wp_at_succ

theorem conv_bytes {L B : Nat} {w : World} {v : Value} {bs : List Int} (h : BySl L B w v bs) : (convert 54 9 v).run Tryz.prog w = .ok (.string (strOfNums bs)) w := by
  obtain ⟨a, cap, rfl, h2, h3, h4, h5, h6, h7⟩ := h
  by_cases hne : bs = []
  · subst hne
    rw [List.length_nil, run_convert_bytes_string w 54 9 5 _ 0 cap Tryz.underlying54 Tryz.underlying5 Tryz.underlying9]
    cases a <;> simp [Conv.bytesToString, loadCells]
    all_goals rfl
  · obtain ⟨b, o, rfl, _, _, hc⟩ := h7 hne
    exact run_convert_bytes_arg w 54 5 Tryz.underlying54 Tryz.underlying5 b o bs.length cap bs rfl hc 9 Tryz.underlying9

theorem strOfNums_inj {xs ys : List Int} (hx : ∀ x ∈ xs, 0 ≤ x ∧ x ≤ 255) (hy : ∀ x ∈ ys, 0 ≤ x ∧ x ≤ 255) (h : strOfNums xs = strOfNums ys) : xs = ys := by
  have e := congrArg (fun s : ByteArray => s.data.toList) h
  simp only [strOfNums_data] at e
  have inv : ∀ zs : List Int, (∀ x ∈ zs, 0 ≤ x ∧ x ≤ 255) → (zs.map fun n => UInt8.ofNat n.toNat).map (fun u => (u.toNat : Int)) = zs := by
    intro zs hz
    induction zs with
    | nil => rfl
    | cons z zs ih =>
      have := hz z (List.mem_cons_self ..)
      simp only [List.map_cons]
      rw [ih (fun x hx => hz x (List.mem_cons_of_mem _ hx))]
      congr 1
      simp
      omega
  rw [← inv xs hx, ← inv ys hy, e]

set_option maxHeartbeats 400000 in
theorem equal_any (v v' : Value) (xs ys : List Int) (w : World) (h : BySl 0 w.heap.size w v xs) (h' : BySl 0 w.heap.size w v' ys) :
    Calls Tryz.prog 37 #[v, v'] w fun e w' => e = .returned (.bool (decide (xs = ys))) ∧ w' = w := by
  have c1 := conv_bytes h
  have c2 := conv_bytes h'
  have hq : ((strOfNums xs).toList == (strOfNums ys).toList) = decide (xs = ys) := by
    obtain ⟨_, _, _, _, _, _, _, h6, _⟩ := h
    obtain ⟨_, _, _, _, _, _, _, h6', _⟩ := h'
    rw [Bool.eq_iff_iff, decide_eq_true_eq, beq_iff_eq, ByteArray.toList_eq, ByteArray.toList_eq]
    exact ⟨fun e => strOfNums_inj h6 h6' (by cases hx : strOfNums xs; cases hy : strOfNums ys; rw [hx, hy] at e; simpa using e), fun e => by rw [e]⟩
  clear h h'
  go_enter Tryz.func37, Tryz.ntmps37
  go_wp2_with fail
  go_ret
  exact ⟨rfl, rfl⟩

theorem hd_dec (a b : Int × Int × List Int) : decide (a = b) = (decide (a.1 = b.1) && (decide (a.2.1 = b.2.1) && decide (a.2.2 = b.2.2))) := by
  obtain ⟨a1, a2, a3⟩ := a
  obtain ⟨b1, b2, b3⟩ := b
  simp [Prod.mk.injEq, Bool.decide_and]

def SameTOk (n : Nat) : Prop := ∀ (m : Nat) (t : Tr n) (u : Tr m) (sb sk sb' sk' : Value) (deep : Int) (w : World), Rep 0 w.heap.size w n t sb sk → Rep 0 w.heap.size w m u sb' sk' → (n : Int) ≤ deep → deep ≤ 131072 →
  Calls Tryz.prog 189 #[.agg #[.int .i64 t.hd.1, .int .u64 t.hd.2.1, sb, sk], .agg #[.int .i64 u.hd.1, .int .u64 u.hd.2.1, sb', sk'], .int .i64 deep] w fun e w' => e = .returned (.bool (sameT n t m u)) ∧ Below w.heap.size w w'

set_option maxHeartbeats 2000000 in
set_option maxRecDepth 100000 in
theorem same_any : ∀ n, SameTOk n
  | 0 => fun _ t => by cases t
  | n + 1 => by
    intro m t u sb sk sb' sk' deep w h h' hd0 hd1
    cases m with
    | zero => cases u
    | succ m =>
    have ih := same_any n
    obtain ⟨hn0, hn1, hby, hks⟩ := h
    obtain ⟨hn0', hn1', hby', hks'⟩ := h'
    have HB := hid hby
    have HK := hid hks
    have HB' := hid hby'
    have HK' := hid hks'
    obtain ⟨ab, cb, rfl, hrb⟩ := hby
    obtain ⟨ak, ck, rfl, hrk⟩ := hks
    obtain ⟨ab', cb', rfl, hrb'⟩ := hby'
    obtain ⟨ak', ck', rfl, hrk'⟩ := hks'
    clear hrb hrk hrb' hrk'
    have hkl : t.kd.length ≤ 2199023255552 := by obtain ⟨_, _, _, _, _, _, h, _⟩ := HK.out; exact h
    obtain ⟨R, hR⟩ : ∃ R, sameT (n + 1) t (m + 1) u = R := ⟨_, rfl⟩
    rw [hR]
    have HR : Hid (((decide (t.hd.1 = u.hd.1) && (decide (t.hd.2.1 = u.hd.2.1) && decide (t.hd.2.2 = u.hd.2.2))) && sameL (fun a b => sameT n a m b) t.kd u.kd) = R) := by rw [← hd_dec]; exact hR
    clear hR
    have hdz : (deep == 0) = false := by simp; omega
    generalize t.kd = ks at *
    generalize t.hd.2.2 = bs at *
    generalize t.hd.2.1 = num at *
    generalize t.hd.1 = tag at *
    generalize u.kd = ks' at *
    generalize u.hd.2.2 = bs' at *
    generalize u.hd.2.1 = num' at *
    generalize u.hd.1 = tag' at *
    by_cases ht : tag = tag'
    case neg =>
      have htb : (tag != tag') = true := by simpa using ht
      have Hr : Hid (R = false) := by rw [Hid, ← HR.out]; simp [ht]
      clear ht
      go_enter Tryz.func189, Tryz.ntmps189
      go_wp2_with fail
      go_ret
      exact ⟨by rw [Hr.out]; rfl, ((Below.refl _ _).alloc (Nat.le_refl _) _).alloc (by simp) _⟩
    case pos =>
    subst ht
    by_cases hu : num = num'
    case neg =>
      have hub : (num != num') = true := by simpa using hu
      have Hr : Hid (R = false) := by rw [Hid, ← HR.out]; simp [hu]
      clear hu
      go_enter Tryz.func189, Tryz.ntmps189
      go_wp2_with fail
      go_ret
      exact ⟨by rw [Hr.out]; rfl, ((Below.refl _ _).alloc (Nat.le_refl _) _).alloc (by simp) _⟩
    case pos =>
    subst hu
    have hA : Agree 0 w.heap.size w ((w.alloc (Obj.cells #[Value.int .i64 tag, Value.int .u64 num, Value.slice ab bs.length cb, Value.slice ak ks.length ck] 156)).alloc (Obj.cells #[Value.int .i64 tag, Value.int .u64 num, Value.slice ab' bs'.length cb', Value.slice ak' ks'.length ck'] 156)) := ((Agree.refl _ _ _).alloc (Nat.le_refl _) _).alloc (by simp) _
    have q1 := hid (HB.out.agree hA (Nat.le_refl _) (B' := w.heap.size + 1 + 1) (by omega))
    have q2 := hid (HB'.out.agree hA (Nat.le_refl _) (B' := w.heap.size + 1 + 1) (by omega))
    clear hA
    go_enter Tryz.func189, Tryz.ntmps189
    go_wp2_with fail
    refine (equal_any _ _ bs bs' _ (by simpa using q1.out) (by simpa using q2.out)).mono ?_
    rintro e w1 ⟨rfl, hw1⟩
    have x3 : w1.cell? ⟨w.heap.size, 3, none⟩ = some (.slice ak ks.length ck) := by rw [hw1]; simp [go_sem]
    have y3 : w1.cell? ⟨w.heap.size + 1, 3, none⟩ = some (.slice ak' ks'.length ck') := by rw [hw1]; simp [go_sem]
    have hz1 : w1.heap.size = w.heap.size + 2 := by rw [hw1]; simp
    have Hbel : Hid (Below w.heap.size w w1) := by rw [hw1]; exact ((Below.refl _ _).alloc (Nat.le_refl _) _).alloc (by simp) _
    clear hw1 q1 q2
    by_cases hbs : bs = bs'
    case neg =>
      rw [decide_eq_false hbs]
      have Hr : Hid (R = false) := by rw [Hid, ← HR.out]; simp [hbs]
      clear hbs
      go_wp2_with fail
      go_ret
      exact ⟨by rw [Hr.out]; rfl, Hbel.out⟩
    case pos =>
    rw [decide_eq_true hbs]
    have HR2 : Hid (sameL (fun a b => sameT n a m b) ks ks' = R) := by rw [Hid, ← HR.out]; simp [hbs]
    clear hbs HR
    by_cases hl : ks.length = ks'.length
    case neg =>
      have hlb : ((ks.length : Int) != (ks'.length : Int)) = true := by simp; omega
      have Hr : Hid (R = false) := by
        rw [Hid, ← HR2.out]
        cases e : sameL (fun a b => sameT n a m b) ks ks' with
        | false => rfl
        | true => exact absurd (sameL_len e) hl
      clear hl
      go_wp2_with fail
      go_ret
      exact ⟨by rw [Hr.out]; rfl, Hbel.out⟩
    case pos =>
    obtain ⟨L, hL⟩ : ∃ L, ks.length = L := ⟨_, rfl⟩
    have HLk := hid hL
    have HLk' : Hid (ks'.length = L) := by rw [Hid, ← hl]; exact hL
    rw [← hl, hL] at y3 ⊢
    rw [hL] at x3 hkl
    clear hl hL
    go_wp2_with fail
    go_loopw [45] (fun i wr => ∃ k : Nat, k ≤ L ∧ i = .int .i64 k ∧ Hid (Below w1.heap.size w1 wr) ∧ Hid (sameL (fun a b => sameT n a m b) (ks.drop k) (ks'.drop k) = R)) (fun i _ => L - (intOf i).toNat)
    case atStart => exact ⟨0, Nat.zero_le _, rfl, Below.refl _ _, HR2⟩
    case round =>
      obtain ⟨k, hk, rfl, HI, HS⟩ := hrel
      have hws := HI.out.size
      have Y3 : wr.cell? ⟨w.heap.size + 1, 3, none⟩ = some (.slice ak' L ck') := (HI.out.cell (p := ⟨w.heap.size + 1, 3, none⟩) (by simp; omega)).trans y3
      by_cases hltL : k < L
      · have hlt : k < ks.length := by rw [HLk.out]; exact hltL
        have hlt' : k < ks'.length := by rw [HLk'.out]; exact hltL
        obtain ⟨_, _, ea, _, _, _, _, h7⟩ := HK.out
        simp only [Value.slice.injEq, true_and] at ea
        obtain ⟨rfl, rfl⟩ := ea
        obtain ⟨b, o, rfl, _, hbw, hc⟩ := h7 (by intro e; subst e; simp at hlt)
        obtain ⟨_, _, ea, _, _, _, _, h7'⟩ := HK'.out
        simp only [Value.slice.injEq] at ea
        obtain ⟨rfl, _, rfl⟩ := ea
        obtain ⟨b', o', rfl, _, hbw', hc'⟩ := h7' (by intro e; subst e; simp at hlt')
        obtain ⟨sb, sk, c0, c1, c2, c3, hrep⟩ := hc k ks[k] (List.getElem?_eq_getElem hlt)
        obtain ⟨sb', sk', c0', c1', c2', c3', hrep'⟩ := hc' k ks'[k] (List.getElem?_eq_getElem hlt')
        clear hc hc' h7 h7'
        obtain ⟨a1, l1, p1, a2, l2, p2, rfl, rfl⟩ := hrep.sl
        obtain ⟨a3, l3, p3, a4, l4, p4, rfl, rfl⟩ := hrep'.sl
        have hbel : Hid (Below w.heap.size w wr) := Hbel.out.trans (HI.out.mono (by omega))
        have hR := hid hrep
        have hR' := hid hrep'
        clear hrep hrep'
        have d0 := (hbel.out.cell (p := ⟨b, o + k * 4, none⟩) hbw).trans c0
        have d1 := (hbel.out.cell (p := ⟨b, o + k * 4 + 1, none⟩) hbw).trans c1
        have d2 := (hbel.out.cell (p := ⟨b, o + k * 4 + 2, none⟩) hbw).trans c2
        have d3 := (hbel.out.cell (p := ⟨b, o + k * 4 + 3, none⟩) hbw).trans c3
        have d0' := (hbel.out.cell (p := ⟨b', o' + k * 4, none⟩) hbw').trans c0'
        have d1' := (hbel.out.cell (p := ⟨b', o' + k * 4 + 1, none⟩) hbw').trans c1'
        have d2' := (hbel.out.cell (p := ⟨b', o' + k * 4 + 2, none⟩) hbw').trans c2'
        have d3' := (hbel.out.cell (p := ⟨b', o' + k * 4 + 3, none⟩) hbw').trans c3'
        clear c0 c1 c2 c3 c0' c1' c2' c3'
        have HD : Hid ((sameT n ks[k] m ks'[k] && sameL (fun a b => sameT n a m b) (ks.drop (k + 1)) (ks'.drop (k + 1))) = R) := by
          rw [Hid, ← HS.out, List.drop_eq_getElem_cons hlt, List.drop_eq_getElem_cons hlt']
          rfl
        generalize ks[k] = t1 at *
        generalize ks'[k] = u1 at *
        have hcall : Hid (∀ W, Below w.heap.size w W → Calls Tryz.prog 189 #[.agg #[.int .i64 t1.hd.1, .int .u64 t1.hd.2.1, .slice a1 l1 p1, .slice a2 l2 p2], .agg #[.int .i64 u1.hd.1, .int .u64 u1.hd.2.1, .slice a3 l3 p3, .slice a4 l4 p4], .int .i64 (deep - 1)] W fun e w' => e = .returned (.bool (sameT n t1 m u1)) ∧ Below W.heap.size W w') :=
          fun W hW => ih m t1 u1 _ _ _ _ (deep - 1) W (hR.out.agree (Agree.below hW) (Nat.le_refl _) hW.size) (hR'.out.agree (Agree.below hW) (Nat.le_refl _) hW.size) (by omega) (by omega)
        have hwd : IntKind.i64.wrap (deep - 1) = deep - 1 := by rw [IntKind.wrap_i64]; omega
        have hkI0 : (0 : Int) ≤ (k : Int) := by omega
        have hkI1 : (k : Int) < (L : Int) := by omega
        clear hlt hlt'
        have hbwr : b < wr.heap.size := by omega
        have hbx2 : w.heap.size + 1 < wr.heap.size := by omega
        have hbwr' : b' < wr.heap.size := by omega
        generalize sameT n t1 m u1 = q at hcall HD
        cases q with
        | true =>
          go_wp2_with fail
          obtain ⟨W, hW⟩ : ∃ W, wr.alloc (Obj.cells #[Value.int .i64 t1.hd.1, Value.int .u64 t1.hd.2.1, Value.slice a1 l1 p1, Value.slice a2 l2 p2] 156) = W := ⟨_, rfl⟩
          have v0 : W.cell? ⟨wr.heap.size, 0, none⟩ = some (.int .i64 t1.hd.1) := by rw [← hW]; simp [go_sem]
          have v1 : W.cell? ⟨wr.heap.size, 1, none⟩ = some (.int .u64 t1.hd.2.1) := by rw [← hW]; simp [go_sem]
          have v2 : W.cell? ⟨wr.heap.size, 2, none⟩ = some (.slice a1 l1 p1) := by rw [← hW]; simp [go_sem]
          have v3 : W.cell? ⟨wr.heap.size, 3, none⟩ = some (.slice a2 l2 p2) := by rw [← hW]; simp [go_sem]
          have x3' : W.cell? ⟨w.heap.size + 1, 3, none⟩ = some (.slice (some ⟨b', o', none⟩) L ck') := by rw [← hW, World.cell?_alloc_past _ _ _ hbx2]; exact Y3
          have e0' : W.cell? ⟨b', o' + k * 4, none⟩ = some (.int .i64 u1.hd.1) := by rw [← hW, World.cell?_alloc_past _ _ _ hbwr']; exact d0'
          have e1' : W.cell? ⟨b', o' + k * 4 + 1, none⟩ = some (.int .u64 u1.hd.2.1) := by rw [← hW, World.cell?_alloc_past _ _ _ hbwr']; exact d1'
          have e2' : W.cell? ⟨b', o' + k * 4 + 2, none⟩ = some (.slice a3 l3 p3) := by rw [← hW, World.cell?_alloc_past _ _ _ hbwr']; exact d2'
          have e3' : W.cell? ⟨b', o' + k * 4 + 3, none⟩ = some (.slice a4 l4 p4) := by rw [← hW, World.cell?_alloc_past _ _ _ hbwr']; exact d3'
          have hBW : Hid (Below w.heap.size w W) := by rw [← hW]; exact hbel.out.alloc hbel.out.size _
          have hIW : Hid (Below w1.heap.size w1 W) := by rw [← hW]; exact HI.out.alloc hws _
          rw [hW]
          clear hW d0 d1 d2 d3 d0' d1' d2' d3' Y3
          have hc9 := hid (hcall.out W.drew hBW.out.drew)
          go_region_with ((go_at_call 189; refine hc9.out.mono ?_; rintro e w2 ⟨rfl, hb2⟩; have HB2 := hid hb2; clear hb2))
          all_goals go_wp2_with fail
          all_goals
            go_roundw
            case rel => exact ⟨k + 1, by omega, by go_num, (hIW.out.drew).trans (HB2.out.mono hIW.out.size), by simpa [Hid] using HD.out⟩
            case measure => simp [intOf]; omega
        | false =>
          go_wp2_with fail
          obtain ⟨W, hW⟩ : ∃ W, wr.alloc (Obj.cells #[Value.int .i64 t1.hd.1, Value.int .u64 t1.hd.2.1, Value.slice a1 l1 p1, Value.slice a2 l2 p2] 156) = W := ⟨_, rfl⟩
          have v0 : W.cell? ⟨wr.heap.size, 0, none⟩ = some (.int .i64 t1.hd.1) := by rw [← hW]; simp [go_sem]
          have v1 : W.cell? ⟨wr.heap.size, 1, none⟩ = some (.int .u64 t1.hd.2.1) := by rw [← hW]; simp [go_sem]
          have v2 : W.cell? ⟨wr.heap.size, 2, none⟩ = some (.slice a1 l1 p1) := by rw [← hW]; simp [go_sem]
          have v3 : W.cell? ⟨wr.heap.size, 3, none⟩ = some (.slice a2 l2 p2) := by rw [← hW]; simp [go_sem]
          have x3' : W.cell? ⟨w.heap.size + 1, 3, none⟩ = some (.slice (some ⟨b', o', none⟩) L ck') := by rw [← hW, World.cell?_alloc_past _ _ _ hbx2]; exact Y3
          have e0' : W.cell? ⟨b', o' + k * 4, none⟩ = some (.int .i64 u1.hd.1) := by rw [← hW, World.cell?_alloc_past _ _ _ hbwr']; exact d0'
          have e1' : W.cell? ⟨b', o' + k * 4 + 1, none⟩ = some (.int .u64 u1.hd.2.1) := by rw [← hW, World.cell?_alloc_past _ _ _ hbwr']; exact d1'
          have e2' : W.cell? ⟨b', o' + k * 4 + 2, none⟩ = some (.slice a3 l3 p3) := by rw [← hW, World.cell?_alloc_past _ _ _ hbwr']; exact d2'
          have e3' : W.cell? ⟨b', o' + k * 4 + 3, none⟩ = some (.slice a4 l4 p4) := by rw [← hW, World.cell?_alloc_past _ _ _ hbwr']; exact d3'
          have hBW : Hid (Below w.heap.size w W) := by rw [← hW]; exact hbel.out.alloc hbel.out.size _
          have hIW : Hid (Below w1.heap.size w1 W) := by rw [← hW]; exact HI.out.alloc hws _
          rw [hW]
          clear hW d0 d1 d2 d3 d0' d1' d2' d3' Y3
          have hc9 := hid (hcall.out W.drew hBW.out.drew)
          go_region_with ((go_at_call 189; refine hc9.out.mono ?_; rintro e w2 ⟨rfl, hb2⟩; have HB2 := hid hb2; clear hb2))
          all_goals go_wp2_with fail
          all_goals go_ret
          all_goals exact ⟨by rw [← HD.out]; rfl, (hBW.out.drew).trans (HB2.out.mono hBW.out.size)⟩
      · go_wp2_with fail
        go_ret
        refine ⟨?_, Hbel.out.trans (HI.out.mono (by omega))⟩
        rw [← HS.out, List.drop_of_length_le (by rw [HLk.out]; omega), List.drop_of_length_le (by rw [HLk'.out]; omega)]
        rfl

set_option maxHeartbeats 400000 in
theorem Same_any {n m : Nat} (t : Tr n) (u : Tr m) (sb sk sb' sk' : Value) (w : World) (h : Rep 0 w.heap.size w n t sb sk) (h' : Rep 0 w.heap.size w m u sb' sk') (hn : n ≤ 131072) :
    Calls Tryz.prog 172 #[.agg #[.int .i64 t.hd.1, .int .u64 t.hd.2.1, sb, sk], .agg #[.int .i64 u.hd.1, .int .u64 u.hd.2.1, sb', sk']] w fun e w' => e = .returned (.bool (sameT n t m u)) ∧ Below w.heap.size w w' := by
  obtain ⟨a1, l1, p1, a2, l2, p2, rfl, rfl⟩ := h.sl
  obtain ⟨a3, l3, p3, a4, l4, p4, rfl, rfl⟩ := h'.sl
  have H := hid h
  have H' := hid h'
  clear h h'
  go_enter Tryz.func172, Tryz.ntmps172
  go_wp2_with fail
  have hA : ∀ o o', Below w.heap.size w ((w.alloc o).alloc o') := fun o o' => ((Below.refl _ _).alloc (Nat.le_refl _) o).alloc (by simp) o'
  refine (same_any n m t u _ _ _ _ 131072 _ (H.out.agree (Agree.below (hA _ _)) (Nat.le_refl _) (hA _ _).size) (H'.out.agree (Agree.below (hA _ _)) (Nat.le_refl _) (hA _ _).size) (by omega) (by omega)).mono ?_
  rintro e w1 ⟨rfl, hb1⟩
  have HB : Hid (Below w.heap.size w w1) := (hA _ _).trans (hb1.mono (hA _ _).size)
  clear hb1 hA
  go_wp2_with fail
  go_ret
  exact ⟨rfl, HB.out⟩

end Go.Proofs.YtaaioaocjfpajaaGreatDoor.Tlv
end

section
/-
  Records as a whole: made, loaded, stored; the statements' Own and Back; which are the same.
-/
namespace Go.Proofs.YtaaioaocjfpajaaGreatDoor
open Go.RowKit
open Tlv (Tr BySlS AgreeS Agree)
open Crc (hid Kept Tab)

section
variable {P : Program}
theorem results_cell_mid {fn : Func} {p : Tmp} {ty : TypeId} (h : fn.results = #[.cell p ty]) (tmps : Array Value) (w : World) (g o : Nat) (cs : List Value) (d : TypeDesc)
    (hp : tmps.getD p undef = .pointer (some ⟨g, o, none⟩)) (hc : w.rangeAt g o cs)
    (hu : P.underlying ty = some d) (hd : d.isRow = true) (hi : (P.info? ty).map (·.size) = some cs.length) :
    (results fn tmps).run P w = .ok (.agg cs.toArray) w := by
  have hp' : tmps[p]?.getD undef = .pointer (some ⟨g, o, none⟩) := by simpa using hp
  simp [results, h, hp', asAddr, run_loadVar_mid w g o ty cs d hc hu hd hi]
theorem results_cell_mid2 {fn : Func} {p u : Tmp} {ty : TypeId} (h : fn.results = #[.cell p ty, .tmp u]) (tmps : Array Value) (w : World) (g o : Nat) (cs : List Value) (d : TypeDesc)
    (hp : tmps.getD p undef = .pointer (some ⟨g, o, none⟩)) (hc : w.rangeAt g o cs)
    (hu : P.underlying ty = some d) (hd : d.isRow = true) (hi : (P.info? ty).map (·.size) = some cs.length) :
    (results fn tmps).run P w = .ok (.tuple #[.agg cs.toArray, tmps.getD u undef]) w := by
  have hp' : tmps[p]?.getD undef = .pointer (some ⟨g, o, none⟩) := by simpa using hp
  rw [results_cell_tmp h]
  simp [hp', asAddr, run_loadVar_mid w g o ty cs d hc hu hd hi]
theorem results_cell_mid3 {fn : Func} {p u z : Tmp} {ty : TypeId} (h : fn.results = #[.cell p ty, .tmp u, .tmp z]) (tmps : Array Value) (w : World) (g o : Nat) (cs : List Value) (d : TypeDesc)
    (hp : tmps.getD p undef = .pointer (some ⟨g, o, none⟩)) (hc : w.rangeAt g o cs)
    (hu : P.underlying ty = some d) (hd : d.isRow = true) (hi : (P.info? ty).map (·.size) = some cs.length) :
    (results fn tmps).run P w = .ok (.tuple #[.agg cs.toArray, tmps.getD u undef, tmps.getD z undef]) w := by
  have hp' : tmps[p]?.getD undef = .pointer (some ⟨g, o, none⟩) := by simpa using hp
  simp only [results, h]
  simp [Result.andThen, hp', asAddr, run_loadVar_mid w g o ty cs d hc hu hd hi]
end

theorem there_of_block {w : World} {g : Nat} {cs : Array Value} {t : TypeId} (h : w.heap[g]? = some (.cells cs t (0, 0))) (o n : Nat) (hn : o + n ≤ cs.size) : w.there g o n := fun j hj => by
  have hlt : o + j < cs.size := by omega
  rw [cell_of_row w g (o + j) cs t (0, 0) h, frozen_of_row w g _ cs t h]
  exact ⟨by simp [hlt], rfl⟩

theorem range_new (w : World) (C : List Value) (ty : TypeId) : (w.alloc (.cells C.toArray ty)).rangeAt w.heap.size 0 C := fun j v hv => by
  rw [Nat.zero_add, World.cell?_alloc_at _ _ _ _ rfl]
  simpa using hv
theorem there_new (w : World) (C : List Value) (ty : TypeId) : (w.alloc (.cells C.toArray ty)).there w.heap.size 0 C.length := there_of_block (heap_alloc_new _ _) 0 C.length (by simp)

theorem rangeAt_below {B : Nat} {w w' : World} {g o : Nat} {C : List Value} (h : w.rangeAt g o C) (hb : Below B w w') (hg : g < B) : w'.rangeAt g o C := fun j v hv => (hb.cell (p := ⟨g, o + j, none⟩) hg).trans (h j v hv)
theorem there_below {B : Nat} {w w' : World} {g o n : Nat} (h : w.there g o n) (hb : Below B w w') (hg : g < B) : w'.there g o n := fun j hj => by
  rw [hb.cell (p := ⟨g, o + j, none⟩) hg, hb.frozen (p := ⟨g, o + j, none⟩) hg]
  exact h j hj
theorem rangeAt_kept {b : Nat} {w w' : World} {g o : Nat} {C : List Value} (h : w.rangeAt g o C) (hk : Kept b w w') (hg : g < w.heap.size) (hb : g ≠ b) : w'.rangeAt g o C := fun j v hv => (hk.cell (p := ⟨g, o + j, none⟩) hg hb).trans (h j v hv)
theorem there_kept {b : Nat} {w w' : World} {g o n : Nat} (h : w.there g o n) (hk : Kept b w w') (hg : g < w.heap.size) (hb : g ≠ b) : w'.there g o n := fun j hj => by
  rw [hk.cell (p := ⟨g, o + j, none⟩) hg hb, hk.frozen (p := ⟨g, o + j, none⟩) hg hb]
  exact h j hj

/-- The part of a record that is its name. -/
theorem rangeAt_name {w : World} {g o : Nat} {k : Int} {nm : List Int} {v : Value} (h : w.rangeAt g o (recA k nm v)) : w.rangeAt g (o + 1) (u8s nm) := fun j u hj => by
  have hlt := (List.getElem?_eq_some_iff.1 hj).1
  have := h (1 + j) u (by rw [recA, Nat.add_comm, List.getElem?_cons_succ, List.getElem?_append_left hlt]; exact hj)
  rw [← this]
  congr 2
  omega

theorem setCells_below {B g : Nat} (h : B ≤ g) (w : World) (o : Nat) (cs : List Value) : Below B w (w.setCells g o cs) := by
  induction cs generalizing w o with
  | nil => exact Below.refl _ _
  | cons c cs ih => rw [World.setCells]; exact ((Below.refl B w).setCell (p := ⟨g, o, none⟩) h c).trans (ih _ _)
theorem setCells_size (w : World) (g o : Nat) (cs : List Value) : (w.setCells g o cs).heap.size = w.heap.size := by
  induction cs generalizing w o with
  | nil => rfl
  | cons c cs ih => rw [World.setCells, ih]; simp

/-- A record of no kind, no name, no body. -/
def zRec : List Value := recA 0 (List.replicate 32 0) (.slice none 0 0)
theorem zRec_length : zRec.length = 34 := rfl
theorem zRec_one : ∀ v ∈ zRec, v.oneCell' = true := recA_one _ _ _ _ _
theorem zero35 (w : World) : (zeroValue 56).run Tryz.prog w = .ok (.agg zRec.toArray) w := by kernel_rfl
theorem zero26 (w : World) : (zeroValue 68).run Tryz.prog w = .ok (.agg zRec.toArray) w := by kernel_rfl

theorem ex32 {nm : List Int} (h : nm.length = 32) : ∃ x0 x1 x2 x3 x4 x5 x6 x7 x8 x9 x10 x11 x12 x13 x14 x15 x16 x17 x18 x19 x20 x21 x22 x23 x24 x25 x26 x27 x28 x29 x30 x31,
    nm = [x0, x1, x2, x3, x4, x5, x6, x7, x8, x9, x10, x11, x12, x13, x14, x15, x16, x17, x18, x19, x20, x21, x22, x23, x24, x25, x26, x27, x28, x29, x30, x31] := by
  match nm, h with
  | [x0, x1, x2, x3, x4, x5, x6, x7, x8, x9, x10, x11, x12, x13, x14, x15, x16, x17, x18, x19, x20, x21, x22, x23, x24, x25, x26, x27, x28, x29, x30, x31], _ => exact ⟨_, _, _, _, _, _, _, _, _, _, _, _, _, _, _, _, _, _, _, _, _, _, _, _, _, _, _, _, _, _, _, _, rfl⟩

theorem built35 (k : Int) (nm : List Int) (h : nm.length = 32) (a : Option Addr) (l c : Nat) : Tryz.prog.built 56 [(0, .int .i64 k), (1, .agg (u8s nm).toArray), (2, .slice a l c)] = some (recA k nm (.slice a l c)).toArray := by
  obtain ⟨x0, x1, x2, x3, x4, x5, x6, x7, x8, x9, x10, x11, x12, x13, x14, x15, x16, x17, x18, x19, x20, x21, x22, x23, x24, x25, x26, x27, x28, x29, x30, x31, rfl⟩ := ex32 h
  kernel_rfl
theorem built26 (k : Int) (nm : List Int) (h : nm.length = 32) (a : Option Addr) (l c : Nat) : Tryz.prog.built 68 [(0, .int .i64 k), (1, .agg (u8s nm).toArray), (2, .slice a l c)] = some (recA k nm (.slice a l c)).toArray := by
  obtain ⟨x0, x1, x2, x3, x4, x5, x6, x7, x8, x9, x10, x11, x12, x13, x14, x15, x16, x17, x18, x19, x20, x21, x22, x23, x24, x25, x26, x27, x28, x29, x30, x31, rfl⟩ := ex32 h
  kernel_rfl

theorem wpList_build3 {ops : Array Oper} {rest : List Oper} {o : Oper} {a : Act} {w : World} {Q : Exit → Act → World → Prop} (hg : o.guard = none) (ty : TypeId) (x y z : Operand) (ho : o.op = .build ty #[(0, x), (1, y), (2, z)])
    (vx vy vz : Value) (hx : a.eval x = vx) (hy : a.eval y = vy) (hz : a.eval z = vz) (C : Array Value) (hb : Tryz.prog.built ty [(0, vx), (1, vy), (2, vz)] = some C)
    (h : wpList Tryz.prog ops Q rest (a.put o.dst (.agg C)) w) : wpList Tryz.prog ops Q (o :: rest) a w := by
  have e : Tryz.prog.built ty ((#[(0, x), (1, y), (2, z)] : Array (Nat × Operand)).map fun (i, x) => (i, a.eval x)).toList = some C := by
    rw [← hb]
    simp only [List.map_toArray, List.map_cons, List.map_nil, hx, hy, hz]
  refine wpList_build hg ty _ ho (by rw [e]; rfl) ?_
  rw [e]
  exact h

set_option maxHeartbeats 1000000 in
set_option maxRecDepth 100000 in
/-- Own. -/
theorem own11_any (k : Int) (nm : List Int) (a : Option Addr) (l c : Nat) (w : World) (hn : nm.length = 32) :
    Calls Tryz.prog 31 #[.agg (recA k nm (.slice a l c)).toArray] w fun e w' => e = .returned (.agg (recA k nm (.slice a l c)).toArray) ∧ Below w.heap.size w w' := by
  have hc0 := recA_0 k nm (.slice a l c)
  have hc33 := recA_33 k nm (.slice a l c) hn
  have HL := hid (recA_length k nm (.slice a l c) hn)
  have HO := hid (recA_one k nm a l c)
  have HB := hid (built35 k nm hn a l c)
  have HN := hid hn
  have hz := zero35
  clear hn
  obtain ⟨C, hC⟩ : ∃ C, recA k nm (.slice a l c) = C := ⟨_, rfl⟩
  have HC := hid hC
  rw [hC] at hc0 hc33 HL HO HB
  rw [hC]
  clear hC
  obtain ⟨Z, hZ⟩ : ∃ Z, zRec = Z := ⟨_, rfl⟩
  have HZL : Hid (Z.length = 34) := by rw [← hZ]; exact zRec_length
  rw [hZ] at hz
  clear hZ
  have HR := hid (range_new w C 68)
  have HT : Hid (World.there ((w.alloc (.cells C.toArray 68)).alloc (.cells Z.toArray 56)) (w.heap.size + 1) 0 C.toArray.size) := by
    have h := there_new (w.alloc (.cells C.toArray 68)) Z 56
    have e : C.toArray.size = 34 := by rw [List.size_toArray, HL.out]
    rw [Hid, e]
    rw [HZL.out] at h
    simpa using h
  have HI : Hid ((Tryz.prog.info? 56).map (·.size) = some C.length) := by rw [Hid, HL.out]; exact Tryz.info35
  have HI2 : Hid ((Tryz.prog.info? 56).map (·.size) = some C.toArray.size) := by rw [Hid, List.size_toArray, HL.out]; exact Tryz.info35
  have HI3 : Hid ((Tryz.prog.info? 53).map (·.size) = some (u8s nm).length) := by rw [Hid, u8s_length, HN.out]; kernel_rfl
  have H1 : Hid (C.toArray.all (·.oneCell') = true) := all_oneCell_toArray HO.out
  go_enter Tryz.func31, Tryz.ntmps31
  go_wp2_with (first
    | (refine wpList_load_mid (by rfl) 53 _ (by rfl) w.heap.size 1 (by rfl) (u8s nm) _ ?hc Tryz.underlying53 rfl HI3.out ?_; (case hc => exact rangeAt_name (k := k) (v := .slice a l c) (World.rangeAt_alloc (by rw [HC.out]; exact HR.out) _)))
    | (refine wpList_build3 (by rfl) 56 _ _ _ (by rfl) _ _ _ (by rfl) (by rfl) (by rfl) C.toArray HB.out ?_)
    | (refine wpList_store_mid (by rfl) 56 _ _ (by rfl) (w.heap.size + 1) 0 C.toArray (by rfl) (by rfl) ?ht HI2.out H1.out ?_; (case ht => exact HT.out)))
  have hr : World.rangeAt (((w.alloc (.cells C.toArray 68)).alloc (.cells Z.toArray 56)).setCells (w.heap.size + 1) 0 C) (w.heap.size + 1) 0 C := World.rangeAt_setCells_same _ _ _ _ HT.out
  refine bodyPost_ret (v := .agg C.toArray) ?_ rfl ⟨rfl, ?_⟩
  · exact results_cell_mid Tryz.results31 _ _ (w.heap.size + 1) 0 _ _ rfl hr Tryz.underlying56 rfl HI.out
  · exact (((Below.refl _ _).alloc (Nat.le_refl _) _).alloc (by simp) _).trans (setCells_below (by omega) _ _ _)

set_option maxHeartbeats 1000000 in
set_option maxRecDepth 100000 in
/-- Back. -/
theorem back23_any (k : Int) (nm : List Int) (a : Option Addr) (l c : Nat) (w : World) (hn : nm.length = 32) :
    Calls Tryz.prog 22 #[.agg (recA k nm (.slice a l c)).toArray] w fun e w' => e = .returned (.agg (recA k nm (.slice a l c)).toArray) ∧ Below w.heap.size w w' := by
  have hc0 := recA_0 k nm (.slice a l c)
  have hc33 := recA_33 k nm (.slice a l c) hn
  have HL := hid (recA_length k nm (.slice a l c) hn)
  have HO := hid (recA_one k nm a l c)
  have HB := hid (built26 k nm hn a l c)
  have HN := hid hn
  have hz := zero26
  clear hn
  obtain ⟨C, hC⟩ : ∃ C, recA k nm (.slice a l c) = C := ⟨_, rfl⟩
  have HC := hid hC
  rw [hC] at hc0 hc33 HL HO HB
  rw [hC]
  clear hC
  obtain ⟨Z, hZ⟩ : ∃ Z, zRec = Z := ⟨_, rfl⟩
  have HZL : Hid (Z.length = 34) := by rw [← hZ]; exact zRec_length
  rw [hZ] at hz
  clear hZ
  have HR := hid (range_new w C 56)
  have HT : Hid (World.there ((w.alloc (.cells C.toArray 56)).alloc (.cells Z.toArray 68)) (w.heap.size + 1) 0 C.toArray.size) := by
    have h := there_new (w.alloc (.cells C.toArray 56)) Z 68
    have e : C.toArray.size = 34 := by rw [List.size_toArray, HL.out]
    rw [Hid, e]
    rw [HZL.out] at h
    simpa using h
  have HI : Hid ((Tryz.prog.info? 68).map (·.size) = some C.length) := by rw [Hid, HL.out]; exact Tryz.info26
  have HI2 : Hid ((Tryz.prog.info? 68).map (·.size) = some C.toArray.size) := by rw [Hid, List.size_toArray, HL.out]; exact Tryz.info26
  have HI3 : Hid ((Tryz.prog.info? 53).map (·.size) = some (u8s nm).length) := by rw [Hid, u8s_length, HN.out]; kernel_rfl
  have H1 : Hid (C.toArray.all (·.oneCell') = true) := all_oneCell_toArray HO.out
  go_enter Tryz.func22, Tryz.ntmps22
  go_wp2_with (first
    | (refine wpList_load_mid (by rfl) 53 _ (by rfl) w.heap.size 1 (by rfl) (u8s nm) _ ?hc Tryz.underlying53 rfl HI3.out ?_; (case hc => exact rangeAt_name (k := k) (v := .slice a l c) (World.rangeAt_alloc (by rw [HC.out]; exact HR.out) _)))
    | (refine wpList_build3 (by rfl) 68 _ _ _ (by rfl) _ _ _ (by rfl) (by rfl) (by rfl) C.toArray HB.out ?_)
    | (refine wpList_store_mid (by rfl) 68 _ _ (by rfl) (w.heap.size + 1) 0 C.toArray (by rfl) (by rfl) ?ht HI2.out H1.out ?_; (case ht => exact HT.out)))
  have hr : World.rangeAt (((w.alloc (.cells C.toArray 56)).alloc (.cells Z.toArray 68)).setCells (w.heap.size + 1) 0 C) (w.heap.size + 1) 0 C := World.rangeAt_setCells_same _ _ _ _ HT.out
  refine bodyPost_ret (v := .agg C.toArray) ?_ rfl ⟨rfl, ?_⟩
  · exact results_cell_mid Tryz.results22 _ _ (w.heap.size + 1) 0 _ _ rfl hr Tryz.underlying68 rfl HI.out
  · exact (((Below.refl _ _).alloc (Nat.le_refl _) _).alloc (by simp) _).trans (setCells_below (by omega) _ _ _)

end Go.Proofs.YtaaioaocjfpajaaGreatDoor
end

section
/-
  Which records are the same: the program's answer, and the reference's.
-/
namespace Go.Proofs.YtaaioaocjfpajaaGreatDoor
open Go.RowKit
open Tlv (Tr BySlS AgreeS Agree)
open Crc (hid Kept Tab)

theorem wpList_bare {P : Program} {ops : Array Oper} {Q : Exit → Act → World → Prop} {a : Act} {w : World} {rest : List Oper} {dst : Option Tmp} {op : Op} {type : TypeId} {pos : String} {after : Array Edge} {g : Option (Nat × Bool)}
    (hw : Region.wanted ⟨dst, op, type, pos, after, g⟩ (yielded ops a.tmps) = true) (h : wpList P ops Q (⟨dst, op, type, pos, after, none⟩ :: rest) a w) : wpList P ops Q (⟨dst, op, type, pos, after, g⟩ :: rest) a w := by
  unfold wpList at h ⊢
  rw [if_pos hw]
  rw [if_pos (by rfl)] at h
  exact h

theorem cells_u8s (l : List Int) (h : ∀ x ∈ l, 0 ≤ x ∧ x ≤ 255) : (l.map fun x => x.toNat.toUInt8).map Extern.Stop.cell = u8s l := by
  unfold u8s
  rw [List.map_map]
  apply List.map_congr_left
  intro x hx
  have := h x hx
  simp [Extern.Stop.cell]
  omega
theorem map_inj : ∀ (xs ys : List Int), (∀ x ∈ xs, 0 ≤ x ∧ x ≤ 255) → (∀ x ∈ ys, 0 ≤ x ∧ x ≤ 255) → (xs.map fun x => x.toNat.toUInt8) = (ys.map fun x => x.toNat.toUInt8) → xs = ys
  | [], [], _, _, _ => rfl
  | [], _ :: _, _, _, h => by simp at h
  | _ :: _, [], _, _, h => by simp at h
  | x :: xs, y :: ys, h1, h2, h => by
    simp only [List.map_cons, List.cons.injEq] at h
    have hx := h1 x (by simp)
    have hy := h2 y (by simp)
    have e := congrArg UInt8.toNat h.1
    simp at e
    have e2 : x = y := by omega
    rw [e2, map_inj xs ys (fun z hz => h1 z (by simp [hz])) (fun z hz => h2 z (by simp [hz])) h.2]

/-- Two names. -/
theorem eqName (xs ys : List Int) (hx : xs.length = 32) (hy : ys.length = 32) (bx : ∀ x ∈ xs, 0 ≤ x ∧ x ≤ 255) (bY : ∀ x ∈ ys, 0 ≤ x ∧ x ≤ 255) (w : World) :
    (Op.equalIn 10000 53 (.agg (u8s xs).toArray) (.agg (u8s ys).toArray)).run Tryz.prog w = .ok (decide (xs = ys)) w := by
  have h := run_equalIn_bytes (P := Tryz.prog) w 9998 53 5 32 Tryz.underlying53 Tryz.underlying5 Tryz.sizeOf5 (xs.map fun x => x.toNat.toUInt8) (ys.map fun x => x.toNat.toUInt8) (by simpa using hx) (by simpa using hy)
  rw [cells_u8s xs bx, cells_u8s ys bY] at h
  have e : ((xs.map fun x => x.toNat.toUInt8) == (ys.map fun x => x.toNat.toUInt8)) = decide (xs = ys) := by
    rw [Bool.eq_iff_iff]
    simp only [beq_iff_eq, decide_eq_true_eq]
    exact ⟨map_inj xs ys bx bY, fun e => by rw [e]⟩
  rw [e] at h
  exact h

/-- Records are the same. -/
def sameR (k k' : Int) (nm nm' bs bs' : List Int) : Bool := decide (k = k') && (decide (nm = nm') && decide (bs = bs'))

set_option maxHeartbeats 2000000 in
set_option maxRecDepth 100000 in
/-- The reference's Same. -/
theorem same18_any (k k' : Int) (nm nm' bs bs' : List Int) (v v' : Value) (w : World) (hn : nm.length = 32) (hn' : nm'.length = 32) (hx : ∀ x ∈ nm, 0 ≤ x ∧ x ≤ 255) (hx' : ∀ x ∈ nm', 0 ≤ x ∧ x ≤ 255)
    (hb : Tlv.BySl 0 w.heap.size w v bs) (hb' : Tlv.BySl 0 w.heap.size w v' bs') :
    Calls Tryz.prog 21 #[.agg (recA k nm v).toArray, .agg (recA k' nm' v').toArray] w fun e w' => e = .returned (.bool (sameR k k' nm nm' bs bs')) ∧ Below w.heap.size w w' := by
  obtain ⟨a, cap, rfl, hr⟩ := id hb
  obtain ⟨a', cap', rfl, hr'⟩ := id hb'
  clear hr hr'
  have HB := hid hb
  have HB' := hid hb'
  have hc0 := recA_0 k nm (.slice a bs.length cap)
  have hc33 := recA_33 k nm (.slice a bs.length cap) hn
  have hd0 := recA_0 k' nm' (.slice a' bs'.length cap')
  have hd33 := recA_33 k' nm' (.slice a' bs'.length cap') hn'
  have HE := hid (fun w => eqName nm nm' hn hn' hx hx' w)
  have HI : Hid ((Tryz.prog.info? 53).map (·.size) = some (u8s nm).length) := by rw [Hid, u8s_length, hn]; kernel_rfl
  have HI' : Hid ((Tryz.prog.info? 53).map (·.size) = some (u8s nm').length) := by rw [Hid, u8s_length, hn']; kernel_rfl
  clear hb hb' hn hn' hx hx'
  obtain ⟨C, hC⟩ : ∃ C, recA k nm (.slice a bs.length cap) = C := ⟨_, rfl⟩
  obtain ⟨D, hD⟩ : ∃ D, recA k' nm' (.slice a' bs'.length cap') = D := ⟨_, rfl⟩
  rw [hC] at hc0 hc33
  rw [hD] at hd0 hd33
  rw [hC, hD]
  have HC := hid hC
  have HD := hid hD
  clear hC hD
  have HR := hid (range_new w C 68)
  have HRD := hid (range_new (w.alloc (.cells C.toArray 68)) D 68)
  have hbel : Below w.heap.size w ((w.alloc (.cells C.toArray 68)).alloc (.cells D.toArray 68)) := ((Below.refl _ _).alloc (Nat.le_refl _) _).alloc (by simp) _
  have HBL := hid hbel
  clear hbel
  by_cases hk : k = k'
  · have HK := hid hk
    have hkb : (k == k') = true := by simpa using hk
    clear hk
    obtain ⟨b1, hb1⟩ : ∃ b1, decide (nm = nm') = b1 := ⟨_, rfl⟩
    rw [hb1] at HE
    have heq := HE.out
    have HB1 := hid hb1
    clear hb1 HE
    cases b1 with
    | false =>
      go_enter Tryz.func21, Tryz.ntmps21
      go_wp2_with (refine wpList_bare (by rfl) ?_; first
        | (refine wpList_load_mid (by rfl) 53 _ (by rfl) w.heap.size 1 (by rfl) (u8s nm) _ ?hc Tryz.underlying53 rfl HI.out ?_; (case hc => exact rangeAt_name (k := k) (v := .slice a bs.length cap) (World.rangeAt_alloc (by rw [HC.out]; exact HR.out) _)))
        | (refine wpList_load_mid (by rfl) 53 _ (by rfl) (w.heap.size + 1) 1 (by rfl) (u8s nm') _ ?hc Tryz.underlying53 rfl HI'.out ?_; (case hc => exact rangeAt_name (k := k') (v := .slice a' bs'.length cap') (by rw [HD.out]; simpa using HRD.out))))
      go_ret
      refine ⟨?_, HBL.out⟩
      have h1 := HB1.out
      rw [sameR, h1]
      simp
    | true =>
      go_enter Tryz.func21, Tryz.ntmps21
      go_wp2_with (refine wpList_bare (by rfl) ?_; first
        | (refine wpList_load_mid (by rfl) 53 _ (by rfl) w.heap.size 1 (by rfl) (u8s nm) _ ?hc Tryz.underlying53 rfl HI.out ?_; (case hc => exact rangeAt_name (k := k) (v := .slice a bs.length cap) (World.rangeAt_alloc (by rw [HC.out]; exact HR.out) _)))
        | (refine wpList_load_mid (by rfl) 53 _ (by rfl) (w.heap.size + 1) 1 (by rfl) (u8s nm') _ ?hc Tryz.underlying53 rfl HI'.out ?_; (case hc => exact rangeAt_name (k := k') (v := .slice a' bs'.length cap') (by rw [HD.out]; simpa using HRD.out))))
      refine (Tlv.refBytes_any _ _ bs bs' _ (bySl_lift HB.out HBL.out) (bySl_lift HB'.out HBL.out)).mono ?_
      rintro e w1 ⟨rfl, hw1⟩
      have HW1 := hid hw1
      clear hw1
      generalize hdd : decide (bs = bs') = b2
      have HDD := hid hdd
      clear hdd
      go_wp2_with fail
      go_ret
      refine ⟨?_, HBL.out.trans (HW1.out.mono (by simp; omega))⟩
      have h1 := HB1.out
      have h2 := HDD.out
      have h3 := HK.out
      rw [sameR, h1, h2, h3]
      simp
  · have hkb : (k == k') = false := by simpa using hk
    have HK := hid hk
    clear hk HE
    go_enter Tryz.func21, Tryz.ntmps21
    go_wp2_with fail
    go_ret
    refine ⟨?_, HBL.out⟩
    rw [sameR, decide_eq_false HK.out]
    rfl

end Go.Proofs.YtaaioaocjfpajaaGreatDoor
end

section
/-
  What Size and Put answer.
-/
namespace Go.Proofs.YtaaioaocjfpajaaGreatDoor
open Go.RowKit
open Tlv (Tr BySlS AgreeS Agree)
open Crc (hid Kept Tab)

/-- A table at b, its rows filled or not. -/
def TabX (w : World) (b : Nat) : Prop := ∃ f n, (f = 0 ∨ f = 1) ∧ Tab w b f n
theorem TabX.below {w w' : World} {b : Nat} (h : TabX w b) (k : Below w.heap.size w w') : TabX w' b := by
  obtain ⟨f, n, hf, ht⟩ := h
  exact ⟨f, n, hf, ht.below k⟩
theorem TabX.lt {w : World} {b : Nat} (h : TabX w b) : b < w.heap.size := by
  obtain ⟨f, n, hf, ht⟩ := h
  exact ht.1
theorem TabX.of {b : Nat} {n : Int} {w : World} (h : Tab w b 1 n) : TabX w b := ⟨1, n, .inr rfl, h⟩

theorem toCrc {S : Nat → Prop} {b : Nat} {w : World} {v : Value} {xs : List Int} (h : BySlS S w v xs) (hS : ∀ g, S g → g ≠ b ∧ g < w.heap.size) : Crc.BySl b w v (nats xs) := by
  obtain ⟨a, cap, rfl, h2, h3, h4, h5, h6, h7⟩ := h
  refine ⟨a, cap, by rw [nats_length], by rw [nats_length]; exact h2, h3, fun e => ⟨by rw [(h4 e).1]; rfl, (h4 e).2⟩, by rw [nats_length]; exact h5, nats_lt _ h6, fun hne => ?_⟩
  have hne' : xs ≠ [] := fun e => hne (by rw [e]; rfl)
  obtain ⟨g, o, e, hg, hc⟩ := h7 hne'
  refine ⟨g, o, e, (hS g hg).1, (hS g hg).2, fun i hi => ?_⟩
  rw [nats_length] at hi
  rw [hc i hi]
  have hx := h6 (xs.getD i 0) (by rw [List.getD_eq_getElem?_getD, List.getElem?_eq_getElem hi]; simp)
  simp only [nats, List.getD_eq_getElem?_getD, List.getElem?_map, List.getElem?_eq_getElem hi, Option.map_some, Option.getD_some] at hx ⊢
  congr 2
  omega

theorem BySlS.mono {S S' : Nat → Prop} {w : World} {v : Value} {xs : List Int} (h : BySlS S w v xs) (hS : ∀ g, S g → S' g) : BySlS S' w v xs := h.agree (fun _ _ => rfl) hS
theorem BySlS.kept {b : Nat} {S : Nat → Prop} {w w' : World} {v : Value} {xs : List Int} (h : BySlS S w v xs) (k : Kept b w w') (hS : ∀ g, S g → g ≠ b ∧ g < w.heap.size) : BySlS S w' v xs := h.agree (fun g hg => k.block g (hS g hg).2 (hS g hg).1) (fun _ h => h)
theorem BySlS.below {B : Nat} {S : Nat → Prop} {w w' : World} {v : Value} {xs : List Int} (h : BySlS S w v xs) (k : Below B w w') (hS : ∀ g, S g → g < B) : BySlS S w' v xs := h.agree (fun g hg => k.block g (hS g hg)) (fun _ h => h)

theorem rightB_of {k : Int} {nm bs : List Int} (h : RightR k nm bs) : rightB k bs.length = true := by
  obtain ⟨h1, h2, h3, _⟩ := h
  simp [rightB]; omega
theorem right_of {k : Int} {nm bs : List Int} (h : rightB k bs.length = true) (hn : nm.length = 32) (hx : ∀ x ∈ nm, 0 ≤ x ∧ x ≤ 255) (hy : ∀ x ∈ bs, 0 ≤ x ∧ x ≤ 255) : RightR k nm bs := by
  simp [rightB] at h
  exact ⟨by omega, by omega, by omega, hn, hx, hy⟩

set_option maxHeartbeats 1000000 in
set_option maxRecDepth 100000 in
theorem size_yes (k : Int) (nm bs : List Int) (v : Value) (w : World) (hb : Tlv.BySl 0 w.heap.size w v bs) (hR : RightR k nm bs) :
    Calls Tryz.prog 44 #[.agg (recA k nm v).toArray] w fun e w' => e = .returned (.int .i64 ((49 + bs.length : Nat) : Int)) ∧ Below w.heap.size w w' := by
  obtain ⟨a, cap, rfl, hr⟩ := id hb
  clear hr
  have HB := hid hb
  have hn := hR.2.2.2.1
  have HC0 := hid (recA_0 k nm (.slice a bs.length cap))
  have HC33 := hid (recA_33 k nm (.slice a bs.length cap) hn)
  have HL := hid (recA_length k nm (.slice a bs.length cap) hn)
  have HRR := hid hR
  have HSZ := hid (szT_rec hR)
  have hl5 := hR.2.2.1
  clear hR hb
  have HV := hid (value_any k nm bs (.slice a bs.length cap))
  obtain ⟨C, hC⟩ : ∃ C, recA k nm (.slice a bs.length cap) = C := ⟨_, rfl⟩
  rw [hC] at HC0 HC33 HL HV
  rw [hC]
  clear hC hn
  have HR := hid (range_new w C 56)
  have HI : Hid ((Tryz.prog.info? 56).map (·.size) = some C.length) := by rw [Hid, HL.out]; exact Tryz.info35
  go_enter Tryz.func44, Tryz.ntmps44
  go_wp2_with (refine wpList_load_mid (by rfl) 56 _ (by rfl) w.heap.size 0 (by rfl) C _ ?hc Tryz.underlying56 rfl HI.out ?_; (case hc => exact HR.out))
  refine (right13_any C k _ _ _ _ HC0.out HC33.out).mono ?_
  rintro e w1 ⟨rfl, hb1⟩
  rw [rightB_of HRR.out]
  have HB1 : Hid (Below w.heap.size w w1) := ((Below.refl _ _).alloc (Nat.le_refl _) _).trans (hb1.mono (by simp))
  have HR1 := hid (rangeAt_below HR.out hb1 (by simp))
  clear hb1
  go_wp2_with (refine wpList_load_mid (by rfl) 56 _ (by rfl) w.heap.size 0 (by rfl) C _ ?hc Tryz.underlying56 rfl HI.out ?_; (case hc => exact HR1.out))
  refine (HV.out w1 HRR.out.1 HRR.out.2.1 HRR.out.2.2.2.1 HRR.out.2.2.2.2.1 (HB.out.agree (Agree.below HB1.out) (Nat.le_refl _) HB1.out.size)).mono ?_
  rintro e w2 ⟨sb, sk, rfl, hr2, hb2⟩
  have HR2 := hid hr2
  have HB2 := hid hb2
  clear hr2 hb2
  go_wp2_with fail
  refine (Tlv.size_any (recT k nm bs) sb sk _ (HR2.out.agree (Agree.refl _ _ _) (Nat.zero_le _) (Nat.le_refl _))).mono ?_
  rintro e w3 ⟨rfl, hb3⟩
  rw [HSZ.out]
  have HB3 := hid hb3
  clear hb3
  go_wp2_with fail
  go_ret
  refine ⟨congrArg (fun x => Ending.returned (Value.int .i64 x)) ?_, (HB1.out.trans (HB2.out.mono HB1.out.size)).trans (HB3.out.mono (Nat.le_trans HB1.out.size HB2.out.size))⟩
  simp
  omega

set_option maxHeartbeats 1000000 in
set_option maxRecDepth 100000 in
theorem put_no (ad : Addr) (k : Int) (nm bs : List Int) (a : Option Addr) (cap : Nat) (w : World) (hn : nm.length = 32) (hR : rightB k bs.length = false) :
    Calls Tryz.prog 105 #[.pointer (some ad), .agg (recA k nm (.slice a bs.length cap)).toArray] w fun e w' => e = .returned (.tuple #[.slice none 0 0, .int .i64 1]) ∧ Below w.heap.size w w' := by
  have HC0 := hid (recA_0 k nm (.slice a bs.length cap))
  have HC33 := hid (recA_33 k nm (.slice a bs.length cap) hn)
  have HL := hid (recA_length k nm (.slice a bs.length cap) hn)
  have HRR := hid hR
  clear hR
  obtain ⟨C, hC⟩ : ∃ C, recA k nm (.slice a bs.length cap) = C := ⟨_, rfl⟩
  rw [hC] at HC0 HC33 HL
  rw [hC]
  clear hC hn
  have HR := hid (range_new w C 56)
  have HI : Hid ((Tryz.prog.info? 56).map (·.size) = some C.length) := by rw [Hid, HL.out]; exact Tryz.info35
  go_enter Tryz.func105, Tryz.ntmps105
  go_wp2_with (refine wpList_load_mid (by rfl) 56 _ (by rfl) w.heap.size 0 (by rfl) C _ ?hc Tryz.underlying56 rfl HI.out ?_; (case hc => exact HR.out))
  refine (right13_any C k _ _ _ _ HC0.out HC33.out).mono ?_
  rintro e w1 ⟨rfl, hb1⟩
  rw [HRR.out]
  have HB1 : Hid (Below w.heap.size w w1) := ((Below.refl _ _).alloc (Nat.le_refl _) _).trans (hb1.mono (by simp))
  clear hb1
  go_wp2_with fail
  go_ret2
  exact ⟨rfl, HB1.out⟩

set_option maxHeartbeats 2000000 in
set_option maxRecDepth 100000 in
theorem put_yes (b : Nat) (k : Int) (nm bs : List Int) (v : Value) (w : World) (hT : TabX w b) (hb : Tlv.BySl 0 w.heap.size w v bs) (hR : RightR k nm bs) :
    Calls Tryz.prog 105 #[.pointer (some ⟨b, 0, none⟩), .agg (recA k nm v).toArray] w fun e w' => ∃ v', e = .returned (.tuple #[v', .int .i64 0]) ∧ Crc.Own w' w.heap.size v' (nats (frameR k nm bs)) ∧ Kept b w w' ∧ TabX w' b := by
  obtain ⟨a, cap, rfl, hr⟩ := id hb
  clear hr
  have HB := hid hb
  have hn := hR.2.2.2.1
  have HC0 := hid (recA_0 k nm (.slice a bs.length cap))
  have HC33 := hid (recA_33 k nm (.slice a bs.length cap) hn)
  have HL := hid (recA_length k nm (.slice a bs.length cap) hn)
  have HRR := hid hR
  have HSZ := hid (szT_rec hR)
  have HFL := hid (formR_length hR)
  have HT := hid hT
  have hbw := hT.lt
  clear hR hb hT
  have HV := hid (value_any k nm bs (.slice a bs.length cap))
  obtain ⟨C, hC⟩ : ∃ C, recA k nm (.slice a bs.length cap) = C := ⟨_, rfl⟩
  rw [hC] at HC0 HC33 HL HV
  rw [hC]
  clear hC hn
  have HR := hid (range_new w C 56)
  have HI : Hid ((Tryz.prog.info? 56).map (·.size) = some C.length) := by rw [Hid, HL.out]; exact Tryz.info35
  go_enter Tryz.func105, Tryz.ntmps105
  go_wp2_with (refine wpList_load_mid (by rfl) 56 _ (by rfl) w.heap.size 0 (by rfl) C _ ?hc Tryz.underlying56 rfl HI.out ?_; (case hc => exact HR.out))
  refine (right13_any C k _ _ _ _ HC0.out HC33.out).mono ?_
  rintro e w1 ⟨rfl, hb1⟩
  rw [rightB_of HRR.out]
  have HB1 : Hid (Below w.heap.size w w1) := ((Below.refl _ _).alloc (Nat.le_refl _) _).trans (hb1.mono (by simp))
  have HR1 := hid (rangeAt_below HR.out hb1 (by simp))
  clear hb1
  go_wp2_with (refine wpList_load_mid (by rfl) 56 _ (by rfl) w.heap.size 0 (by rfl) C _ ?hc Tryz.underlying56 rfl HI.out ?_; (case hc => exact HR1.out))
  refine (HV.out w1 HRR.out.1 HRR.out.2.1 HRR.out.2.2.2.1 HRR.out.2.2.2.2.1 (HB.out.agree (Agree.below HB1.out) (Nat.le_refl _) HB1.out.size)).mono ?_
  rintro e w2 ⟨sb, sk, rfl, hr2, hb2⟩
  have HR2 := hid hr2
  have HB2 : Hid (Below w.heap.size w w2) := HB1.out.trans (hb2.mono HB1.out.size)
  clear hr2 hb2
  go_wp2_with fail
  refine (Tlv.Put_yes (recT k nm bs) sb sk _ (HR2.out.agree (Agree.refl _ _ _) (Nat.zero_le _) (Nat.le_refl _)) (by rw [HSZ.out]; omega)).mono ?_
  rintro e w3 ⟨vf, rfl, hf3, hb3⟩
  obtain ⟨af, cf, rfl, hrf⟩ := id hf3
  clear hrf
  have HF3 := hid hf3
  have HB3 : Hid (Below w.heap.size w w3) := HB2.out.trans (hb3.mono HB2.out.size)
  have hz2 : w.heap.size ≤ w2.heap.size := HB2.out.size
  clear hf3 hb3
  go_wp2_with fail
  obtain ⟨f, n, hf, ht⟩ := (HT.out.below HB3.out)
  have hcf : Crc.BySl b w3 (.slice af (Tlv.formOf 2 (recT k nm bs)).length cf) (nats (formR k nm bs)) := toCrc HF3.out.toS (fun g hg => ⟨by omega, hg.2⟩)
  refine (Crc.seal_any b f n _ (nats (formR k nm bs)) _ hf ht hcf (by rw [nats_length, HFL.out]; have := HRR.out.2.2.1; omega)).mono ?_
  rintro e w4 ⟨v', rfl, ho, hk4, ht4⟩
  have HO := hid ho
  have HK4 := hid hk4
  have HT4 := hid ht4
  clear ho hk4 ht4 ht hcf hf
  go_wp2_with fail
  go_ret2
  refine ⟨v', rfl, ?_, (Kept.below HB3.out).trans HK4.out, TabX.of HT4.out⟩
  rw [frameR, sealI_nats]
  exact HO.out.mono HB3.out.size

end Go.Proofs.YtaaioaocjfpajaaGreatDoor
end

section
/-
  A pack is begun.
-/
namespace Go.Proofs.YtaaioaocjfpajaaGreatDoor
open Go.RowKit Go.Shelf
open Sim (hid Kp No PS Done Blk nm pCreate finds pBytes)

theorem TabX.kp {L : Nat → Prop} {w w' : World} {b : Nat} (h : TabX w b) (k : Kp L w w') (hb : ¬ L b) : TabX w' b := by
  have hlt := h.lt
  obtain ⟨f, n, hf, ht⟩ := h
  refine ⟨f, n, hf, ?_⟩
  obtain ⟨h1, h2, h3, h4, h5, h6, h7⟩ := ht
  have c : ∀ j, w'.cell? ⟨b, j, none⟩ = w.cell? ⟨b, j, none⟩ := fun j => k.cell (p := ⟨b, j, none⟩) hlt hb
  refine ⟨Nat.lt_of_lt_of_le h1 k.size, (c _).trans h2, (c _).trans h3, (c _).trans h4, fun j hj => ?_, fun e j hj => (c _).trans (h6 e j hj), fun j => (k.frozen (p := ⟨b, j, none⟩) hlt hb).trans (h7 j)⟩
  obtain ⟨x, hx⟩ := h5 j hj
  exact ⟨x, (c _).trans hx⟩
theorem kp_kept {b : Nat} {w w' : World} (k : Crc.Kept b w w') : Kp (fun x => x = b) w w' := ⟨k.os, k.tape, k.output, k.size, fun i hi hL => k.block i hi hL⟩
theorem sys_kept {P : Nat → Prop} {N b s : Nat} {w w' : World} {p : PS} (h : Sim.Sys P N w s p) (k : Crc.Kept b w w') (hb : ¬ P b) : Sim.Sys P N w' s p :=
  h.kp (kp_kept k) (fun x hx => by rw [hx]; exact hb)

/-- A writer's cells. -/
def wrC (s b : Nat) (i sz ct : Int) (cl : Bool) : List Value := [.pointer (some ⟨s, 0, none⟩), .pointer (some ⟨b, 0, none⟩), .int .i64 i, .int .i64 sz, .int .i64 ct, .bool cl]
def WrAt (w : World) (g s b : Nat) (i sz ct : Int) (cl : Bool) : Prop := Blk w g 166 (wrC s b i sz ct cl)

theorem name_le (p : ByteArray) (hp : p.size ≤ 100) (i : Nat) (h : i < 100) : (sortB p i).size ≤ 20000000 := by
  have := dec_small i h
  have e : (sortB p i).size = p.size + (Lib.decDigits i).length := by
    rw [sortB, ByteArray.size_append]
    rfl
  omega

set_option maxHeartbeats 1000000 in
theorem begin_any {P : Nat → Prop} {N : Nat} (w : World) (s b : Nat) (p : PS) (i : Nat) (h1 : 1 ≤ i) (h2 : i < 100) (h : Sim.Sys P N w s p) (hN : N + 1 ≤ 1000) :
    Calls Tryz.prog 53 #[.pointer (some ⟨s, 0, none⟩), .pointer (some ⟨b, 0, none⟩), .int .i64 (i : Int)] w fun e w' =>
      (finds p (nm (nameP i)) = 0 ∧ e = .returned (.tuple #[.pointer none, .int .i64 6]) ∧ Kp No w w') ∨
      (finds p (nm (nameP i)) ≠ 0 ∧ ∃ x, p.files x = none ∧
        (((pCreate (nm (nameT i)) x p).1 ≠ 0 ∧ e = .returned (.tuple #[.pointer none, .int .i64 ((pCreate (nm (nameT i)) x p).1 : Nat)]) ∧ Done P (N + 1) w w' s (pCreate (nm (nameT i)) x p).2) ∨
         ((pCreate (nm (nameT i)) x p).1 = 0 ∧ ∃ g P', e = .returned (.tuple #[.pointer (some ⟨g, 0, none⟩), .int .i64 0]) ∧ WrAt w' g s b i 0 0 false ∧ Sim.Sys P' (N + 1) w' s (pCreate (nm (nameT i)) x p).2 ∧ Kp P w w' ∧ (∀ x, P' x → P x ∨ w.heap.size ≤ x) ∧ ¬ P' g ∧ w.heap.size ≤ g))) := by
  have HID : Hid (∀ V, Calls Tryz.prog 57 #[.int .i64 (i : Int)] V fun e w' => e = .returned (.bool true) ∧ w' = V) := fun V => by
    have h := isID_any (i : Int) V
    rwa [show idB (i : Int) = true from by simp [idB]; omega] at h
  have HNM := hid (fun V => pname_small i h1 h2 V)
  have HTM := hid (fun V => ptemp_small i h1 h2 V)
  have HSZ := hid (Sim.size_any w s p (nameP i) (name_le _ (by decide) i h2) h)
  have HCR := hid (fun V (k : Kp No w V) => Sim.create_any V s p (nameT i) (name_le _ (by decide) i h2) (h.kept k) hN)
  generalize (pBytes (nm (nameP i)) p).length = ln at HSZ
  by_cases h0 : finds p (nm (nameP i)) = 0
  · rw [h0] at HSZ
    go_enter Tryz.func53, Tryz.ntmps53
    go_wp2_with (first
      | (go_at_call 57; refine (HID.out _).mono ?_; rintro e w1 ⟨rfl, h⟩; subst w1)
      | (go_at_call 13; refine (HNM.out _).mono ?_; rintro e w1 ⟨rfl, h⟩; subst w1)
      | (go_at_call 79; refine HSZ.out.mono ?_; rintro e w1 ⟨rfl, h⟩; have HK := hid h; clear h))
    go_ret2
    exact .inl ⟨h0, rfl, HK.out⟩
  · have HF := hid h0
    obtain ⟨F, hF⟩ : ∃ F, finds p (nm (nameP i)) = F := ⟨_, rfl⟩
    rw [hF] at HSZ h0
    have hF0 : ¬ ((F : Int) = 0) := by omega
    clear hF
    go_enter Tryz.func53, Tryz.ntmps53
    go_wp2_with (first
      | (go_at_call 57; refine (HID.out _).mono ?_; rintro e w1 ⟨rfl, h⟩; subst w1)
      | (go_at_call 13; refine (HNM.out _).mono ?_; rintro e w1 ⟨rfl, h⟩; subst w1)
      | (go_at_call 56; refine (HTM.out _).mono ?_; rintro e w2 ⟨rfl, h⟩; subst w2)
      | (go_at_call 79; refine HSZ.out.mono ?_; rintro e w1 ⟨rfl, h⟩; have HK := hid h; clear h))
    refine (HCR.out w1 HK.out).mono ?_
    rintro e w3 ⟨x, hx, rfl, P', hS, hKp, hP'⟩
    have HX := hid (And.intro hx (And.intro hS (And.intro hKp hP')))
    clear hx hS hKp hP'
    by_cases hc : (pCreate (nm (nameT i)) x p).1 = 0
    · have HC := hid hc
      rw [hc]
      clear hc
      go_wp2_with fail
      go_ret2
      obtain ⟨hx, hS, hKp, hP'⟩ := HX.out
      have hk0 := HK.out.size
      have hk1 := hKp.size
      refine .inr ⟨HF.out, x, hx, .inr ⟨HC.out, w3.heap.size, P', rfl, Blk.new w3 166 (wrC s b i 0 0 false), hS.kept ((Kp.refl _ _).alloc _), ?_, fun y hy => ?_, fun hy => ?_, by omega⟩⟩
      · exact (HK.out.ofNo.trans hKp (fun _ hx => .inl hx)).alloc _
      · rcases hP' y hy with h | h
        · exact .inl h
        · right; omega
      · have := hS.lt _ hy; omega
    · have HC := hid hc
      obtain ⟨G, hG⟩ : ∃ G, (pCreate (nm (nameT i)) x p).1 = G := ⟨_, rfl⟩
      have HG := hid hG
      rw [hG] at hc ⊢
      have hG0 : ¬ ((G : Int) = 0) := by omega
      clear hG
      go_wp2_with fail
      go_ret2
      obtain ⟨hx, hS, hKp, hP'⟩ := HX.out
      refine .inr ⟨HF.out, x, hx, .inl ⟨HC.out, by rw [HG.out]; rfl, Done.after ⟨P', hS, hKp, hP'⟩ HK.out⟩⟩
end Go.Proofs.YtaaioaocjfpajaaGreatDoor
end

section
/-
  What is said of no file system, no table, no writer.
-/
namespace Go.Proofs.YtaaioaocjfpajaaGreatDoor
open Go.RowKit Go.Shelf
open Sim (hid Kp No PS Done Blk nm pCreate finds pBytes)
theorem wrongW_any (w : World) (g s b : Nat) (i sz ct : Int) (cl : Bool) (h : WrAt w g s b i sz ct cl) : Calls Tryz.prog 83 #[.pointer (some ⟨g, 0, none⟩)] w fun e w' => e = .returned (.int .i64 (if cl then 13 else 0)) ∧ w' = w := by
  have c0 : w.cell? ⟨g, 0, none⟩ = some (.pointer (some ⟨s, 0, none⟩)) := h.cell 0
  have c5 : w.cell? ⟨g, 5, none⟩ = some (.bool cl) := h.cell 5
  clear h
  cases cl with
  | false =>
    go_enter Tryz.func83, Tryz.ntmps83
    go_wp2
    go_ret
    exact ⟨rfl, rfl⟩
  | true =>
    go_enter Tryz.func83, Tryz.ntmps83
    go_wp2
    go_ret
    exact ⟨rfl, rfl⟩
end Go.Proofs.YtaaioaocjfpajaaGreatDoor
end

section
/-
  The form that bytes begin with, cut out by its own head.
-/
namespace Go.Proofs.YtaaioaocjfpajaaGreatDoor
open Go.RowKit
open Tlv (Tr BySlS AgreeS Agree)
open Crc (hid Kept Tab)

theorem bySl_take {L B : Nat} {w : World} {a : Option Addr} {cap E : Nat} {xs : List Int} (h : Tlv.BySl L B w (.slice a xs.length cap) xs) (hE : E ≤ xs.length) : Tlv.BySl L B w (.slice a E cap) (xs.take E) := by
  obtain ⟨a', cap', e, h2, h3, h4, h5, h6, h7⟩ := h
  simp only [Value.slice.injEq, true_and] at e
  obtain ⟨rfl, rfl⟩ := e
  have hl : (xs.take E).length = E := by rw [List.length_take]; omega
  refine ⟨a, cap, by rw [hl], by rw [hl]; omega, h3, fun e => ⟨by rw [(h4 e).1]; simp, (h4 e).2⟩, by rw [hl]; omega, fun x hx => h6 x (List.mem_of_mem_take hx), fun hne => ?_⟩
  obtain ⟨b, o, e, hL, hB, hc⟩ := h7 (fun e => hne (by rw [e]; simp))
  refine ⟨b, o, e, hL, hB, fun i hi => ?_⟩
  rw [hl] at hi
  rw [hc i (by omega)]
  simp [List.getElem?_take_of_lt hi]

set_option maxHeartbeats 2000000 in
set_option maxRecDepth 100000 in
theorem first_any (v : Value) (xs : List Int) (w : World) (h : Tlv.BySl 0 w.heap.size w v xs) :
    Calls Tryz.prog 131 #[v] w fun e w' => ((Tlv.rd 8 xs = none ∧ ∃ x y a l c a' l' c' sz, e = .returned (.tuple #[.agg #[.int .i64 x, .int .u64 y, .slice a l c, .slice a' l' c'], .int .i64 sz, .bool false])) ∨
      (∃ (t : Tr 9) (m : Nat) (a : Option Addr) (l c : Nat) (a' : Option Addr) (l' c' : Nat), Tlv.rd 8 xs = some (t, m) ∧ e = .returned (.tuple #[.agg #[.int .i64 t.hd.1, .int .u64 t.hd.2.1, .slice a l c, .slice a' l' c'], .int .i64 m, .bool true]) ∧ Tlv.Rep w.heap.size w'.heap.size w' 9 t (.slice a l c) (.slice a' l' c'))) ∧ Below w.heap.size w w' := by
  obtain ⟨a, cap, rfl, h2, h3, h4, h5, h6, h7⟩ := id h
  have H := hid h
  clear h h4
  by_cases hl : xs.length < 3
  · have hl' : (xs.length : Int) < 3 := by omega
    have HR := hid (rd_short hl)
    clear h7 h6 hl
    go_enter Tryz.func131, Tryz.ntmps131
    go_wp2_with fail
    refine bodyPost_ret (v := .tuple #[.agg #[.int .i64 0, .int .u64 0, .slice none 0 0, .slice none 0 0], .int .i64 0, .bool false]) (by simp [results, Tryz.results131, go_sem]) rfl ⟨.inl ⟨HR.out, 0, 0, none, 0, 0, none, 0, 0, 0, rfl⟩, ?_⟩
    exact (Below.refl _ _).alloc (Nat.le_refl _) _
  · obtain ⟨b, o, rfl, _, hb, hc⟩ := h7 (by intro e; subst e; simp at hl)
    have c1 := hc 1 (by omega)
    have c2 := hc 2 (by omega)
    have b1 := h6 (xs.getD 1 0) (by rw [List.getD_eq_getElem?_getD, List.getElem?_eq_getElem (by omega)]; simp)
    have b2 := h6 (xs.getD 2 0) (by rw [List.getD_eq_getElem?_getD, List.getElem?_eq_getElem (by omega)]; simp)
    have HEN : Hid (Tlv.endOf xs = 3 + (xs.getD 1 0 * 256 + xs.getD 2 0).toNat) := rfl
    generalize xs.getD 1 0 = x1 at *
    generalize xs.getD 2 0 = x2 at *
    have hl' : (3 : Int) ≤ xs.length := by omega
    have HL : Hid (3 ≤ xs.length) := by rw [Hid]; omega
    clear hc h6 h7 hl
    go_enter Tryz.func131, Tryz.ntmps131
    go_wp2_with fail
    go_quiet (fail)
    obtain ⟨E, hE⟩ : ∃ E : Nat, 3 + x1 * 256 + x2 = (E : Int) := ⟨(3 + x1 * 256 + x2).toNat, by omega⟩
    have HE : Hid (Tlv.endOf xs = E) := by rw [Hid, HEN.out]; omega
    have hE3 : 3 ≤ E := by omega
    rw [hE]
    obtain ⟨W1, hW1⟩ : ∃ W1, (w.alloc (Obj.cells #[Value.int IntKind.i64 0, Value.int IntKind.u64 0, Value.slice none 0 0, Value.slice none 0 0] 156)).drewN nq = W1 := ⟨_, rfl⟩
    have hbel : Below w.heap.size w W1 := by rw [← hW1]; exact below_drewN ((Below.refl _ _).alloc (Nat.le_refl _) _) _
    have HG : Hid (∀ j u, (#[.int .i64 0, .int .u64 0, .slice none 0 0, .slice none 0 0] : Array Value)[j]? = some u → W1.cell? ⟨w.heap.size, j, none⟩ = some u) := fun j u hj => by
      rw [← hW1]
      rw [World.cell?_drewN, World.cell?_alloc_at _ _ _ _ (by simp), hj]
    have HF : Hid (∀ j, W1.frozen? ⟨w.heap.size, j, none⟩ = false) := fun j => by
      rw [← hW1, World.frozen?_drewN, World.frozen?_alloc_at _ _ _ _ (by simp)]
    have hz1 : w.heap.size < W1.heap.size := by rw [← hW1]; simp
    rw [hW1]
    clear hW1 hE c1 c2 b1 b2 HEN nq
    have HBEL := hid hbel
    by_cases hlt : xs.length < E
    · have HR : Hid (Tlv.rd 8 xs = none) := rd_cut (by rw [HE.out]; exact hlt)
      have g0 := HG.out 0 _ rfl
      have g1 := HG.out 1 _ rfl
      have g2 := HG.out 2 _ rfl
      have g3 := HG.out 3 _ rfl
      have gf := HF.out
      clear hbel
      go_wp2_with fail
      obtain ⟨q0, q1, q2, q3⟩ := Tlv.set4_read (u0 := .int .i64 0) (u1 := .int .u64 0) (u2 := .slice none 0 0) (u3 := .slice none 0 0) g0 g1 g2 g3
      refine bodyPost_ret (v := .tuple #[.agg #[.int .i64 0, .int .u64 0, .slice none 0 0, .slice none 0 0], .int .i64 0, .bool false]) (by simp [results, Tryz.results131, go_sem, q0, q1, q2, q3]) rfl ⟨.inl ⟨HR.out, 0, 0, none, 0, 0, none, 0, 0, 0, rfl⟩, ?_⟩
      exact HBEL.out.trans (Tlv.bset4 (Nat.le_refl _) _ _ _ _)
    · have HLE : Hid (E ≤ xs.length) := by rw [Hid]; omega
      have hEc : E ≤ cap := by omega
      have hEm : (E : Int) ≤ xs.length := by omega
      clear hbel
      go_wp2_with fail
      refine (Tlv.get_any _ (xs.take E) _ (bySl_take (H.out.agree (Agree.below HBEL.out) (Nat.le_refl _) HBEL.out.size) HLE.out)).mono ?_
      rintro e w2 ⟨hres, hb2⟩
      have HB2 := hid hb2
      have hz2 : w.heap.size < w2.heap.size := by have := hb2.size; omega
      have gf : ∀ j, w2.frozen? ⟨w.heap.size, j, none⟩ = false := fun j => (hb2.frozen (p := ⟨w.heap.size, j, none⟩) hz1).trans (HF.out j)
      have hcg := fun j u hj => (hb2.cell (p := ⟨w.heap.size, j, none⟩) hz1).trans (HG.out j u hj)
      have g0 := hcg 0 _ rfl
      have g1 := hcg 1 _ rfl
      have g2 := hcg 2 _ rfl
      have g3 := hcg 3 _ rfl
      have HM : Hid (Tlv.getT (xs.take E) = (Tlv.rd 8 xs).map Prod.fst) := by rw [Hid, ← HE.out]; exact get_take HL.out (by rw [HE.out]; exact HLE.out)
      have hm := HM.out
      clear hcg hb2
      rcases hres with ⟨hn, rfl⟩ | ⟨t, sb, sk, hs, rfl, hr⟩
      · have HR : Hid (Tlv.rd 8 xs = none) := by
          rw [hn] at hm
          exact Option.map_eq_none_iff.1 hm.symm
        clear hm hn
        go_wp2_with fail
        obtain ⟨q0, q1, q2, q3⟩ := Tlv.set4_read (u0 := .int .i64 0) (u1 := .int .u64 0) (u2 := .slice none 0 0) (u3 := .slice none 0 0) g0 g1 g2 g3
        obtain ⟨r0, r1, r2, r3⟩ := Tlv.set4_read (u0 := .int .i64 0) (u1 := .int .u64 0) (u2 := .slice none 0 0) (u3 := .slice none 0 0) q0 q1 q2 q3
        refine bodyPost_ret (v := .tuple #[.agg #[.int .i64 0, .int .u64 0, .slice none 0 0, .slice none 0 0], .int .i64 E, .bool false]) (by simp [results, Tryz.results131, go_sem, r0, r1, r2, r3]) rfl ⟨.inl ⟨HR.out, 0, 0, none, 0, 0, none, 0, 0, E, rfl⟩, ?_⟩
        exact (HBEL.out.trans (HB2.out.mono HBEL.out.size)).trans ((Tlv.bset4 (Nat.le_refl _) _ _ _ _).trans (Tlv.bset4 (Nat.le_refl _) _ _ _ _))
      · have HR : Hid (Tlv.rd 8 xs = some (t, E)) := by
          rw [hs] at hm
          obtain ⟨⟨t', m⟩, hq, ht⟩ := Option.map_eq_some_iff.1 hm.symm
          have h1 := rd_end hq
          rw [HE.out] at h1
          simp only at ht
          rw [Hid, hq, ht, h1]
        obtain ⟨a1, l1, p1, a2, l2, p2, rfl, rfl⟩ := hr.sl
        have HRP := hid hr
        clear hm hs hr
        go_wp2_with fail
        obtain ⟨q0, q1, q2, q3⟩ := Tlv.set4_read (u0 := .int .i64 t.hd.1) (u1 := .int .u64 t.hd.2.1) (u2 := .slice a1 l1 p1) (u3 := .slice a2 l2 p2) g0 g1 g2 g3
        obtain ⟨r0, r1, r2, r3⟩ := Tlv.set4_read (u0 := .int .i64 t.hd.1) (u1 := .int .u64 t.hd.2.1) (u2 := .slice a1 l1 p1) (u3 := .slice a2 l2 p2) q0 q1 q2 q3
        refine bodyPost_ret (v := .tuple #[.agg #[.int .i64 t.hd.1, .int .u64 t.hd.2.1, .slice a1 l1 p1, .slice a2 l2 p2], .int .i64 E, .bool true]) (by simp [results, Tryz.results131, go_sem, r0, r1, r2, r3]) rfl ⟨.inr ⟨t, E, _, _, _, _, _, _, HR.out, rfl, ?_⟩, ?_⟩
        · exact (HRP.out.agree (Agree.set4 _ (.inl hz1) _ _ _ _) (by omega) (Nat.le_refl _)).agree (Agree.set4 _ (.inl (Nat.lt_succ_self _)) _ _ _ _) (Nat.le_succ _) (by simp)
        · exact (HBEL.out.trans (HB2.out.mono HBEL.out.size)).trans ((Tlv.bset4 (Nat.le_refl _) _ _ _ _).trans (Tlv.bset4 (Nat.le_refl _) _ _ _ _))
end Go.Proofs.YtaaioaocjfpajaaGreatDoor
end
