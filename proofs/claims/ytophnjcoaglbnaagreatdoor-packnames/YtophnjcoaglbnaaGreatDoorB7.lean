/- Of the proof: the texts TlvSame, FrKit, FrSame, FrPut, PkBegin, PkNil, SimFile, one behind the other. -/
import Derived.Test.YtophnjcoaglbnaaGreatDoorB5
import Derived.Test.YtophnjcoaglbnaaGreatDoorB3
import Derived.Laws.BytesArg
import Derived.Test.YtophnjcoaglbnaaGreatDoorB6
import Derived.Laws.ResultCell
import Derived.Stop.BytesEq
import Derived.Test.YtophnjcoaglbnaaGreatDoorB1
import Derived.Test.YtophnjcoaglbnaaGreatDoorB2
import Derived.Test.YtophnjcoaglbnaaGreatDoorPkShelf
section
/-
  What Same of tlv answers of any two trees.
-/
namespace Go.Proofs.YtophnjcoaglbnaaGreatDoor.Tlv
open Go.RowKit
attribute [local go_sem ↓] Go.wp_at_zero Go.wp_at_succ

theorem conv_bytes {L B : Nat} {w : World} {v : Value} {bs : List Int} (h : BySl L B w v bs) : (convert 45 9 v).run Tryz.prog w = .ok (.string (strOfNums bs)) w := by
  obtain ⟨a, cap, rfl, h2, h3, h4, h5, h6, h7⟩ := h
  by_cases hne : bs = []
  · subst hne
    rw [List.length_nil, run_convert_bytes_string w 45 9 5 _ 0 cap Tryz.underlying45 Tryz.underlying5 Tryz.underlying9]
    cases a <;> simp [Conv.bytesToString, loadCells]
    all_goals rfl
  · obtain ⟨b, o, rfl, _, _, hc⟩ := h7 hne
    exact run_convert_bytes_arg w 45 5 Tryz.underlying45 Tryz.underlying5 b o bs.length cap bs rfl hc 9 Tryz.underlying9

theorem strOfNums_inj {xs ys : List Int} (hx : ∀ x ∈ xs, 0 ≤ x ∧ x ≤ 255) (hy : ∀ x ∈ ys, 0 ≤ x ∧ x ≤ 255) (h : strOfNums xs = strOfNums ys) : xs = ys := by
  have e := congrArg (fun s : ByteArray => s.data.toList) h
  simp only [strOfNums_data] at e
  have inv : ∀ zs : List Int, (∀ x ∈ zs, 0 ≤ x ∧ x ≤ 255) → (zs.map fun n => UInt8.ofNat n.toNat).map (fun u => (u.toNat : Int)) = zs := by
    intro zs hz
    induction zs with
    | nil => rfl
    | cons z zs ih =>
      have := hz z (List.mem_cons_self ..)
      simp only [List.map_cons]
      rw [ih (fun x hx => hz x (List.mem_cons_of_mem _ hx))]
      congr 1
      simp
      omega
  rw [← inv xs hx, ← inv ys hy, e]

set_option maxHeartbeats 400000 in
theorem equal_any (v v' : Value) (xs ys : List Int) (w : World) (h : BySl 0 w.heap.size w v xs) (h' : BySl 0 w.heap.size w v' ys) :
    Calls Tryz.prog 80 #[v, v'] w fun e w' => e = .returned (.bool (decide (xs = ys))) ∧ w' = w := by
  have c1 := conv_bytes h
  have c2 := conv_bytes h'
  have hq : ((strOfNums xs).toList == (strOfNums ys).toList) = decide (xs = ys) := by
    obtain ⟨_, _, _, _, _, _, _, h6, _⟩ := h
    obtain ⟨_, _, _, _, _, _, _, h6', _⟩ := h'
    rw [Bool.eq_iff_iff, decide_eq_true_eq, beq_iff_eq, ByteArray.toList_eq, ByteArray.toList_eq]
    exact ⟨fun e => strOfNums_inj h6 h6' (by cases hx : strOfNums xs; cases hy : strOfNums ys; rw [hx, hy] at e; simpa using e), fun e => by rw [e]⟩
  clear h h'
  go_enter Tryz.func80, Tryz.ntmps80
  go_wp2_with fail
  go_ret
  exact ⟨rfl, rfl⟩

theorem hd_dec (a b : Int × Int × List Int) : decide (a = b) = (decide (a.1 = b.1) && (decide (a.2.1 = b.2.1) && decide (a.2.2 = b.2.2))) := by
  obtain ⟨a1, a2, a3⟩ := a
  obtain ⟨b1, b2, b3⟩ := b
  simp [Prod.mk.injEq, Bool.decide_and]

def SameTOk (n : Nat) : Prop := ∀ (m : Nat) (t : Tr n) (u : Tr m) (sb sk sb' sk' : Value) (deep : Int) (w : World), Rep 0 w.heap.size w n t sb sk → Rep 0 w.heap.size w m u sb' sk' → (n : Int) ≤ deep → deep ≤ 131072 →
  Calls Tryz.prog 201 #[.agg #[.int .i64 t.hd.1, .int .u64 t.hd.2.1, sb, sk], .agg #[.int .i64 u.hd.1, .int .u64 u.hd.2.1, sb', sk'], .int .i64 deep] w fun e w' => e = .returned (.bool (sameT n t m u)) ∧ Below w.heap.size w w'

set_option maxHeartbeats 2000000 in
set_option maxRecDepth 100000 in
theorem same_any : ∀ n, SameTOk n
  | 0 => fun _ t => by cases t
  | n + 1 => by
    intro m t u sb sk sb' sk' deep w h h' hd0 hd1
    cases m with
    | zero => cases u
    | succ m =>
    have ih := same_any n
    obtain ⟨hn0, hn1, hby, hks⟩ := h
    obtain ⟨hn0', hn1', hby', hks'⟩ := h'
    have HB := hid hby
    have HK := hid hks
    have HB' := hid hby'
    have HK' := hid hks'
    obtain ⟨ab, cb, rfl, hrb⟩ := hby
    obtain ⟨ak, ck, rfl, hrk⟩ := hks
    obtain ⟨ab', cb', rfl, hrb'⟩ := hby'
    obtain ⟨ak', ck', rfl, hrk'⟩ := hks'
    clear hrb hrk hrb' hrk'
    have hkl : t.kd.length ≤ 2199023255552 := by obtain ⟨_, _, _, _, _, _, h, _⟩ := HK.out; exact h
    obtain ⟨R, hR⟩ : ∃ R, sameT (n + 1) t (m + 1) u = R := ⟨_, rfl⟩
    rw [hR]
    have HR : Hid (((decide (t.hd.1 = u.hd.1) && (decide (t.hd.2.1 = u.hd.2.1) && decide (t.hd.2.2 = u.hd.2.2))) && sameL (fun a b => sameT n a m b) t.kd u.kd) = R) := by rw [← hd_dec]; exact hR
    clear hR
    have hdz : (deep == 0) = false := by simp; omega
    generalize t.kd = ks at *
    generalize t.hd.2.2 = bs at *
    generalize t.hd.2.1 = num at *
    generalize t.hd.1 = tag at *
    generalize u.kd = ks' at *
    generalize u.hd.2.2 = bs' at *
    generalize u.hd.2.1 = num' at *
    generalize u.hd.1 = tag' at *
    by_cases ht : tag = tag'
    case neg =>
      have htb : (tag != tag') = true := by simpa using ht
      have Hr : Hid (R = false) := by rw [Hid, ← HR.out]; simp [ht]
      clear ht
      go_enter Tryz.func201, Tryz.ntmps201
      go_wp2_with fail
      go_ret
      exact ⟨by rw [Hr.out]; rfl, ((Below.refl _ _).alloc (Nat.le_refl _) _).alloc (by simp) _⟩
    case pos =>
    subst ht
    by_cases hu : num = num'
    case neg =>
      have hub : (num != num') = true := by simpa using hu
      have Hr : Hid (R = false) := by rw [Hid, ← HR.out]; simp [hu]
      clear hu
      go_enter Tryz.func201, Tryz.ntmps201
      go_wp2_with fail
      go_ret
      exact ⟨by rw [Hr.out]; rfl, ((Below.refl _ _).alloc (Nat.le_refl _) _).alloc (by simp) _⟩
    case pos =>
    subst hu
    have hA : Agree 0 w.heap.size w ((w.alloc (Obj.cells #[Value.int .i64 tag, Value.int .u64 num, Value.slice ab bs.length cb, Value.slice ak ks.length ck] 171)).alloc (Obj.cells #[Value.int .i64 tag, Value.int .u64 num, Value.slice ab' bs'.length cb', Value.slice ak' ks'.length ck'] 171)) := ((Agree.refl _ _ _).alloc (Nat.le_refl _) _).alloc (by simp) _
    have q1 := hid (HB.out.agree hA (Nat.le_refl _) (B' := w.heap.size + 1 + 1) (by omega))
    have q2 := hid (HB'.out.agree hA (Nat.le_refl _) (B' := w.heap.size + 1 + 1) (by omega))
    clear hA
    go_enter Tryz.func201, Tryz.ntmps201
    go_wp2_with fail
    refine (equal_any _ _ bs bs' _ (by simpa using q1.out) (by simpa using q2.out)).mono ?_
    rintro e w1 ⟨rfl, hw1⟩
    have x3 : w1.cell? ⟨w.heap.size, 3, none⟩ = some (.slice ak ks.length ck) := by rw [hw1]; simp [go_sem]
    have y3 : w1.cell? ⟨w.heap.size + 1, 3, none⟩ = some (.slice ak' ks'.length ck') := by rw [hw1]; simp [go_sem]
    have hz1 : w1.heap.size = w.heap.size + 2 := by rw [hw1]; simp
    have Hbel : Hid (Below w.heap.size w w1) := by rw [hw1]; exact ((Below.refl _ _).alloc (Nat.le_refl _) _).alloc (by simp) _
    clear hw1 q1 q2
    by_cases hbs : bs = bs'
    case neg =>
      rw [decide_eq_false hbs]
      have Hr : Hid (R = false) := by rw [Hid, ← HR.out]; simp [hbs]
      clear hbs
      go_wp2_with fail
      go_ret
      exact ⟨by rw [Hr.out]; rfl, Hbel.out⟩
    case pos =>
    rw [decide_eq_true hbs]
    have HR2 : Hid (sameL (fun a b => sameT n a m b) ks ks' = R) := by rw [Hid, ← HR.out]; simp [hbs]
    clear hbs HR
    by_cases hl : ks.length = ks'.length
    case neg =>
      have hlb : ((ks.length : Int) != (ks'.length : Int)) = true := by simp; omega
      have Hr : Hid (R = false) := by
        rw [Hid, ← HR2.out]
        cases e : sameL (fun a b => sameT n a m b) ks ks' with
        | false => rfl
        | true => exact absurd (sameL_len e) hl
      clear hl
      go_wp2_with fail
      go_ret
      exact ⟨by rw [Hr.out]; rfl, Hbel.out⟩
    case pos =>
    obtain ⟨L, hL⟩ : ∃ L, ks.length = L := ⟨_, rfl⟩
    have HLk := hid hL
    have HLk' : Hid (ks'.length = L) := by rw [Hid, ← hl]; exact hL
    rw [← hl, hL] at y3 ⊢
    rw [hL] at x3 hkl
    clear hl hL
    go_wp2_with fail
    go_loopw [45] (fun i wr => ∃ k : Nat, k ≤ L ∧ i = .int .i64 k ∧ Hid (Below w1.heap.size w1 wr) ∧ Hid (sameL (fun a b => sameT n a m b) (ks.drop k) (ks'.drop k) = R)) (fun i _ => L - (intOf i).toNat)
    case atStart => exact ⟨0, Nat.zero_le _, rfl, Below.refl _ _, HR2⟩
    case round =>
      obtain ⟨k, hk, rfl, HI, HS⟩ := hrel
      have hws := HI.out.size
      have Y3 : wr.cell? ⟨w.heap.size + 1, 3, none⟩ = some (.slice ak' L ck') := (HI.out.cell (p := ⟨w.heap.size + 1, 3, none⟩) (by simp; omega)).trans y3
      by_cases hltL : k < L
      · have hlt : k < ks.length := by rw [HLk.out]; exact hltL
        have hlt' : k < ks'.length := by rw [HLk'.out]; exact hltL
        obtain ⟨_, _, ea, _, _, _, _, h7⟩ := HK.out
        simp only [Value.slice.injEq, true_and] at ea
        obtain ⟨rfl, rfl⟩ := ea
        obtain ⟨b, o, rfl, _, hbw, hc⟩ := h7 (by intro e; subst e; simp at hlt)
        obtain ⟨_, _, ea, _, _, _, _, h7'⟩ := HK'.out
        simp only [Value.slice.injEq] at ea
        obtain ⟨rfl, _, rfl⟩ := ea
        obtain ⟨b', o', rfl, _, hbw', hc'⟩ := h7' (by intro e; subst e; simp at hlt')
        obtain ⟨sb, sk, c0, c1, c2, c3, hrep⟩ := hc k ks[k] (List.getElem?_eq_getElem hlt)
        obtain ⟨sb', sk', c0', c1', c2', c3', hrep'⟩ := hc' k ks'[k] (List.getElem?_eq_getElem hlt')
        clear hc hc' h7 h7'
        obtain ⟨a1, l1, p1, a2, l2, p2, rfl, rfl⟩ := hrep.sl
        obtain ⟨a3, l3, p3, a4, l4, p4, rfl, rfl⟩ := hrep'.sl
        have hbel : Hid (Below w.heap.size w wr) := Hbel.out.trans (HI.out.mono (by omega))
        have hR := hid hrep
        have hR' := hid hrep'
        clear hrep hrep'
        have d0 := (hbel.out.cell (p := ⟨b, o + k * 4, none⟩) hbw).trans c0
        have d1 := (hbel.out.cell (p := ⟨b, o + k * 4 + 1, none⟩) hbw).trans c1
        have d2 := (hbel.out.cell (p := ⟨b, o + k * 4 + 2, none⟩) hbw).trans c2
        have d3 := (hbel.out.cell (p := ⟨b, o + k * 4 + 3, none⟩) hbw).trans c3
        have d0' := (hbel.out.cell (p := ⟨b', o' + k * 4, none⟩) hbw').trans c0'
        have d1' := (hbel.out.cell (p := ⟨b', o' + k * 4 + 1, none⟩) hbw').trans c1'
        have d2' := (hbel.out.cell (p := ⟨b', o' + k * 4 + 2, none⟩) hbw').trans c2'
        have d3' := (hbel.out.cell (p := ⟨b', o' + k * 4 + 3, none⟩) hbw').trans c3'
        clear c0 c1 c2 c3 c0' c1' c2' c3'
        have HD : Hid ((sameT n ks[k] m ks'[k] && sameL (fun a b => sameT n a m b) (ks.drop (k + 1)) (ks'.drop (k + 1))) = R) := by
          rw [Hid, ← HS.out, List.drop_eq_getElem_cons hlt, List.drop_eq_getElem_cons hlt']
          rfl
        generalize ks[k] = t1 at *
        generalize ks'[k] = u1 at *
        have hcall : Hid (∀ W, Below w.heap.size w W → Calls Tryz.prog 201 #[.agg #[.int .i64 t1.hd.1, .int .u64 t1.hd.2.1, .slice a1 l1 p1, .slice a2 l2 p2], .agg #[.int .i64 u1.hd.1, .int .u64 u1.hd.2.1, .slice a3 l3 p3, .slice a4 l4 p4], .int .i64 (deep - 1)] W fun e w' => e = .returned (.bool (sameT n t1 m u1)) ∧ Below W.heap.size W w') :=
          fun W hW => ih m t1 u1 _ _ _ _ (deep - 1) W (hR.out.agree (Agree.below hW) (Nat.le_refl _) hW.size) (hR'.out.agree (Agree.below hW) (Nat.le_refl _) hW.size) (by omega) (by omega)
        have hwd : IntKind.i64.wrap (deep - 1) = deep - 1 := by rw [IntKind.wrap_i64]; omega
        have hkI0 : (0 : Int) ≤ (k : Int) := by omega
        have hkI1 : (k : Int) < (L : Int) := by omega
        clear hlt hlt'
        have hbwr : b < wr.heap.size := by omega
        have hbx2 : w.heap.size + 1 < wr.heap.size := by omega
        have hbwr' : b' < wr.heap.size := by omega
        generalize sameT n t1 m u1 = q at hcall HD
        cases q with
        | true =>
          go_wp2_with fail
          obtain ⟨W, hW⟩ : ∃ W, wr.alloc (Obj.cells #[Value.int .i64 t1.hd.1, Value.int .u64 t1.hd.2.1, Value.slice a1 l1 p1, Value.slice a2 l2 p2] 171) = W := ⟨_, rfl⟩
          have v0 : W.cell? ⟨wr.heap.size, 0, none⟩ = some (.int .i64 t1.hd.1) := by rw [← hW]; simp [go_sem]
          have v1 : W.cell? ⟨wr.heap.size, 1, none⟩ = some (.int .u64 t1.hd.2.1) := by rw [← hW]; simp [go_sem]
          have v2 : W.cell? ⟨wr.heap.size, 2, none⟩ = some (.slice a1 l1 p1) := by rw [← hW]; simp [go_sem]
          have v3 : W.cell? ⟨wr.heap.size, 3, none⟩ = some (.slice a2 l2 p2) := by rw [← hW]; simp [go_sem]
          have x3' : W.cell? ⟨w.heap.size + 1, 3, none⟩ = some (.slice (some ⟨b', o', none⟩) L ck') := by rw [← hW, World.cell?_alloc_past _ _ _ hbx2]; exact Y3
          have e0' : W.cell? ⟨b', o' + k * 4, none⟩ = some (.int .i64 u1.hd.1) := by rw [← hW, World.cell?_alloc_past _ _ _ hbwr']; exact d0'
          have e1' : W.cell? ⟨b', o' + k * 4 + 1, none⟩ = some (.int .u64 u1.hd.2.1) := by rw [← hW, World.cell?_alloc_past _ _ _ hbwr']; exact d1'
          have e2' : W.cell? ⟨b', o' + k * 4 + 2, none⟩ = some (.slice a3 l3 p3) := by rw [← hW, World.cell?_alloc_past _ _ _ hbwr']; exact d2'
          have e3' : W.cell? ⟨b', o' + k * 4 + 3, none⟩ = some (.slice a4 l4 p4) := by rw [← hW, World.cell?_alloc_past _ _ _ hbwr']; exact d3'
          have hBW : Hid (Below w.heap.size w W) := by rw [← hW]; exact hbel.out.alloc hbel.out.size _
          have hIW : Hid (Below w1.heap.size w1 W) := by rw [← hW]; exact HI.out.alloc hws _
          rw [hW]
          clear hW d0 d1 d2 d3 d0' d1' d2' d3' Y3
          have hc9 := hid (hcall.out W.drew hBW.out.drew)
          go_region_with ((go_at_call 201; refine hc9.out.mono ?_; rintro e w2 ⟨rfl, hb2⟩; have HB2 := hid hb2; clear hb2))
          all_goals go_wp2_with fail
          all_goals
            go_roundw
            case rel => exact ⟨k + 1, by omega, by go_num, (hIW.out.drew).trans (HB2.out.mono hIW.out.size), by simpa [Hid] using HD.out⟩
            case measure => simp [intOf]; omega
        | false =>
          go_wp2_with fail
          obtain ⟨W, hW⟩ : ∃ W, wr.alloc (Obj.cells #[Value.int .i64 t1.hd.1, Value.int .u64 t1.hd.2.1, Value.slice a1 l1 p1, Value.slice a2 l2 p2] 171) = W := ⟨_, rfl⟩
          have v0 : W.cell? ⟨wr.heap.size, 0, none⟩ = some (.int .i64 t1.hd.1) := by rw [← hW]; simp [go_sem]
          have v1 : W.cell? ⟨wr.heap.size, 1, none⟩ = some (.int .u64 t1.hd.2.1) := by rw [← hW]; simp [go_sem]
          have v2 : W.cell? ⟨wr.heap.size, 2, none⟩ = some (.slice a1 l1 p1) := by rw [← hW]; simp [go_sem]
          have v3 : W.cell? ⟨wr.heap.size, 3, none⟩ = some (.slice a2 l2 p2) := by rw [← hW]; simp [go_sem]
          have x3' : W.cell? ⟨w.heap.size + 1, 3, none⟩ = some (.slice (some ⟨b', o', none⟩) L ck') := by rw [← hW, World.cell?_alloc_past _ _ _ hbx2]; exact Y3
          have e0' : W.cell? ⟨b', o' + k * 4, none⟩ = some (.int .i64 u1.hd.1) := by rw [← hW, World.cell?_alloc_past _ _ _ hbwr']; exact d0'
          have e1' : W.cell? ⟨b', o' + k * 4 + 1, none⟩ = some (.int .u64 u1.hd.2.1) := by rw [← hW, World.cell?_alloc_past _ _ _ hbwr']; exact d1'
          have e2' : W.cell? ⟨b', o' + k * 4 + 2, none⟩ = some (.slice a3 l3 p3) := by rw [← hW, World.cell?_alloc_past _ _ _ hbwr']; exact d2'
          have e3' : W.cell? ⟨b', o' + k * 4 + 3, none⟩ = some (.slice a4 l4 p4) := by rw [← hW, World.cell?_alloc_past _ _ _ hbwr']; exact d3'
          have hBW : Hid (Below w.heap.size w W) := by rw [← hW]; exact hbel.out.alloc hbel.out.size _
          have hIW : Hid (Below w1.heap.size w1 W) := by rw [← hW]; exact HI.out.alloc hws _
          rw [hW]
          clear hW d0 d1 d2 d3 d0' d1' d2' d3' Y3
          have hc9 := hid (hcall.out W.drew hBW.out.drew)
          go_region_with ((go_at_call 201; refine hc9.out.mono ?_; rintro e w2 ⟨rfl, hb2⟩; have HB2 := hid hb2; clear hb2))
          all_goals go_wp2_with fail
          all_goals go_ret
          all_goals exact ⟨by rw [← HD.out]; rfl, (hBW.out.drew).trans (HB2.out.mono hBW.out.size)⟩
      · go_wp2_with fail
        go_ret
        refine ⟨?_, Hbel.out.trans (HI.out.mono (by omega))⟩
        rw [← HS.out, List.drop_of_length_le (by rw [HLk.out]; omega), List.drop_of_length_le (by rw [HLk'.out]; omega)]
        rfl

set_option maxHeartbeats 400000 in
theorem Same_any {n m : Nat} (t : Tr n) (u : Tr m) (sb sk sb' sk' : Value) (w : World) (h : Rep 0 w.heap.size w n t sb sk) (h' : Rep 0 w.heap.size w m u sb' sk') (hn : n ≤ 131072) :
    Calls Tryz.prog 176 #[.agg #[.int .i64 t.hd.1, .int .u64 t.hd.2.1, sb, sk], .agg #[.int .i64 u.hd.1, .int .u64 u.hd.2.1, sb', sk']] w fun e w' => e = .returned (.bool (sameT n t m u)) ∧ Below w.heap.size w w' := by
  obtain ⟨a1, l1, p1, a2, l2, p2, rfl, rfl⟩ := h.sl
  obtain ⟨a3, l3, p3, a4, l4, p4, rfl, rfl⟩ := h'.sl
  have H := hid h
  have H' := hid h'
  clear h h'
  go_enter Tryz.func176, Tryz.ntmps176
  go_wp2_with fail
  have hA : ∀ o o', Below w.heap.size w ((w.alloc o).alloc o') := fun o o' => ((Below.refl _ _).alloc (Nat.le_refl _) o).alloc (by simp) o'
  refine (same_any n m t u _ _ _ _ 131072 _ (H.out.agree (Agree.below (hA _ _)) (Nat.le_refl _) (hA _ _).size) (H'.out.agree (Agree.below (hA _ _)) (Nat.le_refl _) (hA _ _).size) (by omega) (by omega)).mono ?_
  rintro e w1 ⟨rfl, hb1⟩
  have HB : Hid (Below w.heap.size w w1) := (hA _ _).trans (hb1.mono (hA _ _).size)
  clear hb1 hA
  go_wp2_with fail
  go_ret
  exact ⟨rfl, HB.out⟩

end Go.Proofs.YtophnjcoaglbnaaGreatDoor.Tlv
end

section
/-
  Records as a whole: made, loaded, stored; the statements' Own and Back; which are the same.
-/
namespace Go.Proofs.YtophnjcoaglbnaaGreatDoor
open Go.RowKit
open Tlv (Tr BySlS AgreeS Agree)
open Crc (hid Kept Tab)

section
variable {P : Program}
theorem results_cell_mid {fn : Func} {p : Tmp} {ty : TypeId} (h : fn.results = #[.cell p ty]) (tmps : Array Value) (w : World) (g o : Nat) (cs : List Value) (d : TypeDesc)
    (hp : tmps.getD p undef = .pointer (some ⟨g, o, none⟩)) (hc : w.rangeAt g o cs)
    (hu : P.underlying ty = some d) (hd : d.isRow = true) (hi : (P.info? ty).map (·.size) = some cs.length) :
    (results fn tmps).run P w = .ok (.agg cs.toArray) w := by
  have hp' : tmps[p]?.getD undef = .pointer (some ⟨g, o, none⟩) := by simpa using hp
  simp [results, h, hp', asAddr, run_loadVar_mid w g o ty cs d hc hu hd hi]
theorem results_cell_mid2 {fn : Func} {p u : Tmp} {ty : TypeId} (h : fn.results = #[.cell p ty, .tmp u]) (tmps : Array Value) (w : World) (g o : Nat) (cs : List Value) (d : TypeDesc)
    (hp : tmps.getD p undef = .pointer (some ⟨g, o, none⟩)) (hc : w.rangeAt g o cs)
    (hu : P.underlying ty = some d) (hd : d.isRow = true) (hi : (P.info? ty).map (·.size) = some cs.length) :
    (results fn tmps).run P w = .ok (.tuple #[.agg cs.toArray, tmps.getD u undef]) w := by
  have hp' : tmps[p]?.getD undef = .pointer (some ⟨g, o, none⟩) := by simpa using hp
  rw [results_cell_tmp h]
  simp [hp', asAddr, run_loadVar_mid w g o ty cs d hc hu hd hi]
theorem results_cell_mid3 {fn : Func} {p u z : Tmp} {ty : TypeId} (h : fn.results = #[.cell p ty, .tmp u, .tmp z]) (tmps : Array Value) (w : World) (g o : Nat) (cs : List Value) (d : TypeDesc)
    (hp : tmps.getD p undef = .pointer (some ⟨g, o, none⟩)) (hc : w.rangeAt g o cs)
    (hu : P.underlying ty = some d) (hd : d.isRow = true) (hi : (P.info? ty).map (·.size) = some cs.length) :
    (results fn tmps).run P w = .ok (.tuple #[.agg cs.toArray, tmps.getD u undef, tmps.getD z undef]) w := by
  have hp' : tmps[p]?.getD undef = .pointer (some ⟨g, o, none⟩) := by simpa using hp
  simp only [results, h]
  simp [Result.andThen, hp', asAddr, run_loadVar_mid w g o ty cs d hc hu hd hi]
end

theorem there_of_block {w : World} {g : Nat} {cs : Array Value} {t : TypeId} (h : w.heap[g]? = some (.cells cs t (0, 0))) (o n : Nat) (hn : o + n ≤ cs.size) : w.there g o n := fun j hj => by
  have hlt : o + j < cs.size := by omega
  rw [cell_of_row w g (o + j) cs t (0, 0) h, frozen_of_row w g _ cs t h]
  exact ⟨by simp [hlt], rfl⟩

theorem range_new (w : World) (C : List Value) (ty : TypeId) : (w.alloc (.cells C.toArray ty)).rangeAt w.heap.size 0 C := fun j v hv => by
  rw [Nat.zero_add, World.cell?_alloc_at _ _ _ _ rfl]
  simpa using hv
theorem there_new (w : World) (C : List Value) (ty : TypeId) : (w.alloc (.cells C.toArray ty)).there w.heap.size 0 C.length := there_of_block (heap_alloc_new _ _) 0 C.length (by simp)

theorem rangeAt_below {B : Nat} {w w' : World} {g o : Nat} {C : List Value} (h : w.rangeAt g o C) (hb : Below B w w') (hg : g < B) : w'.rangeAt g o C := fun j v hv => (hb.cell (p := ⟨g, o + j, none⟩) hg).trans (h j v hv)
theorem there_below {B : Nat} {w w' : World} {g o n : Nat} (h : w.there g o n) (hb : Below B w w') (hg : g < B) : w'.there g o n := fun j hj => by
  rw [hb.cell (p := ⟨g, o + j, none⟩) hg, hb.frozen (p := ⟨g, o + j, none⟩) hg]
  exact h j hj
theorem rangeAt_kept {b : Nat} {w w' : World} {g o : Nat} {C : List Value} (h : w.rangeAt g o C) (hk : Kept b w w') (hg : g < w.heap.size) (hb : g ≠ b) : w'.rangeAt g o C := fun j v hv => (hk.cell (p := ⟨g, o + j, none⟩) hg hb).trans (h j v hv)
theorem there_kept {b : Nat} {w w' : World} {g o n : Nat} (h : w.there g o n) (hk : Kept b w w') (hg : g < w.heap.size) (hb : g ≠ b) : w'.there g o n := fun j hj => by
  rw [hk.cell (p := ⟨g, o + j, none⟩) hg hb, hk.frozen (p := ⟨g, o + j, none⟩) hg hb]
  exact h j hj

/-- The part of a record that is its name. -/
theorem rangeAt_name {w : World} {g o : Nat} {k : Int} {nm : List Int} {v : Value} (h : w.rangeAt g o (recA k nm v)) : w.rangeAt g (o + 1) (u8s nm) := fun j u hj => by
  have hlt := (List.getElem?_eq_some_iff.1 hj).1
  have := h (1 + j) u (by rw [recA, Nat.add_comm, List.getElem?_cons_succ, List.getElem?_append_left hlt]; exact hj)
  rw [← this]
  congr 2
  omega

theorem setCells_below {B g : Nat} (h : B ≤ g) (w : World) (o : Nat) (cs : List Value) : Below B w (w.setCells g o cs) := by
  induction cs generalizing w o with
  | nil => exact Below.refl _ _
  | cons c cs ih => rw [World.setCells]; exact ((Below.refl B w).setCell (p := ⟨g, o, none⟩) h c).trans (ih _ _)
theorem setCells_size (w : World) (g o : Nat) (cs : List Value) : (w.setCells g o cs).heap.size = w.heap.size := by
  induction cs generalizing w o with
  | nil => rfl
  | cons c cs ih => rw [World.setCells, ih]; simp

/-- A record of no kind, no name, no body. -/
def zRec : List Value := recA 0 (List.replicate 32 0) (.slice none 0 0)
theorem zRec_length : zRec.length = 34 := rfl
theorem zRec_one : ∀ v ∈ zRec, v.oneCell' = true := recA_one _ _ _ _ _
theorem zero35 (w : World) : (zeroValue 47).run Tryz.prog w = .ok (.agg zRec.toArray) w := by kernel_rfl
theorem zero26 (w : World) : (zeroValue 49).run Tryz.prog w = .ok (.agg zRec.toArray) w := by kernel_rfl

theorem ex32 {nm : List Int} (h : nm.length = 32) : ∃ x0 x1 x2 x3 x4 x5 x6 x7 x8 x9 x10 x11 x12 x13 x14 x15 x16 x17 x18 x19 x20 x21 x22 x23 x24 x25 x26 x27 x28 x29 x30 x31,
    nm = [x0, x1, x2, x3, x4, x5, x6, x7, x8, x9, x10, x11, x12, x13, x14, x15, x16, x17, x18, x19, x20, x21, x22, x23, x24, x25, x26, x27, x28, x29, x30, x31] := by
  match nm, h with
  | [x0, x1, x2, x3, x4, x5, x6, x7, x8, x9, x10, x11, x12, x13, x14, x15, x16, x17, x18, x19, x20, x21, x22, x23, x24, x25, x26, x27, x28, x29, x30, x31], _ => exact ⟨_, _, _, _, _, _, _, _, _, _, _, _, _, _, _, _, _, _, _, _, _, _, _, _, _, _, _, _, _, _, _, _, rfl⟩

theorem built35 (k : Int) (nm : List Int) (h : nm.length = 32) (a : Option Addr) (l c : Nat) : Tryz.prog.built 47 [(0, .int .i64 k), (1, .agg (u8s nm).toArray), (2, .slice a l c)] = some (recA k nm (.slice a l c)).toArray := by
  obtain ⟨x0, x1, x2, x3, x4, x5, x6, x7, x8, x9, x10, x11, x12, x13, x14, x15, x16, x17, x18, x19, x20, x21, x22, x23, x24, x25, x26, x27, x28, x29, x30, x31, rfl⟩ := ex32 h
  kernel_rfl
theorem built26 (k : Int) (nm : List Int) (h : nm.length = 32) (a : Option Addr) (l c : Nat) : Tryz.prog.built 49 [(0, .int .i64 k), (1, .agg (u8s nm).toArray), (2, .slice a l c)] = some (recA k nm (.slice a l c)).toArray := by
  obtain ⟨x0, x1, x2, x3, x4, x5, x6, x7, x8, x9, x10, x11, x12, x13, x14, x15, x16, x17, x18, x19, x20, x21, x22, x23, x24, x25, x26, x27, x28, x29, x30, x31, rfl⟩ := ex32 h
  kernel_rfl

theorem wpList_build3 {ops : Array Oper} {rest : List Oper} {o : Oper} {a : Act} {w : World} {Q : Exit → Act → World → Prop} (hg : o.guard = none) (ty : TypeId) (x y z : Operand) (ho : o.op = .build ty #[(0, x), (1, y), (2, z)])
    (vx vy vz : Value) (hx : a.eval x = vx) (hy : a.eval y = vy) (hz : a.eval z = vz) (C : Array Value) (hb : Tryz.prog.built ty [(0, vx), (1, vy), (2, vz)] = some C)
    (h : wpList Tryz.prog ops Q rest (a.put o.dst (.agg C)) w) : wpList Tryz.prog ops Q (o :: rest) a w := by
  have e : Tryz.prog.built ty ((#[(0, x), (1, y), (2, z)] : Array (Nat × Operand)).map fun (i, x) => (i, a.eval x)).toList = some C := by
    rw [← hb]
    simp only [List.map_toArray, List.map_cons, List.map_nil, hx, hy, hz]
  refine wpList_build hg ty _ ho (by rw [e]; rfl) ?_
  rw [e]
  exact h

set_option maxHeartbeats 1000000 in
set_option maxRecDepth 100000 in
/-- Own. -/
theorem own11_any (k : Int) (nm : List Int) (a : Option Addr) (l c : Nat) (w : World) (hn : nm.length = 32) :
    Calls Tryz.prog 23 #[.agg (recA k nm (.slice a l c)).toArray] w fun e w' => e = .returned (.agg (recA k nm (.slice a l c)).toArray) ∧ Below w.heap.size w w' := by
  have hc0 := recA_0 k nm (.slice a l c)
  have hc33 := recA_33 k nm (.slice a l c) hn
  have HL := hid (recA_length k nm (.slice a l c) hn)
  have HO := hid (recA_one k nm a l c)
  have HB := hid (built35 k nm hn a l c)
  have HN := hid hn
  have hz := zero35
  clear hn
  obtain ⟨C, hC⟩ : ∃ C, recA k nm (.slice a l c) = C := ⟨_, rfl⟩
  have HC := hid hC
  rw [hC] at hc0 hc33 HL HO HB
  rw [hC]
  clear hC
  obtain ⟨Z, hZ⟩ : ∃ Z, zRec = Z := ⟨_, rfl⟩
  have HZL : Hid (Z.length = 34) := by rw [← hZ]; exact zRec_length
  rw [hZ] at hz
  clear hZ
  have HR := hid (range_new w C 49)
  have HT : Hid (World.there ((w.alloc (.cells C.toArray 49)).alloc (.cells Z.toArray 47)) (w.heap.size + 1) 0 C.toArray.size) := by
    have h := there_new (w.alloc (.cells C.toArray 49)) Z 47
    have e : C.toArray.size = 34 := by rw [List.size_toArray, HL.out]
    rw [Hid, e]
    rw [HZL.out] at h
    simpa using h
  have HI : Hid ((Tryz.prog.info? 47).map (·.size) = some C.length) := by rw [Hid, HL.out]; exact Tryz.info35
  have HI2 : Hid ((Tryz.prog.info? 47).map (·.size) = some C.toArray.size) := by rw [Hid, List.size_toArray, HL.out]; exact Tryz.info35
  have HI3 : Hid ((Tryz.prog.info? 44).map (·.size) = some (u8s nm).length) := by rw [Hid, u8s_length, HN.out]; kernel_rfl
  have H1 : Hid (C.toArray.all (·.oneCell') = true) := all_oneCell_toArray HO.out
  go_enter Tryz.func23, Tryz.ntmps23
  go_wp2_with (first
    | (refine wpList_load_mid (by rfl) 44 _ (by rfl) w.heap.size 1 (by rfl) (u8s nm) _ ?hc Tryz.underlying44 rfl HI3.out ?_; (case hc => exact rangeAt_name (k := k) (v := .slice a l c) (World.rangeAt_alloc (by rw [HC.out]; exact HR.out) _)))
    | (refine wpList_build3 (by rfl) 47 _ _ _ (by rfl) _ _ _ (by rfl) (by rfl) (by rfl) C.toArray HB.out ?_)
    | (refine wpList_store_mid (by rfl) 47 _ _ (by rfl) (w.heap.size + 1) 0 C.toArray (by rfl) (by rfl) ?ht HI2.out H1.out ?_; (case ht => exact HT.out)))
  have hr : World.rangeAt (((w.alloc (.cells C.toArray 49)).alloc (.cells Z.toArray 47)).setCells (w.heap.size + 1) 0 C) (w.heap.size + 1) 0 C := World.rangeAt_setCells_same _ _ _ _ HT.out
  refine bodyPost_ret (v := .agg C.toArray) ?_ rfl ⟨rfl, ?_⟩
  · exact results_cell_mid Tryz.results23 _ _ (w.heap.size + 1) 0 _ _ rfl hr Tryz.underlying47 rfl HI.out
  · exact (((Below.refl _ _).alloc (Nat.le_refl _) _).alloc (by simp) _).trans (setCells_below (by omega) _ _ _)

set_option maxHeartbeats 1000000 in
set_option maxRecDepth 100000 in
/-- Back. -/
theorem back23_any (k : Int) (nm : List Int) (a : Option Addr) (l c : Nat) (w : World) (hn : nm.length = 32) :
    Calls Tryz.prog 31 #[.agg (recA k nm (.slice a l c)).toArray] w fun e w' => e = .returned (.agg (recA k nm (.slice a l c)).toArray) ∧ Below w.heap.size w w' := by
  have hc0 := recA_0 k nm (.slice a l c)
  have hc33 := recA_33 k nm (.slice a l c) hn
  have HL := hid (recA_length k nm (.slice a l c) hn)
  have HO := hid (recA_one k nm a l c)
  have HB := hid (built26 k nm hn a l c)
  have HN := hid hn
  have hz := zero26
  clear hn
  obtain ⟨C, hC⟩ : ∃ C, recA k nm (.slice a l c) = C := ⟨_, rfl⟩
  have HC := hid hC
  rw [hC] at hc0 hc33 HL HO HB
  rw [hC]
  clear hC
  obtain ⟨Z, hZ⟩ : ∃ Z, zRec = Z := ⟨_, rfl⟩
  have HZL : Hid (Z.length = 34) := by rw [← hZ]; exact zRec_length
  rw [hZ] at hz
  clear hZ
  have HR := hid (range_new w C 47)
  have HT : Hid (World.there ((w.alloc (.cells C.toArray 47)).alloc (.cells Z.toArray 49)) (w.heap.size + 1) 0 C.toArray.size) := by
    have h := there_new (w.alloc (.cells C.toArray 47)) Z 49
    have e : C.toArray.size = 34 := by rw [List.size_toArray, HL.out]
    rw [Hid, e]
    rw [HZL.out] at h
    simpa using h
  have HI : Hid ((Tryz.prog.info? 49).map (·.size) = some C.length) := by rw [Hid, HL.out]; exact Tryz.info26
  have HI2 : Hid ((Tryz.prog.info? 49).map (·.size) = some C.toArray.size) := by rw [Hid, List.size_toArray, HL.out]; exact Tryz.info26
  have HI3 : Hid ((Tryz.prog.info? 44).map (·.size) = some (u8s nm).length) := by rw [Hid, u8s_length, HN.out]; kernel_rfl
  have H1 : Hid (C.toArray.all (·.oneCell') = true) := all_oneCell_toArray HO.out
  go_enter Tryz.func31, Tryz.ntmps31
  go_wp2_with (first
    | (refine wpList_load_mid (by rfl) 44 _ (by rfl) w.heap.size 1 (by rfl) (u8s nm) _ ?hc Tryz.underlying44 rfl HI3.out ?_; (case hc => exact rangeAt_name (k := k) (v := .slice a l c) (World.rangeAt_alloc (by rw [HC.out]; exact HR.out) _)))
    | (refine wpList_build3 (by rfl) 49 _ _ _ (by rfl) _ _ _ (by rfl) (by rfl) (by rfl) C.toArray HB.out ?_)
    | (refine wpList_store_mid (by rfl) 49 _ _ (by rfl) (w.heap.size + 1) 0 C.toArray (by rfl) (by rfl) ?ht HI2.out H1.out ?_; (case ht => exact HT.out)))
  have hr : World.rangeAt (((w.alloc (.cells C.toArray 47)).alloc (.cells Z.toArray 49)).setCells (w.heap.size + 1) 0 C) (w.heap.size + 1) 0 C := World.rangeAt_setCells_same _ _ _ _ HT.out
  refine bodyPost_ret (v := .agg C.toArray) ?_ rfl ⟨rfl, ?_⟩
  · exact results_cell_mid Tryz.results31 _ _ (w.heap.size + 1) 0 _ _ rfl hr Tryz.underlying49 rfl HI.out
  · exact (((Below.refl _ _).alloc (Nat.le_refl _) _).alloc (by simp) _).trans (setCells_below (by omega) _ _ _)

end Go.Proofs.YtophnjcoaglbnaaGreatDoor
end

section
/-
  Which records are the same: the program's answer, and the reference's.
-/
namespace Go.Proofs.YtophnjcoaglbnaaGreatDoor
open Go.RowKit
open Tlv (Tr BySlS AgreeS Agree)
open Crc (hid Kept Tab)

theorem wpList_bare {P : Program} {ops : Array Oper} {Q : Exit → Act → World → Prop} {a : Act} {w : World} {rest : List Oper} {dst : Option Tmp} {op : Op} {type : TypeId} {pos : String} {after : Array Edge} {g : Option (Nat × Bool)}
    (hw : Region.wanted ⟨dst, op, type, pos, after, g⟩ (yielded ops a.tmps) = true) (h : wpList P ops Q (⟨dst, op, type, pos, after, none⟩ :: rest) a w) : wpList P ops Q (⟨dst, op, type, pos, after, g⟩ :: rest) a w := by
  unfold wpList at h ⊢
  rw [if_pos hw]
  rw [if_pos (by rfl)] at h
  exact h

theorem cells_u8s (l : List Int) (h : ∀ x ∈ l, 0 ≤ x ∧ x ≤ 255) : (l.map fun x => x.toNat.toUInt8).map Extern.Stop.cell = u8s l := by
  unfold u8s
  rw [List.map_map]
  apply List.map_congr_left
  intro x hx
  have := h x hx
  simp [Extern.Stop.cell]
  omega
theorem map_inj : ∀ (xs ys : List Int), (∀ x ∈ xs, 0 ≤ x ∧ x ≤ 255) → (∀ x ∈ ys, 0 ≤ x ∧ x ≤ 255) → (xs.map fun x => x.toNat.toUInt8) = (ys.map fun x => x.toNat.toUInt8) → xs = ys
  | [], [], _, _, _ => rfl
  | [], _ :: _, _, _, h => by simp at h
  | _ :: _, [], _, _, h => by simp at h
  | x :: xs, y :: ys, h1, h2, h => by
    simp only [List.map_cons, List.cons.injEq] at h
    have hx := h1 x (by simp)
    have hy := h2 y (by simp)
    have e := congrArg UInt8.toNat h.1
    simp at e
    have e2 : x = y := by omega
    rw [e2, map_inj xs ys (fun z hz => h1 z (by simp [hz])) (fun z hz => h2 z (by simp [hz])) h.2]

/-- Two names. -/
theorem eqName (xs ys : List Int) (hx : xs.length = 32) (hy : ys.length = 32) (bx : ∀ x ∈ xs, 0 ≤ x ∧ x ≤ 255) (bY : ∀ x ∈ ys, 0 ≤ x ∧ x ≤ 255) (w : World) :
    (Op.equalIn 10000 44 (.agg (u8s xs).toArray) (.agg (u8s ys).toArray)).run Tryz.prog w = .ok (decide (xs = ys)) w := by
  have h := run_equalIn_bytes (P := Tryz.prog) w 9998 44 5 32 Tryz.underlying44 Tryz.underlying5 Tryz.sizeOf5 (xs.map fun x => x.toNat.toUInt8) (ys.map fun x => x.toNat.toUInt8) (by simpa using hx) (by simpa using hy)
  rw [cells_u8s xs bx, cells_u8s ys bY] at h
  have e : ((xs.map fun x => x.toNat.toUInt8) == (ys.map fun x => x.toNat.toUInt8)) = decide (xs = ys) := by
    rw [Bool.eq_iff_iff]
    simp only [beq_iff_eq, decide_eq_true_eq]
    exact ⟨map_inj xs ys bx bY, fun e => by rw [e]⟩
  rw [e] at h
  exact h

/-- Records are the same. -/
def sameR (k k' : Int) (nm nm' bs bs' : List Int) : Bool := decide (k = k') && (decide (nm = nm') && decide (bs = bs'))

set_option maxHeartbeats 2000000 in
set_option maxRecDepth 100000 in
/-- Same. -/
theorem same17_any (k k' : Int) (nm nm' bs bs' : List Int) (v v' : Value) (w : World) (hn : nm.length = 32) (hn' : nm'.length = 32) (hx : ∀ x ∈ nm, 0 ≤ x ∧ x ≤ 255) (hx' : ∀ x ∈ nm', 0 ≤ x ∧ x ≤ 255)
    (hb : Tlv.BySl 0 w.heap.size w v bs) (hb' : Tlv.BySl 0 w.heap.size w v' bs') :
    Calls Tryz.prog 43 #[.agg (recA k nm v).toArray, .agg (recA k' nm' v').toArray] w fun e w' => e = .returned (.bool (sameR k k' nm nm' bs bs')) ∧ Below w.heap.size w w' := by
  obtain ⟨a, cap, rfl, hr⟩ := id hb
  obtain ⟨a', cap', rfl, hr'⟩ := id hb'
  clear hr hr'
  have HB := hid hb
  have HB' := hid hb'
  have hc0 := recA_0 k nm (.slice a bs.length cap)
  have hc33 := recA_33 k nm (.slice a bs.length cap) hn
  have hd0 := recA_0 k' nm' (.slice a' bs'.length cap')
  have hd33 := recA_33 k' nm' (.slice a' bs'.length cap') hn'
  have HE := hid (fun w => eqName nm nm' hn hn' hx hx' w)
  have HI : Hid ((Tryz.prog.info? 44).map (·.size) = some (u8s nm).length) := by rw [Hid, u8s_length, hn]; kernel_rfl
  have HI' : Hid ((Tryz.prog.info? 44).map (·.size) = some (u8s nm').length) := by rw [Hid, u8s_length, hn']; kernel_rfl
  clear hb hb' hn hn' hx hx'
  obtain ⟨C, hC⟩ : ∃ C, recA k nm (.slice a bs.length cap) = C := ⟨_, rfl⟩
  obtain ⟨D, hD⟩ : ∃ D, recA k' nm' (.slice a' bs'.length cap') = D := ⟨_, rfl⟩
  rw [hC] at hc0 hc33
  rw [hD] at hd0 hd33
  rw [hC, hD]
  have HC := hid hC
  have HD := hid hD
  clear hC hD
  have HR := hid (range_new w C 47)
  have HRD := hid (range_new (w.alloc (.cells C.toArray 47)) D 47)
  have hbel : Below w.heap.size w ((w.alloc (.cells C.toArray 47)).alloc (.cells D.toArray 47)) := ((Below.refl _ _).alloc (Nat.le_refl _) _).alloc (by simp) _
  have HBL := hid hbel
  clear hbel
  by_cases hk : k = k'
  · have HK := hid hk
    have hkb : (k == k') = true := by simpa using hk
    clear hk
    obtain ⟨b1, hb1⟩ : ∃ b1, decide (nm = nm') = b1 := ⟨_, rfl⟩
    rw [hb1] at HE
    have heq := HE.out
    have HB1 := hid hb1
    clear hb1 HE
    cases b1 with
    | false =>
      go_enter Tryz.func43, Tryz.ntmps43
      go_wp2_with (refine wpList_bare (by rfl) ?_; first
        | (refine wpList_load_mid (by rfl) 44 _ (by rfl) w.heap.size 1 (by rfl) (u8s nm) _ ?hc Tryz.underlying44 rfl HI.out ?_; (case hc => exact rangeAt_name (k := k) (v := .slice a bs.length cap) (World.rangeAt_alloc (by rw [HC.out]; exact HR.out) _)))
        | (refine wpList_load_mid (by rfl) 44 _ (by rfl) (w.heap.size + 1) 1 (by rfl) (u8s nm') _ ?hc Tryz.underlying44 rfl HI'.out ?_; (case hc => exact rangeAt_name (k := k') (v := .slice a' bs'.length cap') (by rw [HD.out]; simpa using HRD.out))))
      go_ret
      refine ⟨?_, HBL.out⟩
      have h1 := HB1.out
      rw [sameR, h1]
      simp
    | true =>
      go_enter Tryz.func43, Tryz.ntmps43
      go_wp2_with (refine wpList_bare (by rfl) ?_; first
        | (refine wpList_load_mid (by rfl) 44 _ (by rfl) w.heap.size 1 (by rfl) (u8s nm) _ ?hc Tryz.underlying44 rfl HI.out ?_; (case hc => exact rangeAt_name (k := k) (v := .slice a bs.length cap) (World.rangeAt_alloc (by rw [HC.out]; exact HR.out) _)))
        | (refine wpList_load_mid (by rfl) 44 _ (by rfl) (w.heap.size + 1) 1 (by rfl) (u8s nm') _ ?hc Tryz.underlying44 rfl HI'.out ?_; (case hc => exact rangeAt_name (k := k') (v := .slice a' bs'.length cap') (by rw [HD.out]; simpa using HRD.out))))
      refine (Tlv.equal_any _ _ bs bs' _ (bySl_lift HB.out HBL.out) (bySl_lift HB'.out HBL.out)).mono ?_
      rintro e w1 ⟨rfl, hw1⟩
      subst hw1
      generalize hdd : decide (bs = bs') = b2
      have HDD := hid hdd
      clear hdd
      go_wp2_with fail
      go_ret
      refine ⟨?_, HBL.out⟩
      have h1 := HB1.out
      have h2 := HDD.out
      have h3 := HK.out
      rw [sameR, h1, h2, h3]
      simp
  · have hkb : (k == k') = false := by simpa using hk
    have HK := hid hk
    clear hk HE
    go_enter Tryz.func43, Tryz.ntmps43
    go_wp2_with fail
    go_ret
    refine ⟨?_, HBL.out⟩
    rw [sameR, decide_eq_false HK.out]
    rfl

set_option maxHeartbeats 2000000 in
set_option maxRecDepth 100000 in
/-- The reference's Same. -/
theorem same18_any (k k' : Int) (nm nm' bs bs' : List Int) (v v' : Value) (w : World) (hn : nm.length = 32) (hn' : nm'.length = 32) (hx : ∀ x ∈ nm, 0 ≤ x ∧ x ≤ 255) (hx' : ∀ x ∈ nm', 0 ≤ x ∧ x ≤ 255)
    (hb : Tlv.BySl 0 w.heap.size w v bs) (hb' : Tlv.BySl 0 w.heap.size w v' bs') :
    Calls Tryz.prog 30 #[.agg (recA k nm v).toArray, .agg (recA k' nm' v').toArray] w fun e w' => e = .returned (.bool (sameR k k' nm nm' bs bs')) ∧ Below w.heap.size w w' := by
  obtain ⟨a, cap, rfl, hr⟩ := id hb
  obtain ⟨a', cap', rfl, hr'⟩ := id hb'
  clear hr hr'
  have HB := hid hb
  have HB' := hid hb'
  have hc0 := recA_0 k nm (.slice a bs.length cap)
  have hc33 := recA_33 k nm (.slice a bs.length cap) hn
  have hd0 := recA_0 k' nm' (.slice a' bs'.length cap')
  have hd33 := recA_33 k' nm' (.slice a' bs'.length cap') hn'
  have HE := hid (fun w => eqName nm nm' hn hn' hx hx' w)
  have HI : Hid ((Tryz.prog.info? 44).map (·.size) = some (u8s nm).length) := by rw [Hid, u8s_length, hn]; kernel_rfl
  have HI' : Hid ((Tryz.prog.info? 44).map (·.size) = some (u8s nm').length) := by rw [Hid, u8s_length, hn']; kernel_rfl
  clear hb hb' hn hn' hx hx'
  obtain ⟨C, hC⟩ : ∃ C, recA k nm (.slice a bs.length cap) = C := ⟨_, rfl⟩
  obtain ⟨D, hD⟩ : ∃ D, recA k' nm' (.slice a' bs'.length cap') = D := ⟨_, rfl⟩
  rw [hC] at hc0 hc33
  rw [hD] at hd0 hd33
  rw [hC, hD]
  have HC := hid hC
  have HD := hid hD
  clear hC hD
  have HR := hid (range_new w C 49)
  have HRD := hid (range_new (w.alloc (.cells C.toArray 49)) D 49)
  have hbel : Below w.heap.size w ((w.alloc (.cells C.toArray 49)).alloc (.cells D.toArray 49)) := ((Below.refl _ _).alloc (Nat.le_refl _) _).alloc (by simp) _
  have HBL := hid hbel
  clear hbel
  by_cases hk : k = k'
  · have HK := hid hk
    have hkb : (k == k') = true := by simpa using hk
    clear hk
    obtain ⟨b1, hb1⟩ : ∃ b1, decide (nm = nm') = b1 := ⟨_, rfl⟩
    rw [hb1] at HE
    have heq := HE.out
    have HB1 := hid hb1
    clear hb1 HE
    cases b1 with
    | false =>
      go_enter Tryz.func30, Tryz.ntmps30
      go_wp2_with (refine wpList_bare (by rfl) ?_; first
        | (refine wpList_load_mid (by rfl) 44 _ (by rfl) w.heap.size 1 (by rfl) (u8s nm) _ ?hc Tryz.underlying44 rfl HI.out ?_; (case hc => exact rangeAt_name (k := k) (v := .slice a bs.length cap) (World.rangeAt_alloc (by rw [HC.out]; exact HR.out) _)))
        | (refine wpList_load_mid (by rfl) 44 _ (by rfl) (w.heap.size + 1) 1 (by rfl) (u8s nm') _ ?hc Tryz.underlying44 rfl HI'.out ?_; (case hc => exact rangeAt_name (k := k') (v := .slice a' bs'.length cap') (by rw [HD.out]; simpa using HRD.out))))
      go_ret
      refine ⟨?_, HBL.out⟩
      have h1 := HB1.out
      rw [sameR, h1]
      simp
    | true =>
      go_enter Tryz.func30, Tryz.ntmps30
      go_wp2_with (refine wpList_bare (by rfl) ?_; first
        | (refine wpList_load_mid (by rfl) 44 _ (by rfl) w.heap.size 1 (by rfl) (u8s nm) _ ?hc Tryz.underlying44 rfl HI.out ?_; (case hc => exact rangeAt_name (k := k) (v := .slice a bs.length cap) (World.rangeAt_alloc (by rw [HC.out]; exact HR.out) _)))
        | (refine wpList_load_mid (by rfl) 44 _ (by rfl) (w.heap.size + 1) 1 (by rfl) (u8s nm') _ ?hc Tryz.underlying44 rfl HI'.out ?_; (case hc => exact rangeAt_name (k := k') (v := .slice a' bs'.length cap') (by rw [HD.out]; simpa using HRD.out))))
      refine (Tlv.refBytes_any _ _ bs bs' _ (bySl_lift HB.out HBL.out) (bySl_lift HB'.out HBL.out)).mono ?_
      rintro e w1 ⟨rfl, hw1⟩
      have HW1 := hid hw1
      clear hw1
      generalize hdd : decide (bs = bs') = b2
      have HDD := hid hdd
      clear hdd
      go_wp2_with fail
      go_ret
      refine ⟨?_, HBL.out.trans (HW1.out.mono (by simp; omega))⟩
      have h1 := HB1.out
      have h2 := HDD.out
      have h3 := HK.out
      rw [sameR, h1, h2, h3]
      simp
  · have hkb : (k == k') = false := by simpa using hk
    have HK := hid hk
    clear hk HE
    go_enter Tryz.func30, Tryz.ntmps30
    go_wp2_with fail
    go_ret
    refine ⟨?_, HBL.out⟩
    rw [sameR, decide_eq_false HK.out]
    rfl

end Go.Proofs.YtophnjcoaglbnaaGreatDoor
end

section
/-
  What Size and Put answer.
-/
namespace Go.Proofs.YtophnjcoaglbnaaGreatDoor
open Go.RowKit
open Tlv (Tr BySlS AgreeS Agree)
open Crc (hid Kept Tab)

/-- A table at b, its rows filled or not. -/
def TabX (w : World) (b : Nat) : Prop := ∃ f n, (f = 0 ∨ f = 1) ∧ Tab w b f n
theorem TabX.below {w w' : World} {b : Nat} (h : TabX w b) (k : Below w.heap.size w w') : TabX w' b := by
  obtain ⟨f, n, hf, ht⟩ := h
  exact ⟨f, n, hf, ht.below k⟩
theorem TabX.lt {w : World} {b : Nat} (h : TabX w b) : b < w.heap.size := by
  obtain ⟨f, n, hf, ht⟩ := h
  exact ht.1
theorem TabX.kept {b g : Nat} {w w' : World} (h : TabX w b) (k : Kept g w w') (hg : b ≠ g) : TabX w' b := by
  obtain ⟨f, n, hf, ht⟩ := h
  exact ⟨f, n, hf, ht.kept k hg⟩
theorem TabX.of {b : Nat} {n : Int} {w : World} (h : Tab w b 1 n) : TabX w b := ⟨1, n, .inr rfl, h⟩

theorem toCrc {S : Nat → Prop} {b : Nat} {w : World} {v : Value} {xs : List Int} (h : BySlS S w v xs) (hS : ∀ g, S g → g ≠ b ∧ g < w.heap.size) : Crc.BySl b w v (nats xs) := by
  obtain ⟨a, cap, rfl, h2, h3, h4, h5, h6, h7⟩ := h
  refine ⟨a, cap, by rw [nats_length], by rw [nats_length]; exact h2, h3, fun e => ⟨by rw [(h4 e).1]; rfl, (h4 e).2⟩, by rw [nats_length]; exact h5, nats_lt _ h6, fun hne => ?_⟩
  have hne' : xs ≠ [] := fun e => hne (by rw [e]; rfl)
  obtain ⟨g, o, e, hg, hc⟩ := h7 hne'
  refine ⟨g, o, e, (hS g hg).1, (hS g hg).2, fun i hi => ?_⟩
  rw [nats_length] at hi
  rw [hc i hi]
  have hx := h6 (xs.getD i 0) (by rw [List.getD_eq_getElem?_getD, List.getElem?_eq_getElem hi]; simp)
  simp only [nats, List.getD_eq_getElem?_getD, List.getElem?_map, List.getElem?_eq_getElem hi, Option.map_some, Option.getD_some] at hx ⊢
  congr 2
  omega

theorem ofCrc {b : Nat} {w : World} {v : Value} {xs : List Nat} (h : Crc.BySl b w v xs) : BySlS (fun g => g ≠ b ∧ g < w.heap.size) w v (ints xs) := by
  obtain ⟨a, cap, rfl, h2, h3, h4, h5, h6, h7⟩ := h
  refine ⟨a, cap, by rw [ints_length], by rw [ints_length]; exact h2, h3, fun e => ⟨by rw [(h4 e).1]; rfl, (h4 e).2⟩, by rw [ints_length]; exact h5, ints_bd _ h6, fun hne => ?_⟩
  have hne' : xs ≠ [] := fun e => hne (by rw [e]; rfl)
  obtain ⟨g, o, e, hg, hg2, hc⟩ := h7 hne'
  refine ⟨g, o, e, ⟨hg, hg2⟩, fun i hi => ?_⟩
  rw [ints_length] at hi
  rw [hc i hi]
  simp [ints, List.getElem?_eq_getElem hi]

theorem BySlS.mono {S S' : Nat → Prop} {w : World} {v : Value} {xs : List Int} (h : BySlS S w v xs) (hS : ∀ g, S g → S' g) : BySlS S' w v xs := h.agree (fun _ _ => rfl) hS
theorem BySlS.kept {b : Nat} {S : Nat → Prop} {w w' : World} {v : Value} {xs : List Int} (h : BySlS S w v xs) (k : Kept b w w') (hS : ∀ g, S g → g ≠ b ∧ g < w.heap.size) : BySlS S w' v xs := h.agree (fun g hg => k.block g (hS g hg).2 (hS g hg).1) (fun _ h => h)
theorem BySlS.below {B : Nat} {S : Nat → Prop} {w w' : World} {v : Value} {xs : List Int} (h : BySlS S w v xs) (k : Below B w w') (hS : ∀ g, S g → g < B) : BySlS S w' v xs := h.agree (fun g hg => k.block g (hS g hg)) (fun _ h => h)

theorem rightB_of {k : Int} {nm bs : List Int} (h : RightR k nm bs) : rightB k bs.length = true := by
  obtain ⟨h1, h2, h3, _⟩ := h
  simp [rightB]; omega
theorem right_of {k : Int} {nm bs : List Int} (h : rightB k bs.length = true) (hn : nm.length = 32) (hx : ∀ x ∈ nm, 0 ≤ x ∧ x ≤ 255) (hy : ∀ x ∈ bs, 0 ≤ x ∧ x ≤ 255) : RightR k nm bs := by
  simp [rightB] at h
  exact ⟨by omega, by omega, by omega, hn, hx, hy⟩

set_option maxHeartbeats 1000000 in
set_option maxRecDepth 100000 in
theorem size_no (k : Int) (nm bs : List Int) (a : Option Addr) (cap : Nat) (w : World) (hn : nm.length = 32) (hR : rightB k bs.length = false) :
    Calls Tryz.prog 81 #[.agg (recA k nm (.slice a bs.length cap)).toArray] w fun e w' => e = .returned (.int .i64 0) ∧ Below w.heap.size w w' := by
  have HC0 := hid (recA_0 k nm (.slice a bs.length cap))
  have HC33 := hid (recA_33 k nm (.slice a bs.length cap) hn)
  have HL := hid (recA_length k nm (.slice a bs.length cap) hn)
  have HRR := hid hR
  clear hR
  obtain ⟨C, hC⟩ : ∃ C, recA k nm (.slice a bs.length cap) = C := ⟨_, rfl⟩
  rw [hC] at HC0 HC33 HL
  rw [hC]
  clear hC hn
  have HR := hid (range_new w C 47)
  have HI : Hid ((Tryz.prog.info? 47).map (·.size) = some C.length) := by rw [Hid, HL.out]; exact Tryz.info35
  go_enter Tryz.func81, Tryz.ntmps81
  go_wp2_with (refine wpList_load_mid (by rfl) 47 _ (by rfl) w.heap.size 0 (by rfl) C _ ?hc Tryz.underlying47 rfl HI.out ?_; (case hc => exact HR.out))
  refine (right13_any C k _ _ _ _ HC0.out HC33.out).mono ?_
  rintro e w1 ⟨rfl, hb1⟩
  rw [HRR.out]
  have HB1 : Hid (Below w.heap.size w w1) := ((Below.refl _ _).alloc (Nat.le_refl _) _).trans (hb1.mono (by simp))
  clear hb1
  go_wp2_with fail
  go_ret
  exact ⟨rfl, HB1.out⟩

set_option maxHeartbeats 1000000 in
set_option maxRecDepth 100000 in
theorem size_yes (k : Int) (nm bs : List Int) (v : Value) (w : World) (hb : Tlv.BySl 0 w.heap.size w v bs) (hR : RightR k nm bs) :
    Calls Tryz.prog 81 #[.agg (recA k nm v).toArray] w fun e w' => e = .returned (.int .i64 ((49 + bs.length : Nat) : Int)) ∧ Below w.heap.size w w' := by
  obtain ⟨a, cap, rfl, hr⟩ := id hb
  clear hr
  have HB := hid hb
  have hn := hR.2.2.2.1
  have HC0 := hid (recA_0 k nm (.slice a bs.length cap))
  have HC33 := hid (recA_33 k nm (.slice a bs.length cap) hn)
  have HL := hid (recA_length k nm (.slice a bs.length cap) hn)
  have HRR := hid hR
  have HSZ := hid (szT_rec hR)
  have hl5 := hR.2.2.1
  clear hR hb
  have HV := hid (value_any k nm bs (.slice a bs.length cap))
  obtain ⟨C, hC⟩ : ∃ C, recA k nm (.slice a bs.length cap) = C := ⟨_, rfl⟩
  rw [hC] at HC0 HC33 HL HV
  rw [hC]
  clear hC hn
  have HR := hid (range_new w C 47)
  have HI : Hid ((Tryz.prog.info? 47).map (·.size) = some C.length) := by rw [Hid, HL.out]; exact Tryz.info35
  go_enter Tryz.func81, Tryz.ntmps81
  go_wp2_with (refine wpList_load_mid (by rfl) 47 _ (by rfl) w.heap.size 0 (by rfl) C _ ?hc Tryz.underlying47 rfl HI.out ?_; (case hc => exact HR.out))
  refine (right13_any C k _ _ _ _ HC0.out HC33.out).mono ?_
  rintro e w1 ⟨rfl, hb1⟩
  rw [rightB_of HRR.out]
  have HB1 : Hid (Below w.heap.size w w1) := ((Below.refl _ _).alloc (Nat.le_refl _) _).trans (hb1.mono (by simp))
  have HR1 := hid (rangeAt_below HR.out hb1 (by simp))
  clear hb1
  go_wp2_with (refine wpList_load_mid (by rfl) 47 _ (by rfl) w.heap.size 0 (by rfl) C _ ?hc Tryz.underlying47 rfl HI.out ?_; (case hc => exact HR1.out))
  refine (HV.out w1 HRR.out.1 HRR.out.2.1 HRR.out.2.2.2.1 HRR.out.2.2.2.2.1 (HB.out.agree (Agree.below HB1.out) (Nat.le_refl _) HB1.out.size)).mono ?_
  rintro e w2 ⟨sb, sk, rfl, hr2, hb2⟩
  have HR2 := hid hr2
  have HB2 := hid hb2
  clear hr2 hb2
  go_wp2_with fail
  refine (Tlv.size_any (recT k nm bs) sb sk _ (HR2.out.agree (Agree.refl _ _ _) (Nat.zero_le _) (Nat.le_refl _))).mono ?_
  rintro e w3 ⟨rfl, hb3⟩
  rw [HSZ.out]
  have HB3 := hid hb3
  clear hb3
  go_wp2_with fail
  go_ret
  refine ⟨congrArg (fun x => Ending.returned (Value.int .i64 x)) ?_, (HB1.out.trans (HB2.out.mono HB1.out.size)).trans (HB3.out.mono (Nat.le_trans HB1.out.size HB2.out.size))⟩
  simp
  omega

set_option maxHeartbeats 1000000 in
set_option maxRecDepth 100000 in
theorem put_nil (C : List Value) (w : World) :
    Calls Tryz.prog 56 #[.pointer none, .agg C.toArray] w fun e w' => e = .returned (.tuple #[.slice none 0 0, .int .i64 18]) ∧ Below w.heap.size w w' := by
  go_enter Tryz.func56, Tryz.ntmps56
  go_wp2_with fail
  go_ret2
  exact ⟨rfl, (Below.refl _ _).alloc (Nat.le_refl _) _⟩

set_option maxHeartbeats 1000000 in
set_option maxRecDepth 100000 in
theorem put_no (ad : Addr) (k : Int) (nm bs : List Int) (a : Option Addr) (cap : Nat) (w : World) (hn : nm.length = 32) (hR : rightB k bs.length = false) :
    Calls Tryz.prog 56 #[.pointer (some ad), .agg (recA k nm (.slice a bs.length cap)).toArray] w fun e w' => e = .returned (.tuple #[.slice none 0 0, .int .i64 1]) ∧ Below w.heap.size w w' := by
  have HC0 := hid (recA_0 k nm (.slice a bs.length cap))
  have HC33 := hid (recA_33 k nm (.slice a bs.length cap) hn)
  have HL := hid (recA_length k nm (.slice a bs.length cap) hn)
  have HRR := hid hR
  clear hR
  obtain ⟨C, hC⟩ : ∃ C, recA k nm (.slice a bs.length cap) = C := ⟨_, rfl⟩
  rw [hC] at HC0 HC33 HL
  rw [hC]
  clear hC hn
  have HR := hid (range_new w C 47)
  have HI : Hid ((Tryz.prog.info? 47).map (·.size) = some C.length) := by rw [Hid, HL.out]; exact Tryz.info35
  go_enter Tryz.func56, Tryz.ntmps56
  go_wp2_with (refine wpList_load_mid (by rfl) 47 _ (by rfl) w.heap.size 0 (by rfl) C _ ?hc Tryz.underlying47 rfl HI.out ?_; (case hc => exact HR.out))
  refine (right13_any C k _ _ _ _ HC0.out HC33.out).mono ?_
  rintro e w1 ⟨rfl, hb1⟩
  rw [HRR.out]
  have HB1 : Hid (Below w.heap.size w w1) := ((Below.refl _ _).alloc (Nat.le_refl _) _).trans (hb1.mono (by simp))
  clear hb1
  go_wp2_with fail
  go_ret2
  exact ⟨rfl, HB1.out⟩

set_option maxHeartbeats 2000000 in
set_option maxRecDepth 100000 in
theorem put_yes (b : Nat) (k : Int) (nm bs : List Int) (v : Value) (w : World) (hT : TabX w b) (hb : Tlv.BySl 0 w.heap.size w v bs) (hR : RightR k nm bs) :
    Calls Tryz.prog 56 #[.pointer (some ⟨b, 0, none⟩), .agg (recA k nm v).toArray] w fun e w' => ∃ v', e = .returned (.tuple #[v', .int .i64 0]) ∧ Crc.Own w' w.heap.size v' (nats (frameR k nm bs)) ∧ Kept b w w' ∧ TabX w' b := by
  obtain ⟨a, cap, rfl, hr⟩ := id hb
  clear hr
  have HB := hid hb
  have hn := hR.2.2.2.1
  have HC0 := hid (recA_0 k nm (.slice a bs.length cap))
  have HC33 := hid (recA_33 k nm (.slice a bs.length cap) hn)
  have HL := hid (recA_length k nm (.slice a bs.length cap) hn)
  have HRR := hid hR
  have HSZ := hid (szT_rec hR)
  have HFL := hid (formR_length hR)
  have HT := hid hT
  have hbw := hT.lt
  clear hR hb hT
  have HV := hid (value_any k nm bs (.slice a bs.length cap))
  obtain ⟨C, hC⟩ : ∃ C, recA k nm (.slice a bs.length cap) = C := ⟨_, rfl⟩
  rw [hC] at HC0 HC33 HL HV
  rw [hC]
  clear hC hn
  have HR := hid (range_new w C 47)
  have HI : Hid ((Tryz.prog.info? 47).map (·.size) = some C.length) := by rw [Hid, HL.out]; exact Tryz.info35
  go_enter Tryz.func56, Tryz.ntmps56
  go_wp2_with (refine wpList_load_mid (by rfl) 47 _ (by rfl) w.heap.size 0 (by rfl) C _ ?hc Tryz.underlying47 rfl HI.out ?_; (case hc => exact HR.out))
  refine (right13_any C k _ _ _ _ HC0.out HC33.out).mono ?_
  rintro e w1 ⟨rfl, hb1⟩
  rw [rightB_of HRR.out]
  have HB1 : Hid (Below w.heap.size w w1) := ((Below.refl _ _).alloc (Nat.le_refl _) _).trans (hb1.mono (by simp))
  have HR1 := hid (rangeAt_below HR.out hb1 (by simp))
  clear hb1
  go_wp2_with (refine wpList_load_mid (by rfl) 47 _ (by rfl) w.heap.size 0 (by rfl) C _ ?hc Tryz.underlying47 rfl HI.out ?_; (case hc => exact HR1.out))
  refine (HV.out w1 HRR.out.1 HRR.out.2.1 HRR.out.2.2.2.1 HRR.out.2.2.2.2.1 (HB.out.agree (Agree.below HB1.out) (Nat.le_refl _) HB1.out.size)).mono ?_
  rintro e w2 ⟨sb, sk, rfl, hr2, hb2⟩
  have HR2 := hid hr2
  have HB2 : Hid (Below w.heap.size w w2) := HB1.out.trans (hb2.mono HB1.out.size)
  clear hr2 hb2
  go_wp2_with fail
  refine (Tlv.Put_yes (recT k nm bs) sb sk _ (HR2.out.agree (Agree.refl _ _ _) (Nat.zero_le _) (Nat.le_refl _)) (by rw [HSZ.out]; omega)).mono ?_
  rintro e w3 ⟨vf, rfl, hf3, hb3⟩
  obtain ⟨af, cf, rfl, hrf⟩ := id hf3
  clear hrf
  have HF3 := hid hf3
  have HB3 : Hid (Below w.heap.size w w3) := HB2.out.trans (hb3.mono HB2.out.size)
  have hz2 : w.heap.size ≤ w2.heap.size := HB2.out.size
  clear hf3 hb3
  go_wp2_with fail
  obtain ⟨f, n, hf, ht⟩ := (HT.out.below HB3.out)
  have hcf : Crc.BySl b w3 (.slice af (Tlv.formOf 2 (recT k nm bs)).length cf) (nats (formR k nm bs)) := toCrc HF3.out.toS (fun g hg => ⟨by omega, hg.2⟩)
  refine (Crc.seal_any b f n _ (nats (formR k nm bs)) _ hf ht hcf (by rw [nats_length, HFL.out]; have := HRR.out.2.2.1; omega)).mono ?_
  rintro e w4 ⟨v', rfl, ho, hk4, ht4⟩
  have HO := hid ho
  have HK4 := hid hk4
  have HT4 := hid ht4
  clear ho hk4 ht4 ht hcf hf
  go_wp2_with fail
  go_ret2
  refine ⟨v', rfl, ?_, (Kept.below HB3.out).trans HK4.out, TabX.of HT4.out⟩
  rw [frameR, sealI_nats]
  exact HO.out.mono HB3.out.size

end Go.Proofs.YtophnjcoaglbnaaGreatDoor
end

section
/-
  A pack is begun.
-/
namespace Go.Proofs.YtophnjcoaglbnaaGreatDoor
open Go.RowKit Go.Shelf
open Sim (hid Kp No PS Done Blk nm pCreate finds pBytes)

theorem TabX.kp {L : Nat → Prop} {w w' : World} {b : Nat} (h : TabX w b) (k : Kp L w w') (hb : ¬ L b) : TabX w' b := by
  have hlt := h.lt
  obtain ⟨f, n, hf, ht⟩ := h
  refine ⟨f, n, hf, ?_⟩
  obtain ⟨h1, h2, h3, h4, h5, h6, h7⟩ := ht
  have c : ∀ j, w'.cell? ⟨b, j, none⟩ = w.cell? ⟨b, j, none⟩ := fun j => k.cell (p := ⟨b, j, none⟩) hlt hb
  refine ⟨Nat.lt_of_lt_of_le h1 k.size, (c _).trans h2, (c _).trans h3, (c _).trans h4, fun j hj => ?_, fun e j hj => (c _).trans (h6 e j hj), fun j => (k.frozen (p := ⟨b, j, none⟩) hlt hb).trans (h7 j)⟩
  obtain ⟨x, hx⟩ := h5 j hj
  exact ⟨x, (c _).trans hx⟩
theorem kp_kept {b : Nat} {w w' : World} (k : Crc.Kept b w w') : Kp (fun x => x = b) w w' := ⟨k.os, k.tape, k.output, k.size, fun i hi hL => k.block i hi hL⟩
theorem sys_kept {P : Nat → Prop} {N b s : Nat} {w w' : World} {p : PS} (h : Sim.Sys P N w s p) (k : Crc.Kept b w w') (hb : ¬ P b) : Sim.Sys P N w' s p :=
  h.kp (kp_kept k) (fun x hx => by rw [hx]; exact hb)

/-- A writer's cells. -/
def wrC (s b : Nat) (i sz ct : Int) (cl : Bool) : List Value := [.pointer (some ⟨s, 0, none⟩), .pointer (some ⟨b, 0, none⟩), .int .i64 i, .int .i64 sz, .int .i64 ct, .bool cl]
def WrAt (w : World) (g s b : Nat) (i sz ct : Int) (cl : Bool) : Prop := Blk w g 121 (wrC s b i sz ct cl)

theorem name_le (p : ByteArray) (hp : p.size ≤ 100) (i : Nat) (h : i < 100) : (sortB p i).size ≤ 1000000 := by
  have := dec_small i h
  have e : (sortB p i).size = p.size + (Lib.decDigits i).length := by
    rw [sortB, ByteArray.size_append]
    rfl
  omega

set_option maxHeartbeats 1000000 in
theorem begin_any {P : Nat → Prop} {N : Nat} (w : World) (s b : Nat) (p : PS) (i : Nat) (h1 : 1 ≤ i) (h2 : i < 100) (h : Sim.Sys P N w s p) (hN : N + 1 ≤ 1000) :
    Calls Tryz.prog 21 #[.pointer (some ⟨s, 0, none⟩), .pointer (some ⟨b, 0, none⟩), .int .i64 (i : Int)] w fun e w' =>
      (finds p (nm (nameP i)) = 0 ∧ e = .returned (.tuple #[.pointer none, .int .i64 6]) ∧ Kp No w w') ∨
      (finds p (nm (nameP i)) ≠ 0 ∧ ∃ x, p.files x = none ∧
        (((pCreate (nm (nameT i)) x p).1 ≠ 0 ∧ e = .returned (.tuple #[.pointer none, .int .i64 ((pCreate (nm (nameT i)) x p).1 : Nat)]) ∧ Done P (N + 1) w w' s (pCreate (nm (nameT i)) x p).2) ∨
         ((pCreate (nm (nameT i)) x p).1 = 0 ∧ ∃ g P', e = .returned (.tuple #[.pointer (some ⟨g, 0, none⟩), .int .i64 0]) ∧ WrAt w' g s b i 0 0 false ∧ Sim.Sys P' (N + 1) w' s (pCreate (nm (nameT i)) x p).2 ∧ Kp P w w' ∧ (∀ x, P' x → P x ∨ w.heap.size ≤ x) ∧ ¬ P' g ∧ w.heap.size ≤ g))) := by
  have HID : Hid (∀ V, Calls Tryz.prog 52 #[.int .i64 (i : Int)] V fun e w' => e = .returned (.bool true) ∧ w' = V) := fun V => by
    have h := isID_any (i : Int) V
    rwa [show idB (i : Int) = true from by simp [idB]; omega] at h
  have HNM := hid (fun V => pname_small i h1 h2 V)
  have HTM := hid (fun V => ptemp_small i h1 h2 V)
  have HSZ := hid (Sim.size_any w s p (nameP i) (name_le _ (by decide) i h2) h)
  have HCR := hid (fun V (k : Kp No w V) => Sim.create_any V s p (nameT i) (name_le _ (by decide) i h2) (h.kept k) hN)
  generalize (pBytes (nm (nameP i)) p).length = ln at HSZ
  by_cases h0 : finds p (nm (nameP i)) = 0
  · rw [h0] at HSZ
    go_enter Tryz.func21, Tryz.ntmps21
    go_wp2_with (first
      | (go_at_call 52; refine (HID.out _).mono ?_; rintro e w1 ⟨rfl, h⟩; subst w1)
      | (go_at_call 12; refine (HNM.out _).mono ?_; rintro e w1 ⟨rfl, h⟩; subst w1)
      | (go_at_call 53; refine HSZ.out.mono ?_; rintro e w1 ⟨rfl, h⟩; have HK := hid h; clear h))
    go_ret2
    exact .inl ⟨h0, rfl, HK.out⟩
  · have HF := hid h0
    obtain ⟨F, hF⟩ : ∃ F, finds p (nm (nameP i)) = F := ⟨_, rfl⟩
    rw [hF] at HSZ h0
    have hF0 : ¬ ((F : Int) = 0) := by omega
    clear hF
    go_enter Tryz.func21, Tryz.ntmps21
    go_wp2_with (first
      | (go_at_call 52; refine (HID.out _).mono ?_; rintro e w1 ⟨rfl, h⟩; subst w1)
      | (go_at_call 12; refine (HNM.out _).mono ?_; rintro e w1 ⟨rfl, h⟩; subst w1)
      | (go_at_call 14; refine (HTM.out _).mono ?_; rintro e w2 ⟨rfl, h⟩; subst w2)
      | (go_at_call 53; refine HSZ.out.mono ?_; rintro e w1 ⟨rfl, h⟩; have HK := hid h; clear h))
    refine (HCR.out w1 HK.out).mono ?_
    rintro e w3 ⟨x, hx, rfl, P', hS, hKp, hP'⟩
    have HX := hid (And.intro hx (And.intro hS (And.intro hKp hP')))
    clear hx hS hKp hP'
    by_cases hc : (pCreate (nm (nameT i)) x p).1 = 0
    · have HC := hid hc
      rw [hc]
      clear hc
      go_wp2_with fail
      go_ret2
      obtain ⟨hx, hS, hKp, hP'⟩ := HX.out
      have hk0 := HK.out.size
      have hk1 := hKp.size
      refine .inr ⟨HF.out, x, hx, .inr ⟨HC.out, w3.heap.size, P', rfl, Blk.new w3 121 (wrC s b i 0 0 false), hS.kept ((Kp.refl _ _).alloc _), ?_, fun y hy => ?_, fun hy => ?_, by omega⟩⟩
      · exact (HK.out.ofNo.trans hKp (fun _ hx => .inl hx)).alloc _
      · rcases hP' y hy with h | h
        · exact .inl h
        · right; omega
      · have := hS.lt _ hy; omega
    · have HC := hid hc
      obtain ⟨G, hG⟩ : ∃ G, (pCreate (nm (nameT i)) x p).1 = G := ⟨_, rfl⟩
      have HG := hid hG
      rw [hG] at hc ⊢
      have hG0 : ¬ ((G : Int) = 0) := by omega
      clear hG
      go_wp2_with fail
      go_ret2
      obtain ⟨hx, hS, hKp, hP'⟩ := HX.out
      refine .inr ⟨HF.out, x, hx, .inl ⟨HC.out, by rw [HG.out]; rfl, Done.after ⟨P', hS, hKp, hP'⟩ HK.out⟩⟩
end Go.Proofs.YtophnjcoaglbnaaGreatDoor
end

section
/-
  What is said of no file system, no table, no writer.
-/
namespace Go.Proofs.YtophnjcoaglbnaaGreatDoor
open Go.RowKit Go.Shelf
open Sim (hid Kp No PS Done Blk nm pCreate finds pBytes)

theorem begin_nil (v : Value) (z : Int) (w : World) : Calls Tryz.prog 21 #[.pointer none, v, .int .i64 z] w fun e w' => e = .returned (.tuple #[.pointer none, .int .i64 18]) ∧ w' = w := by
  go_enter Tryz.func21, Tryz.ntmps21
  go_wp2
  go_ret2
  exact ⟨rfl, rfl⟩
theorem begin_nilT (a : Addr) (z : Int) (w : World) : Calls Tryz.prog 21 #[.pointer (some a), .pointer none, .int .i64 z] w fun e w' => e = .returned (.tuple #[.pointer none, .int .i64 18]) ∧ w' = w := by
  go_enter Tryz.func21, Tryz.ntmps21
  go_wp2
  go_ret2
  exact ⟨rfl, rfl⟩
theorem wrongW_nil (w : World) : Calls Tryz.prog 55 #[.pointer none] w fun e w' => e = .returned (.int .i64 18) ∧ w' = w := by
  go_enter Tryz.func55, Tryz.ntmps55
  go_wp2
  go_ret
  exact ⟨rfl, rfl⟩
theorem wrongW_any (w : World) (g s b : Nat) (i sz ct : Int) (cl : Bool) (h : WrAt w g s b i sz ct cl) : Calls Tryz.prog 55 #[.pointer (some ⟨g, 0, none⟩)] w fun e w' => e = .returned (.int .i64 (if cl then 13 else 0)) ∧ w' = w := by
  have c0 : w.cell? ⟨g, 0, none⟩ = some (.pointer (some ⟨s, 0, none⟩)) := h.cell 0
  have c5 : w.cell? ⟨g, 5, none⟩ = some (.bool cl) := h.cell 5
  clear h
  cases cl with
  | false =>
    go_enter Tryz.func55, Tryz.ntmps55
    go_wp2
    go_ret
    exact ⟨rfl, rfl⟩
  | true =>
    go_enter Tryz.func55, Tryz.ntmps55
    go_wp2
    go_ret
    exact ⟨rfl, rfl⟩
theorem sizeW_nil (w : World) : Calls Tryz.prog 32 #[.pointer none] w fun e w' => e = .returned (.int .i64 0) ∧ w' = w := by
  go_enter Tryz.func32, Tryz.ntmps32
  go_wp2
  go_ret
  exact ⟨rfl, rfl⟩
theorem sealW_nil (w : World) : Calls Tryz.prog 24 #[.pointer none] w fun e w' => e = .returned (.int .i64 18) ∧ w' = w := by
  go_enter Tryz.func24, Tryz.ntmps24
  go_wp2_with (go_at_call 55; refine (wrongW_nil _).mono ?_; rintro e w1 ⟨rfl, h⟩; subst w1)
  go_ret
  exact ⟨rfl, rfl⟩
theorem abortW_nil (w : World) : Calls Tryz.prog 33 #[.pointer none] w fun e w' => e = .returned (.int .i64 18) ∧ w' = w := by
  go_enter Tryz.func33, Tryz.ntmps33
  go_wp2_with (go_at_call 55; refine (wrongW_nil _).mono ?_; rintro e w1 ⟨rfl, h⟩; subst w1)
  go_ret
  exact ⟨rfl, rfl⟩
theorem drop_nil (z : Int) (w : World) : Calls Tryz.prog 82 #[.pointer none, .int .i64 z] w fun e w' => e = .returned (.int .i64 18) ∧ w' = w := by
  go_enter Tryz.func82, Tryz.ntmps82
  go_wp2
  go_ret
  exact ⟨rfl, rfl⟩
theorem clean_nil (w : World) : Calls Tryz.prog 26 #[.pointer none] w fun e w' => e = .returned (.tuple #[.int .i64 0, .int .i64 18]) ∧ w' = w := by
  go_enter Tryz.func26, Tryz.ntmps26
  go_wp2
  go_ret2
  exact ⟨rfl, rfl⟩
theorem pread_nil (v : Value) (z : Int) (w : World) : Calls Tryz.prog 67 #[.pointer none, v, .int .i64 z] w fun e w' => e = .returned (.tuple #[.slice none 0 0, .int .i64 18]) ∧ w' = w := by
  go_enter Tryz.func67, Tryz.ntmps67
  go_wp2
  go_ret2
  exact ⟨rfl, rfl⟩
theorem pread_nilT (a : Addr) (z : Int) (w : World) : Calls Tryz.prog 67 #[.pointer (some a), .pointer none, .int .i64 z] w fun e w' => e = .returned (.tuple #[.slice none 0 0, .int .i64 18]) ∧ w' = w := by
  go_enter Tryz.func67, Tryz.ntmps67
  go_wp2
  go_ret2
  exact ⟨rfl, rfl⟩
theorem load_nil (a : Addr) (z : Int) (w : World) : Calls Tryz.prog 28 #[.pointer none, .pointer (some a), .int .i64 z] w fun e w' => e = .returned (.tuple #[.slice none 0 0, .int .i64 18]) ∧ w' = w := by
  go_enter Tryz.func28, Tryz.ntmps28
  go_wp2_with (go_at_call 67; refine (pread_nil _ _ _).mono ?_; rintro e w1 ⟨rfl, h⟩; subst w1)
  go_ret2
  exact ⟨rfl, rfl⟩
/-- Nothing is picked of no file system. -/
theorem pickS_nil (f : Value) (w : World) : Calls Tryz.prog 65 #[.pointer none, f] w fun e w' => e = .returned (.slice none 0 0) ∧ w' = w := by
  go_enter Tryz.func65, Tryz.ntmps65
  go_wp2_with (go_at_call 105; refine (Sim.list_nil _).mono ?_; rintro e w1 ⟨rfl, h⟩; subst w1)
  go_loop [5, 13] (fun l i => l = .slice none 0 0 ∧ i = .int .i64 0) (fun _ _ => 0)
  case atStart => exact ⟨rfl, rfl⟩
  case round =>
    obtain ⟨rfl, rfl⟩ := hrel
    go_wp2
    go_ret
    exact ⟨rfl, rfl⟩
theorem pickI_nil (f : Value) (w : World) : Calls Tryz.prog 69 #[.pointer none, f] w fun e w' => e = .returned (.slice none 0 0) ∧ w' = w := by
  go_enter Tryz.func69, Tryz.ntmps69
  go_wp2_with (go_at_call 105; refine (Sim.list_nil _).mono ?_; rintro e w1 ⟨rfl, h⟩; subst w1)
  go_loop [5, 13] (fun l i => l = .slice none 0 0 ∧ i = .int .i64 0) (fun _ _ => 0)
  case atStart => exact ⟨rfl, rfl⟩
  case round =>
    obtain ⟨rfl, rfl⟩ := hrel
    go_wp2
    go_ret
    exact ⟨rfl, rfl⟩
theorem temps_nil (w : World) : Calls Tryz.prog 27 #[.pointer none] w fun e w' => e = .returned (.slice none 0 0) ∧ Below w.heap.size w w' := by
  go_enter Tryz.func27, Tryz.ntmps27
  go_wp2_with (go_at_call 65; refine (pickS_nil _ _).mono ?_; rintro e w1 ⟨rfl, h⟩; subst w1)
  go_ret
  exact ⟨rfl, Below.refl _ _⟩
theorem ids_nil (w : World) : Calls Tryz.prog 29 #[.pointer none] w fun e w' => e = .returned (.slice none 0 0) ∧ Below w.heap.size w w' := by
  have hs : Hid (∀ V, Calls Tryz.prog 70 #[.slice none 0 0] V fun e w' => e = .returned (.tuple #[]) ∧ w' = V) := fun V => Any.slices_Sort_int_none Sim.Tryz.sortI none 0 V
  go_enter Tryz.func29, Tryz.ntmps29
  go_wp2_with (first
    | (go_at_call 69; refine (pickI_nil _ _).mono ?_; rintro e w1 ⟨rfl, h⟩; subst w1)
    | (go_at_call 70; refine (hs.out _).mono ?_; rintro e w1 ⟨rfl, h⟩; subst w1))
  go_ret
  exact ⟨rfl, Below.refl _ _⟩
end Go.Proofs.YtophnjcoaglbnaaGreatDoor
end

section
/-
  A file is written: Append, Fsync, Flip.
-/
namespace Go.Proofs.YtophnjcoaglbnaaGreatDoor.Sim
open Go.RowKit Go.Maps

/-- A file's block, or its bytes', are written. -/
theorem rq_setF {P P' : Nat → Prop} {I J : PS → Prop} {W W' : World} {s b : Nat} {q : PS} {vs vf vc v' : Value} {u : Nat → Value} {f f' : Fl} (h : Rp P I W s q vs vf vc u) (hb : q.files b = some f)
    (K : Kp (fun k => k = b ∨ (u b).ownBlock = some k) W W') (hF : FileAt W' b v' f') (hv : ∀ k, v'.ownBlock = some k → (u b).ownBlock = some k ∨ W.heap.size ≤ k) (hPP : ∀ x, P x → P' x) (hlt : ∀ x, P' x → x < W'.heap.size) (hvP : ∀ k, v'.ownBlock = some k → P' k) (hi : J (setF b f' q)) :
    Rp P' J W' s (setF b f' q) vs vf vc (fun x => if x = b then v' else u x) ∧ Kp P W W' := by
  obtain ⟨hPb, hFb, hPu⟩ := h.file b f hb
  have nb : ∀ x t cs, Blk W x t cs → x ≠ b → t ≠ 5 → ¬ (x = b ∨ (u b).ownBlock = some x) := fun x t cs hx hne ht e => by
    rcases e with e | e
    · exact hne e
    · exact hFb.own.row.ne hx ht e
  have nm' : ∀ m l, MapAt W m l → ¬ (m = b ∨ (u b).ownBlock = some m) := fun m l hm e => by
    rcases e with e | e
    · exact hm.blk hFb.blk e
    · exact hm.row hFb.own.row e
  have KP : Kp P W W' := K.mono (fun x hx => by
    rcases hx with rfl | hx
    · exact .inl hPb
    · exact .inl (hPu x hx))
  refine ⟨?_, KP⟩
  exact {
    lt := hlt
    ps := hPP _ h.ps
    blk := h.blk.kp K (nb s _ _ h.blk (h.blk.ne hFb.blk (by decide)) (by decide))
    seen := by
      rcases h.seen with ⟨h1, h2⟩ | ⟨m, h1, h2⟩
      · exact .inl ⟨h1, h2⟩
      · exact .inr ⟨m, h1, h2.kp K (nm' m _ h2)⟩
    safe := by
      rcases h.safe with ⟨h1, h2⟩ | ⟨m, h1, h2⟩
      · exact .inl ⟨h1, h2⟩
      · exact .inr ⟨m, h1, h2.kp K (nm' m _ h2)⟩
    unmade := h.unmade
    mades := fun e => by obtain ⟨a, c, h1, h2, h3, h4, h5⟩ := h.mades e; exact ⟨a, c, h1, h2, h3, hPP _ h4, hPP _ h5⟩
    chg := h.chg.kp K (fun x hx e => by
      rcases e with e | e
      · exact h.chg.ne hFb.blk (by decide) (by rw [hx, e])
      · exact hFb.own.row.ne' h.chg (by decide) x e hx)
    pc := fun x hx => hPP _ (h.pc x hx)
    file := fun x g hg => by
      have hg' : (if x = b then some f' else q.files x) = some g := hg
      by_cases e : x = b
      · subst e
        rw [if_pos rfl] at hg' ⊢
        cases hg'
        exact ⟨hPP _ hPb, hF, hvP⟩
      · rw [if_neg e] at hg' ⊢
        obtain ⟨h1, h2, h3⟩ := h.file x g hg'
        exact ⟨hPP _ h1, h2.kp K (nb x _ _ h2.blk e (by decide)) (fun k hk e' => by
          rcases e' with e' | e'
          · exact h2.own.row.ne hFb.blk (by decide) (by rw [hk, e'])
          · exact h.sep b x f g hb hg' (Ne.symm e) k e' hk), fun k hk => hPP _ (h3 k hk)⟩
    sep := fun x y g g' hx hy hne k hk => by
      have hx' : (if x = b then some f' else q.files x) = some g := hx
      have hy' : (if y = b then some f' else q.files y) = some g' := hy
      by_cases ex : x = b
      · subst ex
        have ey : y ≠ x := Ne.symm hne
        rw [if_pos rfl] at hk
        rw [if_neg ey] at hy' ⊢
        rcases hv k hk with h1 | h1
        · exact h.sep x y f g' hb hy' hne k h1
        · intro e
          have := h.lt k ((h.file y g' hy').2.2 k e)
          omega
      · rw [if_neg ex] at hx' hk
        by_cases ey : y = b
        · subst ey
          rw [if_pos rfl]
          intro e
          rcases hv k e with h1 | h1
          · exact h.sep x y g f hx' hb hne k hk h1
          · have := h.lt k ((h.file x g hx').2.2 k hk)
            omega
        · rw [if_neg ey] at hy' ⊢
          exact h.sep x y g g' hx' hy' hne k hk
    inv := hi }

theorem rp_setF {P : Nat → Prop} {I : PS → Prop} {M : Nat} {W W' : World} {s b : Nat} {q : PS} {vs vf vc v' : Value} {u : Nat → Value} {f f' : Fl} (h : Rp P I W s q vs vf vc u) (hb : q.files b = some f)
    (K : Kp (fun k => k = b ∨ (u b).ownBlock = some k) W W') (hF : FileAt W' b v' f') (hv : ∀ k, v'.ownBlock = some k → (u b).ownBlock = some k ∨ W.heap.size ≤ k) (hi : PInv M (setF b f' q)) :
    Sys (Ext P W W') M W' s (setF b f' q) ∧ Kp P W W' := by
  obtain ⟨h1, h2⟩ := rq_setF (P' := Ext P W W') (J := PInv M) h hb K hF hv (fun x hx => .inl hx) (fun x hx => by
    rcases hx with hx | hx
    · exact Nat.lt_of_lt_of_le (h.lt x hx) K.size
    · exact hx.2) (fun k hk => by
    rcases hv k hk with h1 | h1
    · exact .inl ((h.file b f hb).2.2 k h1)
    · exact .inr ⟨h1, hF.own.row.lt k hk⟩) hi
  exact ⟨⟨vs, vf, vc, _, h1⟩, h2⟩

/-! ### Fsync -/
theorem fsync_nil (t : ByteArray) (w : World) : Calls Tryz.prog 97 #[.pointer none, .string t] w fun e w' => e = .returned (.int .i64 18) ∧ Kp No w w' := by
  go_enter Tryz.func97, Tryz.ntmps97
  go_wp2_with (go_at_call 72; refine (find_nil t _).mono ?_; rintro e w1 ⟨rfl, h1⟩; have H1 := hid h1; clear h1)
  go_ret
  exact ⟨rfl, H1.out.alloc _⟩

set_option maxHeartbeats 1000000 in
theorem fsync1_any (W : World) (x b : Nat) (a : Option Addr) (n cap m : Nat) (hx : W.cell? ⟨x, 0, none⟩ = some (.pointer (some ⟨b, 0, none⟩))) (hb : Blk W b 142 [.slice a n cap, .int .i64 (m : Int)]) :
    Calls Tryz.prog 132 #[.pointer (some ⟨x, 0, none⟩)] W fun e w' => e = .returned (.tuple #[]) ∧ ∃ W1, Kp No W W1 ∧ w' = W1.setCell ⟨b, 1, none⟩ (.int .i64 (n : Int)) := by
  have c0 : W.cell? ⟨b, 0, none⟩ = some (.slice a n cap) := hb.cell 0
  have c1 : W.cell? ⟨b, 1, none⟩ = some (.int .i64 (m : Int)) := hb.cell 1
  have f1 := hb.frozen 1
  clear hb
  go_enter Tryz.func132, Tryz.ntmps132
  go_wp2_with fail
  go_region
  all_goals
    go_wp2_with fail
    go_end0
    exact ⟨rfl, W.drew, (Kp.refl _ _).drew, rfl⟩

/-- A step that writes a file. -/
theorem step_file {P : Nat → Prop} {N : Nat} (w0 w : World) (s : Nat) (p : PS) (b : Nat) (f' : Fl) (hk0 : Kp No w0 w) (h : Sys P N w0 s p) (hN : N + 1 ≤ 1000) (fn : FuncId) (caps : Array Value) (ent : ∀ args w, (callFunc fn args).run Tryz.prog w = .ok (.enter fn args) w)
    (hc : ∀ W vs vf vc u, Kp (· = s) w W → Rp P (PInv (N + 1)) W s (tick p) vs vf vc u → Calls Tryz.prog fn caps W fun e w' => e = .returned (.tuple #[]) ∧ Sys (Ext P W w') (N + 1) w' s (setF b f' (tick p)) ∧ Kp P W w') :
    Calls Tryz.prog 94 #[.pointer (some ⟨s, 0, none⟩), .func (.func fn) #[] caps] w fun e w' => e = .returned (.int .i64 ((stp p (setF b f')).1 : Nat)) ∧ Done P (N + 1) w0 w' s (stp p (setF b f')).2 := by
  have hps := h.c.1
  cases hd : dead p with
  | true =>
    have e1 : stp p (setF b f') = (12, fall p) := by simp [stp, hd]
    rw [e1]
    refine (step_dead w s p (h.kept hk0) hd _).mono ?_
    rintro e w' ⟨rfl, hS, hk⟩
    exact ⟨rfl, P, hS.more (by omega) hN, (hk0.mono (fun _ h => h.elim)).trans hk (fun x hx => .inl (by subst hx; exact hps)), fun _ h => .inl h⟩
  | false =>
    have e1 : stp p (setF b f') = (0, setF b f' (tick p)) := by simp [stp, hd]
    rw [e1]
    refine step_live w s p (h.kept hk0) hd hN fn caps ent _ ?_
    rintro W kW ⟨vs, vf, vc, u, hR⟩
    refine (hc W vs vf vc u kW hR).mono ?_
    rintro e w' ⟨rfl, hS, hk⟩
    have kw : Kp P w0 W := (hk0.mono (fun _ h => h.elim)).trans kW (fun x hx => .inl (by subst hx; exact hps))
    refine ⟨rfl, _, hS, kw.trans hk (fun x hx => .inl hx), fun x hx => ?_⟩
    rcases hx with hx | hx
    · exact .inl hx
    · exact .inr (Nat.le_trans kw.size hx.1)

/-- The place of a box behind what a step has written. -/
theorem boxed {s : Nat} {w1 W : World} {v : Value} {t : TypeId} (hs : s < w1.heap.size) (k : Kp (· = s) (w1.alloc (.cells #[v] t)) W) : W.cell? ⟨w1.heap.size, 0, none⟩ = some v := by
  have := (Blk.new w1 t [v]).kp k (fun e => by omega)
  exact this.cell 0

set_option maxHeartbeats 1000000 in
theorem fsync_any {P : Nat → Prop} {N : Nat} (w : World) (s : Nat) (p : PS) (t : ByteArray) (ht : t.size ≤ 1000000) (h : Sys P N w s p) (hN : N + 1 ≤ 1000) :
    Calls Tryz.prog 97 #[.pointer (some ⟨s, 0, none⟩), .string t] w fun e w' => e = .returned (.int .i64 ((pFsync (nm t) p).1 : Nat)) ∧ Done P (N + 1) w w' s (pFsync (nm t) p).2 := by
  have HC := hid (find_any w s p t ht h)
  have hI := h.inv
  have H := hid h
  have hmk := hmf
  have hsl := h.c.2.1
  by_cases h0 : finds p (nm t) = 0
  · obtain ⟨b, hb⟩ := found_zero hI h0
    obtain ⟨_, hd, _⟩ := pBytes_of hb
    have hf := hI.hasFound hd
    have e1 : pFsync (nm t) p = stp p (setF b ⟨(fileAt p b).b, (fileAt p b).b.length⟩) := by simp [pFsync, h0, blockOf, hd]
    have HST : Hid (∀ w1, Kp No w w1 → Calls Tryz.prog 94 #[.pointer (some ⟨s, 0, none⟩), .func (.func 132) #[] #[.pointer (some ⟨w1.heap.size, 0, none⟩)]] (w1.alloc (.cells #[.pointer (some ⟨b, 0, none⟩)] 129)) fun e w' =>
        e = .returned (.int .i64 ((pFsync (nm t) p).1 : Nat)) ∧ Done P (N + 1) w w' s (pFsync (nm t) p).2) := by
      intro w1 hk
      rw [e1]
      refine step_file w _ s p b _ (hk.alloc _) h hN 132 _ (enters_of Tryz.func132 (by kernel_rfl) rfl) ?_
      intro W vs vf vc u kW hR
      obtain ⟨hPb, hFb, hPu⟩ := hR.file b _ hf
      obtain ⟨a, cap, hv, hle, _⟩ := hFb.own.shape
      have hblk := hFb.blk
      rw [hv] at hblk
      refine (fsync1_any W w1.heap.size b a _ cap _ (boxed (Nat.lt_of_lt_of_le hsl hk.size) kW) hblk).mono ?_
      rintro e w' ⟨rfl, W1, k1, rfl⟩
      have kK : Kp (fun k => k = b ∨ (u b).ownBlock = some k) W (W1.setCell ⟨b, 1, none⟩ (.int .i64 ((fileAt p b).b.length : Int))) := (k1.mono (fun _ h => h.elim)).setCell (p := ⟨b, 1, none⟩) (.inl (.inl rfl)) _
      have hS := rp_setF (f' := ⟨(fileAt p b).b, (fileAt p b).b.length⟩) (v' := u b) hR hf kK ?_ (fun k hk => .inl hk) (inv_setF hR.inv (show (fileAt p b).b.length ≤ 200 * (N + 1) from hR.inv.lfile b (fileAt p b) hf))
      · exact ⟨rfl, hS.1, hS.2⟩
      · refine ⟨(hFb.blk.kp k1 (fun h => h)).setCell 1 _, ?_, hFb.byt, Nat.le_refl _⟩
        exact (hFb.own.kept k1).row.kp (Kp.set1 W1 b 1 _) (fun k hk e => hFb.own.row.ne hFb.blk (by decide) (by rw [hk, e]))
    rw [h0, hb] at HC
    have e0 : ptrV (some b) = .pointer (some ⟨b, 0, none⟩) := rfl
    rw [e0] at HC
    generalize pFsync (nm t) p = R at *
    clear e1 e0 hd hb h0 hI h hf
    go_enter Tryz.func97, Tryz.ntmps97
    go_wp2_with (first | (go_at_call 72; refine (HC.out).mono ?_; rintro e w1 ⟨rfl, h1⟩; have H1 := hid h1; clear h1) | (go_at_call 94; refine (HST.out w1 H1.out).mono ?_; rintro e w2 ⟨rfl, h2⟩; have H2 := hid h2; clear h2))
    go_ret
    exact ⟨rfl, H2.out⟩
  · have e1 : pFsync (nm t) p = (finds p (nm t), p) := by simp [pFsync, h0]
    have hn : foundP p (nm t) = none := by simp [foundP, h0]
    rw [e1]
    rw [hn] at HC
    have e0 : ptrV none = .pointer none := rfl
    rw [e0] at HC
    generalize finds p (nm t) = x at *
    have hne : ((x : Int) != 0) = true := by simp; omega
    clear e1 e0 hn h0 hI h
    go_enter Tryz.func97, Tryz.ntmps97
    go_wp2_with (go_at_call 72; refine (HC.out).mono ?_; rintro e w1 ⟨rfl, h1⟩; have H1 := hid h1; clear h1)
    go_ret
    exact ⟨rfl, (Done.of (H.out.more (by omega) hN) (Kp.refl _ _)).kept (H1.out.alloc _)⟩

/-! ### Append -/
set_option maxHeartbeats 4000000 in
theorem append1_any {Q : Nat → Prop} (W : World) (x y b : Nat) (v vb : Value) (bs ys : List Nat) (m : Nat) (hx : Blk W x 129 [.pointer (some ⟨b, 0, none⟩)]) (hy : Blk W y 45 [vb]) (hb : Blk W b 142 [v, .int .i64 (m : Int)]) (hv : OwnB W v bs) (hvb : ByP Q W vb ys) (hl : bs.length + ys.length ≤ 1000000) :
    Calls Tryz.prog 95 #[.pointer (some ⟨x, 0, none⟩), .pointer (some ⟨y, 0, none⟩)] W fun e w' => e = .returned (.tuple #[]) ∧ ∃ a' cap' W1, OwnB W1 (.slice a' (bs.length + ys.length) cap') (bs ++ ys) ∧ Kp (fun k => v.ownBlock = some k) W W1 ∧ ((Value.slice a' (bs.length + ys.length) cap').ownBlock = v.ownBlock ∨ (Value.slice a' (bs.length + ys.length) cap').ownBlock = some W.heap.size) ∧
      w' = W1.setCell ⟨b, 0, none⟩ (.slice a' (bs.length + ys.length) cap') := by
  have b0 : W.cell? ⟨x, 0, none⟩ = some (.pointer (some ⟨b, 0, none⟩)) := hx.cell 0
  have y0 : W.cell? ⟨y, 0, none⟩ = some vb := hy.cell 0
  have c0 : W.cell? ⟨b, 0, none⟩ = some v := hb.cell 0
  have f0 := hb.frozen 0
  have hxl := hx.lt
  have hyl := hy.lt
  have hbl := hb.lt
  have HOV := hid hv
  have HSR := hid hvb.src
  have hvx : Hid (v.ownBlock ≠ some x ∧ v.ownBlock ≠ some b) := ⟨hv.row.ne hx (by decide), hv.row.ne hb (by decide)⟩
  obtain ⟨a, cap, rfl, _⟩ := hv.shape
  obtain ⟨a1, cap1, rfl, _⟩ := hvb
  clear hx hy hb
  go_enter Tryz.func95, Tryz.ntmps95
  go_wp2_with fail
  go_region_law (refine step_app _ (by rfl) (.tmp 6) (.tmp 7) 45 5 (.int .u8 0) 1 1 (by rfl) Tryz.underlying45 Tryz.info5 rfl (by decide) (.slice a bs.length cap) (.slice a1 ys.length cap1) bs.length ys.length (cl bs) (cl ys) (by simp [Act.eval]) (by simp [Act.eval]) HOV.out.row HSR.out (by omega) (by decide) ?_; intro a2 cap2 w2 hr2 hg2 hb2; have HR2 := hid hr2; have HG2 := hid hg2; have HB2 := hid hb2; have z0 : w2.cell? ⟨b, 0, none⟩ = some (.slice a bs.length cap) := hg2.cell c0 (fun e => hvx.out.2 e.symm); have zf : w2.frozen? ⟨b, 0, none⟩ = false := ((Kp.ofGrown hg2).frozen (p := ⟨b, 0, none⟩) hbl (fun e => hvx.out.2 e)).trans f0; have zx : w2.cell? ⟨x, 0, none⟩ = some (.pointer (some ⟨b, 0, none⟩)) := hg2.cell b0 (fun e => hvx.out.1 e.symm); clear hr2 hg2 hb2)
  all_goals
    go_end0
    refine ⟨rfl, a2, cap2, w2, ?_, (Kp.refl _ _).drew.grown HG2.out (fun x hx => .inl hx), HB2.out, rfl⟩
    unfold OwnB
    rw [cl_append, List.length_append]
    exact HR2.out

theorem append_nil (t : ByteArray) (a : Option Addr) (n cap : Nat) (w : World) : Calls Tryz.prog 57 #[.pointer none, .string t, .slice a n cap] w fun e w' => e = .returned (.int .i64 18) ∧ Kp No w w' := by
  go_enter Tryz.func57, Tryz.ntmps57
  go_wp2_with (go_at_call 72; refine (find_nil t _).mono ?_; rintro e w1 ⟨rfl, h1⟩; have H1 : Hid (Kp No w w1) := ((Kp.refl _ _).alloc _).andNone h1; clear h1)
  go_ret
  exact ⟨rfl, H1.out.alloc _⟩

theorem used_le {N : Nat} {p : PS} (hI : PInv N p) : used p ≤ 1000 * 200000 := by
  have h := sumBy_le (fun b => (fileAt p b).b.length) 200000 (fun _ => false) p.seen (fun e he => by
    obtain ⟨f, hf⟩ := Option.isSome_iff_exists.1 (hI.hasSeen e he).1
    have := hI.lfile _ f hf
    have := hI.big
    simp only [fileAt, hf, Option.getD_some]
    omega)
  rw [sumBy_end _ _ _ (fun _ => rfl)] at h
  exact Nat.le_trans h (Nat.mul_le_mul_right _ (Nat.le_trans hI.lseen hI.big))

set_option maxHeartbeats 2000000 in
theorem append_any {P Q : Nat → Prop} {N : Nat} (w : World) (s : Nat) (p : PS) (t : ByteArray) (vb : Value) (ys : List Nat) (ht : t.size ≤ 1000000) (h : Sys P N w s p) (hN : N + 1 ≤ 1000) (hy : ByP Q w vb ys) (hQ : ∀ x, Q x → ¬ P x) (hl : ys.length ≤ 200) :
    Calls Tryz.prog 57 #[.pointer (some ⟨s, 0, none⟩), .string t, vb] w fun e w' => e = .returned (.int .i64 ((pAppend (nm t) ys p).1 : Nat)) ∧ Done P (N + 1) w w' s (pAppend (nm t) ys p).2 := by
  have hI := h.inv
  have H := hid h
  have hmk := hmf
  have hsl := h.c.2.1
  have hps := h.c.1
  have hul := used_le hI
  have hrl := hI.room
  have HY := hid hy
  have HQ := hid hQ
  obtain ⟨a, cap, rfl, hy1, hy2, _⟩ := hy
  have hc0 : Hid (∀ V, Kp No w V → V.cell? ⟨s, 0, none⟩ = some (.int .i64 (p.room : Int))) := fun V k => by
    obtain ⟨vs, vf, vc, u, hR⟩ := h
    exact (k.cell (p := ⟨s, 0, none⟩) hsl (fun h => h)).trans (hR.c 0)
  have HC : Hid (Calls Tryz.prog 72 #[.pointer (some ⟨s, 0, none⟩), .string t] (w.alloc (.cells #[.slice a ys.length cap] 45)) fun e w' => e = .returned (.tuple #[ptrV (foundP p (nm t)), .int .i64 (finds p (nm t) : Nat)]) ∧ Kp No (w.alloc (.cells #[.slice a ys.length cap] 45)) w') := find_any _ s p t ht (h.kept ((Kp.refl _ _).alloc _))
  have HU : Hid (∀ V, Kp No w V → Calls Tryz.prog 93 #[.pointer (some ⟨s, 0, none⟩)] V fun e w' => e = .returned (.int .i64 (used p : Nat)) ∧ Kp No V w') := fun V k => used_any V s p (h.kept k)
  by_cases h0 : finds p (nm t) = 0
  · obtain ⟨b, hb⟩ := found_zero hI h0
    obtain ⟨_, hd, _⟩ := pBytes_of hb
    have hf := hI.hasFound hd
    rw [h0, hb] at HC
    have e0 : ptrV (some b) = .pointer (some ⟨b, 0, none⟩) := rfl
    rw [e0] at HC
    have HST : Hid (used p + ys.length ≤ p.room → ∀ w1, Kp No (w.alloc (.cells #[.slice a ys.length cap] 45)) w1 → ∀ W0, Kp No (w1.alloc (.cells #[.pointer (some ⟨b, 0, none⟩)] 129)) W0 → Calls Tryz.prog 94 #[.pointer (some ⟨s, 0, none⟩), .func (.func 95) #[] #[.pointer (some ⟨w1.heap.size, 0, none⟩), .pointer (some ⟨w.heap.size, 0, none⟩)]] W0 fun e w' =>
        e = .returned (.int .i64 ((pAppend (nm t) ys p).1 : Nat)) ∧ Done P (N + 1) w w' s (pAppend (nm t) ys p).2) := by
      intro hroom w1 hk1 W0 hk0
      have e1 : pAppend (nm t) ys p = stp p (setF b ⟨(fileAt p b).b ++ ys, (fileAt p b).safe⟩) := by
        have : ¬ (used p + ys.length > p.room) := by omega
        simp [pAppend, h0, blockOf, hd, this]
      rw [e1]
      have kA : Kp No w w1 := ((Kp.refl _ _).alloc _).andNone hk1
      have kB : Kp No w W0 := (kA.alloc _).andNone hk0
      have hz : w.heap.size < w1.heap.size := by have := hk1.size; simp at this; omega
      refine step_file w W0 s p b _ kB h hN 95 _ (enters_of Tryz.func95 (by kernel_rfl) rfl) ?_
      intro W vs vf vc u kW hR
      obtain ⟨hPb, hFb, hPu⟩ := hR.file b _ hf
      have hx : Blk W w1.heap.size 129 [.pointer (some ⟨b, 0, none⟩)] := ((Blk.new w1 129 [.pointer (some ⟨b, 0, none⟩)]).kp hk0 (fun h => h)).kp kW (fun e => by omega)
      have hyb : Blk W w.heap.size 45 [.slice a ys.length cap] := ((((Blk.new w 45 [.slice a ys.length cap]).kp hk1 (fun h => h)).kp (L := No) ((Kp.refl _ _).alloc _) (fun h => h)).kp hk0 (fun h => h)).kp kW (fun e => by omega)
      have hby : ByP Q W (.slice a ys.length cap) ys := (HY.out.kept kB).kp kW (fun x hx _ hq => HQ.out x hq (by subst hx; exact hps))
      have hfl : (fileAt p b).b.length ≤ 200 * N := hI.lfile b _ hf
      have hbig := hI.big
      refine (append1_any W w1.heap.size w.heap.size b (u b) _ (fileAt p b).b ys _ hx hyb hFb.blk hFb.own hby (by omega)).mono ?_
      rintro e w' ⟨rfl, a', cap', W1, ho, k1, hbl, rfl⟩
      have kK : Kp (fun k => k = b ∨ (u b).ownBlock = some k) W (W1.setCell ⟨b, 0, none⟩ (.slice a' ((fileAt p b).b.length + ys.length) cap')) := (k1.mono (fun x hx => .inl (.inr hx))).setCell (p := ⟨b, 0, none⟩) (.inl (.inl rfl)) _
      have hbn : (u b).ownBlock ≠ some b := hFb.own.row.ne hFb.blk (by decide)
      have hB1 := hFb.blk.kp k1 (fun e => hbn e)
      have hS := rp_setF (f' := ⟨(fileAt p b).b ++ ys, (fileAt p b).safe⟩) (v' := .slice a' ((fileAt p b).b.length + ys.length) cap') hR hf kK ?_ (fun k hk => ?_) (inv_setF hR.inv (by simp; omega))
      · exact ⟨rfl, hS.1, hS.2⟩
      · refine ⟨hB1.setCell 0 _, ?_, fun x hx => ?_, by have := hFb.le; simp; omega⟩
        · exact ho.row.kp (Kp.set1 W1 b 0 _) (fun k hk e => ho.row.ne hB1 (by decide) (by rw [hk, e]))
        · rcases List.mem_append.1 hx with hx | hx
          · exact hFb.byt x hx
          · obtain ⟨_, _, _, _, _, _, _, h6, _⟩ := hby
            exact h6 x hx
      · rcases hbl with h1 | h1
        · rw [h1] at hk; exact .inl hk
        · rw [h1] at hk; simp at hk; exact .inr (by omega)
    have hbx : Hid (∀ V, Kp No (w.alloc (.cells #[.slice a ys.length cap] 45)) V → V.cell? ⟨w.heap.size, 0, none⟩ = some (.slice a ys.length cap)) := fun V k => ((Blk.new w 45 [.slice a ys.length cap]).kp k (fun h => h)).cell 0
    have hS0 : Hid (Kp No w (w.alloc (.cells #[.slice a ys.length cap] 45))) := (Kp.refl _ _).alloc _
    have e1 : used p + ys.length > p.room → pAppend (nm t) ys p = (11, p) := fun hr => by simp [pAppend, h0, hr]
    have HE := hid e1
    generalize pAppend (nm t) ys p = R at *
    clear e1 e0 hd hb h0 hI h hf
    generalize used p = U at *
    go_enter Tryz.func57, Tryz.ntmps57
    go_wp2_with (go_at_call 72; refine (HC.out).mono ?_; rintro e w1 ⟨rfl, h1⟩; have H1 := hid h1; clear h1)
    have kW : Hid (Kp No (w.alloc (.cells #[.slice a ys.length cap] 45)) (w1.alloc (.cells #[.pointer (some ⟨b, 0, none⟩)] 129))) := H1.out.alloc _
    have kWw : Hid (Kp No w (w1.alloc (.cells #[.pointer (some ⟨b, 0, none⟩)] 129))) := hS0.out.andNone kW.out
    have HST1 : Hid (U + ys.length ≤ p.room → ∀ W0, Kp No (w1.alloc (.cells #[.pointer (some ⟨b, 0, none⟩)] 129)) W0 → Calls Tryz.prog 94 #[.pointer (some ⟨s, 0, none⟩), .func (.func 95) #[] #[.pointer (some ⟨w1.heap.size, 0, none⟩), .pointer (some ⟨w.heap.size, 0, none⟩)]] W0 fun e w' =>
        e = .returned (.int .i64 (R.1 : Nat)) ∧ Done P (N + 1) w w' s R.2) := fun hr => HST.out hr w1 H1.out
    generalize hWx : w1.alloc (.cells #[.pointer (some ⟨b, 0, none⟩)] 129) = Wx at *
    clear hWx
    have r0 : ∀ V, Kp No Wx V → V.cell? ⟨w.heap.size, 0, none⟩ = some (.slice a ys.length cap) := fun V k => hbx.out V (kW.out.andNone k)
    have r1 : ∀ V, Kp No Wx V → V.cell? ⟨s, 0, none⟩ = some (.int .i64 (p.room : Int)) := fun V k => hc0.out V (kWw.out.andNone k)
    have hwr : IntKind.i64.wrap ((p.room : Int) - (U : Int)) = (p.room : Int) - (U : Int) := by rw [IntKind.wrap_i64]; omega
    by_cases hroom : U + ys.length ≤ p.room
    · have hle : ¬ ((p.room : Int) - (U : Int) < (ys.length : Int)) := by omega
      go_region_held3 (fun V => Kp No Wx V) (first | (with_reducible exact Kp.refl _ _) | (with_reducible exact (Kp.refl _ _).drew) | (with_reducible exact HK1.out)) (first | (go_at_call 93; refine (HU.out _ ?_).mono ?_; (with_reducible exact kWw.out.drew); rintro e w2 ⟨rfl, hk1⟩; have HK1 : Hid (Kp No Wx w2) := (Kp.refl _ _).drew.andNone hk1; clear hk1))
      go_wp2_with (go_at_call 94; refine (HST1.out hroom w2 HK1.out).mono ?_; rintro e w3 ⟨rfl, h3⟩; have H3 := hid h3; clear h3)
      go_ret
      exact ⟨rfl, H3.out⟩
    · have hgt : (p.room : Int) - (U : Int) < (ys.length : Int) := by omega
      have hR := HE.out (by omega)
      subst hR
      go_region_held3 (fun V => Kp No Wx V) (first | (with_reducible exact Kp.refl _ _) | (with_reducible exact (Kp.refl _ _).drew) | (with_reducible exact HK1.out)) (first | (go_at_call 93; refine (HU.out _ ?_).mono ?_; (with_reducible exact kWw.out.drew); rintro e w2 ⟨rfl, hk1⟩; have HK1 : Hid (Kp No Wx w2) := (Kp.refl _ _).drew.andNone hk1; clear hk1))
      go_wp2
      go_ret
      exact ⟨rfl, (Done.of (H.out.more (by omega) hN) (Kp.refl _ _)).kept (kWw.out.andNone HK1.out)⟩
  · have e1 : pAppend (nm t) ys p = (finds p (nm t), p) := by simp [pAppend, h0]
    have hn : foundP p (nm t) = none := by simp [foundP, h0]
    rw [e1]
    rw [hn] at HC
    have e0 : ptrV none = .pointer none := rfl
    rw [e0] at HC
    generalize finds p (nm t) = x at *
    have hne : ((x : Int) != 0) = true := by simp; omega
    clear e1 e0 hn h0 hI h
    go_enter Tryz.func57, Tryz.ntmps57
    go_wp2_with (go_at_call 72; refine (HC.out).mono ?_; rintro e w1 ⟨rfl, h1⟩; have H1 : Hid (Kp No w w1) := ((Kp.refl _ _).alloc _).andNone h1; clear h1)
    go_ret
    exact ⟨rfl, (Done.of (H.out.more (by omega) hN) (Kp.refl _ _)).kept (H1.out.alloc _)⟩

/-! ### Flip -/
theorem flip_nil (t : ByteArray) (k : Int) (x : Nat) (w : World) : Calls Tryz.prog 34 #[.pointer none, .string t, .int .i64 k, .int .u8 (x : Int)] w fun e w' => e = .returned (.int .i64 18) ∧ Kp No w w' := by
  go_enter Tryz.func34, Tryz.ntmps34
  go_wp2_with (go_at_call 72; refine (find_nil t _).mono ?_; rintro e w1 ⟨rfl, h1⟩; have H1 := hid h1; clear h1)
  go_ret
  exact ⟨rfl, H1.out⟩

end Go.Proofs.YtophnjcoaglbnaaGreatDoor.Sim
end
