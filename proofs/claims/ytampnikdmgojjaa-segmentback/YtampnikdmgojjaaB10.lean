/- Of the proof: the texts TlvSame, FrKit, FrSame, FrPut, SgVal, SgMany, SgValM, one behind the other. -/
import Derived.Test.YtampnikdmgojjaaB8
import Derived.Test.YtampnikdmgojjaaB6
import Derived.Laws.BytesArg
import Derived.Test.YtampnikdmgojjaaB9
import Derived.Laws.ResultCell
import Derived.Stop.BytesEq
section
/-
  What Same of tlv answers of any two trees.
-/
namespace Go.Proofs.Ytampnikdmgojjaa.Tlv
open Go.RowKit
attribute [local go_sem ↓] Go.wp_at_zero Go.wp_at_succ

theorem conv_bytes {L B : Nat} {w : World} {v : Value} {bs : List Int} (h : BySl L B w v bs) : (convert 23 9 v).run Try.prog w = .ok (.string (strOfNums bs)) w := by
  obtain ⟨a, cap, rfl, h2, h3, h4, h5, h6, h7⟩ := h
  by_cases hne : bs = []
  · subst hne
    rw [List.length_nil, run_convert_bytes_string w 23 9 5 _ 0 cap Try.underlying23 Try.underlying5 Try.underlying9]
    cases a <;> simp [Conv.bytesToString, loadCells]
    all_goals rfl
  · obtain ⟨b, o, rfl, _, _, hc⟩ := h7 hne
    exact run_convert_bytes_arg w 23 5 Try.underlying23 Try.underlying5 b o bs.length cap bs rfl hc 9 Try.underlying9

theorem strOfNums_inj {xs ys : List Int} (hx : ∀ x ∈ xs, 0 ≤ x ∧ x ≤ 255) (hy : ∀ x ∈ ys, 0 ≤ x ∧ x ≤ 255) (h : strOfNums xs = strOfNums ys) : xs = ys := by
  have e := congrArg (fun s : ByteArray => s.data.toList) h
  simp only [strOfNums_data] at e
  have inv : ∀ zs : List Int, (∀ x ∈ zs, 0 ≤ x ∧ x ≤ 255) → (zs.map fun n => UInt8.ofNat n.toNat).map (fun u => (u.toNat : Int)) = zs := by
    intro zs hz
    induction zs with
    | nil => rfl
    | cons z zs ih =>
      have := hz z (List.mem_cons_self ..)
      simp only [List.map_cons]
      rw [ih (fun x hx => hz x (List.mem_cons_of_mem _ hx))]
      congr 1
      simp
      omega
  rw [← inv xs hx, ← inv ys hy, e]

set_option maxHeartbeats 400000 in
theorem equal_any (v v' : Value) (xs ys : List Int) (w : World) (h : BySl 0 w.heap.size w v xs) (h' : BySl 0 w.heap.size w v' ys) :
    Calls Try.prog 69 #[v, v'] w fun e w' => e = .returned (.bool (decide (xs = ys))) ∧ w' = w := by
  have c1 := conv_bytes h
  have c2 := conv_bytes h'
  have hq : ((strOfNums xs).toList == (strOfNums ys).toList) = decide (xs = ys) := by
    obtain ⟨_, _, _, _, _, _, _, h6, _⟩ := h
    obtain ⟨_, _, _, _, _, _, _, h6', _⟩ := h'
    rw [Bool.eq_iff_iff, decide_eq_true_eq, beq_iff_eq, ByteArray.toList_eq, ByteArray.toList_eq]
    exact ⟨fun e => strOfNums_inj h6 h6' (by cases hx : strOfNums xs; cases hy : strOfNums ys; rw [hx, hy] at e; simpa using e), fun e => by rw [e]⟩
  clear h h'
  go_enter Try.func69, Try.ntmps69
  go_wp2_with fail
  go_ret
  exact ⟨rfl, rfl⟩

theorem hd_dec (a b : Int × Int × List Int) : decide (a = b) = (decide (a.1 = b.1) && (decide (a.2.1 = b.2.1) && decide (a.2.2 = b.2.2))) := by
  obtain ⟨a1, a2, a3⟩ := a
  obtain ⟨b1, b2, b3⟩ := b
  simp [Prod.mk.injEq, Bool.decide_and]

def SameTOk (n : Nat) : Prop := ∀ (m : Nat) (t : Tr n) (u : Tr m) (sb sk sb' sk' : Value) (deep : Int) (w : World), Rep 0 w.heap.size w n t sb sk → Rep 0 w.heap.size w m u sb' sk' → (n : Int) ≤ deep → deep ≤ 131072 →
  Calls Try.prog 57 #[.agg #[.int .i64 t.hd.1, .int .u64 t.hd.2.1, sb, sk], .agg #[.int .i64 u.hd.1, .int .u64 u.hd.2.1, sb', sk'], .int .i64 deep] w fun e w' => e = .returned (.bool (sameT n t m u)) ∧ Below w.heap.size w w'

set_option maxHeartbeats 2000000 in
set_option maxRecDepth 100000 in
theorem same_any : ∀ n, SameTOk n
  | 0 => fun _ t => by cases t
  | n + 1 => by
    intro m t u sb sk sb' sk' deep w h h' hd0 hd1
    cases m with
    | zero => cases u
    | succ m =>
    have ih := same_any n
    obtain ⟨hn0, hn1, hby, hks⟩ := h
    obtain ⟨hn0', hn1', hby', hks'⟩ := h'
    have HB := hid hby
    have HK := hid hks
    have HB' := hid hby'
    have HK' := hid hks'
    obtain ⟨ab, cb, rfl, hrb⟩ := hby
    obtain ⟨ak, ck, rfl, hrk⟩ := hks
    obtain ⟨ab', cb', rfl, hrb'⟩ := hby'
    obtain ⟨ak', ck', rfl, hrk'⟩ := hks'
    clear hrb hrk hrb' hrk'
    have hkl : t.kd.length ≤ 2199023255552 := by obtain ⟨_, _, _, _, _, _, h, _⟩ := HK.out; exact h
    obtain ⟨R, hR⟩ : ∃ R, sameT (n + 1) t (m + 1) u = R := ⟨_, rfl⟩
    rw [hR]
    have HR : Hid (((decide (t.hd.1 = u.hd.1) && (decide (t.hd.2.1 = u.hd.2.1) && decide (t.hd.2.2 = u.hd.2.2))) && sameL (fun a b => sameT n a m b) t.kd u.kd) = R) := by rw [← hd_dec]; exact hR
    clear hR
    have hdz : (deep == 0) = false := by simp; omega
    generalize t.kd = ks at *
    generalize t.hd.2.2 = bs at *
    generalize t.hd.2.1 = num at *
    generalize t.hd.1 = tag at *
    generalize u.kd = ks' at *
    generalize u.hd.2.2 = bs' at *
    generalize u.hd.2.1 = num' at *
    generalize u.hd.1 = tag' at *
    by_cases ht : tag = tag'
    case neg =>
      have htb : (tag != tag') = true := by simpa using ht
      have Hr : Hid (R = false) := by rw [Hid, ← HR.out]; simp [ht]
      clear ht
      go_enter Try.func57, Try.ntmps57
      go_wp2_with fail
      go_ret
      exact ⟨by rw [Hr.out]; rfl, ((Below.refl _ _).alloc (Nat.le_refl _) _).alloc (by simp) _⟩
    case pos =>
    subst ht
    by_cases hu : num = num'
    case neg =>
      have hub : (num != num') = true := by simpa using hu
      have Hr : Hid (R = false) := by rw [Hid, ← HR.out]; simp [hu]
      clear hu
      go_enter Try.func57, Try.ntmps57
      go_wp2_with fail
      go_ret
      exact ⟨by rw [Hr.out]; rfl, ((Below.refl _ _).alloc (Nat.le_refl _) _).alloc (by simp) _⟩
    case pos =>
    subst hu
    have hA : Agree 0 w.heap.size w ((w.alloc (Obj.cells #[Value.int .i64 tag, Value.int .u64 num, Value.slice ab bs.length cb, Value.slice ak ks.length ck] 80)).alloc (Obj.cells #[Value.int .i64 tag, Value.int .u64 num, Value.slice ab' bs'.length cb', Value.slice ak' ks'.length ck'] 80)) := ((Agree.refl _ _ _).alloc (Nat.le_refl _) _).alloc (by simp) _
    have q1 := hid (HB.out.agree hA (Nat.le_refl _) (B' := w.heap.size + 1 + 1) (by omega))
    have q2 := hid (HB'.out.agree hA (Nat.le_refl _) (B' := w.heap.size + 1 + 1) (by omega))
    clear hA
    go_enter Try.func57, Try.ntmps57
    go_wp2_with fail
    refine (equal_any _ _ bs bs' _ (by simpa using q1.out) (by simpa using q2.out)).mono ?_
    rintro e w1 ⟨rfl, hw1⟩
    have x3 : w1.cell? ⟨w.heap.size, 3, none⟩ = some (.slice ak ks.length ck) := by rw [hw1]; simp [go_sem]
    have y3 : w1.cell? ⟨w.heap.size + 1, 3, none⟩ = some (.slice ak' ks'.length ck') := by rw [hw1]; simp [go_sem]
    have hz1 : w1.heap.size = w.heap.size + 2 := by rw [hw1]; simp
    have Hbel : Hid (Below w.heap.size w w1) := by rw [hw1]; exact ((Below.refl _ _).alloc (Nat.le_refl _) _).alloc (by simp) _
    clear hw1 q1 q2
    by_cases hbs : bs = bs'
    case neg =>
      rw [decide_eq_false hbs]
      have Hr : Hid (R = false) := by rw [Hid, ← HR.out]; simp [hbs]
      clear hbs
      go_wp2_with fail
      go_ret
      exact ⟨by rw [Hr.out]; rfl, Hbel.out⟩
    case pos =>
    rw [decide_eq_true hbs]
    have HR2 : Hid (sameL (fun a b => sameT n a m b) ks ks' = R) := by rw [Hid, ← HR.out]; simp [hbs]
    clear hbs HR
    by_cases hl : ks.length = ks'.length
    case neg =>
      have hlb : ((ks.length : Int) != (ks'.length : Int)) = true := by simp; omega
      have Hr : Hid (R = false) := by
        rw [Hid, ← HR2.out]
        cases e : sameL (fun a b => sameT n a m b) ks ks' with
        | false => rfl
        | true => exact absurd (sameL_len e) hl
      clear hl
      go_wp2_with fail
      go_ret
      exact ⟨by rw [Hr.out]; rfl, Hbel.out⟩
    case pos =>
    obtain ⟨L, hL⟩ : ∃ L, ks.length = L := ⟨_, rfl⟩
    have HLk := hid hL
    have HLk' : Hid (ks'.length = L) := by rw [Hid, ← hl]; exact hL
    rw [← hl, hL] at y3 ⊢
    rw [hL] at x3 hkl
    clear hl hL
    go_wp2_with fail
    go_loopw [45] (fun i wr => ∃ k : Nat, k ≤ L ∧ i = .int .i64 k ∧ Hid (Below w1.heap.size w1 wr) ∧ Hid (sameL (fun a b => sameT n a m b) (ks.drop k) (ks'.drop k) = R)) (fun i _ => L - (intOf i).toNat)
    case atStart => exact ⟨0, Nat.zero_le _, rfl, Below.refl _ _, HR2⟩
    case round =>
      obtain ⟨k, hk, rfl, HI, HS⟩ := hrel
      have hws := HI.out.size
      have Y3 : wr.cell? ⟨w.heap.size + 1, 3, none⟩ = some (.slice ak' L ck') := (HI.out.cell (p := ⟨w.heap.size + 1, 3, none⟩) (by simp; omega)).trans y3
      by_cases hltL : k < L
      · have hlt : k < ks.length := by rw [HLk.out]; exact hltL
        have hlt' : k < ks'.length := by rw [HLk'.out]; exact hltL
        obtain ⟨_, _, ea, _, _, _, _, h7⟩ := HK.out
        simp only [Value.slice.injEq, true_and] at ea
        obtain ⟨rfl, rfl⟩ := ea
        obtain ⟨b, o, rfl, _, hbw, hc⟩ := h7 (by intro e; subst e; simp at hlt)
        obtain ⟨_, _, ea, _, _, _, _, h7'⟩ := HK'.out
        simp only [Value.slice.injEq] at ea
        obtain ⟨rfl, _, rfl⟩ := ea
        obtain ⟨b', o', rfl, _, hbw', hc'⟩ := h7' (by intro e; subst e; simp at hlt')
        obtain ⟨sb, sk, c0, c1, c2, c3, hrep⟩ := hc k ks[k] (List.getElem?_eq_getElem hlt)
        obtain ⟨sb', sk', c0', c1', c2', c3', hrep'⟩ := hc' k ks'[k] (List.getElem?_eq_getElem hlt')
        clear hc hc' h7 h7'
        obtain ⟨a1, l1, p1, a2, l2, p2, rfl, rfl⟩ := hrep.sl
        obtain ⟨a3, l3, p3, a4, l4, p4, rfl, rfl⟩ := hrep'.sl
        have hbel : Hid (Below w.heap.size w wr) := Hbel.out.trans (HI.out.mono (by omega))
        have hR := hid hrep
        have hR' := hid hrep'
        clear hrep hrep'
        have d0 := (hbel.out.cell (p := ⟨b, o + k * 4, none⟩) hbw).trans c0
        have d1 := (hbel.out.cell (p := ⟨b, o + k * 4 + 1, none⟩) hbw).trans c1
        have d2 := (hbel.out.cell (p := ⟨b, o + k * 4 + 2, none⟩) hbw).trans c2
        have d3 := (hbel.out.cell (p := ⟨b, o + k * 4 + 3, none⟩) hbw).trans c3
        have d0' := (hbel.out.cell (p := ⟨b', o' + k * 4, none⟩) hbw').trans c0'
        have d1' := (hbel.out.cell (p := ⟨b', o' + k * 4 + 1, none⟩) hbw').trans c1'
        have d2' := (hbel.out.cell (p := ⟨b', o' + k * 4 + 2, none⟩) hbw').trans c2'
        have d3' := (hbel.out.cell (p := ⟨b', o' + k * 4 + 3, none⟩) hbw').trans c3'
        clear c0 c1 c2 c3 c0' c1' c2' c3'
        have HD : Hid ((sameT n ks[k] m ks'[k] && sameL (fun a b => sameT n a m b) (ks.drop (k + 1)) (ks'.drop (k + 1))) = R) := by
          rw [Hid, ← HS.out, List.drop_eq_getElem_cons hlt, List.drop_eq_getElem_cons hlt']
          rfl
        generalize ks[k] = t1 at *
        generalize ks'[k] = u1 at *
        have hcall : Hid (∀ W, Below w.heap.size w W → Calls Try.prog 57 #[.agg #[.int .i64 t1.hd.1, .int .u64 t1.hd.2.1, .slice a1 l1 p1, .slice a2 l2 p2], .agg #[.int .i64 u1.hd.1, .int .u64 u1.hd.2.1, .slice a3 l3 p3, .slice a4 l4 p4], .int .i64 (deep - 1)] W fun e w' => e = .returned (.bool (sameT n t1 m u1)) ∧ Below W.heap.size W w') :=
          fun W hW => ih m t1 u1 _ _ _ _ (deep - 1) W (hR.out.agree (Agree.below hW) (Nat.le_refl _) hW.size) (hR'.out.agree (Agree.below hW) (Nat.le_refl _) hW.size) (by omega) (by omega)
        have hwd : IntKind.i64.wrap (deep - 1) = deep - 1 := by rw [IntKind.wrap_i64]; omega
        have hkI0 : (0 : Int) ≤ (k : Int) := by omega
        have hkI1 : (k : Int) < (L : Int) := by omega
        clear hlt hlt'
        have hbwr : b < wr.heap.size := by omega
        have hbx2 : w.heap.size + 1 < wr.heap.size := by omega
        have hbwr' : b' < wr.heap.size := by omega
        generalize sameT n t1 m u1 = q at hcall HD
        cases q with
        | true =>
          go_wp2_with fail
          obtain ⟨W, hW⟩ : ∃ W, wr.alloc (Obj.cells #[Value.int .i64 t1.hd.1, Value.int .u64 t1.hd.2.1, Value.slice a1 l1 p1, Value.slice a2 l2 p2] 80) = W := ⟨_, rfl⟩
          have v0 : W.cell? ⟨wr.heap.size, 0, none⟩ = some (.int .i64 t1.hd.1) := by rw [← hW]; simp [go_sem]
          have v1 : W.cell? ⟨wr.heap.size, 1, none⟩ = some (.int .u64 t1.hd.2.1) := by rw [← hW]; simp [go_sem]
          have v2 : W.cell? ⟨wr.heap.size, 2, none⟩ = some (.slice a1 l1 p1) := by rw [← hW]; simp [go_sem]
          have v3 : W.cell? ⟨wr.heap.size, 3, none⟩ = some (.slice a2 l2 p2) := by rw [← hW]; simp [go_sem]
          have x3' : W.cell? ⟨w.heap.size + 1, 3, none⟩ = some (.slice (some ⟨b', o', none⟩) L ck') := by rw [← hW, World.cell?_alloc_past _ _ _ hbx2]; exact Y3
          have e0' : W.cell? ⟨b', o' + k * 4, none⟩ = some (.int .i64 u1.hd.1) := by rw [← hW, World.cell?_alloc_past _ _ _ hbwr']; exact d0'
          have e1' : W.cell? ⟨b', o' + k * 4 + 1, none⟩ = some (.int .u64 u1.hd.2.1) := by rw [← hW, World.cell?_alloc_past _ _ _ hbwr']; exact d1'
          have e2' : W.cell? ⟨b', o' + k * 4 + 2, none⟩ = some (.slice a3 l3 p3) := by rw [← hW, World.cell?_alloc_past _ _ _ hbwr']; exact d2'
          have e3' : W.cell? ⟨b', o' + k * 4 + 3, none⟩ = some (.slice a4 l4 p4) := by rw [← hW, World.cell?_alloc_past _ _ _ hbwr']; exact d3'
          have hBW : Hid (Below w.heap.size w W) := by rw [← hW]; exact hbel.out.alloc hbel.out.size _
          have hIW : Hid (Below w1.heap.size w1 W) := by rw [← hW]; exact HI.out.alloc hws _
          rw [hW]
          clear hW d0 d1 d2 d3 d0' d1' d2' d3' Y3
          have hc9 := hid (hcall.out W.drew hBW.out.drew)
          go_region_with ((go_at_call 57; refine hc9.out.mono ?_; rintro e w2 ⟨rfl, hb2⟩; have HB2 := hid hb2; clear hb2))
          all_goals go_wp2_with fail
          all_goals
            go_roundw
            case rel => exact ⟨k + 1, by omega, by go_num, (hIW.out.drew).trans (HB2.out.mono hIW.out.size), by simpa [Hid] using HD.out⟩
            case measure => simp [intOf]; omega
        | false =>
          go_wp2_with fail
          obtain ⟨W, hW⟩ : ∃ W, wr.alloc (Obj.cells #[Value.int .i64 t1.hd.1, Value.int .u64 t1.hd.2.1, Value.slice a1 l1 p1, Value.slice a2 l2 p2] 80) = W := ⟨_, rfl⟩
          have v0 : W.cell? ⟨wr.heap.size, 0, none⟩ = some (.int .i64 t1.hd.1) := by rw [← hW]; simp [go_sem]
          have v1 : W.cell? ⟨wr.heap.size, 1, none⟩ = some (.int .u64 t1.hd.2.1) := by rw [← hW]; simp [go_sem]
          have v2 : W.cell? ⟨wr.heap.size, 2, none⟩ = some (.slice a1 l1 p1) := by rw [← hW]; simp [go_sem]
          have v3 : W.cell? ⟨wr.heap.size, 3, none⟩ = some (.slice a2 l2 p2) := by rw [← hW]; simp [go_sem]
          have x3' : W.cell? ⟨w.heap.size + 1, 3, none⟩ = some (.slice (some ⟨b', o', none⟩) L ck') := by rw [← hW, World.cell?_alloc_past _ _ _ hbx2]; exact Y3
          have e0' : W.cell? ⟨b', o' + k * 4, none⟩ = some (.int .i64 u1.hd.1) := by rw [← hW, World.cell?_alloc_past _ _ _ hbwr']; exact d0'
          have e1' : W.cell? ⟨b', o' + k * 4 + 1, none⟩ = some (.int .u64 u1.hd.2.1) := by rw [← hW, World.cell?_alloc_past _ _ _ hbwr']; exact d1'
          have e2' : W.cell? ⟨b', o' + k * 4 + 2, none⟩ = some (.slice a3 l3 p3) := by rw [← hW, World.cell?_alloc_past _ _ _ hbwr']; exact d2'
          have e3' : W.cell? ⟨b', o' + k * 4 + 3, none⟩ = some (.slice a4 l4 p4) := by rw [← hW, World.cell?_alloc_past _ _ _ hbwr']; exact d3'
          have hBW : Hid (Below w.heap.size w W) := by rw [← hW]; exact hbel.out.alloc hbel.out.size _
          have hIW : Hid (Below w1.heap.size w1 W) := by rw [← hW]; exact HI.out.alloc hws _
          rw [hW]
          clear hW d0 d1 d2 d3 d0' d1' d2' d3' Y3
          have hc9 := hid (hcall.out W.drew hBW.out.drew)
          go_region_with ((go_at_call 57; refine hc9.out.mono ?_; rintro e w2 ⟨rfl, hb2⟩; have HB2 := hid hb2; clear hb2))
          all_goals go_wp2_with fail
          all_goals go_ret
          all_goals exact ⟨by rw [← HD.out]; rfl, (hBW.out.drew).trans (HB2.out.mono hBW.out.size)⟩
      · go_wp2_with fail
        go_ret
        refine ⟨?_, Hbel.out.trans (HI.out.mono (by omega))⟩
        rw [← HS.out, List.drop_of_length_le (by rw [HLk.out]; omega), List.drop_of_length_le (by rw [HLk'.out]; omega)]
        rfl

set_option maxHeartbeats 400000 in
theorem Same_any {n m : Nat} (t : Tr n) (u : Tr m) (sb sk sb' sk' : Value) (w : World) (h : Rep 0 w.heap.size w n t sb sk) (h' : Rep 0 w.heap.size w m u sb' sk') (hn : n ≤ 131072) :
    Calls Try.prog 43 #[.agg #[.int .i64 t.hd.1, .int .u64 t.hd.2.1, sb, sk], .agg #[.int .i64 u.hd.1, .int .u64 u.hd.2.1, sb', sk']] w fun e w' => e = .returned (.bool (sameT n t m u)) ∧ Below w.heap.size w w' := by
  obtain ⟨a1, l1, p1, a2, l2, p2, rfl, rfl⟩ := h.sl
  obtain ⟨a3, l3, p3, a4, l4, p4, rfl, rfl⟩ := h'.sl
  have H := hid h
  have H' := hid h'
  clear h h'
  go_enter Try.func43, Try.ntmps43
  go_wp2_with fail
  have hA : ∀ o o', Below w.heap.size w ((w.alloc o).alloc o') := fun o o' => ((Below.refl _ _).alloc (Nat.le_refl _) o).alloc (by simp) o'
  refine (same_any n m t u _ _ _ _ 131072 _ (H.out.agree (Agree.below (hA _ _)) (Nat.le_refl _) (hA _ _).size) (H'.out.agree (Agree.below (hA _ _)) (Nat.le_refl _) (hA _ _).size) (by omega) (by omega)).mono ?_
  rintro e w1 ⟨rfl, hb1⟩
  have HB : Hid (Below w.heap.size w w1) := (hA _ _).trans (hb1.mono (hA _ _).size)
  clear hb1 hA
  go_wp2_with fail
  go_ret
  exact ⟨rfl, HB.out⟩

end Go.Proofs.Ytampnikdmgojjaa.Tlv
end

section
/-
  Records as a whole: made, loaded, stored; the statements' Own and Back; which are the same.
-/
namespace Go.Proofs.Ytampnikdmgojjaa
open Go.RowKit
open Tlv (Tr BySlS AgreeS Agree)
open Crc (hid Kept Tab)

section
variable {P : Program}
theorem results_cell_mid {fn : Func} {p : Tmp} {ty : TypeId} (h : fn.results = #[.cell p ty]) (tmps : Array Value) (w : World) (g o : Nat) (cs : List Value) (d : TypeDesc)
    (hp : tmps.getD p undef = .pointer (some ⟨g, o, none⟩)) (hc : w.rangeAt g o cs)
    (hu : P.underlying ty = some d) (hd : d.isRow = true) (hi : (P.info? ty).map (·.size) = some cs.length) :
    (results fn tmps).run P w = .ok (.agg cs.toArray) w := by
  have hp' : tmps[p]?.getD undef = .pointer (some ⟨g, o, none⟩) := by simpa using hp
  simp [results, h, hp', asAddr, run_loadVar_mid w g o ty cs d hc hu hd hi]
theorem results_cell_mid2 {fn : Func} {p u : Tmp} {ty : TypeId} (h : fn.results = #[.cell p ty, .tmp u]) (tmps : Array Value) (w : World) (g o : Nat) (cs : List Value) (d : TypeDesc)
    (hp : tmps.getD p undef = .pointer (some ⟨g, o, none⟩)) (hc : w.rangeAt g o cs)
    (hu : P.underlying ty = some d) (hd : d.isRow = true) (hi : (P.info? ty).map (·.size) = some cs.length) :
    (results fn tmps).run P w = .ok (.tuple #[.agg cs.toArray, tmps.getD u undef]) w := by
  have hp' : tmps[p]?.getD undef = .pointer (some ⟨g, o, none⟩) := by simpa using hp
  rw [results_cell_tmp h]
  simp [hp', asAddr, run_loadVar_mid w g o ty cs d hc hu hd hi]
theorem results_cell_mid3 {fn : Func} {p u z : Tmp} {ty : TypeId} (h : fn.results = #[.cell p ty, .tmp u, .tmp z]) (tmps : Array Value) (w : World) (g o : Nat) (cs : List Value) (d : TypeDesc)
    (hp : tmps.getD p undef = .pointer (some ⟨g, o, none⟩)) (hc : w.rangeAt g o cs)
    (hu : P.underlying ty = some d) (hd : d.isRow = true) (hi : (P.info? ty).map (·.size) = some cs.length) :
    (results fn tmps).run P w = .ok (.tuple #[.agg cs.toArray, tmps.getD u undef, tmps.getD z undef]) w := by
  have hp' : tmps[p]?.getD undef = .pointer (some ⟨g, o, none⟩) := by simpa using hp
  simp only [results, h]
  simp [Result.andThen, hp', asAddr, run_loadVar_mid w g o ty cs d hc hu hd hi]
end

theorem there_of_block {w : World} {g : Nat} {cs : Array Value} {t : TypeId} (h : w.heap[g]? = some (.cells cs t (0, 0))) (o n : Nat) (hn : o + n ≤ cs.size) : w.there g o n := fun j hj => by
  have hlt : o + j < cs.size := by omega
  rw [cell_of_row w g (o + j) cs t (0, 0) h, frozen_of_row w g _ cs t h]
  exact ⟨by simp [hlt], rfl⟩

theorem range_new (w : World) (C : List Value) (ty : TypeId) : (w.alloc (.cells C.toArray ty)).rangeAt w.heap.size 0 C := fun j v hv => by
  rw [Nat.zero_add, World.cell?_alloc_at _ _ _ _ rfl]
  simpa using hv
theorem there_new (w : World) (C : List Value) (ty : TypeId) : (w.alloc (.cells C.toArray ty)).there w.heap.size 0 C.length := there_of_block (heap_alloc_new _ _) 0 C.length (by simp)

theorem rangeAt_below {B : Nat} {w w' : World} {g o : Nat} {C : List Value} (h : w.rangeAt g o C) (hb : Below B w w') (hg : g < B) : w'.rangeAt g o C := fun j v hv => (hb.cell (p := ⟨g, o + j, none⟩) hg).trans (h j v hv)
theorem there_below {B : Nat} {w w' : World} {g o n : Nat} (h : w.there g o n) (hb : Below B w w') (hg : g < B) : w'.there g o n := fun j hj => by
  rw [hb.cell (p := ⟨g, o + j, none⟩) hg, hb.frozen (p := ⟨g, o + j, none⟩) hg]
  exact h j hj
theorem rangeAt_kept {b : Nat} {w w' : World} {g o : Nat} {C : List Value} (h : w.rangeAt g o C) (hk : Kept b w w') (hg : g < w.heap.size) (hb : g ≠ b) : w'.rangeAt g o C := fun j v hv => (hk.cell (p := ⟨g, o + j, none⟩) hg hb).trans (h j v hv)
theorem there_kept {b : Nat} {w w' : World} {g o n : Nat} (h : w.there g o n) (hk : Kept b w w') (hg : g < w.heap.size) (hb : g ≠ b) : w'.there g o n := fun j hj => by
  rw [hk.cell (p := ⟨g, o + j, none⟩) hg hb, hk.frozen (p := ⟨g, o + j, none⟩) hg hb]
  exact h j hj

/-- The part of a record that is its name. -/
theorem rangeAt_name {w : World} {g o : Nat} {k : Int} {nm : List Int} {v : Value} (h : w.rangeAt g o (recA k nm v)) : w.rangeAt g (o + 1) (u8s nm) := fun j u hj => by
  have hlt := (List.getElem?_eq_some_iff.1 hj).1
  have := h (1 + j) u (by rw [recA, Nat.add_comm, List.getElem?_cons_succ, List.getElem?_append_left hlt]; exact hj)
  rw [← this]
  congr 2
  omega

theorem setCells_below {B g : Nat} (h : B ≤ g) (w : World) (o : Nat) (cs : List Value) : Below B w (w.setCells g o cs) := by
  induction cs generalizing w o with
  | nil => exact Below.refl _ _
  | cons c cs ih => rw [World.setCells]; exact ((Below.refl B w).setCell (p := ⟨g, o, none⟩) h c).trans (ih _ _)
theorem setCells_size (w : World) (g o : Nat) (cs : List Value) : (w.setCells g o cs).heap.size = w.heap.size := by
  induction cs generalizing w o with
  | nil => rfl
  | cons c cs ih => rw [World.setCells, ih]; simp

/-- A record of no kind, no name, no body. -/
def zRec : List Value := recA 0 (List.replicate 32 0) (.slice none 0 0)
theorem zRec_length : zRec.length = 34 := rfl
theorem zRec_one : ∀ v ∈ zRec, v.oneCell' = true := recA_one _ _ _ _ _

theorem ex32 {nm : List Int} (h : nm.length = 32) : ∃ x0 x1 x2 x3 x4 x5 x6 x7 x8 x9 x10 x11 x12 x13 x14 x15 x16 x17 x18 x19 x20 x21 x22 x23 x24 x25 x26 x27 x28 x29 x30 x31,
    nm = [x0, x1, x2, x3, x4, x5, x6, x7, x8, x9, x10, x11, x12, x13, x14, x15, x16, x17, x18, x19, x20, x21, x22, x23, x24, x25, x26, x27, x28, x29, x30, x31] := by
  match nm, h with
  | [x0, x1, x2, x3, x4, x5, x6, x7, x8, x9, x10, x11, x12, x13, x14, x15, x16, x17, x18, x19, x20, x21, x22, x23, x24, x25, x26, x27, x28, x29, x30, x31], _ => exact ⟨_, _, _, _, _, _, _, _, _, _, _, _, _, _, _, _, _, _, _, _, _, _, _, _, _, _, _, _, _, _, _, _, rfl⟩


theorem wpList_build3 {ops : Array Oper} {rest : List Oper} {o : Oper} {a : Act} {w : World} {Q : Exit → Act → World → Prop} (hg : o.guard = none) (ty : TypeId) (x y z : Operand) (ho : o.op = .build ty #[(0, x), (1, y), (2, z)])
    (vx vy vz : Value) (hx : a.eval x = vx) (hy : a.eval y = vy) (hz : a.eval z = vz) (C : Array Value) (hb : Try.prog.built ty [(0, vx), (1, vy), (2, vz)] = some C)
    (h : wpList Try.prog ops Q rest (a.put o.dst (.agg C)) w) : wpList Try.prog ops Q (o :: rest) a w := by
  have e : Try.prog.built ty ((#[(0, x), (1, y), (2, z)] : Array (Nat × Operand)).map fun (i, x) => (i, a.eval x)).toList = some C := by
    rw [← hb]
    simp only [List.map_toArray, List.map_cons, List.map_nil, hx, hy, hz]
  refine wpList_build hg ty _ ho (by rw [e]; rfl) ?_
  rw [e]
  exact h



end Go.Proofs.Ytampnikdmgojjaa
end

section
/-
  Which records are the same: the program's answer, and the reference's.
-/
namespace Go.Proofs.Ytampnikdmgojjaa
open Go.RowKit
open Tlv (Tr BySlS AgreeS Agree)
open Crc (hid Kept Tab)

theorem wpList_bare {P : Program} {ops : Array Oper} {Q : Exit → Act → World → Prop} {a : Act} {w : World} {rest : List Oper} {dst : Option Tmp} {op : Op} {type : TypeId} {pos : String} {after : Array Edge} {g : Option (Nat × Bool)}
    (hw : Region.wanted ⟨dst, op, type, pos, after, g⟩ (yielded ops a.tmps) = true) (h : wpList P ops Q (⟨dst, op, type, pos, after, none⟩ :: rest) a w) : wpList P ops Q (⟨dst, op, type, pos, after, g⟩ :: rest) a w := by
  unfold wpList at h ⊢
  rw [if_pos hw]
  rw [if_pos (by rfl)] at h
  exact h

theorem cells_u8s (l : List Int) (h : ∀ x ∈ l, 0 ≤ x ∧ x ≤ 255) : (l.map fun x => x.toNat.toUInt8).map Extern.Stop.cell = u8s l := by
  unfold u8s
  rw [List.map_map]
  apply List.map_congr_left
  intro x hx
  have := h x hx
  simp [Extern.Stop.cell]
  omega
theorem map_inj : ∀ (xs ys : List Int), (∀ x ∈ xs, 0 ≤ x ∧ x ≤ 255) → (∀ x ∈ ys, 0 ≤ x ∧ x ≤ 255) → (xs.map fun x => x.toNat.toUInt8) = (ys.map fun x => x.toNat.toUInt8) → xs = ys
  | [], [], _, _, _ => rfl
  | [], _ :: _, _, _, h => by simp at h
  | _ :: _, [], _, _, h => by simp at h
  | x :: xs, y :: ys, h1, h2, h => by
    simp only [List.map_cons, List.cons.injEq] at h
    have hx := h1 x (by simp)
    have hy := h2 y (by simp)
    have e := congrArg UInt8.toNat h.1
    simp at e
    have e2 : x = y := by omega
    rw [e2, map_inj xs ys (fun z hz => h1 z (by simp [hz])) (fun z hz => h2 z (by simp [hz])) h.2]

/-- Two names. -/
theorem eqName (xs ys : List Int) (hx : xs.length = 32) (hy : ys.length = 32) (bx : ∀ x ∈ xs, 0 ≤ x ∧ x ≤ 255) (bY : ∀ x ∈ ys, 0 ≤ x ∧ x ≤ 255) (w : World) :
    (Op.equalIn 10000 46 (.agg (u8s xs).toArray) (.agg (u8s ys).toArray)).run Try.prog w = .ok (decide (xs = ys)) w := by
  have h := run_equalIn_bytes (P := Try.prog) w 9998 46 5 32 Try.underlying46 Try.underlying5 Try.sizeOf5 (xs.map fun x => x.toNat.toUInt8) (ys.map fun x => x.toNat.toUInt8) (by simpa using hx) (by simpa using hy)
  rw [cells_u8s xs bx, cells_u8s ys bY] at h
  have e : ((xs.map fun x => x.toNat.toUInt8) == (ys.map fun x => x.toNat.toUInt8)) = decide (xs = ys) := by
    rw [Bool.eq_iff_iff]
    simp only [beq_iff_eq, decide_eq_true_eq]
    exact ⟨map_inj xs ys bx bY, fun e => by rw [e]⟩
  rw [e] at h
  exact h

/-- Records are the same. -/
def sameR (k k' : Int) (nm nm' bs bs' : List Int) : Bool := decide (k = k') && (decide (nm = nm') && decide (bs = bs'))



end Go.Proofs.Ytampnikdmgojjaa
end

section
/-
  What Size and Put answer.
-/
namespace Go.Proofs.Ytampnikdmgojjaa
open Go.RowKit
open Tlv (Tr BySlS AgreeS Agree)
open Crc (hid Kept Tab)

/-- A table at b, its rows filled or not. -/
def TabX (w : World) (b : Nat) : Prop := ∃ f n, (f = 0 ∨ f = 1) ∧ Tab w b f n
theorem TabX.below {w w' : World} {b : Nat} (h : TabX w b) (k : Below w.heap.size w w') : TabX w' b := by
  obtain ⟨f, n, hf, ht⟩ := h
  exact ⟨f, n, hf, ht.below k⟩
theorem TabX.lt {w : World} {b : Nat} (h : TabX w b) : b < w.heap.size := by
  obtain ⟨f, n, hf, ht⟩ := h
  exact ht.1
theorem TabX.kept {b g : Nat} {w w' : World} (h : TabX w b) (k : Kept g w w') (hg : b ≠ g) : TabX w' b := by
  obtain ⟨f, n, hf, ht⟩ := h
  exact ⟨f, n, hf, ht.kept k hg⟩
theorem TabX.of {b : Nat} {n : Int} {w : World} (h : Tab w b 1 n) : TabX w b := ⟨1, n, .inr rfl, h⟩

theorem toCrc {S : Nat → Prop} {b : Nat} {w : World} {v : Value} {xs : List Int} (h : BySlS S w v xs) (hS : ∀ g, S g → g ≠ b ∧ g < w.heap.size) : Crc.BySl b w v (nats xs) := by
  obtain ⟨a, cap, rfl, h2, h3, h4, h5, h6, h7⟩ := h
  refine ⟨a, cap, by rw [nats_length], by rw [nats_length]; exact h2, h3, fun e => ⟨by rw [(h4 e).1]; rfl, (h4 e).2⟩, by rw [nats_length]; exact h5, nats_lt _ h6, fun hne => ?_⟩
  have hne' : xs ≠ [] := fun e => hne (by rw [e]; rfl)
  obtain ⟨g, o, e, hg, hc⟩ := h7 hne'
  refine ⟨g, o, e, (hS g hg).1, (hS g hg).2, fun i hi => ?_⟩
  rw [nats_length] at hi
  rw [hc i hi]
  have hx := h6 (xs.getD i 0) (by rw [List.getD_eq_getElem?_getD, List.getElem?_eq_getElem hi]; simp)
  simp only [nats, List.getD_eq_getElem?_getD, List.getElem?_map, List.getElem?_eq_getElem hi, Option.map_some, Option.getD_some] at hx ⊢
  congr 2
  omega

theorem ofCrc {b : Nat} {w : World} {v : Value} {xs : List Nat} (h : Crc.BySl b w v xs) : BySlS (fun g => g ≠ b ∧ g < w.heap.size) w v (ints xs) := by
  obtain ⟨a, cap, rfl, h2, h3, h4, h5, h6, h7⟩ := h
  refine ⟨a, cap, by rw [ints_length], by rw [ints_length]; exact h2, h3, fun e => ⟨by rw [(h4 e).1]; rfl, (h4 e).2⟩, by rw [ints_length]; exact h5, ints_bd _ h6, fun hne => ?_⟩
  have hne' : xs ≠ [] := fun e => hne (by rw [e]; rfl)
  obtain ⟨g, o, e, hg, hg2, hc⟩ := h7 hne'
  refine ⟨g, o, e, ⟨hg, hg2⟩, fun i hi => ?_⟩
  rw [ints_length] at hi
  rw [hc i hi]
  simp [ints, List.getElem?_eq_getElem hi]

theorem BySlS.mono {S S' : Nat → Prop} {w : World} {v : Value} {xs : List Int} (h : BySlS S w v xs) (hS : ∀ g, S g → S' g) : BySlS S' w v xs := h.agree (fun _ _ => rfl) hS
theorem BySlS.kept {b : Nat} {S : Nat → Prop} {w w' : World} {v : Value} {xs : List Int} (h : BySlS S w v xs) (k : Kept b w w') (hS : ∀ g, S g → g ≠ b ∧ g < w.heap.size) : BySlS S w' v xs := h.agree (fun g hg => k.block g (hS g hg).2 (hS g hg).1) (fun _ h => h)
theorem BySlS.below {B : Nat} {S : Nat → Prop} {w w' : World} {v : Value} {xs : List Int} (h : BySlS S w v xs) (k : Below B w w') (hS : ∀ g, S g → g < B) : BySlS S w' v xs := h.agree (fun g hg => k.block g (hS g hg)) (fun _ h => h)

theorem rightB_of {k : Int} {nm bs : List Int} (h : RightR k nm bs) : rightB k bs.length = true := by
  obtain ⟨h1, h2, h3, _⟩ := h
  simp [rightB]; omega
theorem right_of {k : Int} {nm bs : List Int} (h : rightB k bs.length = true) (hn : nm.length = 32) (hx : ∀ x ∈ nm, 0 ≤ x ∧ x ≤ 255) (hy : ∀ x ∈ bs, 0 ≤ x ∧ x ≤ 255) : RightR k nm bs := by
  simp [rightB] at h
  exact ⟨by omega, by omega, by omega, hn, hx, hy⟩






end Go.Proofs.Ytampnikdmgojjaa
end

section
/-
  An entry's value in tlv's words.
-/
namespace Go.Proofs.Ytampnikdmgojjaa.Sg
open Go.RowKit
open Tlv (Tr Agree)
open Sim (hid Kp No)

/-- An entry's value, and that of entries. -/
def entT (e : Ent) : Tr 2 := Tr.mk 3 0 [] [(Tr.mk 2 0 e.1 [] : Tr 1), Tr.mk 1 e.2.1 [] [], Tr.mk 1 e.2.2.1 [] [], Tr.mk 1 e.2.2.2 [] []]
def entsT (d : List Ent) : Tr 3 := Tr.mk 3 0 [] (d.map entT)

set_option maxHeartbeats 1000000 in
set_option maxRecDepth 100000 in
theorem segnum_any (n : Int) (w : World) (h0 : 0 ≤ n) (h1 : n ≤ 1000000) : Calls Try.prog 53 #[.int .i64 n] w fun e w' => e = .returned (.agg #[.int .i64 1, .int .u64 n, .slice none 0 0, .slice none 0 0]) ∧ Below w.heap.size w w' := by
  have hwk : IntKind.u64.wrap n = n := by rw [IntKind.wrap_u64]; omega
  have HN := hid (Tlv.number_any n)
  clear h0 h1
  go_enter Try.func53, Try.ntmps53
  go_wp2_with fail
  refine (HN.out _).mono ?_
  rintro e w1 ⟨rfl, hb⟩
  have HB := hid hb
  obtain ⟨hc, hf⟩ := Tlv.bcell hb
  have g0 : w1.cell? ⟨w.heap.size, 0, none⟩ = some (.int .i64 0) := (hc _ _ (by simp)).trans (by simp [go_sem])
  have g1 : w1.cell? ⟨w.heap.size, 1, none⟩ = some (.int .u64 0) := (hc _ _ (by simp)).trans (by simp [go_sem])
  have g2 : w1.cell? ⟨w.heap.size, 2, none⟩ = some (.slice none 0 0) := (hc _ _ (by simp)).trans (by simp [go_sem])
  have g3 : w1.cell? ⟨w.heap.size, 3, none⟩ = some (.slice none 0 0) := (hc _ _ (by simp)).trans (by simp [go_sem])
  have gf : ∀ o, w1.frozen? ⟨w.heap.size, o, none⟩ = false := fun o => (hf _ _ (by simp)).trans (by simp [go_sem])
  have hz : w.heap.size < w1.heap.size := by have := hb.size; simp at this; omega
  clear hb hc hf hwk
  go_wp2_with fail
  obtain ⟨q0, q1, q2, q3⟩ := Tlv.set4_read (u0 := .int .i64 1) (u1 := .int .u64 n) (u2 := .slice none 0 0) (u3 := .slice none 0 0) g0 g1 g2 g3
  refine bodyPost_ret (v := .agg #[.int .i64 1, .int .u64 n, .slice none 0 0, .slice none 0 0]) (by simp [results, Try.results53, go_sem, q0, q1, q2, q3]) rfl ⟨rfl, ?_⟩
  exact (((Below.refl _ w).alloc (Nat.le_refl _) _).trans (HB.out.mono (by simp))).trans (Tlv.bset4 (Nat.le_refl _) _ _ _ _)

/-- Four values laid in a row. -/
theorem four_in {w : World} (nm : List Int) (p q r : Int) (vn : Value) (h0 : 0 ≤ p ∧ p ≤ 1000000) (h1 : 0 ≤ q ∧ q ≤ 1000000) (h2 : 0 ≤ r ∧ r ≤ 1000000) (bn : Tlv.BySl 0 w.heap.size w vn nm) (ty : TypeId) (C : Array Value)
    (hC : C = #[.int .i64 2, .int .u64 0, vn, .slice none 0 0, .int .i64 1, .int .u64 p, .slice none 0 0, .slice none 0 0, .int .i64 1, .int .u64 q, .slice none 0 0, .slice none 0 0, .int .i64 1, .int .u64 r, .slice none 0 0, .slice none 0 0]) :
    Tlv.KSl 0 (w.heap.size + 1) (w.alloc (.cells C ty)) (Tlv.Rep 0 (w.heap.size + 1) (w.alloc (.cells C ty)) 1)
      (.slice (some ⟨w.heap.size, 0, none⟩) 4 4) [(Tr.mk 2 0 nm [] : Tr 1), Tr.mk 1 p [] [], Tr.mk 1 q [] [], Tr.mk 1 r [] []] := by
  subst hC
  have hA : ∀ o : Obj, Agree 0 w.heap.size w (w.alloc o) := fun o => (Agree.refl _ _ _).alloc (Nat.le_refl _) _
  have hc : ∀ (C : Array Value) (j : Nat), (w.alloc (.cells C ty)).cell? ⟨w.heap.size, j, none⟩ = C[j]? := fun C j => World.cell?_alloc_at _ _ _ _ rfl
  refine ⟨_, 4, rfl, Nat.le_refl _, by decide, by simp, by simp, fun _ => ⟨w.heap.size, 0, rfl, Nat.zero_le _, by omega, fun j t hj => ?_⟩⟩
  match j, hj with
  | 0, hj =>
    simp only [List.getElem?_cons_zero, Option.some.injEq] at hj
    subst hj
    exact ⟨_, _, hc _ _, hc _ _, hc _ _, hc _ _, rep2 (bn.agree (hA _) (Nat.le_refl _) (by omega))⟩
  | 1, hj =>
    simp only [List.getElem?_cons_succ, List.getElem?_cons_zero, Option.some.injEq] at hj
    subst hj
    exact ⟨_, _, hc _ _, hc _ _, hc _ _, hc _ _, rep1 _ h0.1 (by omega)⟩
  | 2, hj =>
    simp only [List.getElem?_cons_succ, List.getElem?_cons_zero, Option.some.injEq] at hj
    subst hj
    exact ⟨_, _, hc _ _, hc _ _, hc _ _, hc _ _, rep1 _ h1.1 (by omega)⟩
  | 3, hj =>
    simp only [List.getElem?_cons_succ, List.getElem?_cons_zero, Option.some.injEq] at hj
    subst hj
    exact ⟨_, _, hc _ _, hc _ _, hc _ _, hc _ _, rep1 _ h2.1 (by omega)⟩

theorem many4 {L : Nat} {w : World} {p q r : Int} {nm : List Int} {vn : Value} (h0 : 0 ≤ p ∧ p ≤ 1000000) (h1 : 0 ≤ q ∧ q ≤ 1000000) (h2 : 0 ≤ r ∧ r ≤ 1000000) (bn : Tlv.BySl L w.heap.size w vn nm) :
    Calls Try.prog 35 #[.slice (some ⟨w.heap.size, 0, none⟩) 4 4] (w.alloc (.cells #[.int .i64 2, .int .u64 0, vn, .slice none 0 0, .int .i64 1, .int .u64 p, .slice none 0 0, .slice none 0 0, .int .i64 1, .int .u64 q, .slice none 0 0, .slice none 0 0, .int .i64 1, .int .u64 r, .slice none 0 0, .slice none 0 0] 80))
      fun e w' => ∃ a3 l3 p3 a4 l4 p4, e = .returned (.agg #[.int .i64 3, .int .u64 0, .slice a3 l3 p3, .slice a4 l4 p4]) ∧ Tlv.Rep w.heap.size w'.heap.size w' 2 (entT (nm, p, q, r)) (.slice a3 l3 p3) (.slice a4 l4 p4) ∧ Below w.heap.size w w' := by
  have h := four_in (w := w) nm p q r vn h0 h1 h2 (bn.agree (Agree.refl _ _ _) (Nat.zero_le _) (Nat.le_refl _)) 80 _ rfl
  refine (Tlv.many_any _ _ _ (by simpa using h) (by omega)).mono ?_
  rintro e w5 ⟨sb', sk', rfl, hr5, hb5⟩
  obtain ⟨a3, l3, p3, a4, l4, p4, rfl, rfl⟩ := hr5.sl
  exact ⟨_, _, _, _, _, _, rfl, hr5.agree (Agree.refl _ _ _) (by simp) (Nat.le_refl _), ((Below.refl _ w).alloc (Nat.le_refl _) _).trans (hb5.mono (by simp))⟩

theorem nameIn {W : World} {g o : Nat} {e : Ent} (he : EOk e) (hg : g < W.heap.size) (h : W.rangeAt g o (entC e)) : Tlv.BySl 0 W.heap.size W (.slice (some ⟨g, o, none⟩) 32 32) e.1 := by
  refine ⟨_, 32, by rw [he.1], by rw [he.1]; omega, by decide, by simp, by rw [he.1]; omega, he.2, fun _ => ⟨g, o, rfl, Nat.zero_le _, hg, fun i hi => ?_⟩⟩
  have := h i (.int .u8 (e.1.getD i 0)) (by
    rw [entC, List.getElem?_append_left (by rw [b8_length]; exact hi)]
    simp [b8, List.getElem?_eq_getElem hi])
  exact this

set_option maxHeartbeats 2000000 in
set_option maxRecDepth 100000 in
theorem entval_any (nm : List Int) (p q r : Int) (w : World) (he : EOk (nm, p, q, r)) (h0 : 0 ≤ p ∧ p ≤ 1000000) (h1 : 0 ≤ q ∧ q ≤ 1000000) (h2 : 0 ≤ r ∧ r ≤ 1000000) :
    Calls Try.prog 36 #[.agg (entC (nm, p, q, r)).toArray] w fun e w' => ∃ a3 l3 p3 a4 l4 p4, e = .returned (.agg #[.int .i64 3, .int .u64 0, .slice a3 l3 p3, .slice a4 l4 p4]) ∧ Tlv.Rep w.heap.size w'.heap.size w' 2 (entT (nm, p, q, r)) (.slice a3 l3 p3) (.slice a4 l4 p4) ∧ Below w.heap.size w w' := by
  have HE := hid he
  have hpl : ∀ (W : World) (g : Nat), W.rangeAt g 0 (entC (nm, p, q, r)) → W.cell? ⟨g, 32, none⟩ = some (.int .i64 p) ∧ W.cell? ⟨g, 33, none⟩ = some (.int .i64 q) ∧ W.cell? ⟨g, 34, none⟩ = some (.int .i64 r) := fun W g h => by
    have h := rng_place he h
    exact ⟨h 0 _ rfl, h 1 _ rfl, h 2 _ rfl⟩
  have HPL := hid hpl
  clear hpl he
  obtain ⟨C, hC⟩ : ∃ C, entC (nm, p, q, r) = C := ⟨_, rfl⟩
  have HC := hid hC
  rw [hC]
  clear hC
  go_enter Try.func36, Try.ntmps36
  go_wp2
  obtain ⟨W0, hW0⟩ : ∃ W0, (w.alloc (.cells C.toArray 48)).alloc (.cells #[.int .i64 0, .int .u64 0, .slice none 0 0, .slice none 0 0] 80) = W0 := ⟨_, rfl⟩
  have hz : W0.heap.size = w.heap.size + 2 := by rw [← hW0]; simp
  have hbel : Below w.heap.size w W0 := by rw [← hW0]; exact ((Below.refl _ _).alloc (Nat.le_refl _) _).alloc (by simp) _
  have hrg : W0.rangeAt w.heap.size 0 C := by
    rw [← hW0]
    refine World.rangeAt_alloc (fun j v hv => ?_) _
    rw [Nat.zero_add, World.cell?_alloc_at _ _ _ _ rfl]
    simpa using hv
  have HG : Hid (∀ j u, (#[.int .i64 0, .int .u64 0, .slice none 0 0, .slice none 0 0] : Array Value)[j]? = some u → W0.cell? ⟨w.heap.size + 1, j, none⟩ = some u) := fun j u hj => by
    rw [← hW0, World.cell?_alloc_at _ _ _ _ (by simp), hj]
  have HF : Hid (∀ j, W0.frozen? ⟨w.heap.size + 1, j, none⟩ = false) := fun j => by
    rw [← hW0, World.frozen?_alloc_at _ _ _ _ (by simp)]
  rw [hW0]
  clear hW0
  have hplC := HPL.out W0 w.heap.size (by rw [HC.out]; exact hrg)
  have r32 : ∀ V, Below (w.heap.size + 1) W0 V → V.cell? ⟨w.heap.size, 32, none⟩ = some (.int .i64 p) := fun V h => (h.cell (p := ⟨w.heap.size, 32, none⟩) (by simp)).trans hplC.1
  have r33 : ∀ V, Below (w.heap.size + 1) W0 V → V.cell? ⟨w.heap.size, 33, none⟩ = some (.int .i64 q) := fun V h => (h.cell (p := ⟨w.heap.size, 33, none⟩) (by simp)).trans hplC.2.1
  have r34 : ∀ V, Below (w.heap.size + 1) W0 V → V.cell? ⟨w.heap.size, 34, none⟩ = some (.int .i64 r) := fun V h => (h.cell (p := ⟨w.heap.size, 34, none⟩) (by simp)).trans hplC.2.2
  have hwn := nameIn (W := W0) (g := w.heap.size) (o := 0) HE.out (by omega) (by rw [HC.out]; exact hrg)
  have K44n := hid (bytes44 (S := fun V => Below W0.heap.size W0 V) HE.out.1 (fun V h => h) hwn)
  have HZ := hid hz
  have HZ2 : Hid (w.heap.size + 1 ≤ W0.heap.size) := by rw [Hid]; omega
  have HBEL := hid hbel
  clear hz hbel hrg hwn hplC
  go_region_held3 (fun V => Below (w.heap.size + 1) W0 V) (first | (with_reducible exact Below.refl _ _) | (with_reducible exact (Below.refl _ _).drew) | (with_reducible exact HK2.out.mono HZ2.out) | (with_reducible exact HK3.out.mono HZ2.out) | (with_reducible exact HK4.out.mono HZ2.out) | (with_reducible exact HK5.out.mono HZ2.out) | (with_reducible exact (HK5.out.alloc HK5.out.size _).mono HZ2.out) | (with_reducible exact HK6.out.mono HZ2.out) | (with_reducible exact (HK6.out.mono HZ2.out).trans (Tlv.bset4 (Nat.le_refl _) _ _ _ _))) (first
    | (go_at_call 52; refine (K44n.out _ ?_).mono ?_; (with_reducible exact (Below.refl _ _).drew); rintro e w2 ⟨an, cn, rfl, hv3, hb3⟩; have HV2 := hid hv3; have HK2 : Hid (Below W0.heap.size W0 w2) := (Below.refl _ _).drew.trans hb3; clear hv3 hb3)
    | (go_at_call_of 53 (Value.int .i64 p); refine (segnum_any p _ h0.1 h0.2).mono ?_; rintro e w3 ⟨rfl, hb3⟩; have HV3 := hid (bySl_lift HV2.out hb3); have HK3 : Hid (Below W0.heap.size W0 w3) := HK2.out.trans (hb3.mono HK2.out.size); clear hb3)
    | (go_at_call_of 53 (Value.int .i64 q); refine (segnum_any q _ h1.1 h1.2).mono ?_; rintro e w4 ⟨rfl, hb4⟩; have HV4 := hid (bySl_lift HV3.out hb4); have HK4 : Hid (Below W0.heap.size W0 w4) := HK3.out.trans (hb4.mono HK3.out.size); clear hb4)
    | (go_at_call_of 53 (Value.int .i64 r); refine (segnum_any r _ h2.1 h2.2).mono ?_; rintro e w5 ⟨rfl, hb5⟩; have HV5 := hid (bySl_lift HV4.out hb5); have HK5 : Hid (Below W0.heap.size W0 w5) := HK4.out.trans (hb5.mono HK4.out.size); clear hb5)
    | (go_at_call 35; refine (many4 h0 h1 h2 HV5.out).mono ?_; rintro e w6 ⟨a3, l3, p3, a4, l4, p4, rfl, hr6, hb6⟩; have HR6 := hid hr6; have HK6 : Hid (Below W0.heap.size W0 w6) := HK5.out.trans (hb6.mono HK5.out.size); have hz6 : w.heap.size + 1 < w6.heap.size := (by have h1 := HK6.out.size; have h2 := HZ.out; omega); have hf6 : ∀ j, w6.frozen? ⟨w.heap.size + 1, j, none⟩ = false := (fun j => (HK6.out.frozen (p := ⟨w.heap.size + 1, j, none⟩) (by have h2 := HZ.out; simp; omega)).trans (HF.out j)); have hc6 : ∀ j u, (#[.int .i64 0, .int .u64 0, .slice none 0 0, .slice none 0 0] : Array Value)[j]? = some u → w6.cell? ⟨w.heap.size + 1, j, none⟩ = some u := (fun j u hj => (HK6.out.cell (p := ⟨w.heap.size + 1, j, none⟩) (by have h2 := HZ.out; simp; omega)).trans (HG.out j u hj)); have g0 := hc6 0 _ rfl; have g1 := hc6 1 _ rfl; have g2 := hc6 2 _ rfl; have g3 := hc6 3 _ rfl; clear hr6 hb6 hc6))
  go_wp2_with fail
  obtain ⟨q0, q1, q2, q3⟩ := Tlv.set4_read (u0 := .int .i64 3) (u1 := .int .u64 0) (u2 := .slice a3 l3 p3) (u3 := .slice a4 l4 p4) g0 g1 g2 g3
  refine bodyPost_ret (v := .agg #[.int .i64 3, .int .u64 0, .slice a3 l3 p3, .slice a4 l4 p4]) (by simp [results, Try.results36, go_sem, q0, q1, q2, q3]) rfl ⟨_, _, _, _, _, _, rfl, ?_, ?_⟩
  · have h1 := HK5.out.size
    have h2 := HZ.out
    exact HR6.out.agree (Agree.set4 _ (.inl (by omega)) _ _ _ _) (by omega) (by simp)
  · exact HBEL.out.trans (((HK6.out.mono HZ2.out).mono (Nat.le_succ _)).trans (Tlv.bset4 (Nat.le_succ _) _ _ _ _))
end Go.Proofs.Ytampnikdmgojjaa.Sg
end

section
/-
  Many of tlv with nothing: a list that is not there.
-/
namespace Go.Proofs.Ytampnikdmgojjaa.Sg
open Go.RowKit
open Tlv (Tr Agree bcell set4_read cell_far4 bset4)
open Sim (hid Kp No)
attribute [local go_sem ↓] Go.wp_at_zero Go.wp_at_succ

theorem bclone_none (w : World) : Calls Try.prog 40 #[.slice none 0 0] w fun e w' => e = .returned (.slice none 0 0) ∧ Below w.heap.size w w' := by
  have q22 := Tlv.Try.nilEq
  go_enter Try.func40, Try.ntmps40
  go_wp2
  go_ret
  exact ⟨rfl, Below.refl _ _⟩

set_option maxHeartbeats 2000000 in
set_option maxRecDepth 100000 in
theorem clone_none (w : World) : Calls Try.prog 51 #[.agg #[.int .i64 3, .int .u64 0, .slice none 0 0, .slice none 0 0], .int .i64 131072] w fun e w' => e = .returned (.tuple #[.agg #[.int .i64 3, .int .u64 0, .slice none 0 0, .slice none 0 0], .bool true]) ∧ Below w.heap.size w w' := by
  have HB := hid bclone_none
  go_enter Try.func51, Try.ntmps51
  go_upto_region 3 with fail
  obtain ⟨W0, hW0⟩ : ∃ W0, W0 = (w.alloc (Obj.cells #[Value.int IntKind.i64 3, Value.int IntKind.u64 0, Value.slice none 0 0, Value.slice none 0 0] 80)).alloc (Obj.cells #[Value.int IntKind.i64 0, Value.int IntKind.u64 0, Value.slice none 0 0, Value.slice none 0 0] 80) := ⟨_, rfl⟩
  have HW0 := hid hW0
  clear hW0
  go_cut [6] (fun s wx => ∃ (g : Nat), s = .pointer (some ⟨g, 0, none⟩) ∧ w.heap.size + 2 ≤ g ∧ g < wx.heap.size ∧ wx.cell? ⟨g, 0, none⟩ = some (.int .i64 3) ∧ wx.cell? ⟨g, 1, none⟩ = some (.int .u64 0) ∧
    wx.cell? ⟨g, 2, none⟩ = some (.slice none 0 0) ∧ wx.cell? ⟨g, 3, none⟩ = some (.slice none 0 0) ∧ (∀ o, wx.frozen? ⟨g, o, none⟩ = false) ∧ Hid (Below (w.heap.size + 2) W0 wx))
  case first =>
    go_region_held3 (fun w' => w'.cell? ⟨w.heap.size, 0, none⟩ = some (.int .i64 3) ∧ w'.cell? ⟨w.heap.size, 1, none⟩ = some (.int .u64 0) ∧ w'.cell? ⟨w.heap.size, 2, none⟩ = some (.slice none 0 0)) (first | go_keep | (refine ⟨?_, ?_, ?_⟩ <;> (rw [cell_far4 (by simp; omega)]; assumption)))
      ((go_at_call 40; refine (HB.out _).mono ?_; rintro e w1 ⟨rfl, hb⟩; have Hb := hid hb; obtain ⟨hc, hf⟩ := bcell hb; have hz := hb.size; clear hb; have q0 : w1.cell? ⟨w.heap.size, 0, none⟩ = some (.int .i64 3) := (hc _ _ (by simp; try omega)).trans (by simp [go_sem]); have q1 : w1.cell? ⟨w.heap.size, 1, none⟩ = some (.int .u64 0) := (hc _ _ (by simp; try omega)).trans (by simp [go_sem]); have q2 : w1.cell? ⟨w.heap.size, 2, none⟩ = some (.slice none 0 0) := (hc _ _ (by simp; try omega)).trans (by simp [go_sem])))
    · go_wp2_with fail
      go_meet
      simp at hz
      refine ⟨w1.heap.size, rfl, by omega, by simp, by simp, by simp, by simp, by simp, by simp, ?_⟩
      rw [HW0.out]
      exact (((Below.refl _ _).drew).trans (Hb.out.mono (by simp))).alloc (by omega) _
    · go_wp2_with fail
      go_meet
      simp at hz
      obtain ⟨r0, r1, r2, r3⟩ := set4_read (w := w1) (b := w.heap.size + 1 + 1) (u0 := .int .i64 3) (u1 := .int .u64 0) (u2 := .slice none 0 0) (u3 := .slice none 0 0) (x0 := .int .i64 0) (x1 := .int .u64 0) (x2 := .slice none 0 0) (x3 := .slice none 0 0) ((hc _ _ (by simp)).trans (by simp [go_sem])) ((hc _ _ (by simp)).trans (by simp [go_sem])) ((hc _ _ (by simp)).trans (by simp [go_sem])) ((hc _ _ (by simp)).trans (by simp [go_sem]))
      refine ⟨w.heap.size + 1 + 1, rfl, by omega, by simp; omega, r0, r1, r2, r3, ?_, ?_⟩
      · intro o
        simp only [World.frozen?_setCell]
        rw [hf _ _ (by simp)]
        simp [go_sem]
      · rw [HW0.out]
        exact ((((Below.refl _ _).alloc (by simp) _).drew).trans (Hb.out.mono (by simp))).trans (bset4 (by omega) _ _ _ _)
  case rest =>
    obtain ⟨g, rfl, hg0, hg1, e0, e1, e2, e3, hfr, HX⟩ := hcut
    have xb : ∀ o, wc.cell? ⟨w.heap.size, o, none⟩ = W0.cell? ⟨w.heap.size, o, none⟩ := fun o => HX.out.cell (p := ⟨w.heap.size, o, none⟩) (by simp)
    have b3 : wc.cell? ⟨w.heap.size, 3, none⟩ = some (.slice none 0 0) := by rw [xb, HW0.out]; simp [go_sem]
    have xr : ∀ o, wc.cell? ⟨w.heap.size + 1, o, none⟩ = W0.cell? ⟨w.heap.size + 1, o, none⟩ := fun o => HX.out.cell (p := ⟨w.heap.size + 1, o, none⟩) (by simp)
    have xf : ∀ o, wc.frozen? ⟨w.heap.size + 1, o, none⟩ = W0.frozen? ⟨w.heap.size + 1, o, none⟩ := fun o => HX.out.frozen (p := ⟨w.heap.size + 1, o, none⟩) (by simp)
    have r0 : wc.cell? ⟨w.heap.size + 1, 0, none⟩ = some (.int .i64 0) := by rw [xr, HW0.out]; simp [go_sem]
    have r1 : wc.cell? ⟨w.heap.size + 1, 1, none⟩ = some (.int .u64 0) := by rw [xr, HW0.out]; simp [go_sem]
    have r2 : wc.cell? ⟨w.heap.size + 1, 2, none⟩ = some (.slice none 0 0) := by rw [xr, HW0.out]; simp [go_sem]
    have r3 : wc.cell? ⟨w.heap.size + 1, 3, none⟩ = some (.slice none 0 0) := by rw [xr, HW0.out]; simp [go_sem]
    have rf : ∀ o, wc.frozen? ⟨w.heap.size + 1, o, none⟩ = false := fun o => by rw [xf, HW0.out]; simp [go_sem]
    clear xb xf xr
    have hB0 : Hid (Below w.heap.size w W0) := by rw [Hid, HW0.out]; exact ((Below.refl _ _).alloc (Nat.le_refl _) _).alloc (by simp) _
    go_wp2
    refine wp_loop_rounds 1 ?_
    rw [rounds_succ]
    go_wp2_with fail
    obtain ⟨q0, q1, q2, q3⟩ := set4_read (u0 := .int .i64 3) (u1 := .int .u64 0) (u2 := .slice none 0 0) (u3 := .slice none 0 0) r0 r1 r2 r3
    refine bodyPost_ret (v := .tuple #[.agg #[.int .i64 3, .int .u64 0, .slice none 0 0, .slice none 0 0], .bool true]) (by simp [results, Try.results51, go_sem, q0, q1, q2, q3]) rfl ⟨rfl, ?_⟩
    exact (hB0.out.trans (HX.out.mono (by omega))).trans (bset4 (by omega) _ _ _ _)

set_option maxHeartbeats 400000 in
theorem many_none (w : World) : Calls Try.prog 35 #[.slice none 0 0] w fun e w' => e = .returned (.agg #[.int .i64 3, .int .u64 0, .slice none 0 0, .slice none 0 0]) ∧ Below w.heap.size w w' := by
  have HC := hid clone_none
  go_enter Try.func35, Try.ntmps35
  go_wp2_with fail
  refine (HC.out _).mono ?_
  rintro e w1 ⟨rfl, hb1⟩
  have Hb1 := hid hb1
  obtain ⟨hc, hf⟩ := bcell hb1
  have hz := hb1.size
  simp at hz
  have hgw : w.heap.size < w1.heap.size := by omega
  have g0 : w1.cell? ⟨w.heap.size, 0, none⟩ = some (.int .i64 0) := by rw [hc _ _ (by simp)]; simp [go_sem]
  have g1 : w1.cell? ⟨w.heap.size, 1, none⟩ = some (.int .u64 0) := by rw [hc _ _ (by simp)]; simp [go_sem]
  have g2 : w1.cell? ⟨w.heap.size, 2, none⟩ = some (.slice none 0 0) := by rw [hc _ _ (by simp)]; simp [go_sem]
  have g3 : w1.cell? ⟨w.heap.size, 3, none⟩ = some (.slice none 0 0) := by rw [hc _ _ (by simp)]; simp [go_sem]
  have gf : ∀ o, w1.frozen? ⟨w.heap.size, o, none⟩ = false := fun o => by rw [hf _ _ (by simp)]; simp [go_sem]
  clear hc hf hb1
  go_wp2_with fail
  obtain ⟨q0, q1, q2, q3⟩ := set4_read (u0 := .int .i64 3) (u1 := .int .u64 0) (u2 := .slice none 0 0) (u3 := .slice none 0 0) g0 g1 g2 g3
  refine bodyPost_ret (v := .agg #[.int .i64 3, .int .u64 0, .slice none 0 0, .slice none 0 0]) (by simp [results, Try.results35, go_sem, q0, q1, q2, q3, hgw]) rfl ⟨rfl, ?_⟩
  exact (((((Below.refl _ w).alloc (Nat.le_refl _) _).trans (Hb1.out.mono (by simp))).trans (bset4 (Nat.le_refl _) _ _ _ _)).alloc (by simp; omega) _)
end Go.Proofs.Ytampnikdmgojjaa.Sg
end

section
/-
  A list of values that grows in a variable: one round's memory.
-/
namespace Go.Proofs.Ytampnikdmgojjaa.Sg
open Go.RowKit
open Tlv (Tr Agree CInv cellsK cell4)
open Sim (hid Kp No)

/-- The variable at block w1.heap.size holds a list's value: the first k entries'. -/
def VI (w1 : World) (d : List Ent) (k : Nat) (v : Value) (wr : World) : Prop :=
  wr.cell? ⟨w1.heap.size, 0, none⟩ = some (.int .i64 3) ∧ wr.cell? ⟨w1.heap.size, 1, none⟩ = some (.int .u64 0) ∧ wr.cell? ⟨w1.heap.size, 2, none⟩ = some (.slice none 0 0) ∧ wr.cell? ⟨w1.heap.size, 3, none⟩ = some v ∧
    (∀ o, wr.frozen? ⟨w1.heap.size, o, none⟩ = false) ∧ w1.heap.size < wr.heap.size ∧ CInv (w1.heap.size + 1) ((d.map entT).take k) v wr ∧ Below w1.heap.size w1 wr

theorem push_run {n base L B k : Nat} {ts : List (Tr n)} {t : Tr n} {av : Option Addr} {cv : Nat} {sb sk : Value} (w : World) (hk : ts.length = k) (h : CInv base ts (.slice av k cv) w) (hb : base ≤ w.heap.size) (hr : Tlv.Rep L B w n t sb sk) (hL : base ≤ L) (hB : B ≤ w.heap.size)
    (hd : ∀ r, (Value.slice av k cv).ownBlock = some r → r < L ∨ B ≤ r) (hl : k + 1 ≤ 2000000) (ty : TypeId) :
    ∃ g' cap w', (Builtin.append_ #[78, 78] ty #[.slice av k cv, .slice (some ⟨w.heap.size, 0, none⟩) 1 1]).run Try.prog (w.alloc (.cells #[.int .i64 t.hd.1, .int .u64 t.hd.2.1, sb, sk] 80)) = .ok (.slice (some ⟨g', 0, none⟩) (k + 1) cap) w' ∧
      CInv base (ts ++ [t]) (.slice (some ⟨g', 0, none⟩) (k + 1) cap) w' ∧ (w.alloc (.cells #[.int .i64 t.hd.1, .int .u64 t.hd.2.1, sb, sk] 80)).grownBy w' (Value.slice av k cv).ownBlock := by
  obtain ⟨i0, hi, hz0, hz1, hz2⟩ := info_parts Tlv.Try.info80
  have hlt := h.lt
  have hA : Agree base w.heap.size w (w.alloc (.cells #[.int .i64 t.hd.1, .int .u64 t.hd.2.1, sb, sk] 80)) := (Agree.refl _ _ _).alloc (Nat.le_refl _) _
  obtain ⟨ps, hl2, hown, hkid⟩ := h.agree hA (by simp)
  have hr2 := hr.agree (L' := L) (B' := B) (hA.mono hL hB) (Nat.le_refl _) (Nat.le_refl _)
  rw [hk] at hown
  have hone : ∀ u ∈ cell4 t (sb, sk), u.oneCell' = true := by
    obtain ⟨_, _, _, _, _, _, rfl, rfl⟩ := hr.sl
    intro u hu
    simp only [cell4, List.mem_cons, List.not_mem_nil, or_false] at hu
    rcases hu with rfl | rfl | rfl | rfl <;> rfl
  obtain ⟨g', cap, w', hrun, ho, hgr, hat, hlt'⟩ := run_append_lies (P := Try.prog) (w.alloc (.cells #[.int .i64 t.hd.1, .int .u64 t.hd.2.1, sb, sk] 80)) 78 ty base 80 i0 _ 4 64 Try.underlying78 hi hz0 hz1 hz2 rfl (by decide) (.slice av k cv) k (cellsK ts ps) hown ⟨w.heap.size, 0, none⟩ 1 1 (cell4 t (sb, sk)) rfl
    (World.news_of_block (cs := #[.int .i64 t.hd.1, .int .u64 t.hd.2.1, sb, sk]) (t := 80) (fr := (0, 0)) (heap_alloc_new w _)) hone (by omega) (by unfold maxLen; omega) (by omega) (by simp; omega) _ rfl
  refine ⟨g', cap, w', hrun, ?_, hgr⟩
  have P := CInv.push (g := g') (cap := cap) hl2 hkid hr2 hL (by simp; omega) hd (by rw [hk]; exact ho) hgr hat
  rw [hk] at P
  exact P

theorem VI.start (w1 : World) (d : List Ent) : VI w1 d 0 (.slice none 0 0) (w1.alloc (.cells #[.int .i64 3, .int .u64 0, .slice none 0 0, .slice none 0 0] 80)) :=
  ⟨by simp, by simp, by simp, by simp, by simp, by simp, by simpa using CInv.nil _ _, (Below.refl _ _).alloc (Nat.le_refl _) _⟩

theorem VI.step {w1 wr W1 w2 : World} {d : List Ent} {k cv : Nat} {av : Option Addr} {e : Ent} {sb sk : Value} (h : VI w1 d k (.slice av k cv) wr) (hk : Kp No wr W1) (hb : Below W1.heap.size W1 w2) (hr : Tlv.Rep W1.heap.size w2.heap.size w2 2 (entT e) sb sk) (he : d[k]? = some e) (hl : k + 1 ≤ 2000000) (ty : TypeId) :
    ∃ g' cap w4, (Builtin.append_ #[78, 78] ty #[.slice av k cv, .slice (some ⟨w2.heap.size, 0, none⟩) 1 1]).run Try.prog (w2.alloc (.cells #[.int .i64 3, .int .u64 0, sb, sk] 80)) = .ok (.slice (some ⟨g', 0, none⟩) (k + 1) cap) w4 ∧
      w4.cell? ⟨w1.heap.size, 3, none⟩ = some (.slice av k cv) ∧ w4.frozen? ⟨w1.heap.size, 3, none⟩ = false ∧ w1.heap.size < w4.heap.size ∧
      VI w1 d (k + 1) (.slice (some ⟨g', 0, none⟩) (k + 1) cap) (w4.setCell ⟨w1.heap.size, 3, none⟩ (.slice (some ⟨g', 0, none⟩) (k + 1) cap)) ∧ Kp (fun x => x = w1.heap.size ∨ (Value.slice av k cv).ownBlock = some x) W1 w4 := by
  obtain ⟨h0, h1, h2, h3, hf, hs, hc, hw⟩ := h
  have hlk : ((d.map entT).take k).length = k := by
    have := (List.getElem?_eq_some_iff.1 he).1
    rw [List.length_take, List.length_map]
    omega
  have hz1 := hk.size
  have hz2 := hb.size
  have hA : Agree (w1.heap.size + 1) wr.heap.size wr w2 := fun j _ hj => (hb.block j (by omega)).trans (hk.block j hj (fun x => x))
  have hc2 := hc.agree hA (by omega)
  obtain ⟨g', cap, w4, hrun, hC, hgr⟩ := push_run w2 hlk hc2 (by omega) hr (by omega) (Nat.le_refl _) (fun r hr => .inl (by have := (hc.lt r hr).2; omega)) hl ty
  have hne : ∀ r, (Value.slice av k cv).ownBlock = some r → w1.heap.size + 1 ≤ r := fun r hr => (hc.lt r hr).1
  have hnb : some w1.heap.size ≠ (Value.slice av k cv).ownBlock := fun e => by have := hne _ e.symm; omega
  have hzg := hgr.size
  simp at hzg
  have cc : ∀ j, w4.cell? ⟨w1.heap.size, j, none⟩ = wr.cell? ⟨w1.heap.size, j, none⟩ := fun j => by
    rw [hgr.cell_far ⟨w1.heap.size, j, none⟩ (by simp; omega) hnb, World.cell?_alloc_past _ _ _ (by omega), hb.cell (p := ⟨w1.heap.size, j, none⟩) (by simp; omega)]
    exact hk.cell (p := ⟨w1.heap.size, j, none⟩) hs (fun x => x)
  have cf : ∀ j, w4.frozen? ⟨w1.heap.size, j, none⟩ = false := fun j => by
    rw [hgr.frozen_far ⟨w1.heap.size, j, none⟩ (by simp; omega) hnb, World.frozen?_alloc_past _ _ _ (by omega), hb.frozen (p := ⟨w1.heap.size, j, none⟩) (by simp; omega), hk.frozen (p := ⟨w1.heap.size, j, none⟩) hs (fun x => x)]
    exact hf j
  have htake : (d.map entT).take (k + 1) = (d.map entT).take k ++ [entT e] := by
    rw [List.take_add_one, List.getElem?_map, he]
    rfl
  have hKp : Kp (fun x => x = w1.heap.size ∨ (Value.slice av k cv).ownBlock = some x) W1 w4 := (((Kp.refl _ W1).trans (Kp.below hb : Kp No _ _) (fun _ hx => hx.elim)).alloc _).grown hgr (fun x hx => .inl (.inr hx))
  refine ⟨g', cap, w4, hrun, (cc 3).trans h3, cf 3, by omega, ⟨?_, ?_, ?_, ?_, fun o => ?_, ?_, ?_, ?_⟩, hKp⟩
  · rw [Sim.cell_other (by omega)]; exact (cc 0).trans h0
  · rw [Sim.cell_other (by omega)]; exact (cc 1).trans h1
  · rw [Sim.cell_other (by omega)]; exact (cc 2).trans h2
  · exact World.cell?_setCell_same _ _ _ ((cc 3).trans h3)
  · rw [World.frozen?_setCell]; exact cf o
  · simp; omega
  · rw [htake]
    exact hC.agree ((Agree.refl _ _ _).setCell (.inl (by simp)) _) (by simp)
  · have b1 : Below w1.heap.size w1 w2 := hw.trans ⟨by rw [hb.os, hk.os], by rw [hb.tape, hk.tape], by rw [hb.output, hk.output], by omega, fun j hj => (hb.block j (by omega)).trans (hk.block j (by omega) (fun x => x))⟩
    exact ((b1.alloc (by omega) _).grown hgr (by simp; omega) (fun r hr => by have := hne r hr; omega)).setCell (by simp) _
end Go.Proofs.Ytampnikdmgojjaa.Sg
end
