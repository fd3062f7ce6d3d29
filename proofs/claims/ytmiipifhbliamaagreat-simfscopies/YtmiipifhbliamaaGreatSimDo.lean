/-
  (directory).do: changes, done one behind the other to a map.
-/
import Derived.Test.YtmiipifhbliamaaGreatSimUsed
namespace Go.Proofs.YtmiipifhbliamaaGreat.Sim
open Go.RowKit Go.Maps

/-- A slice of changes that is read. -/
def ChAt (w : World) (v : Value) (cs : List PC) : Prop :=
  ∃ a cap, v = .slice a cs.length cap ∧ cs.length ≤ cap ∧ cap ≤ maxLen ∧ cs.length ≤ 100000 ∧ (cs ≠ [] → ∃ g, a = some ⟨g, 0, none⟩ ∧ g < w.heap.size ∧ ∀ i c, cs[i]? = some c → ∀ j, j < 4 → w.cell? ⟨g, i * 4 + j, none⟩ = (chgCells c)[j]?)
theorem Row.chAt {w : World} {v : Value} {cs : List PC} (h : Row w 69 4 v cs.length (chgs cs)) (hl : cs.length ≤ 100000) : ChAt w v cs := by
  rcases h.2 with ⟨rfl, h0⟩ | ⟨g, cap, cur, rfl, hg, hh, hn, hc, hs, ht⟩
  · have : cs = [] := List.length_eq_zero_iff.1 h0
    subst this
    exact ⟨none, 0, rfl, Nat.le_refl _, Nat.zero_le _, by simp, fun h => absurd rfl h⟩
  · refine ⟨_, cap, rfl, hn, hc, hl, fun _ => ⟨g, rfl, (Array.getElem?_eq_some_iff.1 hh).1, fun i c hi j hj => ?_⟩⟩
    have hil : i < cs.length := (List.getElem?_eq_some_iff.1 hi).1
    rw [h.cellAt (i * 4 + j) (by omega)]
    exact chgs_at cs i c hi j hj
theorem ChAt.front {w : World} {a : Option Addr} {n cap : Nat} {cs : List PC} (h : ChAt w (.slice a n cap) cs) (k : Nat) (hk : k ≤ cs.length) : ChAt w (.slice a k cap) (cs.take k) := by
  obtain ⟨a', cap', e, h1, h2, h3, h4⟩ := h
  cases e
  have hl : (cs.take k).length = k := List.length_take_of_le hk
  refine ⟨a, cap, by rw [hl], by omega, h2, by omega, fun hne => ?_⟩
  obtain ⟨g, hg, hgl, hc⟩ := h4 (fun e => hne (by rw [e]; simp))
  refine ⟨g, hg, hgl, fun i c hi j hj => hc i c ?_ j hj⟩
  have hik : i < k := by have := (List.getElem?_eq_some_iff.1 hi).1; omega
  rw [List.getElem?_take_of_lt hik] at hi
  exact hi
theorem ChAt.one (w : World) (c : PC) : ChAt (w.alloc (.cells (chgCells c).toArray 69)) (.slice (some ⟨w.heap.size, 0, none⟩) 1 1) [c] := by
  refine ⟨_, 1, rfl, by simp, by decide, by simp, fun _ => ⟨_, rfl, by simp, fun i d hi j hj => ?_⟩⟩
  have hi0 : i = 0 := by have := (List.getElem?_eq_some_iff.1 hi).1; simpa using this
  subst hi0
  simp at hi
  subst hi
  rw [World.cell?_alloc_at _ _ _ _ rfl]
  simp
theorem MapAt.noCell {w : World} {b : Nat} {l : Dir} (h : MapAt w b l) (j : Nat) : w.cell? ⟨b, j, none⟩ = none := by
  obtain ⟨es, clock, hb, _⟩ := h
  simp [World.cell?, hb]

theorem wp_look (w : World) {ops : Array Oper} {rest : List Oper} {o : Oper} {a : Act} {Q : Exit → Act → World → Prop} (hg : o.guard = none) (m x : Operand) (hop : o.op = Op.lookup 55 m x false) (b : Nat) (l : Dir) (n : Nm) (f : Nat) (hm : a.eval m = .map (some b)) (hx : a.eval x = encStr n)
    (h : MapAt w b l) (hn : n.length ≤ 1000000) (hf : dfind l n = some f) (hK : wpList Tryz.prog ops Q rest (a.put o.dst (.pointer (some ⟨f, 0, none⟩))) w) : wpList Tryz.prog ops Q (o :: rest) a w := by
  refine wpList_plain hg fun K' hK' => ?_
  have hrun := h.look n hn
  rw [hf, show ptrV (some f) = .pointer (some ⟨f, 0, none⟩) from rfl] at hrun
  unfold Oper.wp
  simp [execOp, hop, hm, hx, hrun, Result.andThen]
  exact hK' _ _ hK

/-- No change, whatever the map. -/
theorem do_none (mv : Value) (w : World) (v : Value) (h : ChAt w v []) : Calls Tryz.prog 24 #[mv, v] w fun e w' => e = .returned (.tuple #[]) ∧ w' = w := by
  obtain ⟨a, cap, rfl, _⟩ := h
  go_enter Tryz.func24, Tryz.ntmps24
  go_wp2
  refine wp_loop_rounds 1 ?_
  rw [rounds_succ]
  go_wp2
  go_end0
  exact ⟨rfl, rfl⟩

set_option maxHeartbeats 2000000 in
theorem do_any (w : World) (mb : Nat) (l : Dir) (v : Value) (cs : List PC) (hm : MapAt w mb l) (h : ChAt w v cs) (hok : okcs l cs) (hn : ∀ c ∈ cs, c.nm.length ≤ 1000000 ∧ c.to.length ≤ 1000000) (hl : l.length + cs.length ≤ 100000) :
    Calls Tryz.prog 24 #[.map (some mb), v] w fun e w' => e = .returned (.tuple #[]) ∧ MapAt w' mb (cs.foldl pdo l) ∧ Kp (· = mb) w w' := by
  obtain ⟨a, cap, rfl, h1, h2, h3, h4⟩ := h
  have HM := hid hm
  have HC := hid h4
  have HOK := hid hok
  have HN := hid hn
  have hmb := hm.lt
  clear hm h4 hok hn
  go_enter Tryz.func24, Tryz.ntmps24
  go_wp2
  go_loopw [9] (fun x wr => ∃ i : Nat, x = .int .i64 i ∧ i ≤ cs.length ∧ Hid (MapAt wr mb ((cs.take i).foldl pdo l)) ∧ Hid (((cs.take i).foldl pdo l).length ≤ l.length + i) ∧ Hid (Kp (· = mb) w wr)) (fun x _ => cs.length - (intOf x).toNat)
  case atStart => exact ⟨0, rfl, by omega, by simpa using HM, by simp [Hid], Kp.refl _ _⟩
  case round =>
    obtain ⟨i, rfl, hi, HI, HL, HK⟩ := hrel
    by_cases hlt : i < cs.length
    · obtain ⟨g, rfl, hg, hcell⟩ := HC.out (by intro e; subst e; simp at hlt)
      obtain ⟨c, hc⟩ : ∃ c, cs[i]? = some c := ⟨_, List.getElem?_eq_getElem hlt⟩
      have hgm : g ≠ mb := by
        intro e
        subst e
        have h0 := hcell i c hc 0 (by omega)
        rw [HM.out.noCell] at h0
        simp [chgCells] at h0
      have hcc : ∀ j, j < 4 → wr.cell? ⟨g, i * 4 + j, none⟩ = (chgCells c)[j]? := fun j hj => (HK.out.cell (p := ⟨g, i * 4 + j, none⟩) hg hgm).trans (hcell i c hc j hj)
      have HT : Hid (cs.take (i + 1) = cs.take i ++ [c]) := by rw [Hid, List.take_add_one, hc]; rfl
      have hok : okc ((cs.take i).foldl pdo l) c := by
        have h5 := HOK.out
        rw [← List.take_append_drop i cs, okcs_append] at h5
        have h6 := h5.2
        have h7 : cs.drop i = c :: cs.drop (i + 1) := by rw [List.drop_eq_getElem_cons hlt]; congr 1; rw [List.getElem?_eq_getElem hlt] at hc; simpa using hc
        rw [h7] at h6
        exact h6.1
      have HCN := hid (HN.out c (List.mem_of_getElem? hc))
      have HTF : Hid ((cs.take (i + 1)).foldl pdo l = pdo ((cs.take i).foldl pdo l) c) := by rw [Hid, HT.out, List.foldl_append]; rfl
      have HLN : Hid ((pdo ((cs.take i).foldl pdo l) c).length ≤ l.length + (i + 1)) := by
        have h8 := length_pdo ((cs.take i).foldl pdo l) c
        have h9 := HL.out
        rw [Hid]
        omega
      have hdl : Hid (((cs.take i).foldl pdo l).length ≤ 1000000) := by have := HL.out; rw [Hid]; omega
      generalize (cs.take i).foldl pdo l = d at *
      have e0 : wr.cell? ⟨g, i * 4, none⟩ = some (.int .i64 (c.kind : Int)) := hcc 0 (by omega)
      have e1 : wr.cell? ⟨g, i * 4 + 1, none⟩ = some (.string (sOf c.nm)) := hcc 1 (by omega)
      have e2 : wr.cell? ⟨g, i * 4 + 2, none⟩ = some (.string (sOf c.to)) := hcc 2 (by omega)
      have e3 : wr.cell? ⟨g, i * 4 + 3, none⟩ = some (ptrV (pcV c)) := hcc 3 (by omega)
      have HX : Hid (ptrV (pcV c) = ptrV (pcV c)) := rfl
      obtain ⟨hk2, hk3⟩ := hok
      have HEN : Hid (encStr c.nm = .string (sOf c.nm) ∧ encStr c.to = .string (sOf c.to)) := ⟨rfl, rfl⟩
      clear hcc hcell hc HT
      have hkk : c.kind = 0 ∨ c.kind = 1 ∨ c.kind = 2 := by omega
      rcases hkk with hk | hk | hk
      · have HP : Hid (pdo d c = dput d c.nm c.file) := by rw [Hid, pdo, if_pos hk]
        rw [show pcV c = some c.file by simp [pcV, hk]] at e3
        rw [show ptrV (some c.file) = .pointer (some ⟨c.file, 0, none⟩) from rfl] at e3
        rw [hk] at e0
        clear hk hk2 hk3 HX
        generalize sOf c.nm = sn at *
        generalize sOf c.to = st at *
        go_wp2_with (first | (at_mapUpdate; refine wp_store _ rfl _ _ _ rfl mb c.file d c.nm rfl ?hx rfl ?hm HCN.out.1 hdl.out ?_; (case hx => exact HEN.out.1.symm); (case hm => exact HI.out.kp (L := No) ((Kp.refl _ _).alloc _) (fun h => h)); intro w2 hm2 hk2 hs2; have HM2 := hid hm2; have HK2 := hid hk2; clear hm2 hk2 hs2) | go_in)
        go_roundw
        case rel => exact ⟨i + 1, by go_num, by omega, by rw [HTF.out, HP.out]; exact HM2, by rw [HTF.out]; exact HLN, ((HK.out.alloc _).trans HK2.out (fun x hx => .inl hx))⟩
        case measure => simp [intOf]; omega
      · have HP : Hid (pdo d c = ddel d c.nm) := by rw [Hid, pdo, if_neg (by omega), if_pos hk]
        rw [hk] at e0
        have HI2 : Hid (∀ o, MapAt (wr.alloc o) mb d) := fun o => HI.out.kp (L := No) ((Kp.refl _ _).alloc _) (fun h => h)
        clear hk hk2 hk3 HX
        rw [show ptrV (pcV c) = .pointer ((pcV c).map fun x => ⟨x, 0, none⟩) from rfl] at e3
        generalize ((pcV c).map fun x => (⟨x, 0, none⟩ : Addr)) = pv at e3
        generalize sOf c.nm = sn at *
        generalize sOf c.to = st at *
        go_wp2_with (first | (at_delete; refine wp_drop _ rfl _ _ rfl mb d c.nm rfl ?hx ?hm HCN.out.1 ?_; (case hx => exact HEN.out.1.symm); (case hm => exact HI2.out _); intro w2 hm2 hk2 hs2; have HM2 := hid hm2; have HK2 := hid hk2; clear hm2 hk2 hs2) | go_in)
        go_roundw
        case rel => exact ⟨i + 1, by go_num, by omega, by rw [HTF.out, HP.out]; exact HM2, by rw [HTF.out]; exact HLN, ((HK.out.alloc _).trans HK2.out (fun x hx => .inl hx))⟩
        case measure => simp [intOf]; omega
      · obtain ⟨f, hf⟩ := Option.isSome_iff_exists.1 (hk3 hk)
        have HP : Hid (pdo d c = dput (ddel d c.nm) c.to f) := by rw [Hid, pdo, if_neg (by omega), if_neg (by omega), hf]; rfl
        rw [hk] at e0
        have HI2 : Hid (∀ o, MapAt (wr.alloc o) mb d) := fun o => HI.out.kp (L := No) ((Kp.refl _ _).alloc _) (fun h => h)
        have HF := hid hf
        have hdl2 : Hid ((ddel d c.nm).length ≤ 1000000) := Nat.le_trans (length_ddel _ _) hdl.out
        have hwz : wr.heap.size ≠ mb := by have := HI.out.lt; omega
        have tok1 : True := trivial
        clear hk hk2 hk3 HX hf
        rw [show ptrV (pcV c) = .pointer ((pcV c).map fun x => ⟨x, 0, none⟩) from rfl] at e3
        generalize ((pcV c).map fun x => (⟨x, 0, none⟩ : Addr)) = pv at e3
        generalize sOf c.nm = sn at *
        generalize sOf c.to = st at *
        go_wp2_with (first | (at_lookup; refine wp_look _ rfl _ _ rfl mb d c.nm f rfl ?hx ?hm HCN.out.1 HF.out ?_; (case hx => exact HEN.out.1.symm); (case hm => exact HI2.out _)) | (at_delete; refine wp_drop _ rfl _ _ rfl mb d c.nm rfl ?hx ?hm HCN.out.1 ?_; (case hx => exact HEN.out.1.symm); (case hm => exact HI2.out _); intro w2 hm2 hk2 hs2; have HM2 := hid hm2; have HK2 := hid hk2; have f1 : w2.cell? ⟨wr.heap.size, 1, none⟩ = some (.string sn) := (hk2.cell (p := ⟨wr.heap.size, 1, none⟩) (by simp) hwz).trans (World.cell?_alloc_at _ _ _ _ rfl); have f2 : w2.cell? ⟨wr.heap.size, 2, none⟩ = some (.string st) := (hk2.cell (p := ⟨wr.heap.size, 2, none⟩) (by simp) hwz).trans (World.cell?_alloc_at _ _ _ _ rfl); clear hm2 hk2 hs2) | (at_mapUpdate; refine wp_store _ rfl _ _ _ rfl mb f (ddel d c.nm) c.to rfl ?hx rfl ?hm HCN.out.2 hdl2.out ?_; (case hx => exact HEN.out.2.symm); (case hm => exact HM2.out); intro w3 hm3 hk3 hs3; have HM3 := hid hm3; have HK3 := hid hk3; clear hm3 hk3 hs3) | go_in)
        go_roundw
        case rel => exact ⟨i + 1, by go_num, by omega, by rw [HTF.out, HP.out]; exact HM3, by rw [HTF.out]; exact HLN, ((HK.out.alloc _).trans HK2.out (fun x hx => .inl hx)).trans HK3.out (fun x hx => .inl hx)⟩
        case measure => simp [intOf]; omega
    · go_wp2
      go_end0
      have ht : cs.take i = cs := List.take_of_length_le (by omega)
      rw [ht] at HI
      exact ⟨rfl, HI.out, HK.out⟩

end Go.Proofs.YtmiipifhbliamaaGreat.Sim
