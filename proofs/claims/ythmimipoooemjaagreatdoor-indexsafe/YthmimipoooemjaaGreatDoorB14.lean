/- Of the proof: the texts PkPick, ShNil, ShOpen, ShWalk0, IxRebuild0, SgNil, SgAlive, SgGetM, SgEntry, SgEntries, one behind the other. -/
import Derived.Test.YthmimipoooemjaaGreatDoorAbb
import Derived.Test.YthmimipoooemjaaGreatDoorB13
import Derived.Test.YthmimipoooemjaaGreatDoorB1
import Derived.Test.YthmimipoooemjaaGreatDoorB6
import Derived.RangeFuncBox
import Derived.Test.YthmimipoooemjaaGreatDoorB12
section
/-
  What is picked of the names that are seen: temporary ones; and their cleaning.
-/
namespace Go.Proofs.YthmimipoooemjaaGreatDoor
open Go.RowKit Go.Shelf
open Sim (hid Kp No PS Done Blk nm finds pBytes pRemove pSyncDir pList Nm OwnN Row)

def tmpL : List UInt8 := [116, 109, 112, 46]
/-- Is it a temporary name? -/
def isTmp (n : Nm) : Bool := Lib.hasPrefix n tmpL

theorem own_any (n : Nm) (w : World) : Calls Tryz.prog 69 #[.string ⟨#[116, 109, 112, 46]⟩, .string ⟨n.toArray⟩] w fun e w' => ∃ t, e = .returned (.tuple #[.string t, .bool (isTmp n)]) ∧ (isTmp n = true → t = ⟨n.toArray⟩) ∧ w' = w := by
  have HP := hid (Any.strings_HasPrefix Sim.Tryz.hasP ⟨n.toArray⟩ ⟨#[116, 109, 112, 46]⟩ w)
  have e : Lib.hasPrefix (⟨n.toArray⟩ : ByteArray).data.toList (⟨#[116, 109, 112, 46]⟩ : ByteArray).data.toList = isTmp n := rfl
  rw [e] at HP
  clear e
  cases hb : isTmp n with
  | true =>
    rw [hb] at HP
    clear hb
    go_enter Tryz.func69, Tryz.ntmps69
    go_wp2_with (go_at_call 111; refine HP.out.mono ?_; rintro e w1 ⟨rfl, h⟩; subst w1)
    go_ret2
    exact ⟨_, rfl, fun _ => rfl, rfl⟩
  | false =>
    rw [hb] at HP
    clear hb
    go_enter Tryz.func69, Tryz.ntmps69
    go_wp2_with (go_at_call 111; refine HP.out.mono ?_; rintro e w1 ⟨rfl, h⟩; subst w1)
    go_ret2
    exact ⟨_, rfl, fun h => (by cases h), rfl⟩

theorem infoS : (Tryz.prog.info? 9).map (fun i => (i.zero, i.size, i.bytes)) = some (some (.string ⟨#[]⟩), 1, 16) := by kernel_rfl
theorem run_onestr (s : ByteArray) (w : World) : (Instr.buildSlice 70 1 #[(0, .string s)]).run Tryz.prog w = .ok (.slice (some ⟨w.heap.size, 0, none⟩) 1 1) (w.alloc (.cells #[.string s] 9)) := by kernel_rfl
theorem OwnN.cell {w : World} {g n cap : Nat} {ns : List Nm} (h : OwnN w (.slice (some ⟨g, 0, none⟩) n cap) ns) (hn : n = ns.length) (k : Nat) {x : Nm} (hk : ns[k]? = some x) : w.cell? ⟨g, k, none⟩ = some (.string ⟨x.toArray⟩) := by
  subst hn
  have hl := (List.getElem?_eq_some_iff.1 hk).1
  have h' : Row w 9 1 (.slice (some ⟨g, 0, none⟩) ns.length cap) ns.length (ns.map encStr) := h
  rw [h'.cellAt k (by omega), List.getElem?_map, hk]
  rfl
theorem OwnN.form {w : World} {v : Value} {ns : List Nm} (h : OwnN w v ns) : ∃ a c, v = .slice a ns.length c ∧ (ns ≠ [] → ∃ g, a = some ⟨g, 0, none⟩) := by
  have h' : Row w 9 1 v ns.length (ns.map encStr) := h
  obtain ⟨a, c, h1, _, _, h2, h3⟩ := h'.shape
  refine ⟨a, c, h1, fun hne => ?_⟩
  cases a with
  | none => exact absurd (List.length_eq_zero_iff.1 (h2 rfl).1) hne
  | some q =>
    obtain ⟨gq, oq, sq⟩ := q
    obtain ⟨h4, h5⟩ := h3 _ rfl
    simp only at h4 h5
    subst h4 h5
    exact ⟨gq, rfl⟩

set_option maxHeartbeats 2000000 in
set_option maxRecDepth 100000 in
theorem pickS_any {P : Nat → Prop} {N : Nat} (w : World) (s : Nat) (p : PS) (h : Sim.Sys P N w s p) :
    Calls Tryz.prog 68 #[.pointer (some ⟨s, 0, none⟩), .func (.func 69) #[.string ⟨#[116, 109, 112, 46]⟩] #[]] w fun e w' => ∃ u, e = .returned u ∧ OwnN w' u ((pList p).filter isTmp) ∧ (∀ x, u.ownBlock = some x → w.heap.size ≤ x) ∧ Kp No w w' := by
  have HL := hid (Sim.list_any w s p h)
  have hlen : (pList p).length ≤ 1000 := by
    have h1 := h.inv.lseen
    have h2 := h.inv.big
    unfold pList
    split
    · simp
    · rw [List.length_map]; omega
  obtain ⟨L, hL⟩ : ∃ L, pList p = L := ⟨_, rfl⟩
  rw [hL] at HL hlen ⊢
  clear hL h
  go_enter Tryz.func68, Tryz.ntmps68
  go_wp2_with fail
  refine HL.out.mono ?_
  rintro e w1 ⟨u, rfl, hu, hub, hk⟩
  obtain ⟨ua, uc, rfl, hform⟩ := OwnN.form hu
  have HU := hid (And.intro hu (And.intro hub (And.intro hk hform)))
  have HK1 := hid hk
  clear hu hub hk hform
  go_wp2_with fail
  go_loopw [5, 13] (fun v i wr => ∃ (k : Nat) (a : Option Addr) (m c : Nat), k ≤ L.length ∧ i = .int .i64 (k : Int) ∧ v = .slice a m c ∧ m ≤ k ∧ Hid (m = ((L.take k).filter isTmp).length ∧ OwnN wr (.slice a m c) ((L.take k).filter isTmp) ∧ (∀ x, (Value.slice a m c).ownBlock = some x → w1.heap.size ≤ x) ∧ Kp No w1 wr)) (fun _ i _ => L.length - (intOf i).toNat)
  case atStart => exact ⟨0, none, 0, 0, Nat.zero_le _, rfl, rfl, Nat.le_refl _, by simp, Row.nil _ _ _, (by intro x hx; cases hx), Kp.refl _ _⟩
  case round =>
    obtain ⟨k, a, m, c, hk, rfl, rfl, hmk, HS⟩ := hrel
    by_cases hlt : k < L.length
    · have hltI : (k : Int) < (L.length : Int) := by omega
      obtain ⟨n, hn⟩ : ∃ n, L[k]? = some n := ⟨_, List.getElem?_eq_getElem hlt⟩
      obtain ⟨hu, hub, hk1, hform⟩ := HU.out
      obtain ⟨gu, rfl⟩ := hform (by intro e; rw [e] at hlt; simp at hlt)
      obtain ⟨hm, hrow, hblk, hkr⟩ := HS.out
      have cu : wr.cell? ⟨gu, k, none⟩ = some (.string ⟨n.toArray⟩) := OwnN.cell (Row.kept hu hkr) rfl k hn
      have HOWN := hid (own_any n wr)
      have HN := hid hn
      have HX := hid (And.intro hm (And.intro hrow (And.intro hblk hkr)))
      clear hu hub hk1 hform hm hrow hblk hkr hn HS
      cases hb : isTmp n with
      | false =>
        rw [hb] at HOWN
        go_wp2_with fail
        refine HOWN.out.mono ?_
        rintro e w2 ⟨t, rfl, ht, hw2⟩
        rw [hw2]
        clear hw2 w2 ht HOWN
        have HF : Hid (m = ((L.take (k + 1)).filter isTmp).length ∧ OwnN wr (.slice a m c) ((L.take (k + 1)).filter isTmp) ∧ (∀ x, (Value.slice a m c).ownBlock = some x → w1.heap.size ≤ x) ∧ Kp No w1 wr) := by
          have e : (L.take (k + 1)).filter isTmp = (L.take k).filter isTmp := by rw [List.take_add_one, HN.out, List.filter_append]; simp [hb]
          rw [Hid, e]
          exact HX.out
        clear hb
        go_wp2_with fail
        go_round
        case rel => exact ⟨k + 1, a, m, c, by omega, by go_num, rfl, by omega, HF⟩
        case measure => simp [intOf]; omega
      | true =>
        rw [hb] at HOWN
        go_wp2_with fail
        refine HOWN.out.mono ?_
        rintro e w2 ⟨t, rfl, ht, hw2⟩
        rw [hw2, ht (by first | rfl | trivial)]
        clear hw2 w2 ht HOWN
        have hal : Kp No wr (wr.alloc (.cells #[.string ⟨n.toArray⟩] 9)) := (Kp.refl _ _).alloc _
        have HR5 : Hid (Row (wr.alloc (.cells #[.string ⟨n.toArray⟩] 9)) 9 1 (.slice a m c) m (((L.take k).filter isTmp).map encStr)) := by
          have h : Row wr 9 1 (.slice a m c) ((L.take k).filter isTmp).length (((L.take k).filter isTmp).map encStr) := HX.out.2.1
          rw [← HX.out.1] at h
          exact h.kept hal
        have HSRC : Hid (Sim.Src (wr.alloc (.cells #[.string ⟨n.toArray⟩] 9)) (.slice (some ⟨wr.heap.size, 0, none⟩) 1 1) 1 1 [.string ⟨n.toArray⟩]) := Sim.Src.one wr [.string ⟨n.toArray⟩] 1 9 rfl (by intro u hu; rw [List.mem_singleton.1 hu]; rfl)
        have HN1 := hid (fun V => run_onestr ⟨n.toArray⟩ V)
        have HAL := hid hal
        have HB := hid hb
        clear hal hb
        go_wp2_with (first
          | (refine wpList_val (by rfl) (exec_slice1 70 _ (by rfl) (.string ⟨n.toArray⟩) _ (by rfl) (HN1.out _)) ?_)
          | (refine Sim.app_row _ (by rfl) _ _ 70 9 (.string ⟨#[]⟩) 1 16 (by rfl) Tryz.underlying70 infoS rfl (by omega) (.slice a m c) (.slice (some ⟨wr.heap.size, 0, none⟩) 1 1) m 1 (((L.take k).filter isTmp).map encStr) [.string ⟨n.toArray⟩] (by rfl) (by rfl) HR5.out HSRC.out (by omega) (by omega) ?_; intro ad2 cap2 w6 hrow6 hgr6 hown6))
        have HF : Hid (m + 1 = ((L.take (k + 1)).filter isTmp).length ∧ OwnN w6 (.slice ad2 (m + 1) cap2) ((L.take (k + 1)).filter isTmp) ∧ (∀ x, (Value.slice ad2 (m + 1) cap2).ownBlock = some x → w1.heap.size ≤ x) ∧ Kp No w1 w6) := by
          obtain ⟨hm, hrow, hblk, hkr⟩ := HX.out
          have e : (L.take (k + 1)).filter isTmp = (L.take k).filter isTmp ++ [n] := by rw [List.take_add_one, HN.out, List.filter_append]; simp [HB.out]
          have hs := hkr.size
          rw [Hid, e, List.length_append, ← hm]
          refine ⟨rfl, ?_, fun x hx => ?_, ?_⟩
          · unfold OwnN
            rw [List.length_append, ← hm, List.map_append]
            exact hrow6
          · rcases hown6 with h | h
            · exact hblk x (by rw [← h]; exact hx)
            · rw [h] at hx
              have := Option.some.inj hx
              simp at this
              omega
          · exact (hkr.andNone HAL.out).grown hgr6 (fun x hx => .inr (hblk x hx))
        clear hrow6 hgr6 hown6 HX
        go_wp2_with fail
        go_round
        case rel => exact ⟨k + 1, _, m + 1, _, by omega, by go_num, rfl, by omega, HF⟩
        case measure => simp [intOf]; omega
    · have hltI : ¬ (k : Int) < (L.length : Int) := by omega
      have hkn : k = L.length := by omega
      subst hkn
      go_wp2_with fail
      go_ret
      obtain ⟨hm, hrow, hblk, hkr⟩ := HS.out
      rw [List.take_length] at hrow
      exact ⟨_, rfl, hrow, fun x hx => Nat.le_trans HK1.out.size (hblk x hx), HK1.out.andNone hkr⟩

theorem temps_any {P : Nat → Prop} {N : Nat} (w : World) (s : Nat) (p : PS) (h : Sim.Sys P N w s p) :
    Calls Tryz.prog 27 #[.pointer (some ⟨s, 0, none⟩)] w fun e w' => ∃ u, e = .returned u ∧ OwnN w' u ((pList p).filter isTmp) ∧ (∀ x, u.ownBlock = some x → w.heap.size ≤ x) ∧ Kp No w w' := by
  have HP := hid (pickS_any w s p h)
  clear h
  go_enter Tryz.func27, Tryz.ntmps27
  go_wp2_with (go_at_call 68; refine HP.out.mono ?_; rintro e w1 ⟨u, rfl, h1, h2, h3⟩; have H1 := hid (And.intro h1 (And.intro h2 h3)); clear h1 h2 h3)
  go_ret
  exact ⟨u, rfl, H1.out⟩

/-- What Clean does, name by name: how many are gone, the fault, the files. -/
def cleanF : List Nm → Nat → PS → Nat × Nat × PS
  | [], k, p => if k = 0 then (0, 0, p) else (k, (pSyncDir p).1, (pSyncDir p).2)
  | n :: r, k, p => if (pRemove n p).1 ≠ 0 then (k, (pRemove n p).1, (pRemove n p).2) else cleanF r (k + 1) (pRemove n p).2

set_option maxHeartbeats 2000000 in
set_option maxRecDepth 100000 in
theorem clean_any {P : Nat → Prop} {N : Nat} (w : World) (s : Nat) (p : PS) (h : Sim.Sys P N w s p) (hN : N + (pList p).length + 1 ≤ 1000) (hnl : ∀ n ∈ pList p, n.length ≤ 20000000) :
    Calls Tryz.prog 47 #[.pointer (some ⟨s, 0, none⟩)] w fun e w' => e = .returned (.tuple #[.int .i64 ((cleanF ((pList p).filter isTmp) 0 p).1 : Nat), .int .i64 ((cleanF ((pList p).filter isTmp) 0 p).2.1 : Nat)]) ∧ Done P (N + (pList p).length + 1) w w' s (cleanF ((pList p).filter isTmp) 0 p).2.2 := by
  have HT := hid (temps_any w s p h)
  obtain ⟨L, hL⟩ : ∃ L, (pList p).filter isTmp = L := ⟨_, rfl⟩
  have hLl : L.length ≤ (pList p).length := by rw [← hL]; exact List.length_filter_le _ _
  have hLn : ∀ n ∈ L, n.length ≤ 20000000 := fun n hn => hnl n (by rw [← hL] at hn; exact (List.mem_filter.1 hn).1)
  obtain ⟨M, hM⟩ : ∃ M, (pList p).length = M := ⟨_, rfl⟩
  rw [hL] at HT ⊢
  rw [hM] at hLl hN ⊢
  have HS := hid h
  have HLN := hid hLn
  clear hL hM h hnl hLn
  obtain ⟨R, hR⟩ : ∃ R, cleanF L 0 p = R := ⟨_, rfl⟩
  have HR := hid hR
  rw [hR]
  clear hR
  go_enter Tryz.func47, Tryz.ntmps47
  go_wp2_with fail
  refine HT.out.mono ?_
  rintro e w1 ⟨u, rfl, hu, hub, hk⟩
  obtain ⟨ua, uc, rfl, hform⟩ := OwnN.form hu
  have hlt := HS.out.lt
  have HU := hid (And.intro hu (And.intro hub hform))
  have HST : Hid (∃ P', Sim.Sys P' (N + 0) w1 s p ∧ Kp P w w1 ∧ (∀ x, P' x → P x ∨ w.heap.size ≤ x) ∧ OwnN w1 (.slice ua L.length uc) L ∧ ∀ x, (Value.slice ua L.length uc).ownBlock = some x → ¬ P' x ∧ w.heap.size ≤ x) :=
    ⟨P, HS.out.kept hk, hk.ofNo, fun x hx => .inl hx, hu, fun x hx => ⟨fun hp => by have := hlt x hp; have := hub x hx; omega, hub x hx⟩⟩
  clear hu hub hk hform hlt HT
  go_wp2_with fail
  go_loopw [4, 13] (fun v i wr => ∃ (k : Nat), k ≤ L.length ∧ i = .int .i64 (k : Int) ∧ v = .int .i64 (k : Int) ∧ Hid (∃ q P', R = cleanF (L.drop k) k q ∧ Sim.Sys P' (N + k) wr s q ∧ Kp P w wr ∧ (∀ x, P' x → P x ∨ w.heap.size ≤ x) ∧ OwnN wr (.slice ua L.length uc) L ∧ ∀ x, (Value.slice ua L.length uc).ownBlock = some x → ¬ P' x ∧ w.heap.size ≤ x)) (fun _ i _ => L.length - (intOf i).toNat)
  case atStart =>
    obtain ⟨P', h1, h2⟩ := HST.out
    exact ⟨0, Nat.zero_le _, rfl, rfl, p, P', HR.out.symm, h1, h2⟩
  case round =>
    obtain ⟨k, hk, rfl, rfl, HQ⟩ := hrel
    by_cases hlt : k < L.length
    · have hltI : (k : Int) < (L.length : Int) := by omega
      obtain ⟨n, hn⟩ : ∃ n, L[k]? = some n := ⟨_, List.getElem?_eq_getElem hlt⟩
      obtain ⟨gu, rfl⟩ := HU.out.2.2 (by intro e; rw [e] at hlt; simp at hlt)
      obtain ⟨q, P', hRq, hSq, hKq, hPq, hOq, hAq⟩ := HQ.out
      have cu : wr.cell? ⟨gu, k, none⟩ = some (.string ⟨n.toArray⟩) := OwnN.cell hOq rfl k hn
      have hdr : L.drop k = n :: L.drop (k + 1) := by
        rw [List.drop_eq_getElem_cons hlt]
        have := (List.getElem?_eq_some_iff.1 hn).2
        rw [this]
      rw [hdr, cleanF] at hRq
      have hsz : (⟨n.toArray⟩ : ByteArray).size ≤ 20000000 := by
        have := HLN.out n (List.mem_of_getElem? hn)
        have e : (⟨n.toArray⟩ : ByteArray).size = n.length := by rw [Lib.size_eq]
        omega
      have HRM := hid (Sim.remove_any wr s q ⟨n.toArray⟩ hsz hSq (by omega))
      have hnm : nm ⟨n.toArray⟩ = n := rfl
      rw [hnm] at HRM
      obtain ⟨A, hA⟩ : ∃ A, pRemove n q = A := ⟨_, rfl⟩
      rw [hA] at HRM hRq
      have HX := hid (And.intro hRq (And.intro hSq (And.intro hKq (And.intro hPq (And.intro hOq hAq)))))
      clear hRq hSq hKq hPq hOq hAq hA hsz hnm hdr hn HQ
      go_wp2_with fail
      refine HRM.out.mono ?_
      rintro e w2 ⟨rfl, P2, hS2, hK2, hP2⟩
      obtain ⟨hRq, hSq, hKq, hPq, hOq, hAq⟩ := HX.out
      have hKw : Kp P w w2 := hKq.trans hK2 (fun x hx => by
        rcases hPq x hx with e | e
        · exact .inl e
        · exact .inr e)
      have hPw : ∀ x, P2 x → P x ∨ w.heap.size ≤ x := fun x hx => by
        rcases hP2 x hx with e | e
        · exact hPq x e
        · right; have := hKq.size; omega
      have HX2 := hid (And.intro hS2 (And.intro hKw (And.intro hPw (And.intro (Row.kp hOq hK2 (fun x hx => (hAq x hx).1)) (fun x hx => (show ¬ P2 x ∧ w.heap.size ≤ x from ⟨fun hp => by
        rcases hP2 x hp with e | e
        · exact (hAq x hx).1 e
        · have := Row.lt hOq x hx; omega, (hAq x hx).2⟩))))))
      have HRQ := hid hRq
      clear hRq hSq hKq hPq hOq hAq hS2 hK2 hP2 hKw hPw HX HRM
      by_cases hA0 : A.1 = 0
      · have HA0 := hid hA0
        rw [hA0]
        have hwk : IntKind.i64.wrap ((k : Int) + 1) = ((k + 1 : Nat) : Int) := by rw [IntKind.wrap_i64]; omega
        clear hA0
        go_wp2_with fail
        go_round
        case rel =>
          obtain ⟨h1, h2, h3, h4, h5⟩ := HX2.out
          refine ⟨k + 1, by omega, by go_num, by go_num, A.2, P2, ?_, h1, h2, h3, h4, h5⟩
          rw [HRQ.out, if_neg (by rw [HA0.out]; simp)]
        case measure => simp [intOf]; omega
      · have hA1 : ¬ ((A.1 : Int) = 0) := by omega
        obtain ⟨f, hf⟩ : ∃ f, A.1 = f := ⟨_, rfl⟩
        have HF := hid hf
        rw [hf] at hA0 hA1 ⊢
        clear hf
        go_wp2_with fail
        go_ret2
        obtain ⟨h1, h2, h3, _, _⟩ := HX2.out
        have e : R = (k, A.1, A.2) := by rw [HRQ.out, if_pos (by rw [HF.out]; exact hA0)]
        rw [e]
        exact ⟨by rw [HF.out]; rfl, P2, h1.more (by omega) (by omega), h2, h3⟩
    · have hltI : ¬ (k : Int) < (L.length : Int) := by omega
      have hkn : k = L.length := by omega
      subst hkn
      obtain ⟨q, P', hRq, hSq, hKq, hPq, hOq, hAq⟩ := HQ.out
      rw [List.drop_length, cleanF] at hRq
      by_cases h0 : L.length = 0
      · rw [if_pos h0] at hRq
        have HX := hid (And.intro hRq (And.intro hSq (And.intro hKq hPq)))
        have h0I : ((L.length : Int) = 0) := by omega
        clear hRq hSq hKq hPq hOq hAq
        go_wp2_with fail
        go_ret2
        obtain ⟨e, h1, h2, h3⟩ := HX.out
        rw [e]
        exact ⟨rfl, P', h1.more (by omega) (by omega), h2, h3⟩
      · rw [if_neg h0] at hRq
        have h0I : ¬ ((L.length : Int) = 0) := by omega
        have HSY := hid (Sim.syncdir_any wr s q hSq (by omega))
        obtain ⟨A, hA⟩ : ∃ A, pSyncDir q = A := ⟨_, rfl⟩
        rw [hA] at HSY hRq
        have HX := hid (And.intro hRq (And.intro hKq hPq))
        clear hRq hSq hKq hPq hOq hAq hA
        go_wp2_with fail
        refine HSY.out.mono ?_
        rintro e w2 ⟨rfl, P2, hS2, hK2, hP2⟩
        have HD := hid (And.intro hS2 (And.intro hK2 hP2))
        clear hS2 hK2 hP2 HSY
        go_wp2_with fail
        go_ret2
        obtain ⟨e, h2, h3⟩ := HX.out
        obtain ⟨d1, d2, d3⟩ := HD.out
        rw [e]
        refine ⟨rfl, P2, d1.more (by omega) (by omega), h2.trans d2 (fun x hx => h3 x hx), fun x hx => ?_⟩
        rcases d3 x hx with e | e
        · exact h3 x e
        · right; have := h2.size; omega
end Go.Proofs.YthmimipoooemjaaGreatDoor
end

section
/-
  The shelf: what is said of what is not there.
-/
namespace Go.Proofs.YthmimipoooemjaaGreatDoor.Sh
open Go.RowKit
open Sim (hid Kp No)
end Go.Proofs.YthmimipoooemjaaGreatDoor.Sh
end

section
/-
  The shelf: Open, and what an empty one tells.
-/
namespace Go.Proofs.YthmimipoooemjaaGreatDoor.Sh
open Go.RowKit Go.Shelf
open Sim (hid Kp No PS Done Blk nm pList OwnN)

def shC (s b : Nat) (n : Int) : List Value := [.pointer (some ⟨s, 0, none⟩), .pointer (some ⟨b, 0, none⟩), .int .i64 n]
/-- A shelf at h, of the files at s, with the table at b; the greatest id that was begun is n. -/
def ShAt (w : World) (h s b : Nat) (n : Int) : Prop := Blk w h 112 (shC s b n)

theorem none_any (w : World) (h s b : Nat) (n : Int) (hH : ShAt w h s b n) : Calls Tryz.prog 48 #[.pointer (some ⟨h, 0, none⟩)] w fun e w' => e = .returned (.bool false) ∧ w' = w := by
  have c0 : w.cell? ⟨h, 0, none⟩ = some (.pointer (some ⟨s, 0, none⟩)) := hH.cell 0
  go_enter Tryz.func48, Tryz.ntmps48
  go_wp2_with fail
  go_ret
  exact ⟨rfl, rfl⟩

/-- What Open answers, and leaves: a fault, or a shelf at a new block. -/
def OpenP (P : Nat → Prop) (N : Nat) (w : World) (s b : Nat) (f : Nat) (q : PS) (e : Ending) (w' : World) : Prop :=
  (f ≠ 0 ∧ e = .returned (.tuple #[.pointer none, .int .i64 (f : Nat)]) ∧ Done P N w w' s q) ∨
  (f = 0 ∧ ∃ g P', e = .returned (.tuple #[.pointer (some ⟨g, 0, none⟩), .int .i64 0]) ∧ ShAt w' g s b 0 ∧ Sim.Sys P' N w' s q ∧ Kp P w w' ∧ (∀ x, P' x → P x ∨ w.heap.size ≤ x) ∧ ¬ P' g ∧ w.heap.size ≤ g)

theorem open_any {P : Nat → Prop} {N : Nat} (w : World) (s b : Nat) (p : PS) (h : Sim.Sys P N w s p) (hN : N + (pList p).length + 1 ≤ 1000) (hnl : ∀ n ∈ pList p, n.length ≤ 20000000) :
    Calls Tryz.prog 11 #[.pointer (some ⟨s, 0, none⟩), .pointer (some ⟨b, 0, none⟩)] w fun e w' => OpenP P (N + (pList p).length + 1) w s b (cleanF ((pList p).filter isTmp) 0 p).2.1 (cleanF ((pList p).filter isTmp) 0 p).2.2 e w' := by
  have HC := hid (clean_any w s p h hN hnl)
  obtain ⟨R, hR⟩ : ∃ R, cleanF ((pList p).filter isTmp) 0 p = R := ⟨_, rfl⟩
  rw [hR] at HC ⊢
  generalize N + (pList p).length + 1 = M at *
  clear hR h hN hnl
  go_enter Tryz.func11, Tryz.ntmps11
  go_wp2_with fail
  refine HC.out.mono ?_
  rintro e w1 ⟨rfl, hD⟩
  have HD := hid hD
  clear hD HC
  by_cases hz : R.2.1 = 0
  · have HZ := hid hz
    rw [hz]
    clear hz
    go_wp2_with fail
    obtain ⟨P', h1, h2, h3⟩ := HD.out
    refine bodyPost_ret (v := .tuple #[.pointer (some ⟨w1.heap.size, 0, none⟩), .int .i64 0]) (by simp [results, Tryz.results11, go_sem]) rfl ?_
    have hal : Kp No w1 (w1.alloc (.cells (shC s b 0).toArray 112)) := (Kp.refl _ _).alloc _
    exact .inr ⟨HZ.out, w1.heap.size, P', rfl, Blk.new w1 _ _, h1.kept hal, h2.andNone hal, h3, fun e => by have := h1.lt _ e; omega, h2.size⟩
  · have HZ := hid hz
    obtain ⟨F, hF⟩ : ∃ F, R.2.1 = F := ⟨_, rfl⟩
    have HF := hid hF
    rw [hF] at hz ⊢
    have hz' : ¬ ((F : Int) = 0) := by omega
    clear hF
    go_wp2_with fail
    refine bodyPost_ret (v := .tuple #[.pointer none, .int .i64 (F : Nat)]) (by simp [results, Tryz.results11, go_sem]) rfl ?_
    exact .inl ⟨HZ.out, by rw [HF.out], HD.out⟩

/-- No pack is seen where nothing is. -/
theorem pids_none {P : Nat → Prop} {N : Nat} (w : World) (s : Nat) (p : PS) (h : Sim.Sys P N w s p) (he : pList p = []) :
    Calls Tryz.prog 57 #[.pointer (some ⟨s, 0, none⟩)] w fun e w' => e = .returned (.slice none 0 0) ∧ Kp No w w' := by
  have HP : Hid (∀ f : Value, Calls Tryz.prog 96 #[.pointer (some ⟨s, 0, none⟩), f] w fun e w' => e = .returned (.slice none 0 0) ∧ Kp No w w') := fun f => by
    have HL := hid (Sim.list_any w s p h)
    rw [he] at HL
    clear h he
    go_enter Tryz.func96, Tryz.ntmps96
    go_wp2_with fail
    refine HL.out.mono ?_
    rintro e w1 ⟨u, rfl, hu, _, hk⟩
    obtain ⟨ua, uc, rfl, _⟩ := OwnN.form hu
    have HK := hid hk
    clear hu hk
    have e0 : ([] : List Sim.Nm).length = 0 := rfl
    rw [e0]
    go_wp2_with fail
    go_loop [5, 13] (fun l i => l = .slice none 0 0 ∧ i = .int .i64 0) (fun _ _ => 0)
    case atStart => exact ⟨rfl, rfl⟩
    case round =>
      obtain ⟨rfl, rfl⟩ := hrel
      go_wp2
      go_ret
      exact ⟨rfl, HK.out⟩
  have hs : Hid (∀ V, Calls Tryz.prog 98 #[.slice none 0 0] V fun e w' => e = .returned (.tuple #[]) ∧ w' = V) := fun V => Any.slices_Sort_int_none Sim.Tryz.sortI none 0 V
  clear h he
  go_enter Tryz.func57, Tryz.ntmps57
  go_wp2_with (first
    | (go_at_call 96; refine (HP.out _).mono ?_; rintro e w1 ⟨rfl, h⟩; have HK := hid h; clear h)
    | (go_at_call 98; refine (hs.out _).mono ?_; rintro e w2 ⟨rfl, h⟩; subst w2))
  go_ret
  exact ⟨rfl, HK.out⟩

theorem ids_none {P : Nat → Prop} {N : Nat} (w : World) (h s b : Nat) (n : Int) (p : PS) (hH : ShAt w h s b n) (hS : Sim.Sys P N w s p) (he : pList p = []) :
    Calls Tryz.prog 19 #[.pointer (some ⟨h, 0, none⟩)] w fun e w' => e = .returned (.slice none 0 0) ∧ Kp No w w' := by
  have c0 : w.cell? ⟨h, 0, none⟩ = some (.pointer (some ⟨s, 0, none⟩)) := hH.cell 0
  have HN := hid (none_any w h s b n hH)
  have HI := hid (pids_none w s p hS he)
  clear hH hS he
  go_enter Tryz.func19, Tryz.ntmps19
  go_wp2_with fail
  refine HN.out.mono ?_
  rintro e w1 ⟨rfl, rfl⟩
  go_wp2_with fail
  refine HI.out.mono ?_
  rintro e w2 ⟨rfl, hk⟩
  have HK := hid hk
  clear hk
  go_wp2_with fail
  go_ret
  exact ⟨rfl, HK.out⟩

end Go.Proofs.YthmimipoooemjaaGreatDoor.Sh
end

section
/-
  A walk through no pack.
-/
namespace Go.Proofs.YthmimipoooemjaaGreatDoor.Sh
open Go.RowKit Go.Shelf
open Crc (Kept)
open Sim (hid Kp No PS Done Blk nm pList OwnN)
attribute [local go_sem] Oper.semAt_some

theorem records_any (w : World) (a : Option Addr) (n c : Nat) (fn : Fn) (first caps : Array Value) :
    Calls Tryz.prog 56 #[.slice a n c, .func fn first caps] w fun e w' => e = .returned (.func (.func 95) #[] #[.pointer (some ⟨w.heap.size, 0, none⟩), .pointer (some ⟨w.heap.size + 1, 0, none⟩)]) ∧
      w' = (w.alloc (.cells #[.slice a n c] 23)).alloc (.cells #[.func fn first caps] 49) := by
  have hmf : ∀ (fn : Fn) (first cap : Array Value) (w : World), (Instr.makeFunc fn first cap).run Tryz.prog w = .ok (.func fn first cap) w := fun _ _ _ _ => rfl
  go_enter Tryz.func56, Tryz.ntmps56
  go_wp2
  go_ret
  exact ⟨rfl, rfl⟩

set_option maxHeartbeats 1000000 in
set_option maxRecDepth 100000 in
theorem tells0 (n p q b : Nat) (V : Nat → Nat → Array Value → World → Prop) :
    Tells n 95 #[.pointer (some ⟨p, 0, none⟩), .pointer (some ⟨q, 0, none⟩)] b (fun W => W.cell? ⟨p, 0, none⟩ = some (.slice none 0 0)) V 0 := by
  intro l J Jx W hT hJ hY h0
  have H0 := hid h0
  have HT := hid hT
  clear hJ hY h0
  refine callsIn_of_wp Tryz.func95 rfl trivial ?_ rfl
  simp only [Tryz.ntmps95, List.size_toArray, List.length_cons, List.length_nil, Nat.reduceAdd, Nat.reduceSub, Array.replicate_succ, Array.replicate_zero, List.push_toArray, List.append_toArray, List.nil_append, List.cons_append]
  gi_wp2_with fail
  gi_loopw [12] (fun i wr => i = .int .i64 0 ∧ wr = W) (fun _ _ => 0)
  case atStart => exact ⟨rfl, rfl⟩
  case round =>
    obtain ⟨rfl, rfl⟩ := hrel
    gi_wp2
    go_end0
    exact ⟨⟨_, rfl⟩, .inl ⟨_, H0.out, HT.out⟩⟩

set_option maxHeartbeats 2000000 in
set_option maxRecDepth 100000 in
theorem walk0 (w : World) (h : Option Addr) (m : Int) (hm : 1 ≤ m) (hI : ∀ V, Kp No w V → Calls Tryz.prog 19 #[.pointer h] V fun e w' => e = .returned (.slice none 0 0) ∧ Kp No V w') :
    Calls Tryz.prog 18 #[.pointer h, .int .i64 m] w fun e w' => e = .returned (.tuple #[.slice none 0 0, .slice none 0 0]) ∧ Kp No w w' := by
  have hm1 : ¬ (m < 1) := by omega
  have HI := hid hI
  have hmf : ∀ (fn : Fn) (first cap : Array Value) (w : World), (Instr.makeFunc fn first cap).run Tryz.prog w = .ok (.func fn first cap) w := fun _ _ _ _ => rfl
  clear hI hm
  refine (callsIn_wide (n := 3)).1 ?_
  refine callsIn_of_wp_marks Tryz.func18 rfl trivial ?_ rfl
  simp only [Tryz.ntmps18, List.size_toArray, List.length_cons, List.length_nil, Nat.reduceAdd, Nat.reduceSub, Array.replicate_succ, Array.replicate_zero, List.push_toArray, List.append_toArray, List.nil_append, List.cons_append]
  gi_wp2_with fail
  obtain ⟨W1, hW1⟩ : ∃ W1, ((w.alloc (.cells #[.int .i64 m] 3)).alloc (.cells #[.slice none 0 0] 43)).alloc (.cells #[.slice none 0 0] 23) = W1 := ⟨_, rfl⟩
  have k1 : Kp No w W1 := by rw [← hW1]; exact (((Kp.refl _ w).alloc _).alloc _).alloc _
  have hsz1 : W1.heap.size = w.heap.size + 3 := by rw [← hW1]; simp
  have b1 : Boxed W1 (w.heap.size + 1) 43 (.slice none 0 0) := by
    rw [← hW1]
    have h := (Boxed.new (w.alloc (.cells #[.int .i64 m] 3)) 43 (.slice none 0 0)).alloc (.cells #[.slice none 0 0] 23)
    simpa only [World.size_alloc] using h
  have b2 : Boxed W1 (w.heap.size + 2) 23 (.slice none 0 0) := by
    rw [← hW1]
    have h := Boxed.new ((w.alloc (.cells #[.int .i64 m] 3)).alloc (.cells #[.slice none 0 0] 43)) 23 (.slice none 0 0)
    simpa only [World.size_alloc] using h
  rw [hW1]
  refine ⟨trivial, (callsIn_wide.2 (HI.out W1 k1)).mono ?_⟩
  clear hW1 HI
  rintro e W2 ⟨rfl, k2⟩
  have b1' : Boxed W2 (w.heap.size + 1) 43 (.slice none 0 0) := (k2.block _ (by omega) (fun h => h)).trans b1
  have b2' : Boxed W2 (w.heap.size + 2) 23 (.slice none 0 0) := (k2.block _ (by omega) (fun h => h)).trans b2
  have hsz2 : w.heap.size + 3 ≤ W2.heap.size := by have := k2.size; omega
  have k12 : Kp No w W2 := k1.andNone k2
  clear b1 b2 k1 k2 hsz1
  gi_wp2_with fail
  refine ⟨trivial, (callsIn_wide.2 (records_any W2 _ _ _ _ _ _)).mono ?_⟩
  rintro e W3 ⟨rfl, hW3⟩
  have hsz3 : W3.heap.size = W2.heap.size + 2 := by rw [hW3]; simp
  have b3 : Boxed W3 W2.heap.size 23 (.slice none 0 0) := by rw [hW3]; exact (Boxed.new W2 23 (.slice none 0 0)).alloc _
  have k3 : Kp No W2 W3 := by rw [hW3]; exact ((Kp.refl _ _).alloc _).alloc _
  have b1'' : Boxed W3 (w.heap.size + 1) 43 (.slice none 0 0) := (k3.block _ (by omega) (fun h => h)).trans b1'
  have b2'' : Boxed W3 (w.heap.size + 2) 23 (.slice none 0 0) := (k3.block _ (by omega) (fun h => h)).trans b2'
  have k13 : Kp No w W3 := k12.andNone k3
  clear b1' b2' k12 k3 hW3
  gi_wp2_with fail
  refine over_func (gf := 95) (lb := #[.pointer (some ⟨W2.heap.size, 0, none⟩), .pointer (some ⟨W2.heap.size + 1, 0, none⟩)]) rfl (enters_of Tryz.func95 (by kernel_rfl) rfl)
    (tells0 2 W2.heap.size (W2.heap.size + 1) w.heap.size (fun _ _ _ _ => False)) (fun _ _ _ _ h => h.elim) (by omega) (fun U W h k => (k.cell (p := ⟨W2.heap.size, 0, none⟩) (by simp; omega)).trans h) b3.cell
    (fun _ _ W => Boxed W (w.heap.size + 1) 43 (.slice none 0 0) ∧ Boxed W (w.heap.size + 2) 23 (.slice none 0 0) ∧ Kp No w W) (fun _ _ _ => False)
    ?ik ?ii (fun _ _ _ _ h _ => h) ?i0 (fun _ W => W) (fun _ W => Below.refl _ W) (fun _ _ _ _ h => h) (fun _ _ _ _ h _ => h.elim) (fun _ _ _ => { tmps := #[], defers := [] }) (fun _ _ _ _ _ h _ => h) ?assign ?body ?done ?stop
  case ik =>
    rintro k m' U W ⟨h1, h2, h3⟩ _ hk
    exact ⟨(hk.block _ h1.lt (by omega)).trans h1, (hk.block _ h2.lt (by omega)).trans h2, h3.trans (L := No) (M := fun x => x = w.heap.size) (kp_kept hk) (fun x hx => .inr (by omega))⟩
  case ii =>
    rintro k m' U W ⟨h1, h2, h3⟩ hp
    have hb := hp.below
    exact ⟨hp.block h1, hp.block h2, ⟨by rw [hb.os, h3.os], by rw [hb.tape, h3.tape], by rw [hb.output, h3.output], Nat.le_trans h3.size hb.size, fun k hk hn => (hb.block k (by omega)).trans (h3.block k hk hn)⟩⟩
  case i0 =>
    intro W hB _
    exact ⟨(hB.block _ (by omega)).trans b1'', (hB.block _ (by omega)).trans b2'', k13.andNone (Kp.below hB)⟩
  case assign => exact fun l k m vs W K _ h _ => h.elim
  case body => exact fun l k m vs U W _ _ h _ _ _ _ _ => h.elim
  case stop => exact fun D c k W _ _ h _ => h.elim
  case done =>
    rintro D m' W hD ⟨h1, h2, h3⟩ hT hd
    have c1 := h1.cell
    have c2 := h2.cell
    change W.cell? ⟨w.heap.size + 1 + 1, 0, none⟩ = _ at c2
    gi_wp2_with fail
    refine wpIn_wide.2 ?_
    go_region
    gi_wp2_with fail
    have hd' : W.drew.heap[D]? = some (.deferred (some [])) := hd
    refine ⟨by simp, .inl ⟨_, _, rfl, run_takeDeferred hd', ?_⟩⟩
    have hpb := put_below (B := w.heap.size) W.drew (.deferred none) (l := D) (by omega) (Array.getElem?_eq_some_iff.1 hd').1
    have hk := h3.drew
    refine ⟨.tuple #[.slice none 0 0, .slice none 0 0], by simp [results, Tryz.results18, go_sem], rfl, ?_⟩
    exact ⟨by rw [hpb.os, hk.os], by rw [hpb.tape, hk.tape], by rw [hpb.output, hk.output], Nat.le_trans hk.size hpb.size, fun k hk1 hn => (hpb.block k hk1).trans (hk.block k hk1 hn)⟩

end Go.Proofs.YthmimipoooemjaaGreatDoor.Sh
end

section
/-
  Rebuild of a shelf that has no pack.
-/
namespace Go.Proofs.YthmimipoooemjaaGreatDoor.Ix
open Go.RowKit Go.Shelf
open Stb (Stab Srt)
open Sim (hid Kp No PS Done Blk nm)

theorem stab_nil {X : List Sg.Ent} (h : Stab Sg.ky [] X) : X = [] := List.length_eq_zero_iff.1 h.length

set_option maxHeartbeats 1000000 in
set_option maxRecDepth 100000 in
theorem rebuild0 (w : World) (h : Option Addr) (hI : ∀ V, Kp No w V → Calls Tryz.prog 19 #[.pointer h] V fun e w' => e = .returned (.slice none 0 0) ∧ Kp No V w') :
    Calls Tryz.prog 44 #[.pointer h] w fun e w' => ∃ v, e = .returned (.tuple #[v, .slice none 0 0]) ∧ Sg.EV (fun g => w.heap.size ≤ g) w' v [] ∧ Kp No w w' := by
  have HW := hid (Sh.walk0 w h 9223372036854775807 (by omega) hI)
  clear hI
  go_enter Tryz.func44, Tryz.ntmps44
  go_wp2_with fail
  refine HW.out.mono ?_
  rintro e w1 ⟨rfl, hk⟩
  have HK := hid hk
  clear hk HW
  have hmk : ∀ W, (Instr.makeSlice 81 (.int .i64 0) (.int .i64 0)).run Tryz.prog W = .ok (.slice (some ⟨W.heap.size, 0, none⟩) 0 0) (W.alloc (.cells #[] 155)) := by
    intro W
    obtain ⟨i0, hi, hz0, hz1, hz2⟩ := info_parts Sg.infoE
    have h := run_make (P := Tryz.prog) W 81 155 i0 _ Tryz.underlying81 hi hz0 .i64 .i64 0 0 (by omega) (by omega) (by rw [hz2]; omega) (by omega)
    rw [h, hz1]
    have e : madeCells Sg.zE.toArray (Int.toNat 0 * 35) = #[] := Array.eq_empty_of_size_eq_zero (by rw [size_madeCells]; rfl)
    first | rfl | (show Result.ok _ (W.alloc (.cells (madeCells Sg.zE.toArray (Int.toNat 0 * 35)) _)) = _; rw [e]; rfl)
  have hEV : ∀ W : World, Sg.EV No (W.alloc (.cells #[] 155)) (.slice (some ⟨W.heap.size, 0, none⟩) 0 0) [] := fun W => ⟨_, 0, rfl, Nat.le_refl _, by decide, by simp, by simp, fun h => absurd rfl h⟩
  have HEV := hid (Sg.sort_any _ _ [] No (hEV w1) (by simp))
  clear hEV
  go_wp2_with fail
  go_loop [6, 19] (fun l i => l = .slice (some ⟨w1.heap.size, 0, none⟩) 0 0 ∧ i = .int .i64 0) (fun _ _ => 0)
  case atStart => exact ⟨rfl, rfl⟩
  case round =>
    obtain ⟨rfl, rfl⟩ := hrel
    go_wp2_with fail
    refine HEV.out.mono ?_
    rintro e w2 ⟨r, X, rfl, hs, _, hk, hv⟩
    rw [stab_nil hs, show Sg.cmpct [] = [] from rfl] at hv
    obtain ⟨ra, rc, hr, _⟩ := id hv
    have hr' : r = .slice ra 0 rc := hr
    clear hr
    subst hr'
    have HF : Hid (Sg.EV (fun g => w.heap.size ≤ g) w2 (.slice ra 0 rc) [] ∧ Kp No w w2) := ⟨hv.mono (fun g hg => Nat.le_trans HK.out.size (Nat.le_trans (by simp) hg)), (HK.out.alloc _).andNone hk⟩
    clear hv hs hk
    go_wp2_with fail
    refine bodyPost_ret (v := .tuple #[.slice ra 0 rc, .slice none 0 0]) (by simp [results, Tryz.results44, go_sem]) rfl ⟨_, rfl, HF.out.1, HF.out.2⟩

end Go.Proofs.YthmimipoooemjaaGreatDoor.Ix
end

section
/-
  Put and Get of segment with no table.
-/
namespace Go.Proofs.YthmimipoooemjaaGreatDoor.Sg
open Go.RowKit
open Sim (hid Kp No)
end Go.Proofs.YthmimipoooemjaaGreatDoor.Sg
end

section
/-
  alive of the tenth law.
-/
namespace Go.Proofs.YthmimipoooemjaaGreatDoor.Sg
open Go.RowKit
open Tlv (Tr Agree)
open Crc (Kept)
open Sim (hid Kp No)

def h1 : List Int := [1, 0, 0, 0, 0, 0, 0, 0, 0, 0, 0, 0, 0, 0, 0, 0, 0, 0, 0, 0, 0, 0, 0, 0, 0, 0, 0, 0, 0, 0, 0, 0]
theorem right0 : RightP [] := ⟨by simp, fun i e hi => by simp at hi⟩
theorem seal0 : nats (sealE []) = [3, 0, 0] ++ Crc.le4 (Crc.more 0 [3, 0, 0]) := by
  rw [sealE, sealI_nats]
  rfl
end Go.Proofs.YthmimipoooemjaaGreatDoor.Sg
end

section
/-
  Plain mathematics of segment's Get: which trees are entries' values, and what bytes answer.
-/
namespace Go.Proofs.YthmimipoooemjaaGreatDoor.Sg
open Go.RowKit
open Tlv (Tr)

/-- What the fields of a value tell, whatever is in them. -/
def entOf (k : Tr 8) : Ent := match k.kd with
  | [a, b, c, e] => (pad32 a.hd.2.2, wrap64 b.hd.2.1, wrap64 c.hd.2.1, wrap64 e.hd.2.1)
  | _ => ([], 0, 0, 0)
/-- A value that is one of right entries. -/
def GoodT (t : Tr 9) : Prop := (∀ k ∈ t.kd, k.kd.length = 4) ∧ RightP (t.kd.map entOf) ∧ Tlv.sameT 9 t 3 (entsT (t.kd.map entOf)) = true

theorem kd4 {k : Tr 8} (h : k.kd.length = 4) : ∃ a b c e, k.kd = [a, b, c, e] := by
  match hq : k.kd with
  | [a, b, c, e] => exact ⟨a, b, c, e, rfl⟩
  | [] => rw [hq] at h; simp at h
  | [_] => rw [hq] at h; simp at h
  | [_, _] => rw [hq] at h; simp at h
  | [_, _, _] => rw [hq] at h; simp at h
  | _ :: _ :: _ :: _ :: _ :: _ => rw [hq] at h; simp at h

theorem leaf7 {a : Tr 7} {tag x : Int} {ys : List Int} : Tlv.sameT 7 a 1 (Tr.mk tag x ys []) = true → a.hd = (tag, x, ys) := by
  simp only [Tlv.sameT, Bool.and_eq_true, decide_eq_true_eq]
  exact fun h => h.1

theorem same_ent {k : Tr 8} {e : Ent} (he : EOk e) (hp : plB e = true) (h : Tlv.sameT 8 k 2 (entT e) = true) : k.kd.length = 4 ∧ entOf k = e := by
  have q : Tlv.sameT 8 k 2 (entT e) = (decide (k.hd = (3, 0, [])) && Tlv.sameL (fun a b => Tlv.sameT 7 a 1 b) k.kd [Tr.mk 2 0 e.1 [], Tr.mk 1 e.2.1 [] [], Tr.mk 1 e.2.2.1 [] [], Tr.mk 1 e.2.2.2 [] []]) := rfl
  rw [q] at h
  simp only [Bool.and_eq_true, decide_eq_true_eq] at h
  have hl := Tlv.sameL_len h.2
  have hl4 : k.kd.length = 4 := hl
  refine ⟨hl4, ?_⟩
  obtain ⟨a, b, c, d, hk⟩ := kd4 hl4
  rw [hk] at h
  simp only [Tlv.sameL, Bool.and_eq_true] at h
  obtain ⟨_, h1, h2, h3, h4, _⟩ := h
  have l1 := leaf7 h1
  have l2 := leaf7 h2
  have l3 := leaf7 h3
  have l4 := leaf7 h4
  have b := plB_bd hp
  obtain ⟨nm, p, q, r⟩ := e
  rw [entOf, hk]
  dsimp only at *
  rw [l1, l2, l3, l4]
  dsimp only
  rw [← (pad32_same nm).2 he.1, IntWalk.wrap64_in _ ⟨by omega, by omega⟩, IntWalk.wrap64_in _ ⟨by omega, by omega⟩, IntWalk.wrap64_in _ ⟨by omega, by omega⟩]

theorem same_ents : ∀ (ks : List (Tr 8)) (d : List Ent), (∀ e ∈ d, EOk e) → (∀ e ∈ d, plB e = true) → Tlv.sameL (fun a b => Tlv.sameT 8 a 2 b) ks (d.map entT) = true → (∀ k ∈ ks, k.kd.length = 4) ∧ ks.map entOf = d
  | [], [], _, _, _ => ⟨by simp, rfl⟩
  | [], _ :: _, _, _, h => by simp [Tlv.sameL] at h
  | _ :: _, [], _, _, h => by simp [Tlv.sameL] at h
  | k :: ks, e :: d, ho, hp, h => by
    simp only [List.map_cons, Tlv.sameL, Bool.and_eq_true] at h
    obtain ⟨h1, h2⟩ := same_ent (ho e (by simp)) (hp e (by simp)) h.1
    obtain ⟨h3, h4⟩ := same_ents ks d (fun x hx => ho x (by simp [hx])) (fun x hx => hp x (by simp [hx])) h.2
    refine ⟨fun x hx => ?_, by rw [List.map_cons, h2, h4]⟩
    rcases List.mem_cons.1 hx with rfl | hx
    · exact h1
    · exact h3 x hx

theorem good_same {t : Tr 9} {d : List Ent} (ho : ∀ e ∈ d, EOk e) (hr : RightP d) (h : Tlv.sameT 9 t 3 (entsT d) = true) : GoodT t ∧ t.kd.map entOf = d := by
  have q : Tlv.sameT 9 t 3 (entsT d) = (decide (t.hd = (3, 0, [])) && Tlv.sameL (fun a b => Tlv.sameT 8 a 2 b) t.kd (d.map entT)) := rfl
  rw [q] at h
  simp only [Bool.and_eq_true, decide_eq_true_eq] at h
  obtain ⟨h1, h2⟩ := same_ents t.kd d ho hr.places h.2
  refine ⟨⟨h1, by rw [h2]; exact hr, ?_⟩, h2⟩
  rw [h2, q]
  simp [h.1, h.2]

/-- The numbers of entries are numbers. -/
theorem entsT_num {d : List Ent} (hp : ∀ e ∈ d, plB e = true) : Tlv.NumOk 3 (entsT d) := by
  refine ⟨Int.le_refl 0, (by decide : (0 : Int) ≤ 18446744073709551615), fun k hk => ?_⟩
  obtain ⟨e, he, rfl⟩ := List.mem_map.1 hk
  have b := plB_bd (hp e he)
  refine ⟨Int.le_refl 0, (by decide : (0 : Int) ≤ 18446744073709551615), fun j hj => ?_⟩
  have hj' : j ∈ ([Tr.mk 2 0 e.1 [], Tr.mk 1 e.2.1 [] [], Tr.mk 1 e.2.2.1 [] [], Tr.mk 1 e.2.2.2 [] []] : List (Tr 1)) := hj
  rcases List.mem_cons.1 hj' with rfl | hj1
  · exact ⟨Int.le_refl 0, (by decide : (0 : Int) ≤ 18446744073709551615), fun x hx => by cases hx⟩
  rcases List.mem_cons.1 hj1 with rfl | hj2
  · exact ⟨b.1.1, Int.le_trans b.1.2 (by decide), fun x hx => by cases hx⟩
  rcases List.mem_cons.1 hj2 with rfl | hj3
  · exact ⟨b.2.1.1, Int.le_trans b.2.1.2 (by decide), fun x hx => by cases hx⟩
  rcases List.mem_cons.1 hj3 with rfl | hj4
  · exact ⟨b.2.2.1, Int.le_trans b.2.2.2 (by decide), fun x hx => by cases hx⟩
  · cases hj4

theorem get_form {d : List Ent} (ho : ∀ e ∈ d, EOk e) (hr : RightP d) : ∃ t, Tlv.getT (formE d) = some t ∧ GoodT t ∧ t.kd.map entOf = d := by
  obtain ⟨t, h1, h2⟩ := Tlv.form_rd 3 8 (entsT d) 65535 [] (entsT_num hr.places) (by omega) (entsT_right (fun e he => (ho e he).1) hr.1)
  rw [List.append_nil] at h1
  obtain ⟨g1, g2⟩ := good_same ho hr h2
  exact ⟨t, by rw [Tlv.getT, formE, h1]; simp, g1, g2⟩

/-- What Get answers. -/
def GAns (bs : List Int) (f : Int) (d : List Ent) : Prop :=
  (bs.length < 4 ∧ f = 3 ∧ d = []) ∨ (4 ≤ bs.length ∧ sealI (bs.take (bs.length - 4)) ≠ bs ∧ f = 4 ∧ d = []) ∨
  (4 ≤ bs.length ∧ sealI (bs.take (bs.length - 4)) = bs ∧ (∀ t, Tlv.getT (bs.take (bs.length - 4)) = some t → ¬ GoodT t) ∧ f = 3 ∧ d = []) ∨
  (4 ≤ bs.length ∧ sealI (bs.take (bs.length - 4)) = bs ∧ ∃ t, Tlv.getT (bs.take (bs.length - 4)) = some t ∧ GoodT t ∧ f = 0 ∧ d = t.kd.map entOf)

theorem sealI_take (xs : List Int) : (sealI xs).take ((sealI xs).length - 4) = xs := by
  rw [sealI_length, Nat.add_sub_cancel, sealI, List.take_left']
  rfl
theorem gans_back {d d' : List Ent} {f : Int} (ho : ∀ e ∈ d, EOk e) (hr : RightP d) (h : GAns (sealE d) f d') : f = 0 ∧ d' = d := by
  have hl : 4 ≤ (sealE d).length := by rw [sealE, sealI_length]; omega
  have ht : (sealE d).take ((sealE d).length - 4) = formE d := sealI_take _
  obtain ⟨t, g1, g2, g3⟩ := get_form ho hr
  rw [GAns, ht] at h
  rcases h with ⟨h1, _⟩ | ⟨_, h1, _⟩ | ⟨_, _, h1, _⟩ | ⟨_, _, u, h1, _, h3, h4⟩
  · omega
  · exact absurd rfl h1
  · exact absurd g2 (h1 t g1)
  · rw [g1] at h1
    cases h1
    exact ⟨h3, by rw [h4, g3]⟩
end Go.Proofs.YthmimipoooemjaaGreatDoor.Sg
end

section
/-
  entry of segment: what the fields of a value tell, whatever is in them.
-/
namespace Go.Proofs.YthmimipoooemjaaGreatDoor.Sg
open Go.RowKit
open Tlv (Tr Agree)
open Sim (hid Kp No)

theorem yields_one {P : Program} {ops : Array Oper} {S : World → Prop} {o : Oper} {a : Act} (hw : Region.wanted o (yielded ops a.tmps) = true) (t : TypeId) (i : Nat) (x : Operand) (ho : o.op = .build t #[(i, x)])
    (vx : Value) (hx : a.eval x = vx) (C : Array Value) (hb : P.built t [(i, vx)] = some C) : YieldsIf P ops S o (.agg C) a :=
  .inl ⟨hw, fun w _ => by
    have e : P.built t ((#[(i, x)] : Array (Nat × Operand)).map fun (i, x) => (i, a.eval x)).toList = some C := by
      rw [← hb]
      simp only [List.map_toArray, List.map_cons, List.map_nil, hx]
    unfold execOp
    simp only [ho, Sem.run_bind, run_build w t _ C e, Result.andThen_ok]
    rfl⟩
def z32 : List Int := List.replicate 32 0
theorem built48w (p q r : Int) : Tryz.prog.built 155 [(1, .agg #[.int .i64 p, .int .i64 q, .int .i64 r])] = some (entC (z32, p, q, r)).toArray := by kernel_rfl
theorem infE (x : Ent) (h : EOk x) : (Tryz.prog.info? 155).map (·.size) = some (entC x).length := by rw [entC_length h]; kernel_rfl
theorem z32_ok (p q r : Int) : EOk (z32, p, q, r) := ⟨by simp [z32], fun x hx => by have := (List.mem_replicate.1 hx).2; subst this; decide⟩
theorem pad_ok {bn : List Int} (h : ∀ x ∈ bn, 0 ≤ x ∧ x ≤ 255) (p q r : Int) : EOk (pad32 bn, p, q, r) := ⟨pad32_length _, fun x hx => by
  rcases List.mem_append.1 hx with hx | hx
  · exact h x (List.mem_of_mem_take hx)
  · have := (List.mem_replicate.1 hx).2; subst this; decide⟩

/-- What lies at g: an entry, of the call's own. -/
def HalfE (w W : World) (x : Ent) (g : Nat) : Prop := Below w.heap.size w W ∧ w.heap.size ≤ g ∧ g < W.heap.size ∧ W.rangeAt g 0 (entC x) ∧ W.there g 0 35
theorem HalfE.drew {w W : World} {x : Ent} {g : Nat} (h : HalfE w W x g) : HalfE w W.drew x g := by
  obtain ⟨h1, h2, h3, h4, h5⟩ := h
  exact ⟨h1.drew, h2, h3, by rwa [World.rangeAt_drew], by rwa [World.there_drew]⟩
theorem b8_append (a b : List Int) : b8 (a ++ b) = b8 a ++ b8 b := by simp [b8]
theorem HalfE.named {w W : World} {p q r : Int} {bn : List Int} {g : Nat} (h : HalfE w W (z32, p, q, r) g) (ht : W.there g 0 (b8 (bn.take 32)).length) : HalfE w (W.setCells g 0 (b8 (bn.take 32))) (pad32 bn, p, q, r) g := by
  obtain ⟨h1, h2, h3, h4, h5⟩ := h
  refine ⟨h1.trans (setCells_below h2 _ _ _), h2, by rw [setCells_size]; exact h3, fun j u hj => ?_, World.there_setCells h5 _ _ _⟩
  have hl : (b8 (bn.take 32)).length = (bn.take 32).length := b8_length _
  have hl2 : (bn.take 32).length ≤ 32 := by rw [List.length_take]; omega
  have e1 : entC (pad32 bn, p, q, r) = b8 (bn.take 32) ++ (b8 (List.replicate (32 - bn.length) 0) ++ [.int .i64 p, .int .i64 q, .int .i64 r]) := by
    show b8 (bn.take 32 ++ List.replicate (32 - bn.length) 0) ++ _ = _
    rw [b8_append, List.append_assoc]
  rw [Nat.zero_add]
  by_cases hj1 : j < (bn.take 32).length
  · have hi : j < (b8 (bn.take 32)).length := by omega
    have := World.cell?_setCells_in g (b8 (bn.take 32)) 0 W (fun i hi => (ht i hi).1) j hi
    rw [Nat.zero_add] at this
    rw [this, ← hj, e1, List.getElem?_append_left hi]
    exact (List.getElem?_eq_getElem hi).symm
  · rw [World.cell?_setCells_out g _ 0 W ⟨g, j, none⟩ (fun _ _ => .inr (by show 0 + _ ≤ j; omega))]
    have h6 := h4 j u (by
      rw [← hj, e1]
      have e2 : entC (z32, p, q, r) = b8 (List.replicate (bn.take 32).length 0) ++ (b8 (List.replicate (32 - bn.length) 0) ++ [.int .i64 p, .int .i64 q, .int .i64 r]) := by
        rw [← List.append_assoc, ← b8_append, List.replicate_append_replicate, show (bn.take 32).length + (32 - bn.length) = 32 by rw [List.length_take]; omega]
        rfl
      rw [e2]
      exact app_right (by rw [b8_length, b8_length]; simp) (by rw [b8_length, List.length_replicate]; omega))
    rw [Nat.zero_add] at h6
    exact h6

set_option maxHeartbeats 4000000 in
set_option maxRecDepth 100000 in
theorem entry_any (ka kb kc ke : Tr 7) (v : Value) (L B : Nat) (w : World) (h : Tlv.KSl L B w (Tlv.Rep L B w 7) v [ka, kb, kc, ke]) (hB : B ≤ w.heap.size) :
    Calls Tryz.prog 170 #[v] w fun e w' => e = .returned (.agg (entC (pad32 ka.hd.2.2, wrap64 kb.hd.2.1, wrap64 kc.hd.2.1, wrap64 ke.hd.2.1)).toArray) ∧ EOk (pad32 ka.hd.2.2, wrap64 kb.hd.2.1, wrap64 kc.hd.2.1, wrap64 ke.hd.2.1) ∧ Below w.heap.size w w' := by
  obtain ⟨ak, ck, rfl, hk2, hk3, _, hkl, hk7⟩ := h
  obtain ⟨bk, ok, rfl, hbL, hbB, hcell⟩ := hk7 (by simp)
  obtain ⟨sa, ska, a0, a1, a2, a3, ra⟩ := hcell 0 ka rfl
  obtain ⟨sb, skb, b0, b1, b2, b3, rb⟩ := hcell 1 kb rfl
  obtain ⟨sc, skc, c0, c1, c2, c3, rc⟩ := hcell 2 kc rfl
  obtain ⟨se, ske, e0, e1, e2, e3, re⟩ := hcell 3 ke rfl
  simp only [Nat.zero_mul, Nat.reduceMul, Nat.add_zero] at a2 b1 c1 e1
  obtain ⟨_, _, aby, _⟩ := ra
  obtain ⟨p, hp⟩ : ∃ p, wrap64 kb.hd.2.1 = p := ⟨_, rfl⟩
  obtain ⟨q, hq⟩ : ∃ q, wrap64 kc.hd.2.1 = q := ⟨_, rfl⟩
  obtain ⟨r, hr⟩ : ∃ r, wrap64 ke.hd.2.1 = r := ⟨_, rfl⟩
  rw [hp, hq, hr]
  generalize hbn : ka.hd.2.2 = bn at *
  generalize hn1 : kb.hd.2.1 = n1 at *
  generalize hn2 : kc.hd.2.1 = n2 at *
  generalize hn3 : ke.hd.2.1 = n3 at *
  have hbn6 : ∀ x ∈ bn, 0 ≤ x ∧ x ≤ 255 := by
    obtain ⟨_, _, _, _, _, _, _, h6, _⟩ := aby
    exact h6
  have HOKX := hid (pad_ok hbn6 p q r)
  have HBB := hid aby
  obtain ⟨aa, ca, rfl, haa2, haa3, haa4, haa5, haa6, haa7⟩ := id aby
  have HB4 := hid haa4
  have hpw : IntKind.i64.wrap n1 = p := by have h := hp; unfold wrap64 at h; rw [IntKind.wrap_i64]; exact h
  have hqw : IntKind.i64.wrap n2 = q := by have h := hq; unfold wrap64 at h; rw [IntKind.wrap_i64]; exact h
  have hrw : IntKind.i64.wrap n3 = r := by have h := hr; unfold wrap64 at h; rw [IntKind.wrap_i64]; exact h
  clear hcell a0 a1 a3 b0 b2 b3 c0 c2 c3 e0 e2 e3 rb rc re haa7 haa4 haa6 haa5 hk7 aby hbn hn1 hn2 hn3 hp hq hr hkl hbn6 hbL
  simp only [List.length_cons, List.length_nil, Nat.zero_add, Nat.reduceAdd] at hk2 ⊢
  have hK : bk < w.heap.size := by omega
  have hz := zero48
  have HZL : Hid (zE.length = 35) := by rw [Hid]; exact entC_length (z32_ok 0 0 0)
  obtain ⟨Z, hZ⟩ : ∃ Z, zE = Z := ⟨_, rfl⟩
  rw [hZ] at hz HZL
  have HZ := hid hZ
  clear hZ
  obtain ⟨C, hC⟩ : ∃ C, entC (pad32 bn, p, q, r) = C := ⟨_, rfl⟩
  have HCE := hid hC
  rw [hC]
  clear hC
  go_enter Tryz.func170, Tryz.ntmps170
  go_wp2_with fail
  obtain ⟨W0, hW0⟩ : ∃ W0, w.alloc (.cells Z.toArray 155) = W0 := ⟨_, rfl⟩
  have hbel : Below w.heap.size w W0 := by rw [← hW0]; exact (Below.refl _ _).alloc (Nat.le_refl _) _
  have HBEL := hid hbel
  have HTR : Hid (W0.there w.heap.size 0 35) := by
    have h := there_new w Z 155
    rw [hW0, HZL.out] at h
    exact h
  have hz0 : w.heap.size < W0.heap.size := by rw [← hW0]; simp
  have hz2 : bk < W0.heap.size := by omega
  replace a2 := (hbel.cell (p := ⟨bk, ok + 2, none⟩) hK).trans a2
  replace b1 := (hbel.cell (p := ⟨bk, ok + 4 + 1, none⟩) hK).trans b1
  replace c1 := (hbel.cell (p := ⟨bk, ok + 8 + 1, none⟩) hK).trans c1
  replace e1 := (hbel.cell (p := ⟨bk, ok + 12 + 1, none⟩) hK).trans e1
  rw [hW0]
  clear hW0 hbel
  go_cut [3] (fun v wx => ∃ g, v = .pointer (some ⟨g, 0, none⟩) ∧ Hid (HalfE W0 wx (z32, p, q, r) g))
  case first =>
    have hzok := z32_ok p q r
    have HBU := hid (built48w p q r)
    obtain ⟨C0, hC0⟩ : ∃ C0, entC (z32, p, q, r) = C0 := ⟨_, rfl⟩
    rw [hC0] at HBU
    have HC0L : Hid (C0.toArray.size = 35) := by rw [← hC0]; exact entC_length hzok
    have HI0 : Hid ((Tryz.prog.info? 155).map (·.size) = some C0.toArray.size) := by rw [← hC0]; exact infE _ hzok
    have H10 : Hid (C0.toArray.all (·.oneCell') = true) := by rw [← hC0]; exact all_oneCell_toArray (entC_one _)
    have HT0 : Hid (World.there (W0.drew.alloc (.cells Z.toArray 155)) W0.heap.size 0 C0.toArray.size) := by
      have h := there_new W0.drew Z 155
      rw [HZL.out] at h
      rw [Hid, HC0L.out]
      exact h
    have HS1 : Hid (Below W0.heap.size W0 (W0.drew.alloc (.cells Z.toArray 155))) := (Below.refl _ _).drew.alloc (Nat.le_refl _) _
    have HS2 : Hid (Below W0.heap.size W0 ((W0.drew.alloc (.cells Z.toArray 155)).setCells W0.heap.size 0 C0)) := HS1.out.trans (setCells_below (Nat.le_refl _) _ _ _)
    have HALF : Hid (HalfE W0 ((W0.drew.alloc (.cells Z.toArray 155)).setCells W0.heap.size 0 C0) (z32, p, q, r) W0.heap.size) := by
      refine ⟨HS2.out, Nat.le_refl _, by rw [setCells_size]; simp, ?_, ?_⟩
      · rw [hC0]
        exact World.rangeAt_setCells_same _ _ _ _ HT0.out
      · have h := World.there_setCells HT0.out W0.heap.size 0 C0
        rwa [HC0L.out] at h
    clear hC0 hzok
    refine wp_region_held_drew (S := fun V => Below W0.heap.size W0 V) (by kernel_rfl) ((Below.refl _ _).drew) (fun hHeld => ?_)
    refine wpAnyH_take (i := 0) (oi := ⟨some 4, .move (.tmp 0), 201, "sealed.go:84", #[], none⟩) (v := .slice (some ⟨bk, ok, none⟩) 4 ck) rfl (by kernel_rfl) (by kernel_rfl) (by kernel_rfl) (fun _ _ _ h => h) (Or.inl ⟨by rfl, fun w' hw' => by (clear hw'; go_simp)⟩) hHeld ?_
    simp only [Act.put, sjA, sjB, sjC]
    refine wpAnyH_take (i := 1) (oi := ⟨some 5, .indexAddr 201 (.tmp 4) (Operand.const (Value.int IntKind.i64 1)), 0, "sealed.go:84", #[⟨0, .data⟩], none⟩) (v := .pointer (some ⟨bk, ok + 4, none⟩)) rfl (by kernel_rfl) (by kernel_rfl) (by kernel_rfl) (fun _ _ _ h => h) (Or.inl ⟨by rfl, fun w' hw' => by (clear hw'; go_simp)⟩) hHeld ?_
    simp only [Act.put, sjA, sjB, sjC]
    refine wpAnyH_take (i := 2) (oi := ⟨some 6, .fieldAddr 203 (.tmp 5) 1, 0, "sealed.go:84", #[⟨1, .data⟩], none⟩) (v := .pointer (some ⟨bk, ok + 4 + 1, none⟩)) rfl (by kernel_rfl) (by kernel_rfl) (by kernel_rfl) (fun _ _ _ h => h) (Or.inl ⟨by rfl, fun w' hw' => by (clear hw'; go_simp)⟩) hHeld ?_
    simp only [Act.put, sjA, sjB, sjC]
    refine wpAnyH_take (i := 3) (oi := ⟨some 7, .load 200 (.tmp 6), 200, "sealed.go:84", #[⟨2, .data⟩], none⟩) (v := .int .u64 n1) rfl (by kernel_rfl) (by kernel_rfl) (by kernel_rfl) (fun _ _ _ h => h) (Or.inl ⟨by rfl, fun w' hw' => by (have q := (hw'.cell (p := ⟨bk, ok + 4 + 1, none⟩) hz2).trans b1; clear hw'; go_simp)⟩) hHeld ?_
    simp only [Act.put, sjA, sjB, sjC]
    refine wpAnyH_take (i := 4) (oi := ⟨some 8, .convert 200 3 (.tmp 7), 3, "sealed.go:84", #[⟨3, .data⟩], none⟩) (v := .int .i64 p) rfl (by kernel_rfl) (by kernel_rfl) (by kernel_rfl) (fun _ _ _ h => h) (Or.inl ⟨by rfl, fun w' hw' => by (clear hw'; go_simp)⟩) hHeld ?_
    simp only [Act.put, sjA, sjB, sjC]
    refine wpAnyH_take (i := 5) (oi := ⟨some 9, .move (.tmp 0), 201, "sealed.go:84", #[], none⟩) (v := .slice (some ⟨bk, ok, none⟩) 4 ck) rfl (by kernel_rfl) (by kernel_rfl) (by kernel_rfl) (fun _ _ _ h => h) (Or.inl ⟨by rfl, fun w' hw' => by (clear hw'; go_simp)⟩) hHeld ?_
    simp only [Act.put, sjA, sjB, sjC]
    refine wpAnyH_take (i := 6) (oi := ⟨some 10, .indexAddr 201 (.tmp 9) (Operand.const (Value.int IntKind.i64 2)), 0, "sealed.go:84", #[⟨5, .data⟩], none⟩) (v := .pointer (some ⟨bk, ok + 8, none⟩)) rfl (by kernel_rfl) (by kernel_rfl) (by kernel_rfl) (fun _ _ _ h => h) (Or.inl ⟨by rfl, fun w' hw' => by (clear hw'; go_simp)⟩) hHeld ?_
    simp only [Act.put, sjA, sjB, sjC]
    refine wpAnyH_take (i := 7) (oi := ⟨some 11, .fieldAddr 203 (.tmp 10) 1, 0, "sealed.go:84", #[⟨6, .data⟩], none⟩) (v := .pointer (some ⟨bk, ok + 8 + 1, none⟩)) rfl (by kernel_rfl) (by kernel_rfl) (by kernel_rfl) (fun _ _ _ h => h) (Or.inl ⟨by rfl, fun w' hw' => by (clear hw'; go_simp)⟩) hHeld ?_
    simp only [Act.put, sjA, sjB, sjC]
    refine wpAnyH_take (i := 8) (oi := ⟨some 12, .load 200 (.tmp 11), 200, "sealed.go:84", #[⟨7, .data⟩], none⟩) (v := .int .u64 n2) rfl (by kernel_rfl) (by kernel_rfl) (by kernel_rfl) (fun _ _ _ h => h) (Or.inl ⟨by rfl, fun w' hw' => by (have q := (hw'.cell (p := ⟨bk, ok + 8 + 1, none⟩) hz2).trans c1; clear hw'; go_simp)⟩) hHeld ?_
    simp only [Act.put, sjA, sjB, sjC]
    refine wpAnyH_take (i := 9) (oi := ⟨some 13, .convert 200 3 (.tmp 12), 3, "sealed.go:84", #[⟨8, .data⟩], none⟩) (v := .int .i64 q) rfl (by kernel_rfl) (by kernel_rfl) (by kernel_rfl) (fun _ _ _ h => h) (Or.inl ⟨by rfl, fun w' hw' => by (clear hw'; go_simp)⟩) hHeld ?_
    simp only [Act.put, sjA, sjB, sjC]
    refine wpAnyH_take (i := 10) (oi := ⟨some 14, .move (.tmp 0), 201, "sealed.go:84", #[], none⟩) (v := .slice (some ⟨bk, ok, none⟩) 4 ck) rfl (by kernel_rfl) (by kernel_rfl) (by kernel_rfl) (fun _ _ _ h => h) (Or.inl ⟨by rfl, fun w' hw' => by (clear hw'; go_simp)⟩) hHeld ?_
    simp only [Act.put, sjA, sjB, sjC]
    refine wpAnyH_take (i := 11) (oi := ⟨some 15, .indexAddr 201 (.tmp 14) (Operand.const (Value.int IntKind.i64 3)), 0, "sealed.go:84", #[⟨10, .data⟩], none⟩) (v := .pointer (some ⟨bk, ok + 12, none⟩)) rfl (by kernel_rfl) (by kernel_rfl) (by kernel_rfl) (fun _ _ _ h => h) (Or.inl ⟨by rfl, fun w' hw' => by (clear hw'; go_simp)⟩) hHeld ?_
    simp only [Act.put, sjA, sjB, sjC]
    refine wpAnyH_take (i := 12) (oi := ⟨some 16, .fieldAddr 203 (.tmp 15) 1, 0, "sealed.go:84", #[⟨11, .data⟩], none⟩) (v := .pointer (some ⟨bk, ok + 12 + 1, none⟩)) rfl (by kernel_rfl) (by kernel_rfl) (by kernel_rfl) (fun _ _ _ h => h) (Or.inl ⟨by rfl, fun w' hw' => by (clear hw'; go_simp)⟩) hHeld ?_
    simp only [Act.put, sjA, sjB, sjC]
    refine wpAnyH_take (i := 13) (oi := ⟨some 17, .load 200 (.tmp 16), 200, "sealed.go:84", #[⟨12, .data⟩], none⟩) (v := .int .u64 n3) rfl (by kernel_rfl) (by kernel_rfl) (by kernel_rfl) (fun _ _ _ h => h) (Or.inl ⟨by rfl, fun w' hw' => by (have q := (hw'.cell (p := ⟨bk, ok + 12 + 1, none⟩) hz2).trans e1; clear hw'; go_simp)⟩) hHeld ?_
    simp only [Act.put, sjA, sjB, sjC]
    refine wpAnyH_take (i := 14) (oi := ⟨some 18, .convert 200 3 (.tmp 17), 3, "sealed.go:84", #[⟨13, .data⟩], none⟩) (v := .int .i64 r) rfl (by kernel_rfl) (by kernel_rfl) (by kernel_rfl) (fun _ _ _ h => h) (Or.inl ⟨by rfl, fun w' hw' => by (clear hw'; go_simp)⟩) hHeld ?_
    simp only [Act.put, sjA, sjB, sjC]
    refine wpAnyH_take (i := 15) (oi := ⟨some 19, .build 51 #[(0, .tmp 8), (1, .tmp 13), (2, .tmp 18)], 51, "sealed.go:84", #[⟨4, .data⟩, ⟨9, .data⟩, ⟨14, .data⟩], none⟩) (v := .agg #[.int .i64 p, .int .i64 q, .int .i64 r]) rfl (by kernel_rfl) (by kernel_rfl) (by kernel_rfl) (fun _ _ _ h => h) (Or.inl ⟨by rfl, fun w' hw' => by (clear hw'; go_simp)⟩) hHeld ?_
    simp only [Act.put, sjA, sjB, sjC]
    refine wpAnyH_take (i := 16) (oi := ⟨some 20, .build 155 #[(1, .tmp 19)], 155, "sealed.go:84", #[⟨15, .data⟩], none⟩) (v := .agg C0.toArray) rfl (by kernel_rfl) (by kernel_rfl) (by kernel_rfl) (fun _ _ _ h => h) (yields_one (by rfl) 155 1 (.tmp 19) rfl (.agg #[.int .i64 p, .int .i64 q, .int .i64 r]) rfl _ HBU.out) hHeld ?_
    simp only [Act.put, sjA, sjB, sjC]
    refine wpAnyH_ready (rs := [17]) (by kernel_rfl) (by simp) ?_
    refine AllReadyH.cons (o := ⟨some 3, .alloc 155, 0, "sealed.go:84", #[], none⟩) rfl (fun K hK => ?_) AllReadyH.nil
    go_simp
    refine hK.out _ _ HS1.out (fun hh => ?_)
    clear hK K hHeld
    have hHeld := hh
    clear hh
    try simp only [Act.put, sjA, sjB, sjC]
    refine wpAnyH_ready (rs := [18]) (by kernel_rfl) (by simp) ?_
    refine AllReadyH.cons (o := ⟨none, .store 155 (.tmp 3) (.tmp 20), 0, "sealed.go:84", #[⟨17, .data⟩, ⟨16, .data⟩, ⟨0, .phase⟩, ⟨1, .phase⟩, ⟨2, .phase⟩, ⟨3, .phase⟩, ⟨4, .phase⟩, ⟨5, .phase⟩, ⟨6, .phase⟩, ⟨7, .phase⟩, ⟨8, .phase⟩, ⟨9, .phase⟩, ⟨10, .phase⟩, ⟨11, .phase⟩, ⟨12, .phase⟩, ⟨13, .phase⟩, ⟨14, .phase⟩, ⟨15, .phase⟩, ⟨16, .phase⟩, ⟨17, .phase⟩], none⟩) rfl (fun K hK => ?_) AllReadyH.nil
    rw [if_pos (by rfl)]
    refine wp_store_mid 155 _ _ (by rfl) W0.heap.size 0 C0.toArray (by rfl) (by rfl) HT0.out HI0.out H10.out ?_
    refine hK.out _ _ HS2.out (fun hh => ?_)
    clear hK K hHeld hh
    refine wpAnyH_done (by kernel_rfl) ?_ _
    go_wp2_with fail
    go_meet
    exact ⟨_, rfl, HALF.out⟩
  case rest =>
    obtain ⟨g, rfl, HALF⟩ := hcut
    obtain ⟨hb1, hg0, hg1, hr1, ht1⟩ := HALF.out
    have HB1 := hid hb1
    have HT1 := hid ht1
    replace a2 := (hb1.cell (p := ⟨bk, ok + 2, none⟩) hz2).trans a2
    clear hb1 hr1 ht1 b1 c1 e1 hz hpw hqw hrw
    go_wp2_with fail
    go_cut [27] (fun _ wx => Hid (HalfE W0 wx (pad32 bn, p, q, r) g))
    case first =>
      cases aa with
      | none =>
        obtain ⟨rfl, rfl⟩ := HB4.out rfl
        have hcp : ∀ w, (Builtin.copy_ #[54, 54] 3 #[Value.slice (some ⟨g, 0, none⟩) 32 32, Value.slice none 0 0]).run Tryz.prog w = .ok (.int .i64 0) w := fun w => run_copy_none w _ _ _ 5 _ _ _ _ _ _ Tryz.underlying54 (by kernel_rfl) (by rfl)
        go_region
        all_goals (go_wp2_with fail; go_meet)
        all_goals exact HALF.out.drew
      | some ad =>
        obtain ⟨CS, hCS⟩ : ∃ CS, b8 (bn.take 32) = CS := ⟨_, rfl⟩
        have HCL : Hid (CS.length = Nat.min bn.length 32) := by rw [Hid, ← hCS, b8_length, List.length_take, Nat.min_comm]
        have HCO : Hid (∀ v ∈ CS, v.oneCell' = true) := by rw [← hCS]; intro v hv; obtain ⟨x, _, rfl⟩ := List.mem_map.1 hv; rfl
        have HCT : Hid (World.there wc.drew g 0 CS.length) := by
          intro j hj
          have h1 := HCL.out
          have h2 : Nat.min bn.length 32 ≤ 32 := Nat.min_le_right _ _
          have h := HT1.out j (by omega)
          simpa using h
        have HSR : Hid (∀ j v, CS[j]? = some v → wc.drew.cell? (ad.add j) = some v) := by
          intro j v hj
          have hb := HBB.out.agree (Agree.below (HBEL.out.mono hB)) (Nat.le_refl _) (Nat.le_refl _)
          have hb' := hb.agree (Agree.below (HB1.out.mono (Nat.le_trans hB HBEL.out.size))) (Nat.le_refl _) (Nat.le_refl _)
          refine Tlv.bytes_news (B := B) (w := wc) (w' := wc.drew) (bs := bn) (l := bn.length) (c := ca) (hb'.agree (Agree.refl _ _ _) (Nat.zero_le _) (Nat.le_refl _)) (Below.refl _ _).drew j v ?_
          rw [← hCS, b8, List.map_take] at hj
          have hlt : j < 32 := by
            have := (List.getElem?_eq_some_iff.1 hj).1
            simp at this
            omega
          rwa [List.getElem?_take_of_lt hlt] at hj
        have HNX : Hid (HalfE W0 (wc.drew.setCells g 0 CS) (pad32 bn, p, q, r) g) := by
          rw [← hCS]
          exact HALF.out.drew.named (by rw [hCS]; exact HCT.out)
        have HI5 : Hid ((Tryz.prog.info? 5).map (·.size) = some 1) := by rw [Hid]; kernel_rfl
        clear hCS
        go_region_law (refine step_copy _ (by rfl) (.tmp 22) (.tmp 26) 54 54 (by rfl) 5 Tryz.underlying54 HI5.out g 0 32 32 ad bn.length ca (by rfl) (by rfl) CS HCL.out HSR.out HCT.out HCO.out ?_)
        all_goals (go_wp2_with fail; go_meet)
        all_goals exact HNX.out
    case rest =>
      obtain ⟨hb2, hg0', hg2, hr2, ht2⟩ := hcut.out
      have HB2 := hid hb2
      have HC := hid (entC_length HOKX.out)
      have HIC := hid (infE _ HOKX.out)
      have H1 : Hid (C.toArray.all (·.oneCell') = true) := by rw [← HCE.out]; exact all_oneCell_toArray (entC_one _)
      rw [HCE.out] at hr2 HC HIC
      have HR2 := hid hr2
      have HTZ : Hid (wc.there w.heap.size 0 C.toArray.size) := by
        rw [Hid, show C.toArray.size = 35 from HC.out]
        exact there_below HTR.out hb2 hz0
      have HBF : Hid (Below w.heap.size w wc) := HBEL.out.trans (hb2.mono HBEL.out.size)
      clear hcut HALF HT1 HB1 a2 hb2 hr2 ht2
      go_wp2_with (first
        | (refine wpList_load_mid (by rfl) 155 _ (by rfl) g 0 (by rfl) C _ HR2.out Tryz.underlying155 rfl HIC.out ?_)
        | (refine wpList_store_mid (by rfl) 155 _ _ (by rfl) w.heap.size 0 C.toArray (by rfl) (by rfl) HTZ.out HIC.out H1.out ?_))
      have hr : World.rangeAt (wc.setCells w.heap.size 0 C) w.heap.size 0 C := World.rangeAt_setCells_same _ _ _ _ HTZ.out
      refine bodyPost_ret (v := .agg C.toArray) ?_ rfl ⟨rfl, HOKX.out, ?_⟩
      · exact results_cell_mid Tryz.results170 _ _ w.heap.size 0 _ _ rfl hr Tryz.underlying155 rfl HIC.out
      · exact HBF.out.trans (setCells_below (Nat.le_refl _) _ _ _)
end Go.Proofs.YthmimipoooemjaaGreatDoor.Sg
end

section
/-
  entries of segment: the right entries that a value is the value of.
-/
namespace Go.Proofs.YthmimipoooemjaaGreatDoor.Sg
open Go.RowKit
open Tlv (Tr Agree)
open Sim (hid Kp No)

/-- One more entry behind those that there are. -/
theorem next_E {w wr W1 : World} {ad : Option Addr} {k cap : Nat} {xs : List Ent} {e : Ent} (hM : Mine w wr (.slice ad k cap) xs) (hxk : xs.length = k) (hW : Kp No wr W1) (heo : EOk e) (hk : k ≤ 1000000) (ty : TypeId) :
    ∃ ad2 cap2 w2, (Builtin.append_ #[81, 81] ty #[.slice ad k cap, .slice (some ⟨W1.heap.size, 0, none⟩) 1 1]).run Tryz.prog (W1.alloc (.cells (entC e).toArray 155)) = .ok (.slice ad2 (k + 1) cap2) w2 ∧
      Kp (fun x => (Value.slice ad k cap).ownBlock = some x) wr w2 ∧ Mine w w2 (.slice ad2 (k + 1) cap2) (xs ++ [e]) := by
  have hRA : Sim.Row (W1.alloc (.cells (entC e).toArray 155)) 155 35 (.slice ad k cap) k (ents xs) := by
    have := hM.1
    rw [hxk] at this
    exact this.kept (hW.alloc _)
  have hSC : Sim.Src (W1.alloc (.cells (entC e).toArray 155)) (.slice (some ⟨W1.heap.size, 0, none⟩) 1 1) 1 35 (entC e) := Sim.Src.one W1 (entC e) 35 155 (entC_length heo) (entC_one _)
  obtain ⟨ad2, cap2, w2, hap, hrow2, hgr2, hown2⟩ := app_run _ ty (.slice ad k cap) (.slice (some ⟨W1.heap.size, 0, none⟩) 1 1) k 1 _ _ hRA hSC (by omega) (by omega)
  have HKA : Kp (fun x => (Value.slice ad k cap).ownBlock = some x) wr (W1.alloc (.cells (entC e).toArray 155)) := (hW.ofNo).alloc _
  have HK2 : Kp (fun x => (Value.slice ad k cap).ownBlock = some x) wr w2 := HKA.grown hgr2 (fun x hx => .inl hx)
  refine ⟨ad2, cap2, w2, hap, HK2, ?_, fun x hx => ?_, hM.2.2.trans HK2 (fun x hx => .inr (hM.2.1 x hx))⟩
  · rw [List.length_append, hxk, ents_append]
    have : ents [e] = entC e := by simp [ents]
    rw [this]
    exact hrow2
  · rcases hown2 with e1 | e1
    · exact hM.2.1 x (by rw [← e1]; exact hx)
    · rw [e1] at hx
      cases hx
      exact Nat.le_trans hM.2.2.size HKA.size
theorem wpList_valE {P : Program} {ops : Array Oper} {rest : List Oper} {o : Oper} {a : Act} {Q : Exit → Act → World → Prop} {w w' : World} {v : Value} (hg : o.guard = none) (hr : (execOp a.eval o).run P w = .ok (.value v) w') (h : wpList P ops Q rest (a.put o.dst v) w') : wpList P ops Q (o :: rest) a w :=
  wpList_plain hg fun _ hK => by unfold Oper.wp; rw [hr]; exact hK _ _ h
/-- Entries' cells are whole. -/
def Oks (d : List Ent) : Prop := ∀ x ∈ d, EOk x
theorem run_oneX {e : Ent} (h : EOk e) (w : World) : (Instr.buildSlice 81 1 #[(0, .agg (entC e).toArray)]).run Tryz.prog w = .ok (.slice (some ⟨w.heap.size, 0, none⟩) 1 1) (w.alloc (.cells (entC e).toArray 155)) := by
  obtain ⟨nm, p, q, r⟩ := e
  exact run_oneE nm p q r h.1 w
theorem ksl_get {n L B : Nat} {w w' : World} {R : Tr n → Value → Value → Prop} {v : Value} {ks : List (Tr n)} (h : Tlv.KSl L B w R v ks) {k : Nat} {x : Tr n} (hx : ks[k]? = some x) (hA : Agree L B w w') :
    ∃ b o c sb sk, v = .slice (some ⟨b, o, none⟩) ks.length c ∧ L ≤ b ∧ b < B ∧ w'.cell? ⟨b, o + k * 4, none⟩ = some (.int .i64 x.hd.1) ∧ w'.cell? ⟨b, o + k * 4 + 1, none⟩ = some (.int .u64 x.hd.2.1) ∧ w'.cell? ⟨b, o + k * 4 + 2, none⟩ = some sb ∧ w'.cell? ⟨b, o + k * 4 + 3, none⟩ = some sk ∧ R x sb sk := by
  obtain ⟨a, cap, rfl, h2, h3, h4, h5, h6⟩ := h
  obtain ⟨b, o, rfl, hL, hB, hc⟩ := h6 (by intro e; rw [e] at hx; simp at hx)
  obtain ⟨sb, sk, c0, c1, c2, c3, hr⟩ := hc k x hx
  exact ⟨b, o, cap, sb, sk, rfl, hL, hB, (hA.cell (p := ⟨b, _, none⟩) hL hB).trans c0, (hA.cell (p := ⟨b, _, none⟩) hL hB).trans c1, (hA.cell (p := ⟨b, _, none⟩) hL hB).trans c2, (hA.cell (p := ⟨b, _, none⟩) hL hB).trans c3, hr⟩
theorem entOf_4 {k : Tr 8} {a b c e : Tr 7} (h : k.kd = [a, b, c, e]) : entOf k = (pad32 a.hd.2.2, wrap64 b.hd.2.1, wrap64 c.hd.2.1, wrap64 e.hd.2.1) := by rw [entOf, h]

set_option maxHeartbeats 4000000 in
set_option maxRecDepth 100000 in
theorem entries_any (t : Tr 9) (sb sk : Value) (L B : Nat) (w : World) (h : Tlv.Rep L B w 9 t sb sk) (hB : B ≤ w.heap.size) (hl : t.kd.length ≤ 1000000) :
    Calls Tryz.prog 129 #[.agg #[.int .i64 t.hd.1, .int .u64 t.hd.2.1, sb, sk]] w fun e w' =>
      ((¬ GoodT t ∧ e = .returned (.tuple #[.slice none 0 0, .bool false])) ∨ (GoodT t ∧ ∃ v, e = .returned (.tuple #[v, .bool true]) ∧ Mine w w' v (t.kd.map entOf) ∧ Oks (t.kd.map entOf))) ∧ Kp No w w' := by
  have HREP := hid h
  have HKS := hid h.2.2.2
  obtain ⟨av, lv, cv, ak, lk, ck, rfl, rfl⟩ := h.sl
  obtain ⟨n, hn⟩ : ∃ n, t.kd.length = n := ⟨_, rfl⟩
  have hlk : lk = n := by
    obtain ⟨a, c, e, _⟩ := h.2.2.2
    simp only [Value.slice.injEq] at e
    omega
  subst hlk
  have HN := hid hn
  rw [hn] at hl
  obtain ⟨D, hD⟩ : ∃ D, t.kd.map entOf = D := ⟨_, rfl⟩
  have HD := hid hD
  rw [hD]
  obtain ⟨tag, htag⟩ : ∃ x, t.hd.1 = x := ⟨_, rfl⟩
  obtain ⟨num, hnum⟩ : ∃ x, t.hd.2.1 = x := ⟨_, rfl⟩
  have HH := hid (And.intro htag hnum)
  rw [htag, hnum]
  have hmk : ∀ W, (Instr.makeSlice 81 (.int .i64 0) (.int .i64 (lk : Int))).run Tryz.prog W = .ok (.slice (some ⟨W.heap.size, 0, none⟩) 0 lk) (W.alloc (.cells (madeCells zE.toArray (lk * 35)) 155)) := by
    intro W
    obtain ⟨i0, hi, hz0, hz1, hz2⟩ := info_parts infoE
    have h := run_make (P := Tryz.prog) W 81 155 i0 _ Tryz.underlying81 hi hz0 .i64 .i64 0 (lk : Int) (by omega) (by omega) (by rw [hz2]; omega) (by omega)
    rw [h, hz1]
    rfl
  have HMS : Hid ((madeCells zE.toArray (lk * 35)).size = lk * 35) := size_madeCells _ _
  generalize madeCells zE.toArray (lk * 35) = M at *
  obtain ⟨W0, hW0⟩ : ∃ W0, w.alloc (.cells #[.int .i64 tag, .int .u64 num, .slice av lv cv, .slice ak lk ck] 203) = W0 := ⟨_, rfl⟩
  have HM0 : Hid (Mine W0 (W0.alloc (.cells M 155)) (.slice (some ⟨W0.heap.size, 0, none⟩) 0 lk) []) :=
    ⟨World.ownsRow_made W0 _ lk (Nat.zero_le _) (by unfold maxLen; omega) HMS.out, fun x hx => by simp [Value.ownBlock] at hx; omega, (Kp.refl No W0).alloc _⟩
  have hK0 : Kp No w W0 := by rw [← hW0]; exact (Kp.refl No w).alloc _
  have HK0 := hid hK0
  have hz0 : W0.heap.size = w.heap.size + 1 := by rw [← hW0]; simp
  have HBX : Hid (∀ V, Kp No W0 V → V.cell? ⟨w.heap.size, 0, none⟩ = some (.int .i64 tag) ∧ V.cell? ⟨w.heap.size, 1, none⟩ = some (.int .u64 num) ∧ V.cell? ⟨w.heap.size, 2, none⟩ = some (.slice av lv cv) ∧ V.cell? ⟨w.heap.size, 3, none⟩ = some (.slice ak lk ck) ∧ w.heap.size < V.heap.size) := fun V hV => by
    have hs := hV.size
    have c : ∀ j, V.cell? ⟨w.heap.size, j, none⟩ = W0.cell? ⟨w.heap.size, j, none⟩ := fun j => hV.cell (p := ⟨w.heap.size, j, none⟩) (by simp; omega) (fun x => x)
    rw [c, c, c, c, ← hW0]
    refine ⟨by simp, by simp, by simp, by simp, by omega⟩
  have HZ0 := hid hz0
  have hd3 : (W0.alloc (.cells M 155)).cell? ⟨w.heap.size, 3, none⟩ = some (.slice ak lk ck) := (HBX.out _ ((Kp.refl No W0).alloc _)).2.2.2.1
  have he3 : W0.cell? ⟨w.heap.size, 3, none⟩ = some (.slice ak lk ck) := (HBX.out _ (Kp.refl No W0)).2.2.2.1
  have hzl : w.heap.size < W0.heap.size := by omega
  clear h hn hD htag hnum hz0 hK0
  go_enter Tryz.func129, Tryz.ntmps129
  go_wp2_with fail
  clear hmk he3 hd3 hW0
  go_loopw [4, 14] (fun v4 v14 wr => ∃ (k : Nat) (ad : Option Addr) (cap : Nat), v4 = .slice ad k cap ∧ v14 = .int .i64 (k : Int) ∧ k ≤ lk ∧ Hid (Mine W0 wr (.slice ad k cap) (D.take k)) ∧ Hid (∀ x ∈ t.kd.take k, x.kd.length = 4 ∧ EOk (entOf x))) (fun _ v14 _ => lk - (intOf v14).toNat)
  case atStart => exact ⟨0, _, _, rfl, rfl, Nat.zero_le _, HM0.out, by intro x hx; simp at hx⟩
  case round =>
    obtain ⟨k, ad, cap, rfl, rfl, hkn, HS, H4⟩ := hrel
    by_cases hlt : k < lk
    · have hltI : (k : Int) < (lk : Int) := by omega
      have hwk : IntKind.i64.wrap ((k : Int) + 1) = ((k + 1 : Nat) : Int) := by rw [IntKind.wrap_i64]; omega
      obtain ⟨x, hx⟩ : ∃ x, t.kd[k]? = some x := ⟨_, List.getElem?_eq_getElem (by rw [HN.out]; exact hlt)⟩
      have hKw : Kp No w wr := HK0.out.andNone HS.out.2.2
      have hAw : ∀ V, Kp No wr V → Agree L B w V := fun V hV => Agree.below (((hKw.andNone hV).toBelow').mono hB)
      obtain ⟨bk, ok, ck', sb', sk', ev, hbL, hbB, c0, c1, c2, c3, hrx⟩ := ksl_get HKS.out hx (hAw wr (Kp.refl _ _))
      simp only [Value.slice.injEq] at ev
      obtain ⟨rfl, -, rfl⟩ := ev
      have hbw : bk < wr.heap.size := by have := hKw.size; omega
      have hkk : ∃ m, x.kd.length = m := ⟨_, rfl⟩
      obtain ⟨m, hm⟩ := hkk
      have HMM := hid hm
      obtain ⟨a1, l1, p1, a2, l2, p2, rfl, rfl⟩ := hrx.sl
      have hl2 : l2 = m := by
        obtain ⟨a, c, e, _⟩ := hrx.2.2.2
        simp only [Value.slice.injEq] at e
        omega
      subst hl2
      have HRX := hid hrx
      have HX := hid hx
      have hDk : D[k]? = some (entOf x) := by rw [← HD.out, List.getElem?_map, hx]; rfl
      have HNX : Hid (D.take (k + 1) = D.take k ++ [entOf x]) := by rw [Hid, List.take_add_one, hDk]; rfl
      have hDl : (D.take k).length = k := by rw [List.length_take, ← HD.out, List.length_map, HN.out]; omega
      have HDL := hid hDl
      have HAW := hid hAw
      clear hm hx hrx hDk hDl hAw
      generalize htg : x.hd.1 = tg at *
      generalize hnu : x.hd.2.1 = nu at *
      clear htg hnu
      by_cases h4 : l2 = 4
      · subst h4
        obtain ⟨ka, kb, kc, ke, hkd⟩ := kd4 HMM.out
        have HEO := hid (entOf_4 hkd)
        have HKD := hid hkd
        clear hkd
        go_wp2_with fail
        have HKA : Hid (Kp No wr (wr.alloc (.cells #[.int .i64 tg, .int .u64 nu, .slice a1 l1 p1, .slice a2 4 p2] 203))) := (Kp.refl No wr).alloc _
        have hks : Tlv.KSl L B (wr.alloc (.cells #[.int .i64 tg, .int .u64 nu, .slice a1 l1 p1, .slice a2 4 p2] 203)) (Tlv.Rep L B (wr.alloc (.cells #[.int .i64 tg, .int .u64 nu, .slice a1 l1 p1, .slice a2 4 p2] 203)) 7) (.slice a2 4 p2) [ka, kb, kc, ke] := by
          have := (HRX.out.agree (L' := L) (B' := B) (HAW.out _ HKA.out) (Nat.le_refl _) (Nat.le_refl _)).2.2.2
          rwa [HKD.out] at this
        refine (entry_any ka kb kc ke _ L B _ hks (by have h1 := HKA.out.size; have h2 := HS.out.2.2.size; have h3 := HK0.out.size; omega)).mono ?_
        rintro e w3 ⟨rfl, heo, hb3⟩
        rw [← HEO.out]
        rw [← HEO.out] at heo
        have HK3 : Hid (Kp No wr w3) := HKA.out.andNone (Kp.below hb3)
        have HEK := hid heo
        obtain ⟨ad2, cap2, w4, hap, hk4, hm4⟩ := next_E HS.out HDL.out HK3.out heo (by omega) 81
        have HB2 := hid (run_oneX heo)
        have HM4 : Hid (Mine W0 w4 (.slice ad2 (k + 1) cap2) (D.take (k + 1))) := by rw [HNX.out]; exact hm4
        have H5 : Hid (∀ y ∈ t.kd.take (k + 1), y.kd.length = 4 ∧ EOk (entOf y)) := by
          intro y hy
          rw [List.take_add_one, HX.out] at hy
          rcases List.mem_append.1 hy with hy | hy
          · exact H4.out y hy
          · simp at hy
            subst hy
            exact ⟨by rw [HKD.out]; rfl, heo⟩
        obtain ⟨C, hC⟩ : ∃ C, entC (entOf x) = C := ⟨_, rfl⟩
        rw [hC] at hap HB2 ⊢
        have HAP := hid hap
        clear hC heo hb3 hks hk4 hm4 hap c0 c1 c2 c3
        go_wp2_with (first
          | (refine wpList_valE (by rfl) (exec_sliceE 81 _ rfl (.agg C.toArray) _ rfl (HB2.out _)) ?_)
          | (refine wpList_valE (by rfl) (exec_appE _ _ 81 rfl (.slice ad k cap) (.slice (some ⟨w3.heap.size, 0, none⟩) 1 1) _ rfl rfl HAP.out) ?_))
        go_round
        case rel => exact ⟨k + 1, ad2, cap2, rfl, by first | rfl | go_num, by omega, HM4.out, H5.out⟩
        case measure => simp [intOf]; omega
      · have hne : ((l2 : Int) != 4) = true := by simp; omega
        have HNG : Hid (¬ GoodT t) := fun hg => h4 (by rw [← HMM.out]; exact hg.1 x (List.mem_of_getElem? HX.out))
        have HKW := hid hKw
        clear hKw
        go_wp2_with fail
        go_ret2
        exact ⟨.inl ⟨HNG.out, rfl⟩, HKW.out.alloc _⟩
    · have hltI : ¬ (k : Int) < (lk : Int) := by omega
      have hkn' : k = lk := by omega
      have hDl : D.length = lk := by rw [← HD.out, List.length_map, HN.out]
      have HDT : Hid (Mine W0 wr (.slice ad k cap) D) := by
        have := HS.out
        rw [List.take_of_length_le (by omega)] at this
        exact this
      have HAL : Hid ((∀ x ∈ t.kd, x.kd.length = 4) ∧ ∀ x ∈ D, EOk x) := by
        have h := H4.out
        rw [List.take_of_length_le (by rw [HN.out]; omega)] at h
        refine ⟨fun x hx => (h x hx).1, fun x hx => ?_⟩
        rw [← HD.out] at hx
        obtain ⟨y, hy, rfl⟩ := List.mem_map.1 hx
        exact (h y hy).2
      have HKW : Hid (Kp No w wr) := HK0.out.andNone HDT.out.2.2
      have HEV : Hid (EV (fun g => W0.heap.size ≤ g) wr (.slice ad k cap) D) := ev_of_row HDT.out.1 HAL.out.2 HDT.out.2.1
      have HGD : Hid (GoodT t ↔ RightP D ∧ Tlv.sameT 9 t 3 (entsT D) = true) := by
        rw [Hid, GoodT, HD.out]
        exact ⟨fun h => h.2, fun h => ⟨HAL.out.1, h⟩⟩
      have HMW : Hid (∀ V, Kp No wr V → Mine w V (.slice ad k cap) D) := fun V hV => ⟨HDT.out.1.kept hV, fun x hx => Nat.le_trans HK0.out.size (HDT.out.2.1 x hx), HKW.out.andNone hV⟩
      have HBW : Hid (∀ V, Kp No wr V → V.cell? ⟨w.heap.size, 0, none⟩ = some (.int .i64 tag) ∧ V.cell? ⟨w.heap.size, 1, none⟩ = some (.int .u64 num) ∧ V.cell? ⟨w.heap.size, 2, none⟩ = some (.slice av lv cv) ∧ V.cell? ⟨w.heap.size, 3, none⟩ = some (.slice ak lk ck) ∧ w.heap.size < V.heap.size) := fun V hV => HBX.out V (HDT.out.2.2.andNone hV)
      clear hkn' HS H4 hlt
      go_wp2_with fail
      obtain ⟨okb, hokb⟩ : ∃ okb : Bool, (okb = true ↔ RightP D ∧ Tlv.sameT 9 t 3 (entsT D) = true) := by
        by_cases h : RightP D ∧ Tlv.sameT 9 t 3 (entsT D) = true
        · exact ⟨true, fun _ => h, fun _ => rfl⟩
        · exact ⟨false, fun e => (by cases e), fun e => absurd e h⟩
      have HOK := hid hokb
      clear hokb
      go_cut [38] (fun c wx => c = .bool (!okb) ∧ Hid (Kp No wr wx))
      case first =>
        by_cases hR : RightP D
        · have hob : okb = Tlv.sameT 9 t 3 (entsT D) := by
            rw [Bool.eq_iff_iff]
            exact HOK.out.trans ⟨fun x => x.2, fun x => ⟨hR, x⟩⟩
          have HRT : Hid (∀ V, Kp No wr V → Calls Tryz.prog 112 #[.slice ad k cap] V fun e w' => e = .returned (.bool true) ∧ Kp No V w') := fun V hV => (right_any V _ D _ (HEV.out.kept hV) (by omega)).mono fun e w' h => ⟨by obtain ⟨⟨b, rfl, hb⟩, _⟩ := h; rw [hb.2 hR], h.2⟩
          have HVV : Hid (∀ V, Kp No wr V → Calls Tryz.prog 114 #[.slice ad k cap] V fun e w' => ∃ a3 l3 p3 a4 l4 p4, e = .returned (.agg #[.int .i64 3, .int .u64 0, .slice a3 l3 p3, .slice a4 l4 p4]) ∧ Tlv.Rep 0 w'.heap.size w' 3 (entsT D) (.slice a3 l3 p3) (.slice a4 l4 p4) ∧ Kp No V w') := by
            intro V hV
            refine (value_any V _ D _ (HEV.out.kept hV) hR.places (by omega)).mono ?_
            rintro e w4 ⟨a3, l3, p3, a4, l4, p4, rfl, hr4, hb4⟩
            exact ⟨_, _, _, _, _, _, rfl, hr4.agree (Agree.refl _ _ _) (Nat.zero_le _) (Nat.le_refl _), Kp.below hb4⟩
          have HSS : Hid (∀ V sb' sk', Kp No wr V → Tlv.Rep 0 V.heap.size V 3 (entsT D) sb' sk' → Calls Tryz.prog 171 #[.agg #[.int .i64 tag, .int .u64 num, .slice av lv cv, .slice ak lk ck], .agg #[.int .i64 3, .int .u64 0, sb', sk']] V fun e w' => e = .returned (.bool okb) ∧ Kp No V w') := by
            intro V sb' sk' hV hR2
            have hk := HKW.out.andNone hV
            have h1 := HREP.out.agree (L' := 0) (B' := V.heap.size) (Agree.below (hk.toBelow'.mono hB)) (Nat.zero_le _) (Nat.le_trans hB hk.size)
            have h3 := Tlv.Same_any t (entsT D) _ _ _ _ V h1 hR2 (by omega)
            obtain ⟨e0, e1⟩ := HH.out
            rw [e0, e1, ← hob] at h3
            exact h3.mono fun e w' h => ⟨h.1, Kp.below h.2⟩
          clear hob hR
          refine wp_region_held_drew (S := fun V => Kp No wr V) (by kernel_rfl) ((Kp.refl _ _).drew) (fun hHeld => ?_)
          refine wpAnyH_take (i := 0) (oi := ⟨some 29, .move (.tmp 4), 81, "sealed.go:76", #[], none⟩) (v := .slice ad k cap) rfl (by kernel_rfl) (by kernel_rfl) (by kernel_rfl) (fun _ _ _ h => h) (Or.inl ⟨by rfl, fun w' hw' => by (clear hw'; go_simp)⟩) hHeld ?_
          simp only [Act.put, sjA, sjB, sjC]
          refine wpAnyH_ready (rs := [1]) (by kernel_rfl) (by simp) ?_
          refine AllReadyH.cons (o := ⟨some 30, .call { callee := Callee.value (Operand.func 112), args := #[.tmp 29], argTypes := #[81] }, 4, "sealed.go:76", #[⟨0, .data⟩], none⟩) rfl (fun K hK => ?_) AllReadyH.nil
          go_simp
          refine (HRT.out _ ((Kp.refl No wr).drew)).mono ?_
          rintro e w3 ⟨rfl, hb3⟩
          have HK3 : Hid (Kp No wr w3) := ((Kp.refl No wr).drew).andNone hb3
          clear hb3
          go_wp2_with fail
          refine hK.out _ _ (HK3.out) (fun hh => ?_)
          clear hK K hHeld
          have hHeld := hh
          clear hh
          try simp only [Act.put, sjA, sjB, sjC]
          refine wpAnyH_take (i := 2) (oi := ⟨some 31, .unOp UnOp.not 4 (.tmp 30), 4, "sealed.go:76", #[⟨1, .data⟩], none⟩) (v := .bool false) rfl (by kernel_rfl) (by kernel_rfl) (by kernel_rfl) (fun _ _ _ h => h) (Or.inl ⟨by rfl, fun w' hw' => by (clear hw'; go_simp)⟩) hHeld ?_
          simp only [Act.put, sjA, sjB, sjC]
          refine wpAnyH_take (i := 3) (oi := ⟨some 32, .move (.tmp 31), 4, "sealed.go:76", #[⟨2, .data⟩, ⟨1, .chain⟩], none⟩) (v := .bool false) rfl (by kernel_rfl) (by kernel_rfl) (by kernel_rfl) (fun _ _ _ h => h) (Or.inl ⟨by rfl, fun w' hw' => by (clear hw'; go_simp)⟩) hHeld ?_
          simp only [Act.put, sjA, sjB, sjC]
          refine wpAnyH_take (i := 4) (oi := ⟨some 33, .load 203 (.tmp 1), 203, "sealed.go:76", #[⟨3, .guard⟩], some (3, false)⟩) (v := .agg #[.int .i64 tag, .int .u64 num, .slice av lv cv, .slice ak lk ck]) rfl (by kernel_rfl) (by kernel_rfl) (by kernel_rfl) (fun _ _ _ h => h) (Or.inl ⟨by rfl, fun w' hw' => by (obtain ⟨q0, q1, q2, q3, q4⟩ := HBW.out _ hw'; clear hw'; go_simp)⟩) hHeld ?_
          simp only [Act.put, sjA, sjB, sjC]
          refine wpAnyH_take (i := 5) (oi := ⟨some 34, .move (.tmp 4), 81, "sealed.go:76", #[⟨3, .guard⟩], some (3, false)⟩) (v := .slice ad k cap) rfl (by kernel_rfl) (by kernel_rfl) (by kernel_rfl) (fun _ _ _ h => h) (Or.inl ⟨by rfl, fun w' hw' => by (clear hw'; go_simp)⟩) hHeld ?_
          simp only [Act.put, sjA, sjB, sjC]
          refine wpAnyH_ready (rs := [6]) (by kernel_rfl) (by simp) ?_
          refine AllReadyH.cons (o := ⟨some 35, .call { callee := Callee.value (Operand.func 114), args := #[.tmp 34], argTypes := #[81] }, 203, "sealed.go:76", #[⟨5, .data⟩, ⟨3, .chain⟩, ⟨3, .guard⟩], some (3, false)⟩) rfl (fun K hK => ?_) AllReadyH.nil
          go_simp
          refine (HVV.out w3 HK3.out).mono ?_
          rintro e w4 ⟨a3, l3, p3, a4, l4, p4, rfl, hr4, hb4⟩
          have HR4 := hid hr4
          have HK4 : Hid (Kp No wr w4) := HK3.out.andNone hb4
          clear hr4 hb4
          go_wp2_with fail
          refine hK.out _ _ (HK4.out) (fun hh => ?_)
          clear hK K hHeld
          have hHeld := hh
          clear hh
          try simp only [Act.put, sjA, sjB, sjC]
          refine wpAnyH_ready (rs := [7]) (by kernel_rfl) (by simp) ?_
          refine AllReadyH.cons (o := ⟨some 36, .call { callee := Callee.value (Operand.func 171), args := #[.tmp 33, .tmp 35], argTypes := #[203, 203] }, 4, "sealed.go:76", #[⟨4, .data⟩, ⟨6, .data⟩, ⟨6, .chain⟩, ⟨3, .guard⟩], some (3, false)⟩) rfl (fun K hK => ?_) AllReadyH.nil
          go_simp
          refine (HSS.out w4 _ _ HK4.out HR4.out).mono ?_
          rintro e w5 ⟨rfl, hb5⟩
          have HK5 : Hid (Kp No wr w5) := HK4.out.andNone hb5
          clear hb5
          go_wp2_with fail
          refine hK.out _ _ (HK5.out) (fun hh => ?_)
          clear hK K hHeld
          have hHeld := hh
          clear hh
          try simp only [Act.put, sjA, sjB, sjC]
          refine wpAnyH_take (i := 8) (oi := ⟨some 37, .unOp UnOp.not 4 (.tmp 36), 4, "sealed.go:76", #[⟨7, .data⟩, ⟨3, .guard⟩], some (3, false)⟩) (v := .bool (!okb)) rfl (by kernel_rfl) (by kernel_rfl) (by kernel_rfl) (fun _ _ _ h => h) (Or.inl ⟨by rfl, fun w' hw' => by (clear hw'; go_simp)⟩) hHeld ?_
          simp only [Act.put, sjA, sjB, sjC]
          refine wpAnyH_take (i := 9) (oi := ⟨some 38, .pick (.tmp 32) (Operand.const (Value.bool true)) (.tmp 37), 4, "sealed.go:76", #[⟨3, .data⟩, ⟨8, .data⟩], none⟩) (v := .bool (!okb)) rfl (by kernel_rfl) (by kernel_rfl) (by kernel_rfl) (fun _ _ _ h => h) (Or.inl ⟨by rfl, fun w' hw' => by (clear hw'; go_simp)⟩) hHeld ?_
          simp only [Act.put, sjA, sjB, sjC]
          refine wpAnyH_done (by kernel_rfl) ?_ _
          go_wp2_with fail
          go_meet
          exact ⟨rfl, HK5.out⟩
        · have hob : okb = false := by
            cases okb with
            | false => rfl
            | true => exact absurd (HOK.out.1 rfl).1 hR
          have HRT : Hid (∀ V, Kp No wr V → Calls Tryz.prog 112 #[.slice ad k cap] V fun e w' => e = .returned (.bool false) ∧ Kp No V w') := fun V hV => (right_any V _ D _ (HEV.out.kept hV) (by omega)).mono fun e w' h => ⟨by obtain ⟨⟨b, rfl, hb⟩, _⟩ := h; cases b with | false => rfl | true => exact absurd (hb.1 rfl) hR, h.2⟩
          subst hob
          clear hR
          refine wp_region_held_drew (S := fun V => Kp No wr V) (by kernel_rfl) ((Kp.refl _ _).drew) (fun hHeld => ?_)
          refine wpAnyH_take (i := 0) (oi := ⟨some 29, .move (.tmp 4), 81, "sealed.go:76", #[], none⟩) (v := .slice ad k cap) rfl (by kernel_rfl) (by kernel_rfl) (by kernel_rfl) (fun _ _ _ h => h) (Or.inl ⟨by rfl, fun w' hw' => by (clear hw'; go_simp)⟩) hHeld ?_
          simp only [Act.put, sjA, sjB, sjC]
          refine wpAnyH_ready (rs := [1]) (by kernel_rfl) (by simp) ?_
          refine AllReadyH.cons (o := ⟨some 30, .call { callee := Callee.value (Operand.func 112), args := #[.tmp 29], argTypes := #[81] }, 4, "sealed.go:76", #[⟨0, .data⟩], none⟩) rfl (fun K hK => ?_) AllReadyH.nil
          go_simp
          refine (HRT.out _ ((Kp.refl No wr).drew)).mono ?_
          rintro e w3 ⟨rfl, hb3⟩
          have HK3 : Hid (Kp No wr w3) := ((Kp.refl No wr).drew).andNone hb3
          clear hb3
          go_wp2_with fail
          refine hK.out _ _ (HK3.out) (fun hh => ?_)
          clear hK K hHeld
          have hHeld := hh
          clear hh
          try simp only [Act.put, sjA, sjB, sjC]
          refine wpAnyH_take (i := 2) (oi := ⟨some 31, .unOp UnOp.not 4 (.tmp 30), 4, "sealed.go:76", #[⟨1, .data⟩], none⟩) (v := .bool true) rfl (by kernel_rfl) (by kernel_rfl) (by kernel_rfl) (fun _ _ _ h => h) (Or.inl ⟨by rfl, fun w' hw' => by (clear hw'; go_simp)⟩) hHeld ?_
          simp only [Act.put, sjA, sjB, sjC]
          refine wpAnyH_take (i := 3) (oi := ⟨some 32, .move (.tmp 31), 4, "sealed.go:76", #[⟨2, .data⟩, ⟨1, .chain⟩], none⟩) (v := .bool true) rfl (by kernel_rfl) (by kernel_rfl) (by kernel_rfl) (fun _ _ _ h => h) (Or.inl ⟨by rfl, fun w' hw' => by (clear hw'; go_simp)⟩) hHeld ?_
          simp only [Act.put, sjA, sjB, sjC]
          refine wpAnyH_take (i := 4) (oi := ⟨some 33, .load 203 (.tmp 1), 203, "sealed.go:76", #[⟨3, .guard⟩], some (3, false)⟩) (v := undef) rfl (by kernel_rfl) (by kernel_rfl) (by kernel_rfl) (fun _ _ _ h => h) (Or.inr ⟨by rfl, rfl⟩) hHeld ?_
          simp only [Act.put, sjA, sjB, sjC]
          refine wpAnyH_take (i := 5) (oi := ⟨some 34, .move (.tmp 4), 81, "sealed.go:76", #[⟨3, .guard⟩], some (3, false)⟩) (v := undef) rfl (by kernel_rfl) (by kernel_rfl) (by kernel_rfl) (fun _ _ _ h => h) (Or.inr ⟨by rfl, rfl⟩) hHeld ?_
          simp only [Act.put, sjA, sjB, sjC]
          refine wpAnyH_take (i := 6) (oi := ⟨some 35, .call { callee := Callee.value (Operand.func 114), args := #[.tmp 34], argTypes := #[81] }, 203, "sealed.go:76", #[⟨5, .data⟩, ⟨3, .chain⟩, ⟨3, .guard⟩], some (3, false)⟩) (v := undef) rfl (by kernel_rfl) (by kernel_rfl) (by kernel_rfl) (fun _ _ _ h => h) (Or.inr ⟨by rfl, rfl⟩) hHeld ?_
          simp only [Act.put, sjA, sjB, sjC]
          refine wpAnyH_take (i := 7) (oi := ⟨some 36, .call { callee := Callee.value (Operand.func 171), args := #[.tmp 33, .tmp 35], argTypes := #[203, 203] }, 4, "sealed.go:76", #[⟨4, .data⟩, ⟨6, .data⟩, ⟨6, .chain⟩, ⟨3, .guard⟩], some (3, false)⟩) (v := undef) rfl (by kernel_rfl) (by kernel_rfl) (by kernel_rfl) (fun _ _ _ h => h) (Or.inr ⟨by rfl, rfl⟩) hHeld ?_
          simp only [Act.put, sjA, sjB, sjC]
          refine wpAnyH_take (i := 8) (oi := ⟨some 37, .unOp UnOp.not 4 (.tmp 36), 4, "sealed.go:76", #[⟨7, .data⟩, ⟨3, .guard⟩], some (3, false)⟩) (v := undef) rfl (by kernel_rfl) (by kernel_rfl) (by kernel_rfl) (fun _ _ _ h => h) (Or.inr ⟨by rfl, rfl⟩) hHeld ?_
          simp only [Act.put, sjA, sjB, sjC]
          refine wpAnyH_take (i := 9) (oi := ⟨some 38, .pick (.tmp 32) (Operand.const (Value.bool true)) (.tmp 37), 4, "sealed.go:76", #[⟨3, .data⟩, ⟨8, .data⟩], none⟩) (v := .bool true) rfl (by kernel_rfl) (by kernel_rfl) (by kernel_rfl) (fun _ _ _ h => h) (Or.inl ⟨by rfl, fun w' hw' => by (clear hw'; go_simp)⟩) hHeld ?_
          simp only [Act.put, sjA, sjB, sjC]
          refine wpAnyH_done (by kernel_rfl) ?_ _
          go_wp2_with fail
          go_meet
          exact ⟨rfl, HK3.out⟩
      case rest =>
        obtain ⟨rfl, HKX⟩ := hcut
        cases okb with
        | false =>
          have HNG : Hid (¬ GoodT t) := fun h => by have := HOK.out.2 (HGD.out.1 h); cases this
          go_wp2_with fail
          go_ret2
          exact ⟨.inl ⟨HNG.out, rfl⟩, HKW.out.andNone HKX.out⟩
        | true =>
          have HG : Hid (GoodT t) := HGD.out.2 (HOK.out.1 rfl)
          go_wp2_with fail
          go_ret2
          exact ⟨.inr ⟨HG.out, _, rfl, HMW.out _ HKX.out, HAL.out.2⟩, HKW.out.andNone HKX.out⟩
end Go.Proofs.YthmimipoooemjaaGreatDoor.Sg
end
