/-
  The statements' own Alike, of two systems that are the same.
-/
import Derived.Test.YtmiipifhbliamaaGreatSimNice
import Derived.Test.YtmiipifhbliamaaGreatSimRList
import Derived.Deep.RegionHeld3
namespace Go.Proofs.YtmiipifhbliamaaGreat.Sim
open Go.RowKit Go.Maps

set_option maxHeartbeats 4000000 in
set_option maxRecDepth 100000 in
theorem alike_any {A : Nat → Prop} {N : Nat} {w : World} {s m : Nat} {p r : PS} {g : Nat → Nat} (h : Two A N w s p m r) (hr : Rel g p r) (hn : Nice p) :
    Calls Tryz.prog 11 #[.pointer (some ⟨s, 0, none⟩), .pointer (some ⟨m, 0, none⟩)] w fun e w' => e = .returned (.bool true) ∧ Kp No w w' := by
  have hI : PInv N p := by obtain ⟨P, Q, h1, _⟩ := h; exact h1.inv
  have hml : m < w.heap.size := by obtain ⟨P, Q, _, ⟨_, _, _, _, _, _, _, h2, _⟩, _⟩ := h; exact h2.lt m h2.qm
  have q6 : w.cell? ⟨m, 6, none⟩ = some (.bool p.down) := by obtain ⟨P, Q, _, ⟨_, _, _, _, _, _, _, h2, _⟩, _⟩ := h; rw [← hr.down]; exact h2.c 6
  have q7 : w.cell? ⟨m, 7, none⟩ = some (.int .i64 (p.steps : Int)) := by obtain ⟨P, Q, _, ⟨_, _, _, _, _, _, _, h2, _⟩, _⟩ := h; rw [← hr.steps]; exact h2.c 7
  have hlen : (pList p).length ≤ 1000 := by
    unfold pList
    split
    · simp
    · rw [List.length_map]
      have := hI.lseen
      have := hI.big
      omega
  have HL : Hid (Calls Tryz.prog 12 #[.pointer (some ⟨s, 0, none⟩)] w fun e w' => ∃ u, e = .returned u ∧ OwnN w' u (pList p) ∧ (∀ x, u.ownBlock = some x → w.heap.size ≤ x) ∧ Kp No w w') := by obtain ⟨P, Q, h1, _⟩ := h; exact list_any w s p h1
  have HT := hid h
  have HRL := hid (rel_list hr)
  have HRU := hid (rel_used hr hI)
  have HRB := hid (fun n => rel_bytes hr hI n)
  have HRF := hid (fun n => rel_finds hr n)
  have HNF := hid (fun n (hh : n ∈ pList p) => nice_found hn hh)
  have HNS : Hid (∀ n ∈ pList p, n.length ≤ 40) := fun n hh => by
    unfold pList at hh
    split at hh
    · simp at hh
    · obtain ⟨e, he, rfl⟩ := List.mem_map.1 hh
      exact (hI.hasSeen e he).2
  clear h hr hn hI
  go_enter Tryz.func11, Tryz.ntmps11
  go_wp2_with fail
  refine HL.out.mono ?_
  rintro e w1 ⟨u, rfl, hu, hub, k1⟩
  obtain ⟨ua, uc, rfl, huc, hum, _⟩ := Row.shape hu
  have HU := hid hu
  have K1 := hid k1
  have hm1 : m < w1.heap.size := Nat.lt_of_lt_of_le hml k1.size
  have HT1 := hid (HT.out.kept k1)
  have p6 := (k1.cell (p := ⟨m, 6, none⟩) hml (fun h => h)).trans q6
  have p7 := (k1.cell (p := ⟨m, 7, none⟩) hml (fun h => h)).trans q7
  have r6 : ∀ V, Kp No w1 V → V.cell? ⟨m, 6, none⟩ = some (.bool p.down) := fun V k => (k.cell (p := ⟨m, 6, none⟩) hm1 (fun h => h)).trans p6
  have r7 : ∀ V, Kp No w1 V → V.cell? ⟨m, 7, none⟩ = some (.int .i64 (p.steps : Int)) := fun V k => (k.cell (p := ⟨m, 7, none⟩) hm1 (fun h => h)).trans p7
  have C1 : Hid (∀ V, Kp No w1 V → Calls Tryz.prog 42 #[.pointer (some ⟨m, 0, none⟩)] V fun e w' => ∃ a c, e = .returned (.slice a (pList p).length c) ∧ NmP (fun _ => True) w' (.slice a (pList p).length c) (pList p) ∧ Kp No w1 w') := fun V k => by
    obtain ⟨P, Q, _, h2, _⟩ := HT1.out.kept k
    refine (rlist_any V m r h2).mono ?_
    rintro e w' ⟨u, rfl, h3, _, h5⟩
    rw [HRL.out] at h3
    obtain ⟨a, c, rfl, _⟩ := Row.shape h3
    exact ⟨a, c, rfl, OwnN.nmP h3 (fun _ _ => trivial), k.andNone h5⟩
  have C2 : Hid (∀ V a c, Kp No w1 V → NmP (fun _ => True) V (.slice a (pList p).length c) (pList p) → Calls Tryz.prog 41 #[.slice ua (pList p).length uc, .slice a (pList p).length c] V fun e w' => e = .returned (.bool true) ∧ Kp No w1 w') := fun V a c k hh => by
    have hx : NmP (fun _ => True) V (.slice ua (pList p).length uc) (pList p) := OwnN.nmP (Row.kept HU.out k) (fun _ _ => trivial)
    refine (rnames_any _ _ (pList p) (pList p) V hx hh (by omega)).mono ?_
    rintro e w' ⟨rfl, h5⟩
    exact ⟨by simp, k.andNone h5⟩
  have C3 : Hid (∀ V, Kp No w1 V → Calls Tryz.prog 43 #[.pointer (some ⟨s, 0, none⟩)] V fun e w' => e = .returned (.int .i64 (used p : Nat)) ∧ Kp No w1 w') := fun V k => by
    obtain ⟨P, Q, h1, _⟩ := HT1.out.kept k
    refine (used_any V s p h1).mono ?_
    rintro e w' ⟨rfl, h5⟩
    exact ⟨rfl, k.andNone h5⟩
  have C4 : Hid (∀ V, Kp No w1 V → Calls Tryz.prog 44 #[.pointer (some ⟨m, 0, none⟩)] V fun e w' => e = .returned (.int .i64 (used p : Nat)) ∧ Kp No w1 w') := fun V k => by
    obtain ⟨P, Q, _, h2, _⟩ := HT1.out.kept k
    refine (rused_any V m r h2).mono ?_
    rintro e w' ⟨rfl, h5⟩
    exact ⟨by rw [HRU.out], k.andNone h5⟩
  have C5 : Hid (∀ V, Kp No w1 V → Calls Tryz.prog 45 #[.pointer (some ⟨s, 0, none⟩)] V fun e w' => e = .returned (.bool p.down) ∧ Kp No w1 w') := fun V k => by
    refine (two_down (HT1.out.kept k)).mono ?_
    rintro e w' ⟨rfl, rfl⟩
    exact ⟨rfl, k⟩
  have C6 : Hid (∀ V, Kp No w1 V → Calls Tryz.prog 46 #[.pointer (some ⟨s, 0, none⟩)] V fun e w' => e = .returned (.int .i64 (p.steps : Nat)) ∧ Kp No w1 w') := fun V k => by
    refine (two_steps (HT1.out.kept k)).mono ?_
    rintro e w' ⟨rfl, rfl⟩
    exact ⟨rfl, k⟩
  have C7 : Hid (∀ V n, n ∈ pList p → Kp No w1 V → Calls Tryz.prog 13 #[.pointer (some ⟨s, 0, none⟩), .string (sOf n)] V fun e w' => ∃ a c, e = .returned (.tuple #[.slice a (pBytes n p).length c, .int .i64 0]) ∧ ByP (fun _ => True) w' (.slice a (pBytes n p).length c) (pBytes n p) ∧ Kp No w1 w') := fun V n hn k => by
    have hT := HT1.out.kept k
    have hsz : (sOf n).size ≤ 1000000 := by rw [sOf_size]; have := HNS.out n hn; omega
    refine (two_read hT (sOf n) hsz).mono ?_
    rintro e w' ⟨a, c, rfl, ho, _, h5⟩
    rw [nm_sOf] at ho ⊢
    rw [HNF.out n hn]
    obtain ⟨P, Q, h1, _⟩ := hT
    obtain ⟨b1, b2⟩ := sys_bytes h1 n
    exact ⟨a, c, rfl, ho.byP (fun _ _ => trivial) (by omega) b1, k.andNone h5⟩
  have C8 : Hid (∀ V n, n ∈ pList p → Kp No w1 V → Calls Tryz.prog 27 #[.pointer (some ⟨m, 0, none⟩), .string (sOf n)] V fun e w' => ∃ a c, ∃ Q : Nat → Prop, e = .returned (.tuple #[.slice a (pBytes n p).length c, .int .i64 0]) ∧ ByP Q w' (.slice a (pBytes n p).length c) (pBytes n p) ∧ Kp No V w' ∧ Kp No w1 w') := fun V n hn k => by
    have hT := HT1.out.kept k
    have hsz : (sOf n).size ≤ 1000000 := by rw [sOf_size]; have := HNS.out n hn; omega
    refine (two_rread hT (sOf n) hsz).mono ?_
    rintro e w' ⟨a, c, Q, rfl, ho, _, h5⟩
    rw [nm_sOf, HRB.out] at ho ⊢
    rw [HRF.out, HNF.out n hn]
    exact ⟨a, c, Q, rfl, ho, h5, k.andNone h5⟩
  have b1 : (p.steps != p.steps) = false := by simp
  have b2 : (p.down != p.down) = false := by simp
  have b3 : (used p != used p) = false := by simp
  clear hu hub k1 HL HT HT1 HRL HRU HRB HRF HNF HNS p6 p7 q6 q7 hml
  generalize hLL : pList p = L at *
  go_wp2_with fail
  go_region_held3 (fun V => Kp No w1 V) (first | (with_reducible exact (Kp.refl _ _).drew) | (with_reducible exact KV.out)) (first | (go_at_call 42; refine (C1.out _ ?_).mono ?_; (with_reducible exact (Kp.refl _ _).drew); rintro e v1 ⟨a2, c2, rfl, n1, k1⟩; have N1 := hid n1; have KV := hid k1; clear n1 k1) | (go_at_call 41; refine (C2.out _ _ _ KV.out N1.out).mono ?_; rintro e v2 ⟨rfl, k2⟩; have KV := hid k2; clear k2) | (go_at_call 43; refine (C3.out _ KV.out).mono ?_; rintro e v3 ⟨rfl, k3⟩; have KV := hid k3; clear k3) | (go_at_call 44; refine (C4.out _ KV.out).mono ?_; rintro e v3 ⟨rfl, k3⟩; have KV := hid k3; clear k3) | (go_at_call 45; refine (C5.out _ KV.out).mono ?_; rintro e v3 ⟨rfl, k3⟩; have KV := hid k3; clear k3) | (go_at_call 46; refine (C6.out _ KV.out).mono ?_; rintro e v3 ⟨rfl, k3⟩; have KV := hid k3; clear k3))
  clear C1 C2 C3 C4 C5 C6 N1 r6 r7 b1 b2 b3
  go_wp2_with fail
  go_loopw [6] (fun x wr => ∃ i : Nat, x = .int .i64 (i : Int) ∧ i ≤ L.length ∧ Hid (Kp No w1 wr)) (fun x _ => L.length - (intOf x).toNat)
  case atStart => exact ⟨0, rfl, Nat.zero_le _, KV.out⟩
  case round =>
    obtain ⟨i, rfl, hi, KR⟩ := hrel
    clear KV
    by_cases hlt : i < L.length
    · have hx : NmP (fun _ => True) wr (.slice ua L.length uc) L := OwnN.nmP (Row.kept HU.out KR.out) (fun _ _ => trivial)
      obtain ⟨_, _, e0, _, _, hcell⟩ := hx
      simp only [Value.slice.injEq, true_and] at e0
      obtain ⟨rfl, rfl⟩ := e0
      obtain ⟨ug, rfl, _, hul, hcell⟩ := hcell (fun e => by rw [e] at hlt; simp at hlt)
      have hul1 : ug < w1.heap.size := Row.lt HU.out ug rfl
      have hci : ∀ V, Kp No w1 V → V.cell? ⟨ug, i, none⟩ = some (.string (sOf L[i])) := fun V k => by
        rw [(k.cell (p := ⟨ug, i, none⟩) hul1 (fun h => h)), ← (KR.out.cell (p := ⟨ug, i, none⟩) hul1 (fun h => h))]
        exact hcell i L[i] (List.getElem?_eq_getElem hlt)
      have HCI := hid hci
      have c0 := hci wr KR.out
      have HM : Hid (L[i] ∈ L) := List.getElem_mem hlt
      clear hcell hci hul hul1
      generalize L[i] = n at *
      generalize hsn : sOf n = sn at *
      go_wp2_with fail
      refine (hsn ▸ C7.out wr n HM.out KR.out).mono ?_
      rintro e w2 ⟨a3, c3, rfl, hb, k2⟩
      have HB := hid hb
      have K2 := hid k2
      have c2 := HCI.out w2 k2
      clear hb k2 c0
      go_wp2_with fail
      refine (hsn ▸ C8.out w2 n HM.out K2.out).mono ?_
      rintro e w3 ⟨a4, c4, Q4, rfl, hb4, k3, k3'⟩
      have HB3 := hid (HB.out.kept k3)
      have HB4 := hid hb4
      have K3 := hid k3'
      clear hb4 k3 k3' c2 HB K2
      generalize pBytes n p = bs at *
      go_wp2_with fail
      refine (qbytes_any _ _ bs bs w3 HB3.out HB4.out).mono ?_
      rintro e w4 ⟨rfl, k4⟩
      rw [show decide (bs = bs) = true from by simp]
      have K4 := hid (K3.out.andNone k4)
      clear k4
      go_wp2_with fail
      go_round
      case rel => exact ⟨i + 1, by go_num, by omega, K4.out⟩
      case measure => simp [intOf]; omega
    · go_wp2
      go_ret
      exact ⟨rfl, K1.out.andNone KR.out⟩

end Go.Proofs.YtmiipifhbliamaaGreat.Sim
