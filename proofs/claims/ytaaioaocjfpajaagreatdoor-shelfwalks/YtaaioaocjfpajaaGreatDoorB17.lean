/- Of the proof: the texts ShAliveM, ShAlive, ShWalks, one behind the other. -/
import Derived.Test.YtaaioaocjfpajaaGreatDoorB15
import Derived.Test.YtaaioaocjfpajaaGreatDoorB16
import Derived.Test.YtaaioaocjfpajaaGreatDoorB11
import Derived.Test.YtaaioaocjfpajaaGreatDoorB12
import Derived.Test.YtaaioaocjfpajaaGreatDoorB6
import Derived.Test.YtaaioaocjfpajaaGreatDoorB9
import Derived.Test.YtaaioaocjfpajaaGreatDoorB7
section
/-
  What alive of the ninth law comes to, purely: one record laid on a fresh disk.
-/
namespace Go.Proofs.YtaaioaocjfpajaaGreatDoor.Sh
open Go.RowKit Go.Shelf
open Tlv (BySlS)
open Sim (hid Kp No PS Blk nm finds pBytes pList startPS q1 q2 q5 nameB)

theorem nameP_1 : nameP 1 = ⟨#[112, 97, 99, 107, 46, 49]⟩ := by
  rw [nameP, sortB, Lib.decDigits_one (by omega)]
  rfl
theorem nameT_1 : nameT 1 = ⟨#[116, 109, 112, 46, 49]⟩ := by
  rw [nameT, sortB, Lib.decDigits_one (by omega)]
  rfl
theorem nT1 : nameB (nm (nameT 1)) = true := by rw [nameT_1]; decide
theorem nP1 : nameB (nm (nameP 1)) = true := by rw [nameP_1]; decide
/-- The record. -/
def rX : Rec := (1, List.replicate 32 0, [120])
theorem rX_ok : Rt rX := rightX
theorem rX_len : (frOf rX).length = 50 := frOf_length rX_ok
/-- The disk with one pack of one record. -/
def dX (x : Nat) : PS := q5 (nm (nameT 1)) (nm (nameP 1)) 1000 x (nats (frOf rX))

theorem lpF_x (x : Nat) (a : Option Addr) (c : Nat) : lpF 1 x (startPS 1000) [((rX, a, c) : El)] = (0, dX x) := by
  have e1 : Sim.pCreate (nm (nameT 1)) x (startPS 1000) = (0, q1 (nm (nameT 1)) 1000 x) := Sim.start_create nT1
  have e2 : aps 1 (q1 (nm (nameT 1)) 1000 x) [((rX, a, c) : El)] = (0, q2 (nm (nameT 1)) 1000 x (nats (frOf rX))) := by
    rw [aps, List.foldl_cons, List.foldl_nil, if_neg (by simp)]
    show Sim.pAppend (nm (nameT 1)) (nats (frOf rX)) _ = _
    exact Sim.q1_append nT1 (by rw [nats_length]; have h := rX_len; omega)
  have e3 : sealF 1 (q2 (nm (nameT 1)) 1000 x (nats (frOf rX))) = (0, dX x) := by
    rw [sealF, Sim.q2_fsync nT1, if_neg (by simp), Sim.q3_rename nT1 nP1, if_neg (by simp), Sim.q4_sync]
    rfl
  rw [lpF, e1, if_neg (by simp), e2, if_neg (by simp), e3, if_neg (by simp)]
theorem list_start (r : Nat) : pList (startPS r) = [] := rfl
theorem ids_start : idsP (startPS 1000) = [] := by simp [idsP, list_start]
theorem list_x (x : Nat) : pList (dX x) = [nm (nameP 1)] := by
  rw [pList, if_neg (by simp [dX, q5, Sim.settle, Sim.tick, Sim.q4, Sim.chgd, Sim.q3, Sim.setF, Sim.q2, Sim.q1, startPS]), dX, Sim.q5_seen]
  rfl
theorem ids_x (x : Nat) : idsP (dX x) = [1] := by
  have e : idN (nm (nameP 1)) = some 1 := by
    have h := idOf_name (p := packS) (u := 1) (by omega) (by omega)
    have h2 : (⟨(nm (nameP 1)).toArray⟩ : ByteArray) = nameZ packS ((1 : Nat) : Int) := by
      rw [nameP_1, nameZ_of (p := packS) (by omega) (by omega), Lib.decDigits_one (by omega)]
      rfl
    rw [idN, h2, h]
    rfl
  simp [idsP, list_x, e]
theorem max_x : maxZ ([1] ++ [1]) = 1 := by decide
theorem max_start : maxZ (idsP (startPS 1000) ++ [0]) + 1 = ((1 : Nat) : Int) := by rw [ids_start]; decide
theorem parts_x (a : Option Addr) (c : Nat) : parts [((rX, a, c) : El)] = [[((rX, a, c) : El)]] := by
  simp [parts, dl, dlStep, szs, szE, rX]

/-- What is known of a state behind k packs. -/
def GX (k : Nat) (p : PS) (n : Int) : Prop := k = 0 → p = startPS 1000 ∧ n = 0
theorem pre_x : Pre GX 1 := fun k p n hk hG => by
  obtain rfl : k = 0 := by omega
  obtain ⟨rfl, rfl⟩ := hG rfl
  refine ⟨1, max_start, by omega, by omega, ?_, by simp [list_start], by simp [ids_start], fun x z _ _ _ _ _ h => absurd h (by omega)⟩
  rw [Sim.start_finds nP1]
  omega
theorem one_part {z y : List El} {ps r : List (List El)} (h : [z] = ps ++ y :: r) : ps = [] ∧ y = z := by
  cases ps with
  | nil => simp at h; exact ⟨rfl, h.1.symm⟩
  | cons a ps => simp at h
theorem layR_x {a : Option Addr} {c : Nat} {p : PS} {n : Int} {qs : List Pl} (h : LayR (startPS 1000) 0 [[((rX, a, c) : El)]] p n qs) : ∃ x, p = dX x ∧ n = 1 ∧ qs = [(1, 0, 50)] := by
  generalize hps : [[((rX, a, c) : El)]] = ps at h
  cases h with
  | nil => simp at hps
  | snoc h hi hx h0 =>
    rename_i ps p' n' qs' i x z
    obtain ⟨rfl, rfl⟩ := one_part hps
    generalize he : ([] : List (List El)) = ps at h
    cases h with
    | nil =>
      rw [max_start] at hi
      have hi1 : i = 1 := by omega
      subst hi1
      rw [lpF_x]
      exact ⟨x, rfl, rfl, rfl⟩
    | snoc => simp at he
theorem lay_x {P : Nat → Prop} {M : Nat} {w w' : World} {h s b φ : Nat} {ps : List (List El)} {a : Option Addr} {c : Nat} (e : LE P M w h s b (startPS 1000) 0 (parts [((rX, a, c) : El)]) w' ps φ) : φ = 0 := by
  obtain ⟨p, n, qs, i, x, z, P', hL, hi, _, hφ, _, _, _, _, _, r, hr⟩ := e
  rw [parts_x] at hr
  obtain ⟨rfl, rfl⟩ := one_part hr
  generalize hps : ([] : List (List El)) = ps at hL
  cases hL with
  | nil =>
    rw [max_start] at hi
    have hi1 : i = 1 := by omega
    subst hi1
    rw [lpF_x] at hφ
    exact hφ.symm
  | snoc => simp at hps
theorem read_x {x : Nat} {y : El} {f : Nat} (h : ReadA (finds (dX x) (nm (nameP 1))) (ints (pBytes (nm (nameP 1)) (dX x))) 0 50 y f) : f = 0 ∧ y.1 = rX := by
  have e1 : pBytes (nm (nameP 1)) (dX x) = nats (frOf rX) := Sim.q5_bytes nP1
  have e2 : finds (dX x) (nm (nameP 1)) = 0 := Sim.q5_finds nP1
  have e3 : takeF (frOf rX) = (0, rX, 50) := by
    have h := take_frame (k := 1) (nm := List.replicate 32 0) (bs := [120]) rightX []
    rw [List.append_nil] at h
    exact h
  rw [e1, e2, ints_nats (frOf rX) (frameR_bd rX_ok)] at h
  rcases h with ⟨h, _⟩ | ⟨_, y0, f0, hg, h⟩
  · omega
  have hg' : f0 = 0 ∧ y0.1 = rX := by
    rcases hg with ⟨h1, _⟩ | ⟨_, h1, _⟩ | ⟨k, _, h1, _, h2, _⟩ | ⟨k, _, h1, _, _, h2, h3⟩
    · exact absurd rfl h1
    · have := rX_len; omega
    · have hk : k = 0 := by omega
      subst hk
      rw [List.drop_zero, e3] at h2
      exact absurd rfl h2
    · have hk : k = 0 := by omega
      subst hk
      rw [List.drop_zero, e3] at h3
      exact ⟨h2, h3⟩
  obtain ⟨rfl, hy⟩ := hg'
  rcases h with ⟨h, _⟩ | ⟨_, h, _⟩ | ⟨_, _, h1, h2⟩
  · exact absurd rfl h
  · exact absurd (by rw [hy]; rfl) h
  · exact ⟨h1, by rw [h2]; exact hy⟩
end Go.Proofs.YtaaioaocjfpajaaGreatDoor.Sh
end

section
/-
  alive of the ninth law.
-/
namespace Go.Proofs.YtaaioaocjfpajaaGreatDoor.Sh
open Go.RowKit Go.Shelf
open Tlv (BySlS)
open Sim (hid Kp No PS Blk nm finds pBytes pList startPS Row)

theorem builtX (k : Int) (a : Option Addr) (l c : Nat) : Tryz.prog.built 68 [(0, .int .i64 k), (2, .slice a l c)] = some (recA k (List.replicate 32 0) (.slice a l c)).toArray := by kernel_rfl
theorem run_oneX (a : Option Addr) (w : World) : (Instr.buildSlice 35 1 #[(0, .agg (recA 1 (List.replicate 32 0) (.slice a 1 1)).toArray)]).run Tryz.prog w = .ok (.slice (some ⟨w.heap.size, 0, none⟩) 1 1) (w.alloc (.cells (recA 1 (List.replicate 32 0) (.slice a 1 1)).toArray 68)) := by kernel_rfl
theorem lit_x (w : World) (fr : Nat × Nat) : BySlS (fun g => g = w.heap.size) (w.alloc (.cells #[.int .u8 120] 5 fr)) (.slice (some ⟨w.heap.size, 0, none⟩) 1 1) [120] := by
  refine ⟨_, 1, rfl, Nat.le_refl _, by unfold maxLen; omega, by simp, by simp, by simp, fun _ => ⟨w.heap.size, 0, rfl, rfl, fun i hi => ?_⟩⟩
  have hi0 : i = 0 := by simpa using hi
  subst hi0
  rw [Nat.zero_add, World.cell?_alloc_mark]
  rfl
theorem rX_elok (a : Option Addr) (c : Nat) : elOk ((rX, a, c) : El) := ⟨by simp [rX], fun y hy => by have := List.eq_of_mem_replicate (show y ∈ List.replicate 32 (0 : Int) from hy); omega⟩
theorem rX_okR (a : Option Addr) (c : Nat) : [((rX, a, c) : El)].all okR = true := by simp [okR, rX, rightB]
/-- The record as it comes in. -/
theorem rv_x (w w1 : World) (k : Kp No w w1) (W : World) (x : Nat) (hx : BySlS (fun g => g = x) w1 (.slice (some ⟨x, 0, none⟩) 1 1) [120]) (hx2 : w.heap.size ≤ x ∧ x < w1.heap.size) (hW : W = w1.alloc (.cells (recA 1 (List.replicate 32 0) (.slice (some ⟨x, 0, none⟩) 1 1)).toArray 68)) :
    RV (fun g => w.heap.size ≤ g ∧ g < W.heap.size) W (.slice (some ⟨w1.heap.size, 0, none⟩) 1 1) [((rX, some ⟨x, 0, none⟩, 1) : El)] := by
  have hk : Kp No w1 W := by rw [hW]; exact (Kp.refl No w1).alloc _
  have hs : W.heap.size = w1.heap.size + 1 := by rw [hW]; simp
  have hsz := k.size
  refine ⟨_, 1, rfl, Nat.le_refl _, by unfold maxLen; omega, by simp, fun z hz => ?_, fun _ => ⟨w1.heap.size, 0, rfl, ⟨by omega, by omega⟩, by omega, fun i z hz j v hv => ?_⟩⟩
  · obtain rfl := List.mem_singleton.1 hz
    exact ⟨rX_elok _ _, bySlS_kp hx hk (fun g hg => ⟨fun e => e, by omega, ⟨by omega, by omega⟩, by omega⟩)⟩
  · have hi0 : i = 0 := by
      have := (List.getElem?_eq_some_iff.1 hz).1
      simp at this
      omega
    subst hi0
    simp at hz
    subst hz
    rw [hW, World.cell?_alloc_at _ _ _ _ rfl]
    simpa [elC, elV, rX] using hv

set_option maxHeartbeats 8000000 in
set_option maxRecDepth 100000 in
theorem alive_any (w : World) (hV : Vars w) : Calls Tryz.prog 5 #[] w fun e w' => e = .returned (.bool true) ∧ Kp No w w' := by
  have HV := hid hV
  clear hV
  have hz0 := zero35
  obtain ⟨Z, hZ⟩ : ∃ Z, zRec = Z := ⟨_, rfl⟩
  have HZL : Hid (Z.length = 34) := by rw [← hZ]; exact zRec_length
  rw [hZ] at hz0
  clear hZ
  have kc := fun (w : World) (C : Array Value) (n c : Nat) => Lib.run_convert_bytes_const (P := Tryz.prog) w 54 5 C n c Tryz.underlying54 Tryz.underlying5
  go_enter Tryz.func5, Tryz.ntmps5
  go_wp2_with fail
  refine (Sim.new_yes 1000 (by omega) w).mono ?_
  rintro e w1 ⟨rfl, hS1, hK1⟩
  have HS1 := hid hS1
  have HK1 := hid hK1
  have hl1 : w.heap.size < w1.heap.size := hS1.lt _ rfl
  clear hS1 hK1
  go_wp2_with fail
  refine (Crc.new_any w1).mono ?_
  rintro e w2 ⟨rfl, hb2, hs2, ht2⟩
  have HS2 : Hid (Sim.Sys (· = w.heap.size) 0 w2 w.heap.size (startPS 1000)) := HS1.out.kept (Kp.below hb2)
  have HT2 : Hid (TabX w2 w1.heap.size) := ⟨0, 0, .inl rfl, ht2⟩
  have HK2 : Hid (Kp No w w2) := HK1.out.andNone (Kp.below hb2)
  have hl2 : w1.heap.size < w2.heap.size := by omega
  clear hb2 hs2 ht2 HS1 HK1
  go_wp2_with fail
  refine (open_any w2 w.heap.size w1.heap.size (startPS 1000) HS2.out (by simp [list_start]) (by simp [list_start])).mono ?_
  rintro e w3 ho
  have ho' : ∃ g P', e = .returned (.tuple #[.pointer (some ⟨g, 0, none⟩), .int .i64 0]) ∧ ShAt w3 g w.heap.size w1.heap.size 0 ∧ Sim.Sys P' 1 w3 w.heap.size (startPS 1000) ∧ Kp (· = w.heap.size) w2 w3 ∧ (∀ y, P' y → y = w.heap.size ∨ w2.heap.size ≤ y) ∧ ¬ P' g ∧ w2.heap.size ≤ g := by
    rcases ho with ⟨h, _⟩ | ⟨_, g, P', h1, h2, h3, h4, h5, h6, h7⟩
    · exact absurd rfl h
    · exact ⟨g, P', h1, h2, h3, h4, h5, h6, h7⟩
  clear ho
  obtain ⟨g, P', rfl, hH, hS3, hK3, hP3, hPg, hg2⟩ := ho'
  have hgl := hH.lt
  have HPB : Hid (¬ P' w1.heap.size ∧ ¬ P' g) := ⟨fun e => by rcases hP3 _ e with e | e <;> omega, hPg⟩
  have HPL : Hid (∀ y, P' y → w.heap.size ≤ y ∧ y < w3.heap.size) := fun y hy => ⟨by rcases hP3 y hy with e | e <;> omega, hS3.lt y hy⟩
  have HT3 : Hid (TabX w3 w1.heap.size) := HT2.out.kp hK3 (fun e => by have e' : w1.heap.size = w.heap.size := e; omega)
  have HK3 : Hid (Kp No w w3) := HK2.out.trans hK3 (fun y hy => .inr (by have e' : y = w.heap.size := hy; omega))
  have HH3 := hid (And.intro hH hS3)
  have hl3 := hK3.size
  have hgb : g ≠ w1.heap.size := by omega
  clear hH hS3 hK3 hP3 hPg HS2 HT2 HK2
  obtain ⟨W3, hW3⟩ : ∃ W3, w3.alloc (Obj.cells #[Value.int IntKind.u8 120] 5 (1, 2)) = W3 := ⟨_, rfl⟩
  have HX3 : Hid (BySlS (fun g => g = w3.heap.size) W3 (.slice (some ⟨w3.heap.size, 0, none⟩) 1 1) [120]) := by rw [Hid, ← hW3]; exact lit_x w3 (1, 2)
  have HKW : Hid (Kp No w3 W3) := by rw [Hid, ← hW3]; exact (Kp.refl No _).alloc _
  have HSW : Hid (W3.heap.size = w3.heap.size + 1) := by rw [Hid, ← hW3]; simp
  have HBU := hid (builtX 1 (some ⟨w3.heap.size, 0, none⟩) 1 1)
  have HRUN := hid (run_oneX (some ⟨w3.heap.size, 0, none⟩) W3)
  obtain ⟨C2, hC2⟩ : ∃ C2, recA 1 (List.replicate 32 0) (.slice (some ⟨w3.heap.size, 0, none⟩) 1 1) = C2 := ⟨_, rfl⟩
  have HC2 := hid hC2
  have HRV : Hid (RV (fun g => w3.heap.size ≤ g ∧ g < (W3.alloc (.cells C2.toArray 68)).heap.size) (W3.alloc (.cells C2.toArray 68)) (.slice (some ⟨W3.heap.size, 0, none⟩) 1 1) [((rX, some ⟨w3.heap.size, 0, none⟩, 1) : El)]) :=
    rv_x w3 W3 HKW.out _ w3.heap.size HX3.out (by have := HSW.out; omega) (by rw [hC2])
  have HOWN := hid (own9_any (W3.alloc (.cells C2.toArray 68)) _ _ HRV.out.rw (by simp))
  rw [hC2] at HBU HRUN
  clear hC2
  go_wp2_with (first
    | (refine wpList_build2 (by rfl) 68 _ _ _ _ (by rfl) _ _ (by rfl) (by rfl) _ HBU.out ?_)
    | (refine wpList_val (by rfl) (exec_slice1 35 _ (by rfl) (.agg C2.toArray) _ (by rfl) HRUN.out) ?_))
  clear hW3 kc
  refine HOWN.out.mono ?_
  rintro e w5 ⟨u, rfl, hrow, hou, hk5⟩
  obtain ⟨W4, hW4⟩ : ∃ W4, W3.alloc (.cells C2.toArray 68) = W4 := ⟨_, rfl⟩
  rw [hW4] at hk5 hou
  have hs4 : W4.heap.size = w3.heap.size + 2 := by
    rw [← hW4]
    have := HSW.out
    simp
    omega
  have k34 : Kp No W3 W4 := by rw [← hW4]; exact (Kp.refl No W3).alloc _
  have k35 : Kp No w3 w5 := (HKW.out.andNone k34).andNone hk5
  have hs5 := hk5.size
  have hrv := row_rv (S := fun x => w3.heap.size ≤ x ∧ x < w5.heap.size) hrow (fun z hz => by
    obtain rfl := List.mem_singleton.1 hz
    exact ⟨rX_elok _ _, bySlS_kp HX3.out (k34.andNone hk5) (fun y hy => ⟨fun e => e, by have := HSW.out; omega, ⟨by omega, by omega⟩, by omega⟩)⟩)
  have hK5 : Kp No w w5 := HK3.out.andNone k35
  have HLAY := hid (lay_yes (P := P') (N := 1) w5 g w.heap.size w1.heap.size 0 (startPS 1000) 1 u _ pre_x (by rw [parts_x]; exact Nat.le_refl _) (fun _ => ⟨rfl, rfl⟩)
    (HH3.out.1.kp k35 (fun h => h)) (HH3.out.2.kept k35) (HT3.out.kp k35 (fun h => h)) HPB.out.1 HPB.out.2 hgb (fun V k => Vars.kept HV.out (hK5.trans k (fun y hy => .inr (by
      rcases hy with e | e | e
      · exact (HPL.out y e).1
      · omega
      · omega)))) (by simp [list_start]) (by simp [ids_start]) max_start (by omega) hrv (fun y hy => by
      have h1 : w3.heap.size ≤ y ∧ y < w5.heap.size := by
        rcases hy with e | e
        · exact e
        · have h1 := hou y e
          have h2 := hrow.lt y e
          omega
      refine ⟨?_, h1.2⟩
      rintro (e | e | e)
      · have := (HPL.out y e).2
        omega
      · omega
      · omega) (rX_okR _ _) (by simp))
  have HK5 := hid hK5
  have hs35 := k35.size
  obtain ⟨au, cu, rfl, _⟩ := hrow.shape
  clear hW4 hk5 hou hs4 k34 k35 hs5 hrv hK5 hrow HRV HOWN HX3 HT3 HH3 HBU HRUN
  go_wp2_with fail
  refine HLAY.out.mono ?_
  rintro e w6 ⟨u6, φ, rfl, hA⟩
  obtain rfl : φ = 0 := Classical.byContradiction fun hφ => by
    obtain ⟨_, ps, hps⟩ := hA.2 hφ
    exact hφ (lay_x hps)
  obtain ⟨p, n, qs, P6, hLR, _, hH6, hT6, hS6, hP6, hK6, hR6, ho6⟩ := hA.1 rfl
  rw [parts_x] at hLR
  obtain ⟨x, rfl, rfl, rfl⟩ := layR_x hLR
  obtain ⟨a6, c6, rfl, _, _, hn6, hsp6⟩ := hR6.shape
  obtain ⟨gW, rfl⟩ : ∃ gW, a6 = some ⟨gW, 0, none⟩ := by
    cases a6 with
    | none => exact absurd (hn6 rfl).1 (by simp)
    | some y =>
      obtain ⟨h1, h2⟩ := hsp6 y rfl
      obtain ⟨gy, oy, sy⟩ := y
      simp only at h1 h2
      subst h1
      subst h2
      exact ⟨gy, rfl⟩
  have HRG : Hid (w6.rangeAt gW 0 [.int .i64 1, .int .i64 0, .int .i64 50]) := fun j v hv => by
    have hj := (List.getElem?_eq_some_iff.1 hv).1
    rw [Nat.zero_add, hR6.cellAt j (by simpa using hj)]
    exact hv
  have HIW : Hid ((Tryz.prog.info? 51).map (·.size) = some [Value.int .i64 1, .int .i64 0, .int .i64 50].length) := hid (by kernel_rfl)
  have eb : pBytes (nm (nameP 1)) (dX x) = nats (frOf rX) := Sim.q5_bytes nP1
  have HRD : Hid (Calls Tryz.prog 20 #[.pointer (some ⟨g, 0, none⟩), .agg #[.int .i64 1, .int .i64 0, .int .i64 50]] w6 _) := read_any w6 g w.heap.size w1.heap.size 1 (dX x) 1 0 50 (by omega) (by omega) hH6 hS6 hT6 hgb (by rw [eb]; exact nats_lt _ (frameR_bd rX_ok)) (by rw [eb, nats_length]; have := rX_len; omega)
  have HK6 : Hid (Kp No w w6) := HK5.out.trans hK6 (fun y hy => .inr (by
    rcases hy with e | e | e
    · exact (HPL.out y e).1
    · omega
    · omega))
  have hp6 : ¬ P6 w1.heap.size := fun e => by
    rcases hP6 _ e with e | e
    · exact HPB.out.1 e
    · omega
  have hs6 := hK6.size
  have HH6 := hid (And.intro hH6 (And.intro hS6 hp6))
  clear hA hLR hn6 hsp6 hR6 ho6 hH6 hT6 hS6 hP6 hK6 eb HLAY hp6
  go_wp2_with (refine wpList_load_mid (by rfl) 51 _ (by rfl) gW 0 (by rfl) [.int .i64 1, .int .i64 0, .int .i64 50] _ HRG.out Tryz.underlying51 rfl HIW.out ?_)
  refine HRD.out.mono ?_
  rintro e w7 ⟨y, f, rfl, hyo, hyb, hra, hk7, hT7⟩
  obtain ⟨rfl, hy⟩ := read_x hra
  obtain ⟨yr, ya, yc⟩ := y
  dsimp only at hy
  subst hy
  have HCL : Hid ((elC ((rX, ya, yc) : El)).length = 34) := elC_length hyo
  have HC1 : Hid ((elC ((rX, ya, yc) : El)).toArray.all (·.oneCell') = true) := all_oneCell_toArray (elC_one _)
  have HC3 : Hid ((elC ((rX, ya, yc) : El))[33]? = some (.slice ya 1 yc)) := by rfl
  obtain ⟨cy, hcy⟩ : ∃ cy, elC ((rX, ya, yc) : El) = cy := ⟨_, rfl⟩
  rw [hcy] at HCL HC1 HC3 ⊢
  have HICA : Hid ((Tryz.prog.info? 56).map (·.size) = some cy.toArray.size) := by
    have h := Tryz.info35
    show _ = some cy.length
    rw [HCL.out]
    exact h
  have HT7 : Hid (World.there (w7.alloc (.cells Z.toArray 56)) w7.heap.size 0 cy.toArray.size) := by
    have h := there_new w7 Z 56
    rw [HZL.out] at h
    show World.there _ _ _ cy.length
    rw [HCL.out]
    exact h
  obtain ⟨W8, hW8⟩ : ∃ W8, (w7.alloc (.cells Z.toArray 56)).setCells w7.heap.size 0 cy = W8 := ⟨_, rfl⟩
  have k78 : Kp No w7 W8 := by rw [← hW8]; exact kp_set ((Kp.refl No w7).alloc _) (Or.inr (Nat.le_refl _)) _ _
  have c8 : W8.cell? ⟨w7.heap.size, 33, none⟩ = some (.slice ya 1 yc) := by
    rw [← hW8]
    have h := World.rangeAt_setCells_same _ _ _ _ HT7.out 33 _ HC3.out
    simpa using h
  have hs7 := hk7.size
  have hcv : (convert 54 9 (.slice ya 1 yc)).run Tryz.prog W8 = .ok (.string ⟨#[120]⟩) W8 := by
    have hse : strOfNums [120] = ⟨#[120]⟩ := by decide +kernel
    rw [← hse]
    exact Tlv.conv_bytes ((bySlS_kp hyb k78 (S' := fun x => x < W8.heap.size) (fun g hg => ⟨fun e => e, hg.2, Nat.lt_of_lt_of_le hg.2 k78.size⟩)).to (B := W8.heap.size) (fun g hg => hg))
  have k68 : Kp (fun x => x = w1.heap.size) w6 W8 := hk7.andNone k78
  have K8 : Hid (Kp No w W8) := HK6.out.trans k68 (fun y hy => .inr (by have e' : y = w1.heap.size := hy; omega))
  have HNX := hid (next_any W8 g w.heap.size w1.heap.size 1 (dX x) (HH6.out.1.kp k68 hgb) (HH6.out.2.1.kp k68 (fun y hy e => HH6.out.2.2 (hy ▸ e))) (Vars.kept HV.out K8.out) (by rw [list_x, nameP_1]; intro n hn; obtain rfl := List.mem_singleton.1 hn; decide) (by rw [ids_x]; decide) (by rw [ids_x, max_x]; decide))
  rw [ids_x, max_x] at HNX
  clear hyo hyb hra hk7 hT7 k78 k68 hcy
  go_wp2_with (first
    | (refine wpList_store_mid (by rfl) 56 _ _ (by rfl) w7.heap.size 0 cy.toArray (by rfl) (by rfl) HT7.out HICA.out HC1.out ?_)
    | (go_at_call 24; refine (HNX.out).mono ?_; rintro e w9 ⟨rfl, hk9⟩; have HK9 := hid hk9; clear hk9))
  go_ret
  exact ⟨rfl, K8.out.andNone HK9.out⟩
end Go.Proofs.YtaaioaocjfpajaaGreatDoor.Sh
end

section
/-
  ShelfWalks, walked.
-/
namespace Go.Proofs.YtaaioaocjfpajaaGreatDoor.Sh
open Go.RowKit Go.Shelf
open Tlv (BySlS)
open Crc (Kept)
open Sim (hid Kp No PS Blk nm Row)

/-- A list of records that came in: whether it is light; its records. -/
def LIn (w : World) (a : Option Addr) (n c : Nat) : Prop :=
  ∃ B : Bool, (∀ V, Kp No w V → Calls Tryz.prog 9 #[.slice a n c] V fun e w' => e = .returned (.bool B) ∧ w' = V) ∧ (B = true → n ≤ 20 ∧ ∃ ys : List El, ys.length = n ∧ RW (fun x => x < w.heap.size) w (.slice a n c) ys)

set_option maxHeartbeats 1000000 in
set_option maxRecDepth 100000 in
theorem walks_dark (w : World) (a0 a1 : Option Addr) (L0 c0 L1 c1 : Nat) (z : Int) (hV : Vars w) (h : 6 < (L0 : Int) ∨ 6 < (L1 : Int) ∨ 100 < z) :
    Calls Tryz.prog 3 #[.slice a0 L0 c0, .slice a1 L1 c1, .int .i64 z] w fun e w' => e = .returned (.bool true) ∧ Kp No w w' := by
  have HA := hid (alive_any w hV)
  clear hV
  by_cases h0 : 6 < (L0 : Int)
  · go_enter Tryz.func3, Tryz.ntmps3
    go_wp2_with fail
    refine HA.out.mono ?_
    rintro e w1 ⟨rfl, hb⟩
    have HB := hid hb
    clear hb
    go_wp2_with fail
    go_ret
    exact ⟨rfl, HB.out⟩
  · by_cases h1 : 6 < (L1 : Int)
    · go_enter Tryz.func3, Tryz.ntmps3
      go_wp2_with fail
      refine HA.out.mono ?_
      rintro e w1 ⟨rfl, hb⟩
      have HB := hid hb
      clear hb
      go_wp2_with fail
      go_ret
      exact ⟨rfl, HB.out⟩
    · have h2 : 100 < z := by
        rcases h with h | h | h
        · exact absurd h h0
        · exact absurd h h1
        · exact h
      go_enter Tryz.func3, Tryz.ntmps3
      go_wp2_with fail
      refine HA.out.mono ?_
      rintro e w1 ⟨rfl, hb⟩
      have HB := hid hb
      clear hb
      go_wp2_with fail
      go_ret
      exact ⟨rfl, HB.out⟩

/-- The rows of a walk. -/
def WR (b : Nat) (w W : World) (X : List WI) (K : Nat) (Us : List UI) (u1 u2 : Value) : Prop :=
  Row W 58 37 u1 Us.length (fcs Us) ∧ RowZ W u2 (lsOf X K) ∧ (∀ z ∈ Us, nmOk z.1.2.2 ∧ BySlS (fun g => g ≠ b ∧ g < W.heap.size) W (uV z) (uB z)) ∧ (∀ x, u1.ownBlock = some x → w.heap.size ≤ x) ∧ (∀ x, u2.ownBlock = some x → w.heap.size ≤ x)
theorem WR.kb {b : Nat} {w W V : World} {X : List WI} {K : Nat} {Us : List UI} {u1 u2 : Value} (h : WR b w W X K Us u1 u2) (k : Kp (fun x => x = b) W V) (hb : b < w.heap.size) : WR b w V X K Us u1 u2 := by
  obtain ⟨h3, h4, h5, h6, h7⟩ := h
  exact ⟨Sim.Row.kp h3 k (fun x hx e => by have := h6 x hx; omega), Sim.Row.kp h4 k (fun x hx e => by have := h7 x hx; omega), fun z hz => ⟨(h5 z hz).1, (h5 z hz).2.agree (fun g hg => k.block g hg.2 hg.1) (fun g hg => ⟨hg.1, Nat.lt_of_lt_of_le hg.2 k.size⟩)⟩, h6, h7⟩

def WA (id : Nat) (x : Item) : List Value := [.int .i64 (id : Int), .int .i64 (x.1 : Int), .int .i64 (x.2.2.2 : Int)]
theorem infoWA : (Tryz.prog.info? 51).map (·.size) = some 3 := by kernel_rfl
theorem builtWA (id : Nat) (x : Item) : Tryz.prog.built 51 [(0, .int .i64 (id : Int)), (1, .int .i64 (x.1 : Int)), (2, .int .i64 (x.2.2.2 : Int))] = some (WA id x).toArray := by kernel_rfl
theorem eqWA (id : Nat) (x : Item) (w : World) : (Op.equalIn 10000 51 (.agg (WA id x).toArray) (.agg (WA id x).toArray)).run Tryz.prog w = .ok true w := by
  unfold WA
  rw [show (10000 : Nat) = 9999 + 1 from rfl, Op.equalIn]
  go_simp
theorem kp_none {b : Nat} {U V : World} (k : Kp No U V) : Kept b U V := ⟨k.os, k.tape, k.output, k.size, fun i hi _ => k.block i hi (fun h => h)⟩

set_option maxHeartbeats 16000000 in
set_option maxRecDepth 100000 in
theorem walks_light (w : World) (a0 a1 : Option Addr) (L0 c0 L1 c1 : Nat) (most : Int) (hV : Vars w) (h0 : L0 ≤ 6) (h1 : L1 ≤ 6) (hm : most ≤ 100) (hmn : -9223372036854775808 ≤ most)
    (hl : ∀ i, i < L0 → ∃ g o a n c, a0 = some ⟨g, o, none⟩ ∧ g < w.heap.size ∧ w.cell? ⟨g, o + i, none⟩ = some (.slice a n c) ∧ LIn w a n c)
    (hbad : ∀ j, j < L1 → ∃ g o z, a1 = some ⟨g, o, none⟩ ∧ w.cell? ⟨g, o + j, none⟩ = some (.int .i64 z)) :
    Calls Tryz.prog 3 #[.slice a0 L0 c0, .slice a1 L1 c1, .int .i64 most] w fun e w' => e = .returned (.bool true) ∧ Kp No w w' := by
  have HV := hid hV
  have HLS := hid hl
  have HBAD := hid hbad
  have n0 : ¬ (6 < (L0 : Int)) := by omega
  have n1 : ¬ (6 < (L1 : Int)) := by omega
  have n2 : ¬ (100 < most) := by omega
  clear hV hl hbad
  go_enter Tryz.func3, Tryz.ntmps3
  go_wp2_with fail
  refine (Sim.new_yes 99000 (by omega) w).mono ?_
  rintro e w1 ⟨rfl, hS1, hK1⟩
  have HS1 := hid hS1
  have HK1 := hid hK1
  have hl1 : w.heap.size < w1.heap.size := hS1.lt _ rfl
  clear hS1 hK1
  go_wp2_with fail
  refine (Crc.new_any w1).mono ?_
  rintro e w2 ⟨rfl, hb2, hs2, ht2⟩
  have HS2 : Hid (Sim.Sys (· = w.heap.size) 0 w2 w.heap.size (Sim.newPS 99000)) := HS1.out.kept (Kp.below hb2)
  have HT2 : Hid (TabX w2 w1.heap.size) := ⟨0, 0, .inl rfl, ht2⟩
  have HK2 : Hid (Kp No w w2) := HK1.out.andNone (Kp.below hb2)
  have hl2 : w1.heap.size < w2.heap.size := by omega
  clear hb2 hs2 ht2 HS1 HK1
  have hGI : GI 0 (Sim.newPS 99000) 0 := ⟨⟨rfl, rfl⟩, by omega, by omega, by simp [Sim.newPS], by simp [Sim.newPS]⟩
  have HGI := hid hGI
  clear hGI
  go_wp2_with fail
  refine (open_any w2 w.heap.size w1.heap.size (Sim.newPS 99000) HS2.out (by simp [Sim.pList, Sim.newPS]) (by simp [Sim.pList, Sim.newPS])).mono ?_
  rintro e w3 ho
  have ho' : ∃ g P', e = .returned (.tuple #[.pointer (some ⟨g, 0, none⟩), .int .i64 0]) ∧ ShAt w3 g w.heap.size w1.heap.size 0 ∧ Sim.Sys P' 1 w3 w.heap.size (Sim.newPS 99000) ∧ Kp (· = w.heap.size) w2 w3 ∧ (∀ y, P' y → y = w.heap.size ∨ w2.heap.size ≤ y) ∧ ¬ P' g ∧ w2.heap.size ≤ g := by
    rcases ho with ⟨h, _⟩ | ⟨_, g, P', h1, h2, h3, h4, h5, h6, h7⟩
    · exact absurd rfl h
    · exact ⟨g, P', h1, h2, h3, h4, h5, h6, h7⟩
  clear ho
  obtain ⟨h, P', rfl, hH, hS3, hK3, hP3, hPg, hg2⟩ := ho'
  obtain ⟨s, hs⟩ : ∃ s, w.heap.size = s := ⟨_, rfl⟩
  obtain ⟨b, hb⟩ : ∃ b, w1.heap.size = b := ⟨_, rfl⟩
  have hgl := hH.lt
  have hhb : h ≠ b := by omega
  have hbw : w.heap.size ≤ b := by omega
  have hhw : w.heap.size ≤ h := by omega
  have hsw : w.heap.size ≤ s := by omega
  have hST : St w h s b 0 1 w3 := by
    refine ⟨_, 0, P', HGI.out, hs ▸ hb ▸ hH, ?_, hs ▸ hS3, fun x hx => ?_, fun e => ?_, hPg, HK2.out.trans hK3 (fun x hx => .inr (by have e : x = w.heap.size := hx; omega))⟩
    · rw [← hb]; exact HT2.out.kp hK3 (fun e => by have e' : w1.heap.size = w.heap.size := e; omega)
    · rcases hP3 x hx with e | e <;> omega
    · rcases hP3 _ e with e | e <;> omega
  have HST := hid hST
  rw [hs, hb]
  clear hH hS3 hK3 hP3 hPg HS2 HT2 HK2 hST HGI
  go_wp2_with fail
  go_loopw [11] (fun vi wr => ∃ k : Nat, k ≤ L0 ∧ vi = .int .i64 (k : Int) ∧ Hid (St w h s b (10 * k) (1 + 120 * k) wr)) (fun vi _ => L0 - (intOf vi).toNat)
  case atStart => exact ⟨0, Nat.zero_le _, rfl, HST⟩
  case round =>
    obtain ⟨k, hk, rfl, HS⟩ := hrel
    by_cases hlt : k < L0
    · have hltI : (k : Int) < (L0 : Int) := by omega
      obtain ⟨g, o, a, n, c, rfl, hg, hcell, B, hL, hY⟩ := HLS.out k hlt
      have ck : wr.cell? ⟨g, o + k, none⟩ = some (.slice a n c) := (HS.out.kp.cell (p := ⟨g, o + k, none⟩) hg (fun x => x)).trans hcell
      have HL := hid (hL wr HS.out.kp)
      have HY := hid hY
      clear hL hY hcell
      go_wp2_with fail
      refine HL.out.mono ?_
      rintro e w4 ⟨rfl, hw4⟩
      rw [hw4]
      clear hw4 w4 HL
      cases B with
      | false =>
        go_wp2_with fail
        refine (alive_any wr (Vars.kept HV.out HS.out.kp)).mono ?_
        rintro e w9 ⟨rfl, hk9⟩
        have HK9 := hid (HS.out.kp.andNone hk9)
        clear hk9
        go_wp2_with fail
        go_ret
        exact ⟨rfl, HK9.out⟩
      | true =>
        obtain ⟨h20, ys, hyl, hrw⟩ := HY.out rfl
        subst hyl
        have HOW := hid (own9_any wr _ ys (hrw.kept HS.out.kp) (by omega))
        have HRW := hid hrw
        clear HY hrw
        generalize hnl : ys.length = n at *
        go_wp2_with fail
        refine HOW.out.mono ?_
        rintro e w5 ⟨u, rfl, hrow, hou, hk5⟩
        obtain ⟨a5, c5, rfl, _⟩ := hrow.shape
        have HLAY := hid (lay_st HS.out hk5 hhb hbw hhw HV.out _ ys (by omega) (by rw [hnl]; exact hrow) hou (fun z hz => by
          obtain ⟨_, _, _, h4, _⟩ := HRW.out
          have k5 := HS.out.kp.andNone hk5
          exact ⟨(h4 z hz).1, (h4 z hz).2.agree (fun g hg => k5.block g hg.2 (fun e => e)) (fun g hg => hg.2)⟩) (by omega) (by omega))
        clear hrow hou hk5 HOW HRW hnl
        go_wp2_with fail
        refine HLAY.out.mono ?_
        rintro e w6 ⟨⟨v6, φ, rfl⟩, hst6⟩
        have HS6 := hid hst6
        clear hst6 HLAY
        go_wp2_with fail
        go_round
        case rel => exact ⟨k + 1, by omega, by go_num, HS6.out⟩
        case measure => simp [intOf]; omega
    · have hltI : ¬ (k : Int) < (L0 : Int) := by omega
      have HS2 : Hid (St w h s b 60 721 wr) := HS.out.more (by omega) (by omega) (by omega)
      clear HS
      go_wp2_with fail
      go_loopw [12] (fun vi wr2 => ∃ j : Nat, j ≤ L1 ∧ vi = .int .i64 (j : Int) ∧ Hid (St w h s b 60 (721 + j) wr2)) (fun vi _ => L1 - (intOf vi).toNat)
      case atStart => exact ⟨0, Nat.zero_le _, rfl, HS2⟩
      case round =>
        obtain ⟨j, hj, rfl, HS⟩ := hrel
        by_cases hjl : j < L1
        · have hjlI : (j : Int) < (L1 : Int) := by omega
          obtain ⟨g, o, z, rfl, hcell⟩ := HBAD.out j hjl
          have ck : wr.cell? ⟨g, o + j, none⟩ = some (.int .i64 z) := (HS.out.kp.cell (p := ⟨g, o + j, none⟩) (cell_lt hcell) (fun x => x)).trans hcell
          have HNA := hid (pname_any z wr (Vars.kept HV.out HS.out.kp).tab)
          have HNL := hid (nameZ_le ⟨#[112, 97, 99, 107, 46]⟩ (by decide) z)
          clear hcell
          go_wp2_with fail
          refine HNA.out.mono ?_
          rintro e w4 ⟨rfl, hb4⟩
          have HFL := hid (flip_st (HS.out.kept (Kp.below hb4)) (nameZ ⟨#[112, 97, 99, 107, 46]⟩ z) HNL.out (by omega))
          clear hb4 HNA
          go_wp2_with fail
          refine HFL.out.mono ?_
          rintro e w5 ⟨⟨y, rfl⟩, hst5⟩
          have HS5 := hid hst5
          clear hst5 HFL
          go_wp2_with fail
          go_round
          case rel => exact ⟨j + 1, by omega, by go_num, HS5.out⟩
          case measure => simp [intOf]; omega
        · have hjlI : ¬ (j : Int) < (L1 : Int) := by omega
          obtain ⟨p, n, P, hsP⟩ := HS.out.more (m' := 60) (N' := 727) (Nat.le_refl _) (by omega) (by omega)
          have HSP := hid hsP
          have HWK := hid (walk_st hsP (by omega) hhb hbw HV.out most hm)
          clear hsP HS HS2
          go_wp2_with fail
          refine HWK.out.mono ?_
          rintro e w4 ⟨u1, u2, rfl, ⟨K, Us, hWD, hUs, hr1, hr2, hbs, ho1, ho2, hk4, hx4⟩, hs4⟩
          obtain ⟨ax, cx, rfl, _⟩ := Sim.Row.shape hr1
          obtain ⟨ay, cy, rfl, _⟩ := hr2.form
          obtain ⟨wr0, hwr0⟩ : ∃ wr0, wr = wr0 := ⟨_, rfl⟩
          have hbv : b < wr.heap.size := HSP.out.2.2.1.lt
          have hbv0 : b < wr0.heap.size := hwr0 ▸ hbv
          have HWR4 : Hid (WR b wr0 w4 (allI (fP p) (sP p) (idsN p)) K Us (.slice ax Us.length cx) (.slice ay (lsOf (allI (fP p) (sP p) (idsN p)) K).length cy)) := hwr0 ▸ ⟨hr1, hr2, hbs, ho1, ho2⟩
          have HWD := hid hWD
          have HUS := hid hUs
          have HS4 := hid hs4
          have HIDS := hid (ids_any w4 h s b n p hs4.2.1 hs4.2.2.2.1 (Vars.kept HV.out hs4.2.2.2.2.2.2.2) (fun x hx => by have := hs4.1.nlen (by omega) x hx; omega))
          have hwr4 := hk4.size
          have HILEN : Hid ((idsP p).length = (idsN p).length) := by rw [Hid, idsN, List.length_map]
          have HCAST := hid (idsN_cast hs4.1 (by omega))
          have hil : (idsN p).length ≤ 60 := by have := hs4.1.ilen; rw [idsN, List.length_map]; exact this
          have HXL := hid (allI_len (fP p) (sP p) 20000000 (by omega) (idsN p) (fun id _ => sP_len hs4.2.2.2.1 id))
          clear hr1 hr2 hbs ho1 ho2 hk4 hx4 hs4 HSP HWK hWD hUs
          obtain ⟨X, hX⟩ : ∃ X, allI (fP p) (sP p) (idsN p) = X := ⟨_, rfl⟩
          have HX := hid hX
          rw [hX] at HWR4 HWD HUS HXL
          rw [hX]
          clear hX
          obtain ⟨I, hI⟩ : ∃ I, (idsN p).length = I := ⟨_, rfl⟩
          have HI := hid hI
          rw [hI] at hil HXL HILEN
          have HLU : Hid ((fsOf X K).length = Us.length) := by rw [Hid, ← HUS.out, List.length_map]
          obtain ⟨ny, hny⟩ : ∃ ny, (lsOf X K).length = ny := ⟨_, rfl⟩
          have HNY := hid hny
          rw [hny] at HWR4
          rw [hny]
          have hnyl : ny ≤ 1200000000 := by
            have h1 := lsOf_len X K
            have h2 := HXL.out
            have h3 : I * 20000000 ≤ 60 * 20000000 := Nat.mul_le_mul_right _ hil
            omega
          have hux : Us.length ≤ 100 := by
            have h1 := HLU.out
            have h2 := HWD.out.2
            have h3 : most.toNat ≤ 100 := by omega
            rcases h2 with ⟨_, h2⟩ | ⟨h2, _⟩
            · omega
            · omega
          obtain ⟨nx, hnx⟩ : ∃ nx, Us.length = nx := ⟨_, rfl⟩
          have HNX := hid hnx
          rw [hnx] at hux HLU HWR4
          rw [hnx]
          clear hny hnx hI
          go_wp2_with fail
          refine HIDS.out.mono ?_
          rintro e w5 ⟨u, rfl, hrow, hou, hk5⟩
          obtain ⟨ai, ci, rfl, _, _, hform⟩ := hrow.form
          have hil2 := HILEN.out
          rw [hil2]
          rw [hil2] at hou hrow
          have hw45 := hk5.size
          have HWR5 := hid (HWR4.out.kb hk5.ofNo hbv0)
          have HS5 := hid (HS4.out.kept hk5)
          have HROW := hid (And.intro hrow (And.intro hou hform))
          clear hrow hou hk5 hform HIDS HWR4 HS4 hil2
          go_wp2_with fail
          go_loopw [15, 16, 18] (fun vn vk vi wr => ∃ i nn kk : Nat, i ≤ I ∧ vn = .int .i64 (nn : Int) ∧ vk = .int .i64 (kk : Int) ∧ vi = .int .i64 (i : Int) ∧ nn ≤ nx ∧ kk ≤ ny ∧ Hid ((∃ q, q = (allI (fP p) (sP p) ((idsN p).take i)).length ∧ nn = (fsOf X q).length ∧ kk = (lsOf X q).length ∧ q ≤ K) ∨ (most ≤ (nn : Int) ∧ nn = nx ∧ kk = ny)) ∧
            Hid (StP w h s b 60 727 wr p n P ∧ WR b wr0 wr X K Us (.slice ax nx cx) (.slice ay ny cy) ∧ RowZ wr (.slice ai I ci) (idsP p) ∧ w5.heap.size ≤ wr.heap.size)) (fun _ _ vi _ => I - (intOf vi).toNat)
          case atStart => exact ⟨0, 0, 0, Nat.zero_le _, rfl, rfl, rfl, Nat.zero_le _, Nat.zero_le _, .inl ⟨0, by simp [allI], by simp [fsOf], by simp [lsOf], Nat.zero_le _⟩, HS5.out, HWR5.out, HROW.out.1, Nat.le_refl _⟩
          case round =>
            obtain ⟨i, nn, kk, hi, rfl, rfl, rfl, hnn, hkk, HQ0, HSS⟩ := hrel
            by_cases hilt : i < I
            · by_cases hnm : (nn : Int) < most
              · have hiltI : (i : Int) < (I : Int) := by omega
                obtain ⟨q, hq⟩ : ∃ q, q = (allI (fP p) (sP p) ((idsN p).take i)).length ∧ nn = (fsOf X q).length ∧ kk = (lsOf X q).length ∧ q ≤ K := by
                  rcases HQ0.out with h | h
                  · exact h
                  · exact absurd h.1 (by omega)
                have HQ := hid hq
                clear hq HQ0
                obtain ⟨id, hid'⟩ : ∃ id, (idsN p)[i]? = some id := ⟨_, List.getElem?_eq_getElem (by rw [HI.out]; exact hilt)⟩
                have hidZ : (idsP p)[i]? = some (id : Int) := by rw [← HCAST.out, List.getElem?_map, hid']; rfl
                obtain ⟨gi, rfl, hgi⟩ := HROW.out.2.2 (fun e => by rw [e] at hidZ; simp at hidZ)
                have ci' : wr.cell? ⟨gi, i, none⟩ = some (.int .i64 (id : Int)) := RowZ.cell HSS.out.2.2.1 HILEN.out.symm i hidZ
                have HID := hid (And.intro hid' hidZ)
                have HLD := hid (load_st HSS.out.1 (by omega) id (List.mem_of_getElem? hid'))
                have hgib : b < w4.heap.size ∧ w4.heap.size ≤ gi := ⟨by omega, HROW.out.2.1 gi rfl⟩
                clear hid' hidZ
                go_wp2_with fail
                refine HLD.out.mono ?_
                rintro e w6 ⟨hld, hk6, hx6⟩
                have hkb := kp_kept hk6
                have hs6 := hkb.size
                have HS6 := hid (HSS.out.1.kb hkb hx6 hhb hbw)
                have HW6 := hid (HSS.out.2.1.kb hkb (by omega))
                have HR6 : Hid (RowZ w6 (.slice (some ⟨gi, 0, none⟩) I ci) (idsP p)) := Sim.Row.kp HSS.out.2.2.1 hkb (fun x hx e => by
                  have : gi = x := by simpa [Value.ownBlock] using hx
                  omega)
                have HTAKE := hid (allI_take (fP p) (sP p) (idsN p) i id HID.out.1)
                have HAT := hid (fun j y => allI_at (fP p) (sP p) (idsN p) i id j y HID.out.1)
                obtain ⟨F, hF⟩ : ∃ F, fP p id = F := ⟨_, rfl⟩
                obtain ⟨S, hS⟩ : ∃ S, sP p id = S := ⟨_, rfl⟩
                have hsl := sP_len HSS.out.1.2.2.2.1 id
                rw [hS] at hsl
                rw [hF, hS] at hld HTAKE HAT
                rw [HX.out] at HAT
                have ci6 : w6.cell? ⟨gi, i, none⟩ = some (.int .i64 (id : Int)) := RowZ.cell HR6.out HILEN.out.symm i HID.out.2
                clear hF hS hk6 hx6 hkb HLD ci'
                have hw65 : w5.heap.size ≤ w6.heap.size := by have := HSS.out.2.2.2; omega
                by_cases hbad : F ≠ 0 ∨ S.2.2 ≠ 0 ∨ S.1 = []
                · have hbad' : ∃ f : Nat, f ≠ 0 ∧ e = .returned (.tuple #[.slice none 0 0, .int .i64 (f : Int)]) ∧ packI id F S = [(id, f, noIt)] := by
                    rcases hld with ⟨h1, h2⟩ | ⟨h1, h2, h3⟩ | ⟨h1, h2, h3, _⟩
                    · exact ⟨F, h1, h2, by rw [packI, if_pos h1]⟩
                    · exact ⟨4, by omega, h3, by rw [packI, if_neg (by omega), if_pos h2]⟩
                    · rcases hbad with e | e | e
                      · exact absurd h1 e
                      · exact absurd h2 e
                      · exact absurd e h3
                  obtain ⟨f, hf0, rfl, hpk⟩ := hbad'
                  rw [hpk] at HTAKE HAT
                  have hf0I : ¬ ((f : Int) = 0) := by omega
                  have hXq : X[q]? = some (id, f, noIt) := by
                    have h := HAT.out 0 _ rfl
                    rw [Nat.add_zero, ← HQ.out.1] at h
                    exact h
                  have hqK : q < K := HWD.out.lt HQ.out.2.2.2 (by have := HQ.out.2.1; omega) (List.getElem?_eq_some_iff.1 hXq).1
                  have hls := ls_at hqK hXq hf0
                  rw [← HQ.out.2.2.1] at hls
                  have hkny : kk < ny := by have := (List.getElem?_eq_some_iff.1 hls).1; rw [HNY.out] at this; exact this
                  obtain ⟨_, _, ey, _, _, hyform⟩ := HW6.out.2.1.form
                  simp only [Value.slice.injEq] at ey
                  obtain ⟨rfl, hxx, rfl⟩ := ey
                  clear hxx
                  obtain ⟨gy, rfl, hgy⟩ := hyform (fun e => by rw [e] at hls; simp at hls)
                  have cy6 : w6.cell? ⟨gy, kk, none⟩ = some (.int .i64 (id : Int)) := RowZ.cell HW6.out.2.1 HNY.out.symm kk hls
                  have hkI : ¬ ((ny : Int) ≤ (kk : Int)) := by omega
                  have hkI2 : (kk : Int) < (ny : Int) := by omega
                  have HQN : Hid (q + 1 = (allI (fP p) (sP p) ((idsN p).take (i + 1))).length ∧ nn = (fsOf X (q + 1)).length ∧ kk + 1 = (lsOf X (q + 1)).length ∧ q + 1 ≤ K) := by
                    obtain ⟨r1, r2⟩ := fsOf_no hXq hf0
                    refine ⟨by rw [HTAKE.out, List.length_append, ← HQ.out.1]; rfl, by rw [r1]; exact HQ.out.2.1, by rw [r2, List.length_append, ← HQ.out.2.2.1]; rfl, hqK⟩
                  clear hld hbad hf0 hpk hXq hls hgy hyform
                  have HCY : Hid (∀ V, Kp No w6 V → V.cell? ⟨gy, kk, none⟩ = some (.int .i64 (id : Int))) := fun V hV => (hV.cell (p := ⟨gy, kk, none⟩) (cell_lt cy6) (fun e => e)).trans cy6
                  have HC3 : Hid (∀ V, Kp No w6 V → V.cell? ⟨gi, i, none⟩ = some (.int .i64 (id : Int))) := fun V hV => (hV.cell (p := ⟨gi, i, none⟩) (cell_lt ci6) (fun e => e)).trans ci6
                  clear cy6 ci6
                  go_wp2_with fail
                  refine wp_region_held_drew (S := fun V => Kp No w6 V) (by kernel_rfl) ((Kp.refl No w6).drew) (fun hHeld => ?_)
                  refine wpAnyH_take (i := 0) (oi := { dst := some 108, op := Op.move (Operand.tmp 16), type := 3, pos := "law.go:175", after := #[], guard := none }) (v := .int .i64 (kk : Int)) rfl (by kernel_rfl) (by kernel_rfl) (by kernel_rfl) (fun _ _ _ h => h) (Or.inl ⟨by rfl, fun w' hw' => by (clear hw'; go_simp)⟩) hHeld ?_
                  simp only [Act.put, List.setIfInBounds_toArray, List.set_cons_zero, List.set_cons_succ]
                  refine wpAnyH_take (i := 1) (oi := { dst := some 109, op := Op.move (Operand.tmp 14), type := 23, pos := "law.go:175", after := #[], guard := none }) (v := .slice (some ⟨gy, 0, none⟩) ny cy) rfl (by kernel_rfl) (by kernel_rfl) (by kernel_rfl) (fun _ _ _ h => h) (Or.inl ⟨by rfl, fun w' hw' => by (clear hw'; go_simp)⟩) hHeld ?_
                  simp only [Act.put, List.setIfInBounds_toArray, List.set_cons_zero, List.set_cons_succ]
                  refine wpAnyH_take (i := 2) (oi := { dst := some 110, op := Op.call { callee := Callee.builtin Builtin.len, args := #[Operand.tmp 109], argTypes := #[23] }, type := 3, pos := "law.go:175", after := #[{ on := 1, ground := Ground.data }], guard := none }) (v := .int .i64 (ny : Int)) rfl (by kernel_rfl) (by kernel_rfl) (by kernel_rfl) (fun _ _ _ h => h) (Or.inl ⟨by rfl, fun w' hw' => by (clear hw'; go_simp)⟩) hHeld ?_
                  simp only [Act.put, List.setIfInBounds_toArray, List.set_cons_zero, List.set_cons_succ]
                  refine wpAnyH_take (i := 3) (oi := { dst := some 111, op := Op.binOp BinOp.geq 3 (Operand.tmp 108) (Operand.tmp 110) 3, type := 4, pos := "law.go:175", after := #[{ on := 0, ground := Ground.data }, { on := 2, ground := Ground.data }], guard := none }) (v := .bool false) rfl (by kernel_rfl) (by kernel_rfl) (by kernel_rfl) (fun _ _ _ h => h) (Or.inl ⟨by rfl, fun w' hw' => by (clear hw'; go_simp)⟩) hHeld ?_
                  simp only [Act.put, List.setIfInBounds_toArray, List.set_cons_zero, List.set_cons_succ]
                  refine wpAnyH_take (i := 4) (oi := { dst := some 112, op := Op.move (Operand.tmp 111), type := 4, pos := "law.go:175", after := #[{ on := 3, ground := Ground.data }], guard := none }) (v := .bool false) rfl (by kernel_rfl) (by kernel_rfl) (by kernel_rfl) (fun _ _ _ h => h) (Or.inl ⟨by rfl, fun w' hw' => by (clear hw'; go_simp)⟩) hHeld ?_
                  simp only [Act.put, List.setIfInBounds_toArray, List.set_cons_zero, List.set_cons_succ]
                  refine wpAnyH_take (i := 5) (oi := { dst := some 113, op := Op.move (Operand.tmp 14), type := 23, pos := "law.go:175", after := #[{ on := 4, ground := Ground.guard }], guard := some (4, false) }) (v := .slice (some ⟨gy, 0, none⟩) ny cy) rfl (by kernel_rfl) (by kernel_rfl) (by kernel_rfl) (fun _ _ _ h => h) (Or.inl ⟨by rfl, fun w' hw' => by (clear hw'; go_simp)⟩) hHeld ?_
                  simp only [Act.put, List.setIfInBounds_toArray, List.set_cons_zero, List.set_cons_succ]
                  refine wpAnyH_take (i := 6) (oi := { dst := some 114, op := Op.move (Operand.tmp 16), type := 3, pos := "law.go:175", after := #[{ on := 4, ground := Ground.guard }], guard := some (4, false) }) (v := .int .i64 (kk : Int)) rfl (by kernel_rfl) (by kernel_rfl) (by kernel_rfl) (fun _ _ _ h => h) (Or.inl ⟨by rfl, fun w' hw' => by (clear hw'; go_simp)⟩) hHeld ?_
                  simp only [Act.put, List.setIfInBounds_toArray, List.set_cons_zero, List.set_cons_succ]
                  refine wpAnyH_take (i := 7) (oi := { dst := some 115, op := Op.indexAddr 23 (Operand.tmp 113) (Operand.tmp 114), type := 0, pos := "law.go:175", after := #[{ on := 5, ground := Ground.data }, { on := 6, ground := Ground.data }, { on := 4, ground := Ground.guard }], guard := some (4, false) }) (v := .pointer (some ⟨gy, kk, none⟩)) rfl (by kernel_rfl) (by kernel_rfl) (by kernel_rfl) (fun _ _ _ h => h) (Or.inl ⟨by rfl, fun w' hw' => by (clear hw'; go_simp)⟩) hHeld ?_
                  simp only [Act.put, List.setIfInBounds_toArray, List.set_cons_zero, List.set_cons_succ]
                  refine wpAnyH_take (i := 8) (oi := { dst := some 116, op := Op.load 3 (Operand.tmp 115), type := 3, pos := "law.go:175", after := #[{ on := 7, ground := Ground.data }, { on := 4, ground := Ground.guard }], guard := some (4, false) }) (v := .int .i64 (id : Int)) rfl (by kernel_rfl) (by kernel_rfl) (by kernel_rfl) (fun _ _ _ h => h) (Or.inl ⟨by rfl, fun w' hw' => by (have c := HCY.out w' hw'; clear hw'; go_simp)⟩) hHeld ?_
                  simp only [Act.put, List.setIfInBounds_toArray, List.set_cons_zero, List.set_cons_succ]
                  refine wpAnyH_take (i := 9) (oi := { dst := some 117, op := Op.move (Operand.tmp 17), type := 23, pos := "law.go:175", after := #[{ on := 4, ground := Ground.guard }], guard := some (4, false) }) (v := .slice (some ⟨gi, 0, none⟩) I ci) rfl (by kernel_rfl) (by kernel_rfl) (by kernel_rfl) (fun _ _ _ h => h) (Or.inl ⟨by rfl, fun w' hw' => by (clear hw'; go_simp)⟩) hHeld ?_
                  simp only [Act.put, List.setIfInBounds_toArray, List.set_cons_zero, List.set_cons_succ]
                  refine wpAnyH_take (i := 10) (oi := { dst := some 118, op := Op.move (Operand.tmp 18), type := 3, pos := "law.go:175", after := #[{ on := 4, ground := Ground.guard }], guard := some (4, false) }) (v := .int .i64 (i : Int)) rfl (by kernel_rfl) (by kernel_rfl) (by kernel_rfl) (fun _ _ _ h => h) (Or.inl ⟨by rfl, fun w' hw' => by (clear hw'; go_simp)⟩) hHeld ?_
                  simp only [Act.put, List.setIfInBounds_toArray, List.set_cons_zero, List.set_cons_succ]
                  refine wpAnyH_take (i := 11) (oi := { dst := some 119, op := Op.indexAddr 23 (Operand.tmp 117) (Operand.tmp 118), type := 0, pos := "law.go:175", after := #[{ on := 9, ground := Ground.data }, { on := 10, ground := Ground.data }, { on := 4, ground := Ground.guard }], guard := some (4, false) }) (v := .pointer (some ⟨gi, i, none⟩)) rfl (by kernel_rfl) (by kernel_rfl) (by kernel_rfl) (fun _ _ _ h => h) (Or.inl ⟨by rfl, fun w' hw' => by (clear hw'; go_simp)⟩) hHeld ?_
                  simp only [Act.put, List.setIfInBounds_toArray, List.set_cons_zero, List.set_cons_succ]
                  refine wpAnyH_take (i := 12) (oi := { dst := some 120, op := Op.load 3 (Operand.tmp 119), type := 3, pos := "law.go:175", after := #[{ on := 11, ground := Ground.data }, { on := 4, ground := Ground.guard }], guard := some (4, false) }) (v := .int .i64 (id : Int)) rfl (by kernel_rfl) (by kernel_rfl) (by kernel_rfl) (fun _ _ _ h => h) (Or.inl ⟨by rfl, fun w' hw' => by (have c := HC3.out w' hw'; clear hw'; go_simp)⟩) hHeld ?_
                  simp only [Act.put, List.setIfInBounds_toArray, List.set_cons_zero, List.set_cons_succ]
                  refine wpAnyH_take (i := 13) (oi := { dst := some 121, op := Op.binOp BinOp.neq 3 (Operand.tmp 116) (Operand.tmp 120) 3, type := 4, pos := "law.go:175", after := #[{ on := 8, ground := Ground.data }, { on := 12, ground := Ground.data }, { on := 4, ground := Ground.guard }], guard := some (4, false) }) (v := .bool false) rfl (by kernel_rfl) (by kernel_rfl) (by kernel_rfl) (fun _ _ _ h => h) (Or.inl ⟨by rfl, fun w' hw' => by (clear hw'; go_simp)⟩) hHeld ?_
                  simp only [Act.put, List.setIfInBounds_toArray, List.set_cons_zero, List.set_cons_succ]
                  refine wpAnyH_take (i := 14) (oi := { dst := some 122, op := Op.pick (Operand.tmp 112) (Operand.const (Value.bool true)) (Operand.tmp 121), type := 4, pos := "law.go:175", after := #[{ on := 4, ground := Ground.data }, { on := 13, ground := Ground.data }], guard := none }) (v := .bool false) rfl (by kernel_rfl) (by kernel_rfl) (by kernel_rfl) (fun _ _ _ h => h) (Or.inl ⟨by rfl, fun w' hw' => by (clear hw'; go_simp)⟩) hHeld ?_
                  simp only [Act.put, List.setIfInBounds_toArray, List.set_cons_zero, List.set_cons_succ]
                  refine wpAnyH_done (by kernel_rfl) ?_ _
                  clear hHeld
                  go_wp2_with fail
                  refine ⟨⟨i + 1, nn, kk + 1, by omega, rfl, by go_num, by go_num, hnn, by omega, .inl ⟨q + 1, HQN.out⟩, HS6.out.kept ((Kp.refl No w6).drew), HW6.out.kb ((Kp.refl No w6).drew.ofNo) hbv0, Sim.Row.kept HR6.out ((Kp.refl No w6).drew), hw65⟩, by simp [intOf]; omega⟩
                · obtain ⟨hFz, hSz, hSn⟩ : F = 0 ∧ S.2.2 = 0 ∧ S.1 ≠ [] := ⟨Classical.byContradiction fun e => hbad (.inl e), Classical.byContradiction fun e => hbad (.inr (.inl e)), fun e => hbad (.inr (.inr e))⟩
                  obtain ⟨a, c, rfl, hrow⟩ : ∃ a c, e = .returned (.tuple #[.slice a S.1.length c, .int .i64 0]) ∧ PRow 60 wr.heap.size b w6 (.slice a S.1.length c) S.1 := by
                    rcases hld with ⟨h1, _⟩ | ⟨_, h1, _⟩ | ⟨_, _, _, a, c, h1, h2⟩
                    · exact absurd hFz h1
                    · rcases h1 with h1 | h1
                      · exact absurd hSz h1
                      · exact absurd h1 hSn
                    · exact ⟨a, c, h1, h2⟩
                  have hpk : packI id F S = S.1.map fun x => (id, 0, x) := by rw [packI, if_neg (by omega), if_neg (by intro e; rcases e with e | e; exact e hSz; exact hSn e)]
                  rw [hpk] at HTAKE HAT
                  have HROW6 := hid hrow
                  obtain ⟨L, hL⟩ : ∃ L, S.1 = L := ⟨_, rfl⟩
                  rw [hL] at HROW6 HTAKE HAT hsl ⊢
                  obtain ⟨nl, hnl⟩ : ∃ nl, L.length = nl := ⟨_, rfl⟩
                  have HNL := hid hnl
                  rw [hnl] at HROW6 hsl ⊢
                  obtain ⟨bs, hbs⟩ : ∃ bs, wr.heap.size = bs := ⟨_, rfl⟩
                  rw [hbs] at HROW6
                  have hbwr : b < bs := by have := HSS.out.2.2.2; omega
                  clear hrow hld hbad hFz hSz hSn hpk hL hnl ci6
                  go_wp2_with fail
                  go_loopw [15, 21] (fun vn vj wr7 => ∃ j nn' : Nat, j ≤ nl ∧ vn = .int .i64 (nn' : Int) ∧ vj = .int .i64 (j : Int) ∧ nn' ≤ nx ∧ Hid (nn' = (fsOf X (q + j)).length ∧ kk = (lsOf X (q + j)).length ∧ q + j ≤ K) ∧
                    Hid (StP w h s b 60 727 wr7 p n P ∧ WR b wr0 wr7 X K Us (.slice ax nx cx) (.slice ay ny cy) ∧ RowZ wr7 (.slice (some ⟨gi, 0, none⟩) I ci) (idsP p) ∧ w5.heap.size ≤ wr7.heap.size ∧ PRow 60 bs b wr7 (.slice a nl c) L)) (fun _ vj _ => nl - (intOf vj).toNat)
                  case atStart => exact ⟨0, nn, Nat.zero_le _, rfl, rfl, hnn, ⟨HQ.out.2.1, HQ.out.2.2.1, HQ.out.2.2.2⟩, HS6.out, HW6.out, HR6.out, hw65, HROW6.out⟩
                  case round =>
                    obtain ⟨jj, nn1, hjj, rfl, rfl, hnx1, HQ2, HSS2⟩ := hrel
                    by_cases hjl : jj < nl
                    · by_cases hnm2 : (nn1 : Int) < most
                      · have hjlI : (jj : Int) < (nl : Int) := by omega
                        obtain ⟨x, hx⟩ : ∃ x, L[jj]? = some x := ⟨_, List.getElem?_eq_getElem (by rw [HNL.out]; exact hjl)⟩
                        have hXq : X[q + jj]? = some (id, 0, x) := by
                          have h := HAT.out jj (id, 0, x) (by rw [List.getElem?_map, hx]; rfl)
                          rw [← HQ.out.1] at h
                          exact h
                        have hqK : q + jj < K := HWD.out.lt HQ2.out.2.2 (by have := HQ2.out.1; omega) (List.getElem?_eq_some_iff.1 hXq).1
                        have hfs := fs_at hqK hXq rfl
                        rw [← HQ2.out.1] at hfs
                        obtain ⟨⟨zy, za, zc⟩, hz, hzy⟩ : ∃ z : UI, Us[nn1]? = some z ∧ z.1 = (id, 0, x) := by
                          rw [← HUS.out, List.getElem?_map] at hfs
                          exact Option.map_eq_some_iff.1 hfs
                        simp only at hzy
                        subst hzy
                        have hnx2 : nn1 < nx := by have := (List.getElem?_eq_some_iff.1 hz).1; rw [HNX.out] at this; exact this
                        have hQN : nn1 + 1 = (fsOf X (q + (jj + 1))).length ∧ kk = (lsOf X (q + (jj + 1))).length ∧ q + (jj + 1) ≤ K := by
                          obtain ⟨r1, r2⟩ := fsOf_yes hXq rfl
                          rw [Nat.add_assoc] at r1 r2
                          exact ⟨by rw [r1, List.length_append, ← HQ2.out.1]; rfl, by rw [r2]; exact HQ2.out.2.1, by omega⟩
                        have HQN := hid hQN
                        have hall : ∀ y ∈ Us, nmOk y.1.2.2 := fun y hy => (HSS2.out.2.1.2.2.1 y hy).1
                        obtain ⟨hnmx, hbyx⟩ := HSS2.out.2.1.2.2.1 _ (List.mem_of_getElem? hz)
                        have hrX : Row wr 58 37 (.slice ax nx cx) nx (fcs Us) := HNX.out ▸ HSS2.out.2.1.1
                        obtain ⟨gx, rfl⟩ : ∃ gx, ax = some ⟨gx, 0, none⟩ := by
                          obtain ⟨a', c', e', _, _, hn', ho'⟩ := Sim.Row.shape hrX
                          simp only [Value.slice.injEq] at e'
                          obtain ⟨rfl, _, rfl⟩ := e'
                          cases ax with
                          | none => have := (hn' rfl).1; omega
                          | some y =>
                            obtain ⟨g', o', s'⟩ := y
                            obtain ⟨rfl, rfl⟩ : s' = none ∧ o' = 0 := ho' _ rfl
                            exact ⟨g', rfl⟩
                        have hgx := hrX.lt gx rfl
                        have hCX : ∀ V, Kp No wr V → V.rangeAt gx (nn1 * 37) (uC ((id, 0, x), za, zc)) := fun V hV r v hv => by
                          have hr37 : r < 37 := by have := (List.getElem?_eq_some_iff.1 hv).1; rwa [show (uC ((id, 0, x), za, zc)).length = 37 from fC_len _ _ _ hnmx] at this
                          refine (hV.cell (p := ⟨gx, nn1 * 37 + r, none⟩) hgx (fun e => e)).trans ?_
                          rw [Sim.Row.cellAt hrX (nn1 * 37 + r) (by omega), fcs_at Us nn1 _ r hall hz hr37]
                          exact hv
                        have HC1 : Hid (∀ V, Kp No wr V → V.rangeAt gx (nn1 * 37) (WA id x)) := fun V hV r v hv => by
                          have hr3 : r < 3 := (List.getElem?_eq_some_iff.1 hv).1
                          refine hCX V hV r v ?_
                          rw [← hv]
                          have : r = 0 ∨ r = 1 ∨ r = 2 := by omega
                          rcases this with rfl | rfl | rfl <;> rfl
                        obtain ⟨R1, hR1⟩ : ∃ R, recA x.2.2.1.1 x.2.2.1.2.1 (uV ((id, 0, x), za, zc)) = R := ⟨_, rfl⟩
                        have HC4 : Hid (∀ V, Kp No wr V → V.rangeAt gx (nn1 * 37 + 3) R1) := fun V hV r v hv => by
                          have h := hCX V hV (3 + r) v (by rw [← hv, ← hR1, Nat.add_comm]; rfl)
                          rw [← Nat.add_assoc] at h
                          exact h
                        obtain ⟨gp, cap, ap, cp, ep, _, hgp, _, hrg, hby⟩ := PRow.get HSS2.out.2.2.2.2 jj x hx
                        simp only [Value.slice.injEq] at ep
                        obtain ⟨rfl, hxx, rfl⟩ := ep
                        clear hxx
                        obtain ⟨R2, hR2⟩ : ∃ R, recA x.2.2.1.1 x.2.2.1.2.1 (.slice ap x.2.2.1.2.2.length cp) = R := ⟨_, rfl⟩
                        have hCP : ∀ V, Kp No wr V → V.rangeAt gp (jj * 36) (plI x (.slice ap x.2.2.1.2.2.length cp)) := fun V hV r v hv => (hV.cell (p := ⟨gp, jj * 36 + r, none⟩) hgp (fun e => e)).trans (hrg r v hv)
                        have HC20 : Hid (∀ V, Kp No wr V → V.cell? ⟨gp, jj * 36, none⟩ = some (.int .i64 (x.1 : Int))) := fun V hV => hCP V hV 0 _ rfl
                        have HC21 : Hid (∀ V, Kp No wr V → V.cell? ⟨gp, jj * 36 + 1, none⟩ = some (.int .i64 (x.2.2.2 : Int))) := fun V hV => hCP V hV 1 _ rfl
                        have HC5 : Hid (∀ V, Kp No wr V → V.rangeAt gp (jj * 36 + 2) R2) := fun V hV r v hv => by
                          have h := hCP V hV (2 + r) v (by rw [← hv, ← hR2, Nat.add_comm]; rfl)
                          rw [← Nat.add_assoc] at h
                          exact h
                        have HC3 : Hid (∀ V, Kp No wr V → V.cell? ⟨gi, i, none⟩ = some (.int .i64 (id : Int))) := fun V hV => (hV.cell (p := ⟨gi, i, none⟩) (Sim.Row.lt HSS2.out.2.2.1 gi rfl) (fun e => e)).trans (RowZ.cell HSS2.out.2.2.1 HILEN.out.symm i HID.out.2)
                        have HIW : Hid ((Tryz.prog.info? 51).map (·.size) = some (WA id x).length) := infoWA
                        have HBW := hid (builtWA id x)
                        have HEQ := hid (fun W => eqWA id x W)
                        have HIR1 : Hid ((Tryz.prog.info? 56).map (·.size) = some R1.length) := by rw [Hid, ← hR1, recA_length _ _ _ hnmx.1]; exact Tryz.info35
                        have HIR2 : Hid ((Tryz.prog.info? 56).map (·.size) = some R2.length) := by rw [Hid, ← hR2, recA_length _ _ _ hnmx.1]; exact Tryz.info35
                        have HSM : Hid (∀ V, Kp No wr V → Calls Tryz.prog 17 #[.agg R1.toArray, .agg R2.toArray] V fun e w' => e = .returned (.bool true) ∧ Below V.heap.size V w') := fun V hV => by
                          have h := same17_any x.2.2.1.1 x.2.2.1.1 x.2.2.1.2.1 x.2.2.1.2.1 x.2.2.1.2.2 x.2.2.1.2.2 (uV ((id, 0, x), za, zc)) (.slice ap x.2.2.1.2.2.length cp) V hnmx.1 hnmx.1 hnmx.2 hnmx.2
                            ((hbyx.agree (S' := fun g => g < V.heap.size) (fun g hg => hV.block g hg.2 (fun e => e)) (fun g hg => Nat.lt_of_lt_of_le hg.2 hV.size)).to (fun g hg => hg))
                            ((hby.agree (S' := fun g => g < V.heap.size) (fun g hg => hV.block g hg.2.2.1 (fun e => e)) (fun g hg => Nat.lt_of_lt_of_le hg.2.2.1 hV.size)).to (fun g hg => hg))
                          rw [show sameR x.2.2.1.1 x.2.2.1.1 x.2.2.1.2.1 x.2.2.1.2.1 x.2.2.1.2.2 x.2.2.1.2.2 = true by simp [sameR], hR1, hR2] at h
                          exact h
                        have hnxI : ¬ ((nx : Int) ≤ (nn1 : Int)) := by omega
                        have hnxI2 : (nn1 : Int) < (nx : Int) := by omega
                        clear hXq hfs hz hQN hall hnmx hbyx hrX hgx hCX hR1 hrg hby hgp hR2 hCP hx
                        go_wp2_with fail
                        refine wp_region_held_drew (S := fun V => Kp No wr V) (by kernel_rfl) ((Kp.refl No wr).drew) (fun hHeld => ?_)
                        refine wpAnyH_take (i := 0) (oi := { dst := some 136, op := Op.move (Operand.tmp 15), type := 3, pos := "law.go:182", after := #[], guard := none }) (v := .int .i64 (nn1 : Int)) rfl (by kernel_rfl) (by kernel_rfl) (by kernel_rfl) (fun _ _ _ h => h) (Or.inl ⟨by rfl, fun w' hw' => by (clear hw'; go_simp)⟩) hHeld ?_
                        simp only [Act.put, List.setIfInBounds_toArray, List.set_cons_zero, List.set_cons_succ]
                        refine wpAnyH_take (i := 1) (oi := { dst := some 137, op := Op.move (Operand.tmp 13), type := 43, pos := "law.go:182", after := #[], guard := none }) (v := .slice (some ⟨gx, 0, none⟩) nx cx) rfl (by kernel_rfl) (by kernel_rfl) (by kernel_rfl) (fun _ _ _ h => h) (Or.inl ⟨by rfl, fun w' hw' => by (clear hw'; go_simp)⟩) hHeld ?_
                        simp only [Act.put, List.setIfInBounds_toArray, List.set_cons_zero, List.set_cons_succ]
                        refine wpAnyH_take (i := 2) (oi := { dst := some 138, op := Op.call { callee := Callee.builtin Builtin.len, args := #[Operand.tmp 137], argTypes := #[43] }, type := 3, pos := "law.go:182", after := #[{ on := 1, ground := Ground.data }], guard := none }) (v := .int .i64 (nx : Int)) rfl (by kernel_rfl) (by kernel_rfl) (by kernel_rfl) (fun _ _ _ h => h) (Or.inl ⟨by rfl, fun w' hw' => by (clear hw'; go_simp)⟩) hHeld ?_
                        simp only [Act.put, List.setIfInBounds_toArray, List.set_cons_zero, List.set_cons_succ]
                        refine wpAnyH_take (i := 3) (oi := { dst := some 139, op := Op.binOp BinOp.geq 3 (Operand.tmp 136) (Operand.tmp 138) 3, type := 4, pos := "law.go:182", after := #[{ on := 0, ground := Ground.data }, { on := 2, ground := Ground.data }], guard := none }) (v := .bool false) rfl (by kernel_rfl) (by kernel_rfl) (by kernel_rfl) (fun _ _ _ h => h) (Or.inl ⟨by rfl, fun w' hw' => by (clear hw'; go_simp)⟩) hHeld ?_
                        simp only [Act.put, List.setIfInBounds_toArray, List.set_cons_zero, List.set_cons_succ]
                        refine wpAnyH_take (i := 4) (oi := { dst := some 140, op := Op.move (Operand.tmp 139), type := 4, pos := "law.go:182", after := #[{ on := 3, ground := Ground.data }], guard := none }) (v := .bool false) rfl (by kernel_rfl) (by kernel_rfl) (by kernel_rfl) (fun _ _ _ h => h) (Or.inl ⟨by rfl, fun w' hw' => by (clear hw'; go_simp)⟩) hHeld ?_
                        simp only [Act.put, List.setIfInBounds_toArray, List.set_cons_zero, List.set_cons_succ]
                        refine wpAnyH_take (i := 5) (oi := { dst := some 141, op := Op.move (Operand.tmp 13), type := 43, pos := "law.go:182", after := #[{ on := 4, ground := Ground.guard }], guard := some (4, false) }) (v := .slice (some ⟨gx, 0, none⟩) nx cx) rfl (by kernel_rfl) (by kernel_rfl) (by kernel_rfl) (fun _ _ _ h => h) (Or.inl ⟨by rfl, fun w' hw' => by (clear hw'; go_simp)⟩) hHeld ?_
                        simp only [Act.put, List.setIfInBounds_toArray, List.set_cons_zero, List.set_cons_succ]
                        refine wpAnyH_take (i := 6) (oi := { dst := some 142, op := Op.move (Operand.tmp 15), type := 3, pos := "law.go:182", after := #[{ on := 4, ground := Ground.guard }], guard := some (4, false) }) (v := .int .i64 (nn1 : Int)) rfl (by kernel_rfl) (by kernel_rfl) (by kernel_rfl) (fun _ _ _ h => h) (Or.inl ⟨by rfl, fun w' hw' => by (clear hw'; go_simp)⟩) hHeld ?_
                        simp only [Act.put, List.setIfInBounds_toArray, List.set_cons_zero, List.set_cons_succ]
                        refine wpAnyH_take (i := 7) (oi := { dst := some 143, op := Op.indexAddr 43 (Operand.tmp 141) (Operand.tmp 142), type := 0, pos := "law.go:182", after := #[{ on := 5, ground := Ground.data }, { on := 6, ground := Ground.data }, { on := 4, ground := Ground.guard }], guard := some (4, false) }) (v := .pointer (some ⟨gx, nn1 * 37, none⟩)) rfl (by kernel_rfl) (by kernel_rfl) (by kernel_rfl) (fun _ _ _ h => h) (Or.inl ⟨by rfl, fun w' hw' => by (clear hw'; go_simp)⟩) hHeld ?_
                        simp only [Act.put, List.setIfInBounds_toArray, List.set_cons_zero, List.set_cons_succ]
                        refine wpAnyH_take (i := 8) (oi := { dst := some 144, op := Op.fieldAddr 58 (Operand.tmp 143) 0, type := 0, pos := "law.go:182", after := #[{ on := 7, ground := Ground.data }, { on := 4, ground := Ground.guard }], guard := some (4, false) }) (v := .pointer (some ⟨gx, nn1 * 37, none⟩)) rfl (by kernel_rfl) (by kernel_rfl) (by kernel_rfl) (fun _ _ _ h => h) (Or.inl ⟨by rfl, fun w' hw' => by (clear hw'; go_simp)⟩) hHeld ?_
                        simp only [Act.put, List.setIfInBounds_toArray, List.set_cons_zero, List.set_cons_succ]
                        refine wpAnyH_take (i := 9) (oi := { dst := some 145, op := Op.load 51 (Operand.tmp 144), type := 51, pos := "law.go:182", after := #[{ on := 8, ground := Ground.data }, { on := 4, ground := Ground.guard }], guard := some (4, false) }) (v := .agg (WA id x).toArray) rfl (by kernel_rfl) (by kernel_rfl) (by kernel_rfl) (fun _ _ _ h => h) (yieldsIf_load_mid (by rfl) _ _ rfl gx (nn1 * 37) rfl (WA id x) _ (fun V hV => HC1.out V hV) Tryz.underlying51 rfl HIW.out) hHeld ?_
                        simp only [Act.put, List.setIfInBounds_toArray, List.set_cons_zero, List.set_cons_succ]
                        refine wpAnyH_take (i := 10) (oi := { dst := some 146, op := Op.move (Operand.tmp 17), type := 23, pos := "law.go:182", after := #[{ on := 4, ground := Ground.guard }], guard := some (4, false) }) (v := .slice (some ⟨gi, 0, none⟩) I ci) rfl (by kernel_rfl) (by kernel_rfl) (by kernel_rfl) (fun _ _ _ h => h) (Or.inl ⟨by rfl, fun w' hw' => by (clear hw'; go_simp)⟩) hHeld ?_
                        simp only [Act.put, List.setIfInBounds_toArray, List.set_cons_zero, List.set_cons_succ]
                        refine wpAnyH_take (i := 11) (oi := { dst := some 147, op := Op.move (Operand.tmp 18), type := 3, pos := "law.go:182", after := #[{ on := 4, ground := Ground.guard }], guard := some (4, false) }) (v := .int .i64 (i : Int)) rfl (by kernel_rfl) (by kernel_rfl) (by kernel_rfl) (fun _ _ _ h => h) (Or.inl ⟨by rfl, fun w' hw' => by (clear hw'; go_simp)⟩) hHeld ?_
                        simp only [Act.put, List.setIfInBounds_toArray, List.set_cons_zero, List.set_cons_succ]
                        refine wpAnyH_take (i := 12) (oi := { dst := some 148, op := Op.indexAddr 23 (Operand.tmp 146) (Operand.tmp 147), type := 0, pos := "law.go:182", after := #[{ on := 10, ground := Ground.data }, { on := 11, ground := Ground.data }, { on := 4, ground := Ground.guard }], guard := some (4, false) }) (v := .pointer (some ⟨gi, i, none⟩)) rfl (by kernel_rfl) (by kernel_rfl) (by kernel_rfl) (fun _ _ _ h => h) (Or.inl ⟨by rfl, fun w' hw' => by (clear hw'; go_simp)⟩) hHeld ?_
                        simp only [Act.put, List.setIfInBounds_toArray, List.set_cons_zero, List.set_cons_succ]
                        refine wpAnyH_take (i := 13) (oi := { dst := some 149, op := Op.load 3 (Operand.tmp 148), type := 3, pos := "law.go:182", after := #[{ on := 12, ground := Ground.data }, { on := 4, ground := Ground.guard }], guard := some (4, false) }) (v := .int .i64 (id : Int)) rfl (by kernel_rfl) (by kernel_rfl) (by kernel_rfl) (fun _ _ _ h => h) (Or.inl ⟨by rfl, fun w' hw' => by (have c := HC3.out w' hw'; clear hw'; go_simp)⟩) hHeld ?_
                        simp only [Act.put, List.setIfInBounds_toArray, List.set_cons_zero, List.set_cons_succ]
                        refine wpAnyH_take (i := 14) (oi := { dst := some 150, op := Op.move (Operand.tmp 19), type := 47, pos := "law.go:182", after := #[{ on := 4, ground := Ground.guard }], guard := some (4, false) }) (v := .slice (some ⟨gp, 0, none⟩) nl c) rfl (by kernel_rfl) (by kernel_rfl) (by kernel_rfl) (fun _ _ _ h => h) (Or.inl ⟨by rfl, fun w' hw' => by (clear hw'; go_simp)⟩) hHeld ?_
                        simp only [Act.put, List.setIfInBounds_toArray, List.set_cons_zero, List.set_cons_succ]
                        refine wpAnyH_take (i := 15) (oi := { dst := some 151, op := Op.move (Operand.tmp 21), type := 3, pos := "law.go:182", after := #[{ on := 4, ground := Ground.guard }], guard := some (4, false) }) (v := .int .i64 (jj : Int)) rfl (by kernel_rfl) (by kernel_rfl) (by kernel_rfl) (fun _ _ _ h => h) (Or.inl ⟨by rfl, fun w' hw' => by (clear hw'; go_simp)⟩) hHeld ?_
                        simp only [Act.put, List.setIfInBounds_toArray, List.set_cons_zero, List.set_cons_succ]
                        refine wpAnyH_take (i := 16) (oi := { dst := some 152, op := Op.indexAddr 47 (Operand.tmp 150) (Operand.tmp 151), type := 0, pos := "law.go:182", after := #[{ on := 14, ground := Ground.data }, { on := 15, ground := Ground.data }, { on := 4, ground := Ground.guard }], guard := some (4, false) }) (v := .pointer (some ⟨gp, jj * 36, none⟩)) rfl (by kernel_rfl) (by kernel_rfl) (by kernel_rfl) (fun _ _ _ h => h) (Or.inl ⟨by rfl, fun w' hw' => by (clear hw'; go_simp)⟩) hHeld ?_
                        simp only [Act.put, List.setIfInBounds_toArray, List.set_cons_zero, List.set_cons_succ]
                        refine wpAnyH_take (i := 17) (oi := { dst := some 153, op := Op.fieldAddr 60 (Operand.tmp 152) 0, type := 0, pos := "law.go:182", after := #[{ on := 16, ground := Ground.data }, { on := 4, ground := Ground.guard }], guard := some (4, false) }) (v := .pointer (some ⟨gp, jj * 36, none⟩)) rfl (by kernel_rfl) (by kernel_rfl) (by kernel_rfl) (fun _ _ _ h => h) (Or.inl ⟨by rfl, fun w' hw' => by (clear hw'; go_simp)⟩) hHeld ?_
                        simp only [Act.put, List.setIfInBounds_toArray, List.set_cons_zero, List.set_cons_succ]
                        refine wpAnyH_take (i := 18) (oi := { dst := some 154, op := Op.load 3 (Operand.tmp 153), type := 3, pos := "law.go:182", after := #[{ on := 17, ground := Ground.data }, { on := 4, ground := Ground.guard }], guard := some (4, false) }) (v := .int .i64 (x.1 : Int)) rfl (by kernel_rfl) (by kernel_rfl) (by kernel_rfl) (fun _ _ _ h => h) (Or.inl ⟨by rfl, fun w' hw' => by (have c := HC20.out w' hw'; clear hw'; go_simp)⟩) hHeld ?_
                        simp only [Act.put, List.setIfInBounds_toArray, List.set_cons_zero, List.set_cons_succ]
                        refine wpAnyH_take (i := 19) (oi := { dst := some 155, op := Op.move (Operand.tmp 19), type := 47, pos := "law.go:182", after := #[{ on := 4, ground := Ground.guard }], guard := some (4, false) }) (v := .slice (some ⟨gp, 0, none⟩) nl c) rfl (by kernel_rfl) (by kernel_rfl) (by kernel_rfl) (fun _ _ _ h => h) (Or.inl ⟨by rfl, fun w' hw' => by (clear hw'; go_simp)⟩) hHeld ?_
                        simp only [Act.put, List.setIfInBounds_toArray, List.set_cons_zero, List.set_cons_succ]
                        refine wpAnyH_take (i := 20) (oi := { dst := some 156, op := Op.move (Operand.tmp 21), type := 3, pos := "law.go:182", after := #[{ on := 4, ground := Ground.guard }], guard := some (4, false) }) (v := .int .i64 (jj : Int)) rfl (by kernel_rfl) (by kernel_rfl) (by kernel_rfl) (fun _ _ _ h => h) (Or.inl ⟨by rfl, fun w' hw' => by (clear hw'; go_simp)⟩) hHeld ?_
                        simp only [Act.put, List.setIfInBounds_toArray, List.set_cons_zero, List.set_cons_succ]
                        refine wpAnyH_take (i := 21) (oi := { dst := some 157, op := Op.indexAddr 47 (Operand.tmp 155) (Operand.tmp 156), type := 0, pos := "law.go:182", after := #[{ on := 19, ground := Ground.data }, { on := 20, ground := Ground.data }, { on := 4, ground := Ground.guard }], guard := some (4, false) }) (v := .pointer (some ⟨gp, jj * 36, none⟩)) rfl (by kernel_rfl) (by kernel_rfl) (by kernel_rfl) (fun _ _ _ h => h) (Or.inl ⟨by rfl, fun w' hw' => by (clear hw'; go_simp)⟩) hHeld ?_
                        simp only [Act.put, List.setIfInBounds_toArray, List.set_cons_zero, List.set_cons_succ]
                        refine wpAnyH_take (i := 22) (oi := { dst := some 158, op := Op.fieldAddr 60 (Operand.tmp 157) 1, type := 0, pos := "law.go:182", after := #[{ on := 21, ground := Ground.data }, { on := 4, ground := Ground.guard }], guard := some (4, false) }) (v := .pointer (some ⟨gp, jj * 36 + 1, none⟩)) rfl (by kernel_rfl) (by kernel_rfl) (by kernel_rfl) (fun _ _ _ h => h) (Or.inl ⟨by rfl, fun w' hw' => by (clear hw'; go_simp)⟩) hHeld ?_
                        simp only [Act.put, List.setIfInBounds_toArray, List.set_cons_zero, List.set_cons_succ]
                        refine wpAnyH_take (i := 23) (oi := { dst := some 159, op := Op.load 3 (Operand.tmp 158), type := 3, pos := "law.go:182", after := #[{ on := 22, ground := Ground.data }, { on := 4, ground := Ground.guard }], guard := some (4, false) }) (v := .int .i64 (x.2.2.2 : Int)) rfl (by kernel_rfl) (by kernel_rfl) (by kernel_rfl) (fun _ _ _ h => h) (Or.inl ⟨by rfl, fun w' hw' => by (have c := HC21.out w' hw'; clear hw'; go_simp)⟩) hHeld ?_
                        simp only [Act.put, List.setIfInBounds_toArray, List.set_cons_zero, List.set_cons_succ]
                        refine wpAnyH_take (i := 24) (oi := { dst := some 160, op := Op.build 51 #[(0, Operand.tmp 149), (1, Operand.tmp 154), (2, Operand.tmp 159)], type := 51, pos := "law.go:182", after := #[{ on := 13, ground := Ground.data }, { on := 18, ground := Ground.data }, { on := 23, ground := Ground.data }, { on := 4, ground := Ground.guard }], guard := some (4, false) }) (v := .agg (WA id x).toArray) rfl (by kernel_rfl) (by kernel_rfl) (by kernel_rfl) (fun _ _ _ h => h) (Or.inl ⟨by rfl, fun w' _ => exec_build3 51 (.tmp 149) (.tmp 154) (.tmp 159) rfl _ _ _ rfl rfl rfl (WA id x).toArray HBW.out⟩) hHeld ?_
                        simp only [Act.put, List.setIfInBounds_toArray, List.set_cons_zero, List.set_cons_succ]
                        refine wpAnyH_take (i := 25) (oi := { dst := some 161, op := Op.binOp BinOp.neq 51 (Operand.tmp 145) (Operand.tmp 160) 51, type := 4, pos := "law.go:182", after := #[{ on := 9, ground := Ground.data }, { on := 24, ground := Ground.data }, { on := 4, ground := Ground.guard }], guard := some (4, false) }) (v := .bool false) rfl (by kernel_rfl) (by kernel_rfl) (by kernel_rfl) (fun _ _ _ h => h) (Or.inl ⟨by rfl, fun w' hw' => by (have hq := HEQ.out; clear hw'; go_simp)⟩) hHeld ?_
                        simp only [Act.put, List.setIfInBounds_toArray, List.set_cons_zero, List.set_cons_succ]
                        refine wpAnyH_take (i := 26) (oi := { dst := some 162, op := Op.pick (Operand.tmp 140) (Operand.const (Value.bool true)) (Operand.tmp 161), type := 4, pos := "law.go:182", after := #[{ on := 4, ground := Ground.data }, { on := 25, ground := Ground.data }], guard := none }) (v := .bool false) rfl (by kernel_rfl) (by kernel_rfl) (by kernel_rfl) (fun _ _ _ h => h) (Or.inl ⟨by rfl, fun w' hw' => by (clear hw'; go_simp)⟩) hHeld ?_
                        simp only [Act.put, List.setIfInBounds_toArray, List.set_cons_zero, List.set_cons_succ]
                        refine wpAnyH_take (i := 27) (oi := { dst := some 163, op := Op.move (Operand.tmp 162), type := 4, pos := "law.go:182", after := #[{ on := 26, ground := Ground.data }, { on := 4, ground := Ground.chain }], guard := none }) (v := .bool false) rfl (by kernel_rfl) (by kernel_rfl) (by kernel_rfl) (fun _ _ _ h => h) (Or.inl ⟨by rfl, fun w' hw' => by (clear hw'; go_simp)⟩) hHeld ?_
                        simp only [Act.put, List.setIfInBounds_toArray, List.set_cons_zero, List.set_cons_succ]
                        refine wpAnyH_take (i := 28) (oi := { dst := some 164, op := Op.move (Operand.tmp 13), type := 43, pos := "law.go:182", after := #[{ on := 27, ground := Ground.guard }], guard := some (27, false) }) (v := .slice (some ⟨gx, 0, none⟩) nx cx) rfl (by kernel_rfl) (by kernel_rfl) (by kernel_rfl) (fun _ _ _ h => h) (Or.inl ⟨by rfl, fun w' hw' => by (clear hw'; go_simp)⟩) hHeld ?_
                        simp only [Act.put, List.setIfInBounds_toArray, List.set_cons_zero, List.set_cons_succ]
                        refine wpAnyH_take (i := 29) (oi := { dst := some 165, op := Op.move (Operand.tmp 15), type := 3, pos := "law.go:182", after := #[{ on := 27, ground := Ground.guard }], guard := some (27, false) }) (v := .int .i64 (nn1 : Int)) rfl (by kernel_rfl) (by kernel_rfl) (by kernel_rfl) (fun _ _ _ h => h) (Or.inl ⟨by rfl, fun w' hw' => by (clear hw'; go_simp)⟩) hHeld ?_
                        simp only [Act.put, List.setIfInBounds_toArray, List.set_cons_zero, List.set_cons_succ]
                        refine wpAnyH_take (i := 30) (oi := { dst := some 166, op := Op.indexAddr 43 (Operand.tmp 164) (Operand.tmp 165), type := 0, pos := "law.go:182", after := #[{ on := 28, ground := Ground.data }, { on := 29, ground := Ground.data }, { on := 27, ground := Ground.guard }], guard := some (27, false) }) (v := .pointer (some ⟨gx, nn1 * 37, none⟩)) rfl (by kernel_rfl) (by kernel_rfl) (by kernel_rfl) (fun _ _ _ h => h) (Or.inl ⟨by rfl, fun w' hw' => by (clear hw'; go_simp)⟩) hHeld ?_
                        simp only [Act.put, List.setIfInBounds_toArray, List.set_cons_zero, List.set_cons_succ]
                        refine wpAnyH_take (i := 31) (oi := { dst := some 167, op := Op.fieldAddr 58 (Operand.tmp 166) 1, type := 0, pos := "law.go:182", after := #[{ on := 30, ground := Ground.data }, { on := 27, ground := Ground.guard }], guard := some (27, false) }) (v := .pointer (some ⟨gx, nn1 * 37 + 3, none⟩)) rfl (by kernel_rfl) (by kernel_rfl) (by kernel_rfl) (fun _ _ _ h => h) (Or.inl ⟨by rfl, fun w' hw' => by (clear hw'; go_simp)⟩) hHeld ?_
                        simp only [Act.put, List.setIfInBounds_toArray, List.set_cons_zero, List.set_cons_succ]
                        refine wpAnyH_take (i := 32) (oi := { dst := some 168, op := Op.load 56 (Operand.tmp 167), type := 56, pos := "law.go:182", after := #[{ on := 31, ground := Ground.data }, { on := 27, ground := Ground.guard }], guard := some (27, false) }) (v := .agg R1.toArray) rfl (by kernel_rfl) (by kernel_rfl) (by kernel_rfl) (fun _ _ _ h => h) (yieldsIf_load_mid (by rfl) _ _ rfl gx (nn1 * 37 + 3) rfl R1 _ (fun V hV => HC4.out V hV) Tryz.underlying56 rfl HIR1.out) hHeld ?_
                        simp only [Act.put, List.setIfInBounds_toArray, List.set_cons_zero, List.set_cons_succ]
                        refine wpAnyH_take (i := 33) (oi := { dst := some 169, op := Op.move (Operand.tmp 19), type := 47, pos := "law.go:182", after := #[{ on := 27, ground := Ground.guard }], guard := some (27, false) }) (v := .slice (some ⟨gp, 0, none⟩) nl c) rfl (by kernel_rfl) (by kernel_rfl) (by kernel_rfl) (fun _ _ _ h => h) (Or.inl ⟨by rfl, fun w' hw' => by (clear hw'; go_simp)⟩) hHeld ?_
                        simp only [Act.put, List.setIfInBounds_toArray, List.set_cons_zero, List.set_cons_succ]
                        refine wpAnyH_take (i := 34) (oi := { dst := some 170, op := Op.move (Operand.tmp 21), type := 3, pos := "law.go:182", after := #[{ on := 27, ground := Ground.guard }], guard := some (27, false) }) (v := .int .i64 (jj : Int)) rfl (by kernel_rfl) (by kernel_rfl) (by kernel_rfl) (fun _ _ _ h => h) (Or.inl ⟨by rfl, fun w' hw' => by (clear hw'; go_simp)⟩) hHeld ?_
                        simp only [Act.put, List.setIfInBounds_toArray, List.set_cons_zero, List.set_cons_succ]
                        refine wpAnyH_take (i := 35) (oi := { dst := some 171, op := Op.indexAddr 47 (Operand.tmp 169) (Operand.tmp 170), type := 0, pos := "law.go:182", after := #[{ on := 33, ground := Ground.data }, { on := 34, ground := Ground.data }, { on := 27, ground := Ground.guard }], guard := some (27, false) }) (v := .pointer (some ⟨gp, jj * 36, none⟩)) rfl (by kernel_rfl) (by kernel_rfl) (by kernel_rfl) (fun _ _ _ h => h) (Or.inl ⟨by rfl, fun w' hw' => by (clear hw'; go_simp)⟩) hHeld ?_
                        simp only [Act.put, List.setIfInBounds_toArray, List.set_cons_zero, List.set_cons_succ]
                        refine wpAnyH_take (i := 36) (oi := { dst := some 172, op := Op.fieldAddr 60 (Operand.tmp 171) 2, type := 0, pos := "law.go:182", after := #[{ on := 35, ground := Ground.data }, { on := 27, ground := Ground.guard }], guard := some (27, false) }) (v := .pointer (some ⟨gp, jj * 36 + 2, none⟩)) rfl (by kernel_rfl) (by kernel_rfl) (by kernel_rfl) (fun _ _ _ h => h) (Or.inl ⟨by rfl, fun w' hw' => by (clear hw'; go_simp)⟩) hHeld ?_
                        simp only [Act.put, List.setIfInBounds_toArray, List.set_cons_zero, List.set_cons_succ]
                        refine wpAnyH_take (i := 37) (oi := { dst := some 173, op := Op.load 56 (Operand.tmp 172), type := 56, pos := "law.go:182", after := #[{ on := 36, ground := Ground.data }, { on := 27, ground := Ground.guard }], guard := some (27, false) }) (v := .agg R2.toArray) rfl (by kernel_rfl) (by kernel_rfl) (by kernel_rfl) (fun _ _ _ h => h) (yieldsIf_load_mid (by rfl) _ _ rfl gp (jj * 36 + 2) rfl R2 _ (fun V hV => HC5.out V hV) Tryz.underlying56 rfl HIR2.out) hHeld ?_
                        simp only [Act.put, List.setIfInBounds_toArray, List.set_cons_zero, List.set_cons_succ]
                        refine wpAnyH_ready (rs := [38]) (by kernel_rfl) (by simp) ?_
                        refine (AllReadyH.cons (o := { dst := some 174, op := Op.call { callee := Callee.value (Operand.func 17), args := #[Operand.tmp 168, Operand.tmp 173], argTypes := #[56, 56] }, type := 4, pos := "law.go:182", after := #[{ on := 32, ground := Ground.data }, { on := 37, ground := Ground.data }, { on := 27, ground := Ground.chain }, { on := 27, ground := Ground.guard }], guard := some (27, false) }) rfl (fun K hK => ?_) AllReadyH.nil)
                        go_simp
                        refine (HSM.out _ ((Kp.refl No wr).drew)).mono ?_
                        rintro e' wA ⟨rfl, hbA⟩
                        have HKA : Hid (Kp No wr wA) := (Kp.refl No wr).drew.andNone (Kp.below hbA)
                        clear hbA
                        go_wp2_with fail
                        refine hK.out _ _ (HKA.out) (fun hh => ?_)
                        clear hK K hHeld
                        have hHeld := hh
                        clear hh
                        try simp only [Act.put, List.setIfInBounds_toArray, List.set_cons_zero, List.set_cons_succ]
                        refine wpAnyH_take (i := 39) (oi := { dst := some 175, op := Op.unOp UnOp.not 4 (Operand.tmp 174), type := 4, pos := "law.go:182", after := #[{ on := 38, ground := Ground.data }, { on := 27, ground := Ground.guard }], guard := some (27, false) }) (v := .bool false) rfl (by kernel_rfl) (by kernel_rfl) (by kernel_rfl) (fun _ _ _ h => h) (Or.inl ⟨by rfl, fun w' hw' => by (clear hw'; go_simp)⟩) hHeld ?_
                        simp only [Act.put, List.setIfInBounds_toArray, List.set_cons_zero, List.set_cons_succ]
                        refine wpAnyH_take (i := 40) (oi := { dst := some 176, op := Op.pick (Operand.tmp 163) (Operand.const (Value.bool true)) (Operand.tmp 175), type := 4, pos := "law.go:182", after := #[{ on := 27, ground := Ground.data }, { on := 39, ground := Ground.data }], guard := none }) (v := .bool false) rfl (by kernel_rfl) (by kernel_rfl) (by kernel_rfl) (fun _ _ _ h => h) (Or.inl ⟨by rfl, fun w' hw' => by (clear hw'; go_simp)⟩) hHeld ?_
                        simp only [Act.put, List.setIfInBounds_toArray, List.set_cons_zero, List.set_cons_succ]
                        refine wpAnyH_done (by kernel_rfl) ?_ _
                        clear hHeld
                        go_wp2_with fail
                        refine ⟨⟨jj + 1, nn1 + 1, by omega, by go_num, by go_num, by omega, HQN.out, HSS2.out.1.kept HKA.out, HSS2.out.2.1.kb HKA.out.ofNo hbv0, Sim.Row.kept HSS2.out.2.2.1 HKA.out, by have := HKA.out.size; have := HSS2.out.2.2.2.1; omega, PRow.cells HSS2.out.2.2.2.2 (CellsKept.of_kept (kp_none HKA.out)) hbwr⟩, by simp [intOf]; omega⟩
                      · have hqK := HWD.out.end' HQ2.out.2.2 (.inr (by have := HQ2.out.1; omega))
                        have hfin : nn1 = nx ∧ kk = ny := ⟨by rw [HQ2.out.1, hqK, HLU.out], by rw [HQ2.out.2.1, hqK, HNY.out]⟩
                        have hjlI : (jj : Int) < (nl : Int) := by omega
                        go_wp2_with fail
                        go_round
                        case rel => exact ⟨i + 1, nn1, kk, by omega, rfl, rfl, by go_num, hnx1, hkk, .inr ⟨by omega, hfin⟩, HSS2.out.1, HSS2.out.2.1, HSS2.out.2.2.1, HSS2.out.2.2.2.1⟩
                        case measure => simp [intOf]; omega
                    · have hjlI : ¬ (jj : Int) < (nl : Int) := by omega
                      have hjn : jj = nl := by omega
                      subst hjn
                      have HQN : Hid (q + jj = (allI (fP p) (sP p) ((idsN p).take (i + 1))).length) := by rw [Hid, HTAKE.out, List.length_append, ← HQ.out.1, List.length_map, HNL.out]
                      go_wp2_with fail
                      go_round
                      case rel => exact ⟨i + 1, nn1, kk, by omega, rfl, rfl, by go_num, hnx1, hkk, .inl ⟨q + jj, HQN.out, HQ2.out⟩, HSS2.out.1, HSS2.out.2.1, HSS2.out.2.2.1, HSS2.out.2.2.2.1⟩
                      case measure => simp [intOf]; omega
              · have hfin : nn = nx ∧ kk = ny := by
                  rcases HQ0.out with ⟨q, h1, h2, h3, h4⟩ | ⟨_, h⟩
                  · have h5 := HWD.out.end' h4 (.inr (by omega))
                    exact ⟨by rw [h2, h5, HLU.out], by rw [h3, h5, HNY.out]⟩
                  · exact h
                have hiltI : (i : Int) < (I : Int) := by omega
                obtain ⟨rfl, rfl⟩ := hfin
                go_wp2_with fail
                refine (alive_any _ (Vars.kept HV.out HSS.out.1.2.2.2.2.2.2.2)).mono ?_
                rintro e w9 ⟨rfl, hk9⟩
                have HK9 := hid (HSS.out.1.2.2.2.2.2.2.2.andNone hk9)
                clear hk9
                go_wp2_with fail
                go_ret
                exact ⟨rfl, HK9.out⟩
            · have hfin : nn = nx ∧ kk = ny := by
                rcases HQ0.out with ⟨q, h1, h2, h3, h4⟩ | ⟨_, h⟩
                · have hIi : i = I := by omega
                  rw [hIi, ← HI.out, List.take_length, HX.out] at h1
                  have h5 := HWD.out.end' h4 (.inl h1)
                  exact ⟨by rw [h2, h5, HLU.out], by rw [h3, h5, HNY.out]⟩
                · exact h
              have hiltI : ¬ (i : Int) < (I : Int) := by omega
              obtain ⟨rfl, rfl⟩ := hfin
              go_wp2_with fail
              refine (alive_any _ (Vars.kept HV.out HSS.out.1.2.2.2.2.2.2.2)).mono ?_
              rintro e w9 ⟨rfl, hk9⟩
              have HK9 := hid (HSS.out.1.2.2.2.2.2.2.2.andNone hk9)
              clear hk9
              go_wp2_with fail
              go_ret
              exact ⟨rfl, HK9.out⟩

end Go.Proofs.YtaaioaocjfpajaaGreatDoor.Sh
end
