/- Of the proof: the texts FrTells, FrScanE, FrAlive, TlvRForm, TlvRefForm, FrRPut, FrLight, FrRow, FrScan, FrAt, one behind the other. -/
import Derived.Test.YtaaioaocjfpajaaGreatDoorB8
import Derived.RangeFuncBox
import Derived.Test.YtaaioaocjfpajaaGreatDoorB3
import Derived.Test.YtaaioaocjfpajaaGreatDoorB2
import Derived.Deep.LoopGhost
import Derived.Test.YtaaioaocjfpajaaGreatDoorB4
import Derived.Deep.AppendLies
section
/-
  What the iterator of a scan tells, round by round.
-/
namespace Go.Proofs.YtaaioaocjfpajaaGreatDoor
open Go.RowKit Go.Shelf
open Tlv (Tr BySlS AgreeS Agree)
open Crc (hid Kept Tab)
attribute [local go_sem] Oper.semAt_some

theorem wpListIn_val {F : Fence} {n : Nat} {P : Program} {ops : Array Oper} {rest : List Oper} {o : Oper} {a : Act} {Q : Exit → Act → World → Prop} {w w' : World} {v : Value} (hgd : o.guard = none) (hd : ∀ c, o.op ≠ .defer c) (hF : ∀ f, F.fn f)
    (hr : (execOp a.eval o).run P w = .ok (.value v) w') (h : wpListIn F n P ops Q rest (a.put o.dst v) w') : wpListIn F n P ops Q (o :: rest) a w := by
  unfold wpListIn
  rw [if_pos (by simp [Region.wanted, hgd])]
  refine ⟨fun f _ => hF f, ?_⟩
  rw [Oper.semAt_eq _ _ _ hd, hr]
  exact h
theorem wpListIn_skip {F : Fence} {n : Nat} {P : Program} {ops : Array Oper} {rest : List Oper} {o : Oper} {a : Act} {Q : Exit → Act → World → Prop} {w w' : World} (hgd : o.guard = none) (hd : ∀ c, o.op ≠ .defer c) (hF : ∀ f, F.fn f)
    (hr : (execOp a.eval o).run P w = .ok .skip w') (h : wpListIn F n P ops Q rest (a.put o.dst undef) w') : wpListIn F n P ops Q (o :: rest) a w := by
  unfold wpListIn
  rw [if_pos (by simp [Region.wanted, hgd])]
  refine ⟨fun f _ => hF f, ?_⟩
  rw [Oper.semAt_eq _ _ _ hd, hr]
  exact h

theorem exec_load {P : Program} {o : Oper} {a : Act} {w : World} (ty : TypeId) (x : Operand) (ho : o.op = .load ty x) (b off : Nat) (hx : a.eval x = .pointer (some ⟨b, off, none⟩)) (cs : List Value) (d : TypeDesc) (hc : w.rangeAt b off cs)
    (hu : P.underlying ty = some d) (hd : d.isRow = true) (hi : (P.info? ty).map (·.size) = some cs.length) : (execOp a.eval o).run P w = .ok (.value (.agg cs.toArray)) w := by
  unfold execOp
  simp only [ho, hx, Instr.loadAt, Instr.sureAddr, Sem.run_bind, Sem.run_pure, Result.andThen_ok, run_loadVar_mid w b off ty cs d hc hu hd hi]
theorem exec_store {P : Program} {o : Oper} {a : Act} {w : World} (ty : TypeId) (x y : Operand) (ho : o.op = .store ty x y) (b off : Nat) (cells : Array Value) (hx : a.eval x = .pointer (some ⟨b, off, none⟩)) (hy : a.eval y = .agg cells)
    (ht : w.there b off cells.size) (hi : (P.info? ty).map (·.size) = some cells.size) (h1 : cells.all (·.oneCell') = true) : (execOp a.eval o).run P w = .ok .skip (w.setCells b off cells.toList) := by
  unfold execOp
  simp only [ho, hx, hy, Instr.storeAt, Instr.sureAddr, Sem.run_bind, Sem.run_pure, Result.andThen_ok, run_storeVar_mid w b off ty cells ht hi h1]
theorem exec_build3 {P : Program} {o : Oper} {a : Act} {w : World} (ty : TypeId) (x y z : Operand) (ho : o.op = .build ty #[(0, x), (1, y), (2, z)]) (vx vy vz : Value) (hx : a.eval x = vx) (hy : a.eval y = vy) (hz : a.eval z = vz) (C : Array Value)
    (hb : P.built ty [(0, vx), (1, vy), (2, vz)] = some C) : (execOp a.eval o).run P w = .ok (.value (.agg C)) w := by
  have e : P.built ty ((#[(0, x), (1, y), (2, z)] : Array (Nat × Operand)).map fun (i, x) => (i, a.eval x)).toList = some C := by
    rw [← hb]
    simp only [List.map_toArray, List.map_cons, List.map_nil, hx, hy, hz]
  unfold execOp
  simp only [ho, Sem.run_bind, run_build w ty _ C e, Result.andThen_ok]
  rfl

/-- A placed record's cells. -/
def placedA (p n : Nat) (C : List Value) : List Value := .int .i64 (p : Int) :: .int .i64 (n : Int) :: C
theorem built62 (p n : Nat) (k : Int) (nm : List Int) (h : nm.length = 32) (a : Option Addr) (l c : Nat) : Tryz.prog.built 60 [(0, .int .i64 (p : Int)), (1, .int .i64 (n : Int)), (2, .agg (recA k nm (.slice a l c)).toArray)] = some (placedA p n (recA k nm (.slice a l c))).toArray := by
  obtain ⟨x0, x1, x2, x3, x4, x5, x6, x7, x8, x9, x10, x11, x12, x13, x14, x15, x16, x17, x18, x19, x20, x21, x22, x23, x24, x25, x26, x27, x28, x29, x30, x31, rfl⟩ := ex32 h
  kernel_rfl

theorem BySlS.putl {B : Nat} {S : Nat → Prop} {U W : World} {v : Value} {xs : List Int} (h : BySlS S U v xs) (k : Putl B U W) : BySlS S W v xs := by
  obtain ⟨a, cap, h1, h2, h3, h4, h5, h6, h7⟩ := h
  refine ⟨a, cap, h1, h2, h3, h4, h5, h6, fun hne => ?_⟩
  obtain ⟨g, o, e, hS, hc⟩ := h7 hne
  exact ⟨g, o, e, hS, fun i hi => k.cell (hc i hi)⟩

/-- The iterator's world: the table at b; the bytes; both below B; the two boxes that it has taken along, at p and q. -/
def Ts (B b p q : Nat) (v : Value) (xs : List Int) (W : World) : Prop :=
  (B ≤ W.heap.size ∧ b < B ∧ p < B ∧ q < B ∧ p ≠ b ∧ q ≠ b) ∧ TabX W b ∧ BySlS (fun x => x ≠ b ∧ x < B) W v xs ∧ W.cell? ⟨p, 0, none⟩ = some v ∧ W.cell? ⟨q, 0, none⟩ = some (.pointer (some ⟨b, 0, none⟩))

theorem tabX_below {B b : Nat} {w w' : World} (h : TabX w b) (k : Below B w w') (hb : b < B) : TabX w' b := by
  obtain ⟨f, n, hf, h1, h2, h3, h4, h5, h6, h7⟩ := h
  have c : ∀ j, w'.cell? ⟨b, j, none⟩ = w.cell? ⟨b, j, none⟩ := fun j => k.cell (p := ⟨b, j, none⟩) hb
  refine ⟨f, n, hf, Nat.lt_of_lt_of_le h1 k.size, (c _).trans h2, (c _).trans h3, (c _).trans h4, fun j hj => ?_, fun e j hj => (c _).trans (h6 e j hj), fun j => (k.frozen (p := ⟨b, j, none⟩) hb).trans (h7 j)⟩
  obtain ⟨x, hx⟩ := h5 j hj
  exact ⟨x, (c _).trans hx⟩

theorem Ts.below {B b p q : Nat} {v : Value} {xs : List Int} {U V : World} (h : Ts B b p q v xs U) (k : Below B U V) : Ts B b p q v xs V := by
  obtain ⟨⟨h1, h2, h3, h4, h5, h6⟩, ht, hv, hp, hq⟩ := h
  exact ⟨⟨Nat.le_trans h1 k.size, h2, h3, h4, h5, h6⟩, tabX_below ht k h2, BySlS.below hv k (fun g hg => hg.2), (k.cell (p := ⟨p, 0, none⟩) h3).trans hp, (k.cell (p := ⟨q, 0, none⟩) h4).trans hq⟩
theorem Ts.took {B b p q : Nat} {v : Value} {xs : List Int} {U V : World} (h : Ts B b p q v xs U) (k : Kept b U V) (t : TabX V b) : Ts B b p q v xs V := by
  obtain ⟨⟨h1, h2, h3, h4, h5, h6⟩, _, hv, hp, hq⟩ := h
  exact ⟨⟨Nat.le_trans h1 k.size, h2, h3, h4, h5, h6⟩, t, BySlS.kept hv k (fun g hg => ⟨hg.1, by omega⟩), (k.cell (p := ⟨p, 0, none⟩) (by simp; omega) h5).trans hp, (k.cell (p := ⟨q, 0, none⟩) (by simp; omega) h6).trans hq⟩

/-- The values of round k. -/
def Vs (b : Nat) (xs : List Int) (k m : Nat) (vs : Array Value) (U : World) : Prop :=
  ∃ (x : Item) (a : Option Addr) (c : Nat), (tl xs 0)[k]? = some x ∧ vs = #[.agg (placedA x.1 x.2.2.2 (recA x.2.2.1.1 x.2.2.1.2.1 (.slice a x.2.2.1.2.2.length c))).toArray, .int .i64 x.2.1] ∧
    BySlS (fun g => m ≤ g ∧ g ≠ b ∧ g < U.heap.size) U (.slice a x.2.2.1.2.2.length c) x.2.2.1.2.2 ∧ (x.2.2.1.2.1.length = 32 ∧ ∀ y ∈ x.2.2.1.2.1, 0 ≤ y ∧ y ≤ 255)

theorem wide_d {n : Nat} : Fence.wide.depth.isSome = true → 1 ≤ n := fun h => by simp [Fence.wide] at h

theorem bySlS_drop {S : Nat → Prop} {w : World} {b o cap E : Nat} {xs : List Int} (h : BySlS S w (.slice (some ⟨b, o, none⟩) xs.length cap) xs) (hE : E < xs.length) : BySlS S w (.slice (some ⟨b, o + E, none⟩) (xs.length - E) (cap - E)) (xs.drop E) := by
  obtain ⟨a', cap', e, h2, h3, h4, h5, h6, h7⟩ := h
  simp only [Value.slice.injEq, true_and] at e
  obtain ⟨rfl, rfl⟩ := e
  have hl : (xs.drop E).length = xs.length - E := List.length_drop
  refine ⟨_, cap - E, by rw [hl], by rw [hl]; omega, by unfold maxLen at *; omega, by simp, by rw [hl]; omega, fun x hx => h6 x (List.mem_of_mem_drop hx), fun _ => ?_⟩
  obtain ⟨b', o', e, hS, hc⟩ := h7 (by intro e; subst e; simp at hE)
  simp only [Option.some.injEq, Addr.mk.injEq, and_true] at e
  obtain ⟨rfl, rfl⟩ := e
  refine ⟨b, o + E, rfl, hS, fun i hi => ?_⟩
  rw [hl] at hi
  rw [Nat.add_assoc, hc (E + i) (by omega)]
  simp

set_option maxHeartbeats 4000000 in
set_option maxRecDepth 100000 in
theorem tells_frames (n B b p q : Nat) (v : Value) (xs : List Int) :
    Tells n 127 #[.pointer (some ⟨p, 0, none⟩), .pointer (some ⟨q, 0, none⟩)] b (Ts B b p q v xs) (Vs b xs) (tl xs 0).length := by
  intro l J Jx W hT hJ hY h0
  obtain ⟨_, _, hv0, _, _⟩ := id hT
  obtain ⟨a0, cap, rfl, hcap, hmax, _, h47, _, _⟩ := id hv0
  have HT := hid hT
  have HJ := hid hJ
  have HY := hid hY
  have H0 := hid h0
  unfold maxLen at hmax
  clear hT hJ hY h0 hv0
  obtain ⟨_, _, _, hp0, _⟩ := HT.out
  obtain ⟨_, _, _, _, hq0⟩ := HT.out
  refine callsIn_of_wp Tryz.func127 rfl trivial ?_ rfl
  simp only [Tryz.ntmps127, List.size_toArray, List.length_cons, List.length_nil, Nat.reduceAdd, Nat.reduceSub, Array.replicate_succ, Array.replicate_zero, List.push_toArray, List.append_toArray, List.nil_append, List.cons_append]
  gi_wp2_with fail
  clear hp0 hq0
  gi_loopw [4] (fun i wr => ∃ k P : Nat, P ≤ xs.length ∧ i = .int .i64 P ∧ Hid ((tl xs 0).drop k = tl xs P ∧ k ≤ (tl xs 0).length) ∧ Hid (∃ m, m ≤ wr.heap.size ∧ J k m wr) ∧ Hid (Ts B b p q (.slice a0 xs.length cap) xs wr)) (fun i _ => xs.length - (intOf i).toNat)
  case atStart => exact ⟨0, 0, Nat.zero_le _, rfl, ⟨rfl, Nat.zero_le _⟩, ⟨_, Nat.le_refl _, H0.out⟩, HT⟩
  case round =>
    obtain ⟨k, P, hP, rfl, HD, HJk, HTk⟩ := hrel
    obtain ⟨⟨hB1, hB2, hB3, hB4, hB5, hB6⟩, htab, hv, hp, hq⟩ := HTk.out
    by_cases hlt : P < xs.length
    · obtain ⟨a', cap', ev, _, _, _, _, _, h7⟩ := id hv
      simp only [Value.slice.injEq, true_and] at ev
      obtain ⟨rfl, rfl⟩ := ev
      obtain ⟨g, o, rfl, hgb, _⟩ := h7 (by intro e; subst e; simp at hlt)
      obtain ⟨L, hL, hLc⟩ := tl_head hlt
      have hkN : k < (tl xs 0).length := by
        have h := congrArg List.length HD.out.1
        rw [hL, List.length_drop, List.length_cons] at h
        omega
      have HAT : Hid ((tl xs 0)[k]? = some (P, takeF (xs.drop P))) := by
        have h := congrArg (fun l : List Item => l[0]?) HD.out.1
        rw [hL] at h
        rw [Hid]
        simpa using h
      have HDR : Hid ((tl xs 0).drop (k + 1) = L) := by
        have h := congrArg (fun l : List Item => l.drop 1) HD.out.1
        rw [hL] at h
        rw [Hid]
        simpa [List.drop_drop, Nat.add_comm] using h
      have HLC := hid hLc
      have HKN : Hid (k + 1 ≤ (tl xs 0).length) := hkN
      have HVV : Hid (BySlS (fun x => x ≠ b ∧ x < wr.heap.size) wr (.slice (some ⟨g, o + P, none⟩) (xs.length - P) (cap - P)) (xs.drop P)) := BySlS.mono (bySlS_drop hv hlt) (fun g hg => ⟨hg.1, Nat.lt_of_lt_of_le hg.2 hB1⟩)
      have HTAB := hid htab
      have hPi : (P : Int) < (xs.length : Int) := by omega
      clear hv h7 htab hL hLc
      gi_wp2_with fail
      refine wpIn_wide.2 (tell_region xs (takeF (xs.drop P)) rfl hlt hcap HTAB.out hp hq hB5 hB6 HVV.out (fun gr ar cr wx hTk => ?_))
      obtain ⟨X, hX⟩ : ∃ X, takeF (xs.drop P) = X := ⟨_, rfl⟩
      have HP0 : Hid (X.1 = 0 → 4 ≤ X.2.2 ∧ X.2.2 ≤ xs.length - P) := by
        rw [Hid, ← hX]
        intro h
        have h1 := takeF_pos h
        rw [List.length_drop] at h1
        exact h1
      rw [hX] at hTk HAT HLC
      rw [hX]
      clear hX
      obtain ⟨hk1, ht1, hg0, hg1, hrg, hby, hnx⟩ := hTk
      have HT2 := hid (HTk.out.took hk1 ht1)
      obtain ⟨m, hmw, hJm⟩ := HJk.out
      have HJ2 := hid (HJ.out k m _ _ hJm HT2.out hk1)
      have hmx : m ≤ wx.heap.size := Nat.le_trans hmw hk1.size
      have HVS : Hid (Vs b xs k m #[.agg (placedA P X.2.2 (recA X.2.1.1 X.2.1.2.1 (.slice ar X.2.1.2.2.length cr))).toArray, .int .i64 X.1] wx) :=
        ⟨(P, X), ar, cr, HAT.out, rfl, BySlS.mono hby (fun g hg => ⟨by omega, by omega, hg.2⟩), hnx⟩
      have HBU := hid (built62 P X.2.2 X.2.1.1 X.2.1.2.1 hnx.1 ar X.2.1.2.2.length cr)
      have HCL := hid (recA_length X.2.1.1 X.2.1.2.1 (.slice ar X.2.1.2.2.length cr) hnx.1)
      have HRG := hid hrg
      obtain ⟨fn, tmps, assign, body, hy, hR⟩ := HY.out k m wx _ hkN hmx HJ2.out HT2.out HVS.out
      obtain ⟨C, hC⟩ : ∃ C, recA X.2.1.1 X.2.1.2.1 (.slice ar X.2.1.2.2.length cr) = C := ⟨_, rfl⟩
      rw [hC] at HBU HCL HRG hy
      rw [hC]
      have HIC : Hid ((Tryz.prog.info? 56).map (·.size) = some C.length) := by rw [Hid, HCL.out]; exact Tryz.info35
      generalize hPA : placedA P X.2.2 C = PA at *
      have HR := hid hR
      generalize hf : X.1 = f at *
      generalize hn : X.2.2 = N at *
      have HF := hid (And.intro hf hn)
      clear hf hn hPA hC hk1 ht1 hby hnx hrg hp hq hR HVS HVV hJm hmw hmx
      gi_wp2_with (first
        | (refine wpListIn_val (by rfl) (fun _ h => by cases h) (fun _ => trivial) (exec_load 56 _ (by rfl) gr 0 (by rfl) C _ HRG.out Tryz.underlying56 rfl HIC.out) ?_)
        | (refine wpListIn_val (by rfl) (fun _ h => by cases h) (fun _ => trivial) (exec_build3 60 _ _ _ (by rfl) _ _ _ (by rfl) (by rfl) (by rfl) PA.toArray HBU.out) ?_))
      refine ⟨wide_d, HR.out.mono ?_⟩
      rintro e W3 (⟨rfl, hJ3, hT3⟩ | ⟨rfl, hJx3⟩)
      · have HJ3 := hid hJ3
        have HT3 := hid hT3
        clear hJ3 hT3
        by_cases hf0 : f = 0
        · have hP0 := HP0.out hf0
          have HLL : Hid ((tl xs 0).drop (k + 1) = tl xs (P + N)) := by
            rcases HLC.out with ⟨_, h⟩ | ⟨h, _⟩
            · rw [Hid, HDR.out, h]
            · exact absurd hf0 h
          have hfb : (f != 0) = false := by simp [hf0]
          clear hf0
          gi_wp2
          go_roundw
          case rel => exact ⟨k + 1, P + N, by omega, by go_num, ⟨HLL.out, HKN.out⟩, ⟨_, Nat.le_refl _, HJ3.out⟩, HT3⟩
          case measure => simp [intOf]; omega
        · have HLL : Hid (k + 1 = (tl xs 0).length) := by
            rcases HLC.out with ⟨h, _⟩ | ⟨_, h⟩
            · exact absurd h hf0
            · have h2 := HDR.out
              rw [h] at h2
              have h3 := congrArg List.length h2
              rw [List.length_drop, List.length_nil] at h3
              rw [Hid]
              omega
          have hfb : (f != 0) = true := by simp [hf0]
          clear hf0
          gi_wp2
          refine bodyPost_ret (results_none rfl _ _ _) rfl ?_
          exact ⟨⟨_, rfl⟩, .inl ⟨_, by rw [← HLL.out]; exact HJ3.out, HT3.out⟩⟩
      · have HJx := hid hJx3
        clear hJx3
        gi_wp2
        refine bodyPost_ret (results_none rfl _ _ _) rfl ?_
        exact ⟨⟨_, rfl⟩, .inr ⟨k + 1, HKN.out, HJx.out⟩⟩
    · have HLL : Hid (k = (tl xs 0).length) := by
        have h := congrArg List.length HD.out.1
        rw [tl_end (p := P) (by omega), List.length_drop, List.length_nil] at h
        have := HD.out.2
        rw [Hid]
        omega
      clear hv
      gi_wp2
      go_end0
      obtain ⟨m, _, hJm⟩ := HJk.out
      exact ⟨⟨_, rfl⟩, .inl ⟨m, by rw [← HLL.out]; exact hJm, HTk.out⟩⟩

/-- frames. -/
theorem frames_any (g : Option Addr) (a : Option Addr) (len cap : Nat) (w : World) :
    Calls Tryz.prog 91 #[.pointer g, .slice a len cap] w fun e w' => e = .returned (.func (.func 127) #[] #[.pointer (some ⟨w.heap.size + 1, 0, none⟩), .pointer (some ⟨w.heap.size, 0, none⟩)]) ∧
      w' = (w.alloc (.cells #[.pointer g] 32)).alloc (.cells #[.slice a len cap] 54) := by
  have hmf : ∀ (fn : Fn) (first cap : Array Value) (w : World), (Instr.makeFunc fn first cap).run Tryz.prog w = .ok (.func fn first cap) w := fun _ _ _ _ => rfl
  go_enter Tryz.func91, Tryz.ntmps91
  go_wp2
  go_ret
  exact ⟨rfl, rfl⟩
end Go.Proofs.YtaaioaocjfpajaaGreatDoor
end

section
/-
  Scan of no table, and of no byte; Take and At of no table.
-/
namespace Go.Proofs.YtaaioaocjfpajaaGreatDoor
open Go.RowKit Go.Shelf
open Tlv (Tr BySlS AgreeS Agree)
open Crc (hid Kept Tab)
attribute [local go_sem] Oper.semAt_some

end Go.Proofs.YtaaioaocjfpajaaGreatDoor
end

section
/-
  What must come at any rate: the chapter's example, and a record.
-/
namespace Go.Proofs.YtaaioaocjfpajaaGreatDoor
open Go.RowKit
open Tlv (Tr BySlS AgreeS Agree)
open Crc (hid Kept Tab)
theorem wpList_build2 {P : Program} {ops : Array Oper} {rest : List Oper} {o : Oper} {a : Act} {w : World} {Q : Exit → Act → World → Prop} (hg : o.guard = none) (ty : TypeId) (i j : Nat) (x y : Operand) (ho : o.op = .build ty #[(i, x), (j, y)])
    (vx vy : Value) (hx : a.eval x = vx) (hy : a.eval y = vy) (C : Array Value) (hb : P.built ty [(i, vx), (j, vy)] = some C)
    (h : wpList P ops Q rest (a.put o.dst (.agg C)) w) : wpList P ops Q (o :: rest) a w := by
  have e : P.built ty ((#[(i, x), (j, y)] : Array (Nat × Operand)).map fun (i, x) => (i, a.eval x)).toList = some C := by
    rw [← hb]
    simp only [List.map_toArray, List.map_cons, List.map_nil, hx, hy]
  refine wpList_build hg ty _ ho (by rw [e]; rfl) ?_
  rw [e]
  exact h

theorem zeros32 : ∀ y ∈ List.replicate 32 (0 : Int), 0 ≤ y ∧ y ≤ 255 := by
  intro y hy
  rw [(List.mem_replicate.1 hy).2]
  omega
theorem rightX : RightR 1 (List.replicate 32 0) [120] := ⟨by omega, by omega, by simp, by simp, zeros32, by simp⟩

end Go.Proofs.YtaaioaocjfpajaaGreatDoor
end

section
/-
  Plain mathematics: the form as the reference makes it is the form.
-/
namespace Go.Proofs.YtaaioaocjfpajaaGreatDoor.Tlv
end Go.Proofs.YtaaioaocjfpajaaGreatDoor.Tlv
end

section
/-
  What the reference's form makes of a tree.
-/
namespace Go.Proofs.YtaaioaocjfpajaaGreatDoor.Tlv
open Go.RowKit
attribute [local go_sem ↓] Go.wp_at_zero Go.wp_at_succ

end Go.Proofs.YtaaioaocjfpajaaGreatDoor.Tlv
end

section
/-
  What the reference's Put answers.
-/
namespace Go.Proofs.YtaaioaocjfpajaaGreatDoor
open Go.RowKit
open Tlv (Tr BySlS AgreeS Agree)
open Crc (hid Kept Tab)
end Go.Proofs.YtaaioaocjfpajaaGreatDoor
end

section
/-
  Are records few, and short? Put, Size and the reference's Put of any record.
-/
namespace Go.Proofs.YtaaioaocjfpajaaGreatDoor
open Go.RowKit
open Tlv (Tr BySlS AgreeS Agree)
open Crc (hid Kept Tab)

/-- Few, and short. -/
def lightB (ls : List Nat) : Bool := decide (ls.length ≤ 20) && ls.all (fun l => decide (l ≤ 5100))

set_option maxHeartbeats 1000000 in
set_option maxRecDepth 100000 in
theorem light_any (a : Option Addr) (cap : Nat) (ls : List Nat) (w : World) (hm : ls.length ≤ 4611686018427387904) (hls : ∀ l ∈ ls, l ≤ 9223372036854775807)
    (h : ∀ i, i < ls.length → ∃ g o x c, a = some ⟨g, o, none⟩ ∧ w.cell? ⟨g, o + i * 34 + 33, none⟩ = some (.slice x (ls.getD i 0) c)) :
    Calls Tryz.prog 9 #[.slice a ls.length cap] w fun e w' => e = .returned (.bool (lightB ls)) ∧ w' = w := by
  have H := hid h
  have HM := hid hls
  clear h hls
  by_cases h20 : ls.length ≤ 20
  · have h20' : ¬ ((20 : Int) < ls.length) := by omega
    go_enter Tryz.func9, Tryz.ntmps9
    go_wp2
    go_loop [3] (fun i => ∃ k : Nat, k ≤ ls.length ∧ i = .int .i64 k ∧ Hid (∀ j, j < k → ls.getD j 0 ≤ 5100)) (fun i => ls.length - (intOf i).toNat)
    case atStart => exact ⟨0, Nat.zero_le _, rfl, fun j hj => absurd hj (by omega)⟩
    case round =>
      obtain ⟨k, hk, rfl, HJ⟩ := hrel
      by_cases hlt : k < ls.length
      · obtain ⟨g, o, x, c, rfl, hc⟩ := H.out k hlt
        have hx : ls.getD k 0 ≤ 9223372036854775807 := HM.out _ (by rw [List.getD_eq_getElem?_getD, List.getElem?_eq_getElem hlt]; simp)
        have HN : Hid (ls.getD k 0 ≤ 5100 → ∀ j, j < k + 1 → ls.getD j 0 ≤ 5100) := by
          intro h j hj
          by_cases e : j = k
          · rw [e]; exact h
          · exact HJ.out j (by omega)
        have HB : Hid (¬ ls.getD k 0 ≤ 5100 → lightB ls = false) := by
          intro h
          rw [lightB]
          have : ls.all (fun l => decide (l ≤ 5100)) = false := by
            rw [List.all_eq_false]
            refine ⟨ls[k], List.getElem_mem hlt, ?_⟩
            rw [List.getD_eq_getElem?_getD, List.getElem?_eq_getElem hlt] at h
            simpa using h
          rw [this, Bool.and_false]
        generalize ls.getD k 0 = l at *
        by_cases hl : l ≤ 5100
        · have hl' : ¬ ((5100 : Int) < l) := by omega
          go_wp2
          go_round
          case rel => exact ⟨k + 1, by omega, by go_num, HN.out hl⟩
          case measure => simp [intOf]; omega
        · have hl' : (5100 : Int) < l := by omega
          have HBB := hid (HB.out hl)
          clear hl
          go_wp2
          go_ret
          exact ⟨by rw [HBB.out]; rfl, rfl⟩
      · have HBB : Hid (lightB ls = true) := by
          have hk' : k = ls.length := by omega
          rw [Hid, lightB]
          simp only [Bool.and_eq_true, decide_eq_true_eq, List.all_eq_true]
          refine ⟨h20, fun l hl => ?_⟩
          obtain ⟨i, hi, rfl⟩ := List.getElem_of_mem hl
          have := HJ.out i (by omega)
          rwa [List.getD_eq_getElem?_getD, List.getElem?_eq_getElem hi, Option.getD_some] at this
        go_wp2
        go_ret
        exact ⟨by rw [HBB.out]; rfl, rfl⟩
  · have h20' : (20 : Int) < ls.length := by omega
    have HBB : Hid (lightB ls = false) := by rw [Hid, lightB, decide_eq_false h20, Bool.false_and]
    clear h20
    go_enter Tryz.func9, Tryz.ntmps9
    go_wp2
    go_ret
    exact ⟨by rw [HBB.out]; rfl, rfl⟩

/-- What Put answers of any record. -/
def putX (k : Int) (nm bs : List Int) : List Int := if rightB k bs.length then frameR k nm bs else []
def putF (k : Int) (l : Nat) : Int := if rightB k l then 0 else 1

theorem BySlS.len {S : Nat → Prop} {w : World} {v : Value} {xs : List Int} (h : BySlS S w v xs) : ∃ a c, v = .slice a xs.length c := by
  obtain ⟨a, c, rfl, _⟩ := h
  exact ⟨a, c, rfl⟩

theorem own_all {w : World} {base : Nat} {v : Value} {xs : List Int} (h : Crc.Own w base v (nats xs)) (hl : xs.length ≤ 100000) (hx : ∀ x ∈ xs, 0 ≤ x ∧ x ≤ 255) : BySlS (fun g => base ≤ g ∧ g < w.heap.size) w v xs := by
  rcases h.2 with ⟨rfl, h0⟩ | ⟨g, cap, cur, rfl, hb, hg, hn, hc, hs, ht⟩
  · rw [nats_length] at h0
    have : xs = [] := List.length_eq_zero_iff.1 h0
    subst this
    exact Tlv.BySlS.none _ _
  · rw [nats_length] at hn ⊢
    refine ⟨_, cap, rfl, hn, hc, by simp, by omega, hx, fun _ => ⟨g, 0, rfl, ⟨hb, (Array.getElem?_eq_some_iff.1 hg).1⟩, fun i hi => ?_⟩⟩
    have hi2 : i < (nats xs).length := by rw [nats_length]; exact hi
    rw [Nat.zero_add, World.ownsRow.cellAt (show w.ownsRow base 5 1 _ (nats xs).length (Crc.cl (nats xs)) from h) i (by omega), Crc.cl_at _ i hi2]
    have hb2 := hx (xs.getD i 0) (by rw [List.getD_eq_getElem?_getD, List.getElem?_eq_getElem hi]; simp)
    simp only [nats, List.getD_eq_getElem?_getD, List.getElem?_map, List.getElem?_eq_getElem hi, Option.map_some, Option.getD_some] at hb2 ⊢
    congr 2
    omega

theorem put_one (b : Nat) (k : Int) (nm bs : List Int) (v : Value) (w : World) (hT : TabX w b) (hb : Tlv.BySl 0 w.heap.size w v bs) (hn : nm.length = 32) (hx : ∀ x ∈ nm, 0 ≤ x ∧ x ≤ 255) :
    Calls Tryz.prog 105 #[.pointer (some ⟨b, 0, none⟩), .agg (recA k nm v).toArray] w fun e w' => ∃ a c, e = .returned (.tuple #[.slice a (putX k nm bs).length c, .int .i64 (putF k bs.length)]) ∧ BySlS (fun g => w.heap.size ≤ g ∧ g < w'.heap.size) w' (.slice a (putX k nm bs).length c) (putX k nm bs) ∧ Kept b w w' ∧ TabX w' b := by
  obtain ⟨av, cv, rfl, _, _, _, _, h6, _⟩ := id hb
  unfold putX putF
  cases hr : rightB k bs.length with
  | false =>
    refine (put_no _ k nm bs av cv w hn hr).mono ?_
    rintro e w1 ⟨rfl, hb1⟩
    exact ⟨none, 0, rfl, Tlv.BySlS.none _ _, Kept.below hb1, hT.below hb1⟩
  | true =>
    have hR := right_of hr hn hx h6
    refine (put_yes b k nm bs _ w hT hb hR).mono ?_
    rintro e w1 ⟨v', rfl, ho, hk, ht⟩
    have h1 := own_all ho (by rw [frameR_length hR]; have := hR.2.2.1; omega) (frameR_bd hR)
    obtain ⟨a, c, rfl⟩ := BySlS.len h1
    exact ⟨a, c, rfl, h1, hk, ht⟩

end Go.Proofs.YtaaioaocjfpajaaGreatDoor
end

section
/-
  A slice of placed records that a call builds by append: how it lies in memory.
-/
namespace Go.Proofs.YtaaioaocjfpajaaGreatDoor
open Go.RowKit
open Tlv (Tr BySlS AgreeS Agree)
open Crc (hid Kept Tab)

/-- A told record's cells, its body behind u. -/
def recI (x : Item) (u : Value) : List Value := recA x.2.2.1.1 x.2.2.1.2.1 u
def plI (x : Item) (u : Value) : List Value := placedA x.1 x.2.2.2 (recI x u)
def nmOk (x : Item) : Prop := x.2.2.1.2.1.length = 32 ∧ ∀ y ∈ x.2.2.1.2.1, 0 ≤ y ∧ y ≤ 255

theorem plI_length {x : Item} (h : nmOk x) (u : Value) : (plI x u).length = 36 := by rw [plI, placedA, List.length_cons, List.length_cons, recI, recA_length _ _ _ h.1]
theorem plI_one (x : Item) (a : Option Addr) (l c : Nat) : ∀ v ∈ plI x (.slice a l c), v.oneCell' = true := by
  intro v hv
  rcases List.mem_cons.1 hv with rfl | hv
  · rfl
  · rcases List.mem_cons.1 hv with rfl | hv
    · rfl
    · exact recA_one _ _ _ _ _ v hv

def cellsP : List Item → List Value → List Value
  | x :: L, u :: us => plI x u ++ cellsP L us
  | _, _ => []

theorem cellsP_snoc (x : Item) (u : Value) : ∀ (L : List Item) (us : List Value), us.length = L.length → cellsP (L ++ [x]) (us ++ [u]) = cellsP L us ++ plI x u
  | [], [], _ => by simp [cellsP]
  | [], _ :: _, h => by simp at h
  | _ :: _, [], h => by simp at h
  | y :: L, v :: us, h => by
    simp only [List.cons_append, cellsP, List.append_assoc]
    rw [cellsP_snoc x u L us (by simpa using h)]

theorem cellsP_at : ∀ (L : List Item) (us : List Value) (j : Nat) (x : Item) (u : Value) (r : Nat), (∀ y ∈ L, nmOk y) → L[j]? = some x → us[j]? = some u → r < 36 → (cellsP L us)[j * 36 + r]? = (plI x u)[r]?
  | [], _, _, _, _, _, _, h, _, _ => by simp at h
  | _ :: _, [], _, _, _, _, _, _, h, _ => by simp at h
  | y :: L, v :: us, 0, x, u, r, hn, h1, h2, h3 => by
    simp only [List.getElem?_cons_zero, Option.some.injEq] at h1 h2
    subst h1 h2
    simp only [cellsP, Nat.zero_mul, Nat.zero_add]
    rw [List.getElem?_append_left (by rw [plI_length (hn _ (List.mem_cons_self ..))]; exact h3)]
  | y :: L, v :: us, j + 1, x, u, r, hn, h1, h2, h3 => by
    simp only [List.getElem?_cons_succ] at h1 h2
    simp only [cellsP]
    have hl := plI_length (hn y (List.mem_cons_self ..)) v
    rw [List.getElem?_append_right (by rw [hl]; omega), hl, ← cellsP_at L us j x u r (fun z hz => hn z (List.mem_cons_of_mem _ hz)) h1 h2 h3]
    congr 1
    omega

/-- Cells from base on, b left out, stand. -/
structure CellsKept (base b : Nat) (w w' : World) : Prop where
  size : w.heap.size ≤ w'.heap.size
  block : ∀ g cs t fr, base ≤ g → g ≠ b → w.heap[g]? = some (.cells cs t fr) → w'.heap[g]? = some (.cells cs t fr)
  cell : ∀ g o v, base ≤ g → g ≠ b → w.cell? ⟨g, o, none⟩ = some v → w'.cell? ⟨g, o, none⟩ = some v

theorem CellsKept.of_kept {base b : Nat} {w w' : World} (k : Kept b w w') : CellsKept base b w w' :=
  ⟨k.size, fun g _ _ _ _ h2 h3 => (k.block g (Array.getElem?_eq_some_iff.1 h3).1 h2).trans h3, fun g o _ _ h2 h3 => (k.cell (p := ⟨g, o, none⟩) (World.block_lt_of_cell? _ _ h3) h2).trans h3⟩
theorem CellsKept.of_putl {base b B : Nat} {w w' : World} (k : Putl B w w') : CellsKept base b w w' :=
  ⟨by have := k.size; omega, fun _ _ _ _ _ _ h3 => k.block h3, fun _ _ _ _ _ h3 => k.cell h3⟩
/-- A store below base. -/
theorem CellsKept.of_set {base b z o : Nat} (w : World) (x : Value) (hz : z < base) : CellsKept base b w (w.setCell ⟨z, o, none⟩ x) :=
  ⟨by simp, fun g _ _ _ h1 _ h3 => (Below.heap_setCell _ _ _ _ (by simp; omega)).trans h3, fun g _ _ h1 _ h3 => (World.cell?_setCell_other _ _ _ _ (by simp only [ne_eq, Addr.mk.injEq, and_true, not_and]; omega)).trans h3⟩
theorem CellsKept.trans {base b : Nat} {u v w : World} (h : CellsKept base b u v) (k : CellsKept base b v w) : CellsKept base b u w :=
  ⟨Nat.le_trans h.size k.size, fun g cs t fr h1 h2 h3 => k.block g cs t fr h1 h2 (h.block g cs t fr h1 h2 h3), fun g o x h1 h2 h3 => k.cell g o x h1 h2 (h.cell g o x h1 h2 h3)⟩

/-- v is a slice of the placed records L that the call itself has built, in blocks from base on. -/
def PRow (ty : TypeId) (base b : Nat) (w : World) (v : Value) (L : List Item) : Prop :=
  ∃ us : List Value, us.length = L.length ∧ w.ownsRow base ty 36 v L.length (cellsP L us) ∧ (∀ x ∈ L, nmOk x) ∧
    ∀ (j : Nat) (x : Item) (u : Value), L[j]? = some x → us[j]? = some u → BySlS (fun g => base ≤ g ∧ g ≠ b ∧ g < w.heap.size ∧ v.ownBlock ≠ some g) w u x.2.2.1.2.2

theorem PRow.nil (ty : TypeId) (base b : Nat) (w : World) : PRow ty base b w (.slice none 0 0) [] := ⟨[], rfl, World.ownsRow_nil _ _ _ _, by simp, by simp⟩

theorem PRow.form {ty : TypeId} {base b : Nat} {w : World} {v : Value} {L : List Item} (h : PRow ty base b w v L) : ∃ a c, v = .slice a L.length c := by
  obtain ⟨us, _, hown, _⟩ := h
  rcases hown.2 with ⟨rfl, h0⟩ | ⟨g, cap, cur, rfl, _⟩
  · exact ⟨_, _, by rw [h0]⟩
  · exact ⟨_, _, rfl⟩
theorem PRow.lt {ty : TypeId} {base b : Nat} {w : World} {v : Value} {L : List Item} (h : PRow ty base b w v L) : ∀ r, v.ownBlock = some r → base ≤ r ∧ r < w.heap.size := by
  obtain ⟨us, _, hown, _⟩ := h
  exact hown.lt

theorem bySlS_cells {base b : Nat} {S : Nat → Prop} {w w' : World} {u : Value} {xs : List Int} (h : BySlS S w u xs) (k : CellsKept base b w w') (hS : ∀ g, S g → base ≤ g ∧ g ≠ b) : BySlS S w' u xs := by
  obtain ⟨a, cap, h1, h2, h3, h4, h5, h6, h7⟩ := h
  refine ⟨a, cap, h1, h2, h3, h4, h5, h6, fun hne => ?_⟩
  obtain ⟨g, o, e, hg, hc⟩ := h7 hne
  exact ⟨g, o, e, hg, fun i hi => k.cell g _ _ (hS g hg).1 (hS g hg).2 (hc i hi)⟩

theorem PRow.cells {ty : TypeId} {base b : Nat} {w w' : World} {v : Value} {L : List Item} (h : PRow ty base b w v L) (k : CellsKept base b w w') (hb : b < base) : PRow ty base b w' v L := by
  obtain ⟨us, hl, hown, hn, hk⟩ := h
  have hz := k.size
  refine ⟨us, hl, ⟨hown.1, ?_⟩, hn, fun j x u hj hu => BySlS.mono (bySlS_cells (hk j x u hj hu) k (fun g hg => ⟨hg.1, hg.2.1⟩)) (fun g hg => ⟨hg.1, hg.2.1, by omega, hg.2.2.2⟩)⟩
  rcases hown.2 with h2 | ⟨g, cap, cur, hv, hg, hh, r⟩
  · exact Or.inl h2
  · exact Or.inr ⟨g, cap, cur, hv, hg, k.block g _ _ _ hg (by omega) hh, r⟩

/-- One record more, behind the append that lays it. -/
theorem PRow.push {ty : TypeId} {base b g cap : Nat} {L : List Item} {x : Item} {v u : Value} {us : List Value} {w w' : World} (hl : us.length = L.length) (hn : ∀ y ∈ L, nmOk y) (hx : nmOk x)
    (hk : ∀ (j : Nat) (x : Item) (u : Value), L[j]? = some x → us[j]? = some u → BySlS (fun g => base ≤ g ∧ g ≠ b ∧ g < w.heap.size ∧ v.ownBlock ≠ some g) w u x.2.2.1.2.2)
    (hu : BySlS (fun g => base ≤ g ∧ g ≠ b ∧ g < w.heap.size ∧ v.ownBlock ≠ some g) w u x.2.2.1.2.2)
    (hown : w'.ownsRow base ty 36 (.slice (some ⟨g, 0, none⟩) (L.length + 1) cap) (L.length + 1) (cellsP L us ++ plI x u)) (hgrow : w.grownBy w' v.ownBlock) (hat : v.ownBlock = some g ∨ g = w.heap.size) :
    PRow ty base b w' (.slice (some ⟨g, 0, none⟩) (L.length + 1) cap) (L ++ [x]) := by
  have old : ∀ {u : Value} {xs : List Int}, BySlS (fun g => base ≤ g ∧ g ≠ b ∧ g < w.heap.size ∧ v.ownBlock ≠ some g) w u xs → BySlS (fun q => base ≤ q ∧ q ≠ b ∧ q < w'.heap.size ∧ (Value.slice (some ⟨g, 0, none⟩) (L.length + 1) cap).ownBlock ≠ some q) w' u xs := by
    intro u xs h
    have hz := hgrow.size
    refine BySlS.mono (h.agree (fun q hq => hgrow.block q hq.2.2.1 (fun e => hq.2.2.2 e.symm)) (fun _ h => h)) (fun q hq => ⟨hq.1, hq.2.1, by omega, ?_⟩)
    intro e
    simp only [Value.ownBlock, Option.some.injEq] at e
    subst e
    rcases hat with h1 | h1
    · exact hq.2.2.2 h1
    · omega
  refine ⟨us ++ [u], by simp [hl], ?_, ?_, ?_⟩
  · rw [cellsP_snoc _ _ _ _ hl]
    simpa using hown
  · intro y hy
    rcases List.mem_append.1 hy with hy | hy
    · exact hn y hy
    · rw [List.mem_singleton.1 hy]; exact hx
  · intro j y q hj hq
    by_cases hlt : j < L.length
    · rw [List.getElem?_append_left hlt] at hj
      rw [List.getElem?_append_left (by omega)] at hq
      exact old (hk j y q hj hq)
    · have : j = L.length := by
        have := (List.getElem?_eq_some_iff.1 hj).1
        simp at this
        omega
      subst this
      rw [List.getElem?_append_right (Nat.le_refl _)] at hj
      rw [List.getElem?_append_right (by omega)] at hq
      simp [hl] at hj hq
      subst hj hq
      exact old hu

/-- One record of it. -/
theorem PRow.get {ty : TypeId} {base b : Nat} {w : World} {v : Value} {L : List Item} (h : PRow ty base b w v L) (j : Nat) (x : Item) (hj : L[j]? = some x) : ∃ g cap a c, v = .slice (some ⟨g, 0, none⟩) L.length cap ∧ base ≤ g ∧ g < w.heap.size ∧ nmOk x ∧
    w.rangeAt g (j * 36) (plI x (.slice a x.2.2.1.2.2.length c)) ∧ BySlS (fun q => base ≤ q ∧ q ≠ b ∧ q < w.heap.size ∧ q ≠ g) w (.slice a x.2.2.1.2.2.length c) x.2.2.1.2.2 := by
  obtain ⟨us, hl, hown, hn, hk⟩ := h
  have hjl := (List.getElem?_eq_some_iff.1 hj).1
  obtain ⟨u, hu⟩ : ∃ u, us[j]? = some u := ⟨us[j]'(by omega), List.getElem?_eq_getElem (by omega)⟩
  have hb := hk j x u hj hu
  obtain ⟨a, c, rfl, _⟩ := id hb
  rcases id hown.2 with ⟨_, h0⟩ | ⟨g, cap, cur, rfl, hg, hh, _⟩
  · omega
  · have hnx : nmOk x := hn x (List.mem_of_getElem? hj)
    refine ⟨g, cap, a, c, rfl, hg, (Array.getElem?_eq_some_iff.1 hh).1, hnx, fun r q hq => ?_, BySlS.mono hb (fun q hq => ⟨hq.1, hq.2.1, hq.2.2.1, fun e => hq.2.2.2 (by rw [e]; rfl)⟩)⟩
    have hr : r < 36 := by have := (List.getElem?_eq_some_iff.1 hq).1; rwa [plI_length hnx] at this
    rw [hown.cellAt (j * 36 + r) (by omega), cellsP_at L us j x _ r hn hj hu hr]
    exact hq

end Go.Proofs.YtaaioaocjfpajaaGreatDoor
end

section
/-
  What Scan answers.
-/
namespace Go.Proofs.YtaaioaocjfpajaaGreatDoor
open Go.RowKit Go.Shelf
open Tlv (Tr BySlS AgreeS Agree)
open Crc (hid Kept Tab)
attribute [local go_sem] Oper.semAt_some

/-- A placed record of nothing. -/
def zPl : List Value := placedA 0 0 zRec
theorem zero62 (w : World) : (zeroValue 60).run Tryz.prog w = .ok (.agg zPl.toArray) w := by kernel_rfl
theorem Tryz.info62 : (Tryz.prog.info? 60).map (·.size) = some 36 := by kernel_rfl

/-- The cells of a value. -/
def aggL (vs : Array Value) : List Value := match (vs[0]? : Option Value) with
  | some (Value.agg A) => A.toList
  | _ => []

/-- The loop's variable, as it is made anew for each round. -/
def asgP (vs : Array Value) (U : World) : World := (U.alloc (.cells zPl.toArray 60)).setCells U.heap.size 0 (aggL vs)
theorem asgP_below (vs : Array Value) (U : World) : Below U.heap.size U (asgP vs U) := ((Below.refl _ _).alloc (Nat.le_refl _) _).trans (setCells_below (Nat.le_refl _) _ _ _)
theorem asgP_size (vs : Array Value) (U : World) : (asgP vs U).heap.size = U.heap.size + 1 := by rw [asgP, setCells_size]; simp

theorem info62' : (Tryz.prog.info? 60).map (fun i => (i.zero, i.size, i.bytes)) = some (some (.agg zPl.toArray), 36, 80) := by kernel_rfl

/-- One placed record, laid in a row. -/
theorem run_onepl (p n : Nat) (k : Int) (nm : List Int) (a : Option Addr) (l c : Nat) (hn : nm.length = 32) (w : World) :
    (Instr.buildSlice 47 1 #[(0, .agg (placedA p n (recA k nm (.slice a l c))).toArray)]).run Tryz.prog w =
      .ok (.slice (some ⟨w.heap.size, 0, none⟩) 1 1) (w.alloc (.cells (placedA p n (recA k nm (.slice a l c))).toArray 60)) := by
  obtain ⟨x0, x1, x2, x3, x4, x5, x6, x7, x8, x9, x10, x11, x12, x13, x14, x15, x16, x17, x18, x19, x20, x21, x22, x23, x24, x25, x26, x27, x28, x29, x30, x31, rfl⟩ := ex32 hn
  kernel_rfl

theorem exec_slice1 {P : Program} {o : Oper} {a : Act} {w w' : World} (ty : TypeId) (x : Operand) (ho : o.op = .buildSlice ty 1 #[(0, x)]) (vx v : Value) (hx : a.eval x = vx) (hr : (Instr.buildSlice ty 1 #[(0, vx)]).run P w = .ok v w') :
    (execOp a.eval o).run P w = .ok (.value v) w' := by
  have e : ((#[(0, x)] : Array (Nat × Operand)).map fun (i, x) => (i, a.eval x)) = #[(0, vx)] := by simp [hx]
  unfold execOp
  simp only [ho, Sem.run_bind, e, hr, Result.andThen_ok]
  rfl

theorem exec_append {P : Program} {o : Oper} {a : Act} {w w' : World} (s x : Operand) (t : TypeId) (ho : o.op = .call { callee := .builtin .append, args := #[s, x], argTypes := #[t, t] }) (vs vx v : Value) (hs : a.eval s = vs) (hx : a.eval x = vx)
    (hr : (Builtin.append_ #[t, t] o.type #[vs, vx]).run P w = .ok v w') : (execOp a.eval o).run P w = .ok (.value v) w' := by
  unfold execOp
  simp [ho, resolve, invoke, builtin, hs, hx, hr, Result.andThen]

/-- What Scan leaves. -/
def Scanned (w w' : World) (b : Nat) (e : Ending) (S : List Item × Nat × Int) : Prop :=
  ∃ a c, e = .returned (.tuple #[.slice a S.1.length c, .int .i64 (S.2.1 : Nat), .int .i64 S.2.2]) ∧ PRow 60 w.heap.size b w' (.slice a S.1.length c) S.1 ∧ Kept b w w' ∧ TabX w' b

/-- What stands behind k rounds: the three variables at s, what was found, where it goes on. -/
def SI (w : World) (base s b : Nat) (xs : List Int) (k m : Nat) (W : World) : Prop :=
  ∃ (v : Value) (pos : Nat), Boxed W s 47 v ∧ Boxed W (s + 1) 3 (.int .i64 (pos : Int)) ∧ Boxed W (s + 2) 26 (.int .i64 0) ∧ PRow 60 base b W v ((tl xs 0).take k) ∧
    scanF xs = ((tl xs 0).take k ++ (scanR ((tl xs 0).drop k) pos).1, (scanR ((tl xs 0).drop k) pos).2) ∧ Kept b w W ∧ (∀ r, v.ownBlock = some r → r < m) ∧ pos ≤ xs.length ∧ base ≤ m

def SX (w : World) (base s b : Nat) (xs : List Int) (W : World) : Prop :=
  ∃ (v : Value), Boxed W s 47 v ∧ Boxed W (s + 1) 3 (.int .i64 ((scanF xs).2.1 : Nat)) ∧ Boxed W (s + 2) 26 (.int .i64 (scanF xs).2.2) ∧ PRow 60 base b W v (scanF xs).1 ∧ Kept b w W ∧ TabX W b

theorem SI.step {w W W' : World} {base s b k m : Nat} {xs : List Int} (h : SI w base s b xs k m W) (hs : s + 3 ≤ base) (hb : b < s) (hw : s = w.heap.size) (hk : CellsKept base b W W') (hbx : ∀ g t u, s ≤ g → g < s + 3 → Boxed W g t u → Boxed W' g t u) (hkk : Kept b w W') : SI w base s b xs k m W' := by
  obtain ⟨v, pos, h0, h1, h2, h3, h4, h5, h6, h7⟩ := h
  exact ⟨v, pos, hbx _ _ _ (by omega) (by omega) h0, hbx _ _ _ (by omega) (by omega) h1, hbx _ _ _ (by omega) (by omega) h2, h3.cells hk (by omega), h4, hkk, h6, h7⟩

theorem tl_mem (xs : List Int) : ∀ (d p : Nat), xs.length - p ≤ d → ∀ x ∈ tl xs p, x.1 < xs.length ∧ x.2 = takeF (xs.drop x.1)
  | 0, p, h, x, hx => by rw [tl_end (by omega)] at hx; cases hx
  | d + 1, p, h, x, hx => by
    by_cases hp : xs.length ≤ p
    · rw [tl_end hp] at hx; cases hx
    · obtain ⟨L, hL, hc⟩ := tl_head (xs := xs) (p := p) (by omega)
      rw [hL] at hx
      rcases List.mem_cons.1 hx with rfl | hx
      · exact ⟨by simp; omega, rfl⟩
      · rcases hc with ⟨hf, rfl⟩ | ⟨_, rfl⟩
        · have := takeF_pos hf
          exact tl_mem xs d _ (by omega) x hx
        · cases hx

/-- The next one told, and what is then left of the scan. -/
theorem scan_next {xs : List Int} {k pos : Nat} {x : Item} (hx : (tl xs 0)[k]? = some x) (h : scanF xs = ((tl xs 0).take k ++ (scanR ((tl xs 0).drop k) pos).1, (scanR ((tl xs 0).drop k) pos).2)) :
    (tl xs 0).take (k + 1) = (tl xs 0).take k ++ [x] ∧ (x.2.1 ≠ 0 → scanF xs = ((tl xs 0).take k, x.1, x.2.1)) ∧
    (x.2.1 = 0 → x.1 + x.2.2.2 ≤ xs.length ∧ scanF xs = ((tl xs 0).take (k + 1) ++ (scanR ((tl xs 0).drop (k + 1)) (x.1 + x.2.2.2)).1, (scanR ((tl xs 0).drop (k + 1)) (x.1 + x.2.2.2)).2)) := by
  obtain ⟨hk, hxe⟩ := List.getElem?_eq_some_iff.1 hx
  have e1 : (tl xs 0).drop k = x :: (tl xs 0).drop (k + 1) := by rw [List.drop_eq_getElem_cons hk, hxe]
  have e2 : (tl xs 0).take (k + 1) = (tl xs 0).take k ++ [x] := by rw [List.take_add_one, hx]; rfl
  rw [e1] at h
  refine ⟨e2, fun hf => ?_, fun hf => ⟨?_, ?_⟩⟩
  · rw [h, scanR, if_neg hf, List.append_nil]
  · obtain ⟨h1, h2⟩ := tl_mem xs _ 0 (Nat.le_refl _) x (List.mem_of_getElem? hx)
    rw [h2] at hf ⊢
    have := takeF_pos hf
    rw [List.length_drop] at this
    omega
  · rw [h, scanR, if_pos hf, e2, List.append_assoc]
    rfl

/-- The three results, stored on the way out. -/
theorem scan_set3 {W F : World} {s : Nat} {t0 t1 t2 : TypeId} {u0 u1 u2 v0 v1 v2 : Value} (h0 : Boxed W s t0 u0) (h1 : Boxed W (s + 1) t1 u1) (h2 : Boxed W (s + 2) t2 u2)
    (hF : (((W.setCell ⟨s, 0, none⟩ v0).setCell ⟨s + 1, 0, none⟩ v1).setCell ⟨s + 1 + 1, 0, none⟩ v2).drew = F) :
    Boxed F s t0 v0 ∧ Boxed F (s + 1) t1 v1 ∧ Boxed F (s + 2) t2 v2 ∧ Below s W F ∧ F.heap.size = W.heap.size ∧ ∀ i, s + 3 ≤ i → F.heap[i]? = W.heap[i]? := by
  have o : ∀ (U : World) (g k : Nat) (u : Value), k ≠ g → (U.setCell ⟨g, 0, none⟩ u).heap[k]? = U.heap[k]? := fun U g k u h => Below.heap_setCell _ _ _ _ (by simp; omega)
  subst hF
  refine ⟨?_, ?_, ?_, ?_, ?_, fun i hi => ?_⟩
  · show (((W.setCell ⟨s, 0, none⟩ v0).setCell ⟨s + 1, 0, none⟩ v1).setCell ⟨s + 1 + 1, 0, none⟩ v2).heap[s]? = _
    rw [o _ _ _ _ (by omega), o _ _ _ _ (by omega)]
    exact h0.set v0
  · show (((W.setCell ⟨s, 0, none⟩ v0).setCell ⟨s + 1, 0, none⟩ v1).setCell ⟨s + 1 + 1, 0, none⟩ v2).heap[s + 1]? = _
    rw [o _ _ _ _ (by omega)]
    have h : Boxed (W.setCell ⟨s, 0, none⟩ v0) (s + 1) t1 u1 := (o _ _ _ _ (by omega)).trans h1
    exact h.set v1
  · have h : Boxed ((W.setCell ⟨s, 0, none⟩ v0).setCell ⟨s + 1, 0, none⟩ v1) (s + 1 + 1) t2 u2 := ((o _ _ _ _ (by omega)).trans (o _ _ _ _ (by omega))).trans h2
    exact h.set v2
  · exact ((((Below.refl s W).setCell (p := ⟨s, 0, none⟩) (Nat.le_refl _) _).setCell (p := ⟨s + 1, 0, none⟩) (by simp) _).setCell (p := ⟨s + 1 + 1, 0, none⟩) (by simp; omega) _).drew
  · simp
  · show (((W.setCell ⟨s, 0, none⟩ v0).setCell ⟨s + 1, 0, none⟩ v1).setCell ⟨s + 1 + 1, 0, none⟩ v2).heap[i]? = _
    rw [o _ _ _ _ (by omega), o _ _ _ _ (by omega), o _ _ _ _ (by omega)]

theorem ownsRow_kept {ty : TypeId} {base b n : Nat} {w w' : World} {v : Value} {cs : List Value} (h : w.ownsRow base ty 36 v n cs) (k : CellsKept base b w w') (hb : b < base) : w'.ownsRow base ty 36 v n cs := by
  refine ⟨h.1, ?_⟩
  rcases h.2 with h2 | ⟨g, cap, cur, hv, hg, hh, r⟩
  · exact Or.inl h2
  · exact Or.inr ⟨g, cap, cur, hv, hg, k.block g _ _ _ hg (by omega) hh, r⟩

theorem PRow.mono {ty : TypeId} {base base' b : Nat} {w : World} {v : Value} {L : List Item} (h : PRow ty base b w v L) (hb : base' ≤ base) : PRow ty base' b w v L := by
  obtain ⟨us, hl, hown, hn, hk⟩ := h
  refine ⟨us, hl, ⟨hown.1, ?_⟩, hn, fun j x u hj hu => BySlS.mono (hk j x u hj hu) (fun g hg => ⟨by omega, hg.2⟩)⟩
  rcases hown.2 with h2 | ⟨g, cap, cur, hv, hg, r⟩
  · exact Or.inl h2
  · exact Or.inr ⟨g, cap, cur, hv, by omega, r⟩

theorem put_kept {base b D : Nat} {F : World} (hd : F.heap[D]? = some (.deferred (some []))) : CellsKept base b F (F.putObj D (.deferred none)) := by
  have hD := (Array.getElem?_eq_some_iff.1 hd).1
  refine ⟨by simp [World.putObj], fun i cs t fr _ _ h => ?_, fun i o u _ _ h => ?_⟩
  · rw [World.putObj_heap_other (fun e => by rw [e, hd] at h; cases h)]
    exact h
  · rw [World.cell?_of_block (w := F) (a := ⟨i, o, none⟩) (World.putObj_heap_other (fun e => by simp [World.cell?, show i = D from e, hd] at h))]
    exact h

/-- One record more: what stands behind the append and the two stores. -/
theorem push_facts {W W2 : World} {base s b m g cap : Nat} {L : List Item} {x : Item} {v u y : Value} {us C : List Value} {t0 t1 t2 : TypeId} {q1 q2 : Value} (hs : s + 3 ≤ base) (hbW : base ≤ W.heap.size) (hb : b < s) (hm : base ≤ m) (h0 : Boxed W s t0 v) (h1 : Boxed W (s + 1) t1 q1) (h2 : Boxed W (s + 2) t2 q2)
    (hl : us.length = L.length) (hown : W.ownsRow base 60 36 v L.length (cellsP L us)) (hn : ∀ y ∈ L, nmOk y) (hx : nmOk x)
    (hk : ∀ (j : Nat) (x : Item) (u : Value), L[j]? = some x → us[j]? = some u → BySlS (fun g => base ≤ g ∧ g ≠ b ∧ g < W.heap.size ∧ v.ownBlock ≠ some g) W u x.2.2.1.2.2)
    (hu : BySlS (fun g => m ≤ g ∧ g ≠ b ∧ g < W.heap.size) W u x.2.2.1.2.2) (hr : ∀ r, v.ownBlock = some r → r < m)
    (hown2 : W2.ownsRow base 60 36 (.slice (some ⟨g, 0, none⟩) (L.length + 1) cap) (L.length + 1) (cellsP L us ++ plI x u)) (hgrow : (W.alloc (.cells C.toArray 60)).grownBy W2 v.ownBlock) (hat : v.ownBlock = some g ∨ g = W.heap.size + 1) (hg : g < W2.heap.size) {V : World}
    (hV : (W2.setCell ⟨s, 0, none⟩ (.slice (some ⟨g, 0, none⟩) (L.length + 1) cap)).setCell ⟨s + 1, 0, none⟩ y = V) :
    KeepsFrom base W V ∧ Boxed V s t0 (.slice (some ⟨g, 0, none⟩) (L.length + 1) cap) ∧ Boxed V (s + 1) t1 y ∧ Boxed V (s + 2) t2 q2 ∧ PRow 60 base b V (.slice (some ⟨g, 0, none⟩) (L.length + 1) cap) (L ++ [x]) ∧ Below s W V ∧ g < V.heap.size ∧
      (∀ i, i < base → i ≠ s → i ≠ s + 1 → V.heap[i]? = W.heap[i]?) := by
  have o : ∀ (U : World) (g k : Nat) (u : Value), k ≠ g → (U.setCell ⟨g, 0, none⟩ u).heap[k]? = U.heap[k]? := fun U g k u h => Below.heap_setCell _ _ _ _ (by simp; omega)
  have hlt := hown.lt
  have s0 := h0.lt
  have s1 := h1.lt
  have s2 := h2.lt
  have hbase := hown.1
  have low2 : ∀ i, i < W.heap.size → (base ≤ i → v.ownBlock ≠ some i) → W2.heap[i]? = W.heap[i]? := fun i hi hne => by
    rw [hgrow.block i (by simp; omega) (fun e => by have := (hlt i e.symm).1; exact hne this e.symm)]
    exact Below.heap_alloc _ _ _ hi
  have hsz2 : W.heap.size + 1 ≤ W2.heap.size := by have := hgrow.size; simpa using this
  have hVs : V.heap.size = W2.heap.size := by rw [← hV]; simp
  have bB0 : Boxed W2 s t0 v := (low2 s (by omega) (by omega)).trans h0
  have bB1 : Boxed W2 (s + 1) t1 q1 := (low2 (s + 1) (by omega) (by omega)).trans h1
  have bB2 : Boxed W2 (s + 2) t2 q2 := (low2 (s + 2) (by omega) (by omega)).trans h2
  have hbl : Below s W (W.alloc (.cells C.toArray 60)) := (Below.refl _ _).alloc (by omega) _
  have hal : Below W.heap.size W (W.alloc (.cells C.toArray 60)) := (Below.refl _ _).alloc (Nat.le_refl _) _
  have up : ∀ {u : Value} {xs : List Int}, BySlS (fun g => base ≤ g ∧ g ≠ b ∧ g < W.heap.size ∧ v.ownBlock ≠ some g) W u xs → BySlS (fun g => base ≤ g ∧ g ≠ b ∧ g < (W.alloc (.cells C.toArray 60)).heap.size ∧ v.ownBlock ≠ some g) (W.alloc (.cells C.toArray 60)) u xs := fun h =>
    BySlS.mono (BySlS.below h hal (fun g hg => hg.2.2.1)) (fun g hg => ⟨hg.1, hg.2.1, by simp; omega, hg.2.2.2⟩)
  have hp2 : PRow 60 base b W2 (.slice (some ⟨g, 0, none⟩) (L.length + 1) cap) (L ++ [x]) :=
    PRow.push hl hn hx (fun j x u h1 h2 => up (hk j x u h1 h2)) (up (BySlS.mono hu (fun g hg => ⟨by omega, hg.2.1, hg.2.2, fun e => by have := hr g e; omega⟩))) hown2 hgrow (by simpa using hat)
  refine ⟨⟨by omega, fun i ob hi hio hc => ?_⟩, ?_, ?_, ?_, ?_, ?_, by omega, fun i hi h3 h4 => ?_⟩
  · rw [← hV, o _ _ _ _ (by omega), o _ _ _ _ (by omega), low2 i (Array.getElem?_eq_some_iff.1 hio).1 (fun _ e => ?_)]
    · exact hio
    · rcases hown.2 with ⟨h, _⟩ | ⟨g', cap', cur, h, _, hh, _⟩
      · rw [h] at e; simp [Value.ownBlock] at e
      · rw [h] at e
        simp only [Value.ownBlock, Option.some.injEq] at e
        rw [e, hio] at hh
        cases hh
        cases hc
  · rw [← hV]
    exact (o _ _ _ _ (by omega)).trans (bB0.set _)
  · rw [← hV]
    have h : Boxed (W2.setCell ⟨s, 0, none⟩ (.slice (some ⟨g, 0, none⟩) (L.length + 1) cap)) (s + 1) t1 q1 := (o _ _ _ _ (by omega)).trans bB1
    exact h.set _
  · rw [← hV]
    exact (o _ _ _ _ (by omega)).trans ((o _ _ _ _ (by omega)).trans bB2)
  · rw [← hV]
    exact hp2.cells ((CellsKept.of_set _ _ (by omega)).trans (CellsKept.of_set _ _ (by omega))) (by omega)
  · rw [← hV]
    exact (((hbl.grown hgrow (by simp; omega) (fun k e => by have := (hlt k e).1; omega)).setCell (p := ⟨s, 0, none⟩) (Nat.le_refl _) _).setCell (p := ⟨s + 1, 0, none⟩) (by simp) _)
  · rw [← hV, o _ _ _ _ (by omega), o _ _ _ _ (by omega)]
    exact low2 i (by omega) (by omega)

set_option maxHeartbeats 4000000 in
set_option maxRecDepth 100000 in
theorem scan_any (b : Nat) (v : Value) (xs : List Int) (w : World) (hT : TabX w b) (hv : BySlS (fun g => g ≠ b ∧ g < w.heap.size) w v xs) (hxs : xs.length ≤ 1000000000000) :
    Calls Tryz.prog 64 #[.pointer (some ⟨b, 0, none⟩), v] w fun e w' => Scanned w w' b e (scanF xs) := by
  obtain ⟨av, cv, rfl, _, _, _, h47, _, _⟩ := id hv
  have HT := hid hT
  have HV := hid hv
  have hb := hT.lt
  clear hT hv
  refine (callsIn_wide (n := 3)).1 ?_
  refine callsIn_of_wp_marks Tryz.func64 rfl trivial ?_ rfl
  simp only [Tryz.ntmps64, List.size_toArray, List.length_cons, List.length_nil, Nat.reduceAdd, Nat.reduceSub, Array.replicate_succ, Array.replicate_zero, List.push_toArray, List.append_toArray, List.nil_append, List.cons_append]
  gi_wp2_with fail
  refine ⟨trivial, (callsIn_wide.2 (frames_any _ _ _ _ _)).mono ?_⟩
  rintro e w' ⟨rfl, rfl⟩
  gi_wp2_with fail
  obtain ⟨W0, hW0⟩ : ∃ W0, ((((w.alloc (.cells #[.slice none 0 0] 47)).alloc (.cells #[.int .i64 0] 3)).alloc (.cells #[.int .i64 0] 26)).alloc (.cells #[.pointer (some ⟨b, 0, none⟩)] 32)).alloc (.cells #[.slice av xs.length cv] 54) = W0 := ⟨_, rfl⟩
  have bel : Below w.heap.size w W0 := by rw [← hW0]; exact (((((Below.refl _ w).alloc (Nat.le_refl _) _).alloc (by simp) _).alloc (by simp; omega) _).alloc (by simp; omega) _).alloc (by simp; omega) _
  have hsz : W0.heap.size = w.heap.size + 5 := by rw [← hW0]; simp
  have b0 : Boxed W0 w.heap.size 47 (.slice none 0 0) := by rw [← hW0]; exact ((((Boxed.new w 47 (.slice none 0 0)).alloc _).alloc _).alloc _).alloc _
  have b1 : Boxed W0 (w.heap.size + 1) 3 (.int .i64 0) := by
    rw [← hW0]
    have h := (((Boxed.new (w.alloc (.cells #[.slice none 0 0] 47)) 3 (.int .i64 0)).alloc (.cells #[.int .i64 0] 26)).alloc (.cells #[.pointer (some ⟨b, 0, none⟩)] 32)).alloc (.cells #[.slice av xs.length cv] 54)
    simpa only [World.size_alloc] using h
  have b2 : Boxed W0 (w.heap.size + 2) 26 (.int .i64 0) := by
    rw [← hW0]
    have h := ((Boxed.new ((w.alloc (.cells #[.slice none 0 0] 47)).alloc (.cells #[.int .i64 0] 3)) 26 (.int .i64 0)).alloc (.cells #[.pointer (some ⟨b, 0, none⟩)] 32)).alloc (.cells #[.slice av xs.length cv] 54)
    simpa only [World.size_alloc] using h
  have bq : Boxed W0 (w.heap.size + 3) 32 (.pointer (some ⟨b, 0, none⟩)) := by
    rw [← hW0]
    have h := (Boxed.new (((w.alloc (.cells #[.slice none 0 0] 47)).alloc (.cells #[.int .i64 0] 3)).alloc (.cells #[.int .i64 0] 26)) 32 (.pointer (some ⟨b, 0, none⟩))).alloc (.cells #[.slice av xs.length cv] 54)
    simpa only [World.size_alloc] using h
  have bp : Boxed W0 (w.heap.size + 4) 54 (.slice av xs.length cv) := by
    rw [← hW0]
    have h := Boxed.new ((((w.alloc (.cells #[.slice none 0 0] 47)).alloc (.cells #[.int .i64 0] 3)).alloc (.cells #[.int .i64 0] 26)).alloc (.cells #[.pointer (some ⟨b, 0, none⟩)] 32)) 54 (.slice av xs.length cv)
    simpa only [World.size_alloc] using h
  rw [hW0]
  clear hW0
  have hT0 : Ts W0.heap.size b (w.heap.size + 4) (w.heap.size + 3) (.slice av xs.length cv) xs W0 := ⟨⟨Nat.le_refl _, by omega, by omega, by omega, by omega, by omega⟩, HT.out.below bel, BySlS.mono (BySlS.below HV.out bel (fun g hg => hg.2)) (fun g hg => ⟨hg.1, by omega⟩), bp.cell, bq.cell⟩
  refine over_func (gf := 127) (lb := #[.pointer (some ⟨w.heap.size + 4, 0, none⟩), .pointer (some ⟨w.heap.size + 3, 0, none⟩)]) rfl (enters_of Tryz.func127 (by kernel_rfl) rfl)
    (tells_frames 2 W0.heap.size b (w.heap.size + 4) (w.heap.size + 3) (.slice av xs.length cv) xs) (fun k m vs U h => by obtain ⟨x, a, c, _, rfl, _⟩ := h; rfl) (by omega) (fun U W h k => h.below k) hT0
    (SI w W0.heap.size w.heap.size b xs) (fun c _ W => c = .ret ∧ SX w W0.heap.size w.heap.size b xs W)
    ?ik ?ii ?ix ?i0 asgP asgP_below ?va ?ia
    (fun k vs U => { tmps := #[.pointer (some ⟨b, 0, none⟩), .slice av xs.length cv, undef, undef, .pointer (some ⟨w.heap.size, 0, none⟩), .pointer (some ⟨w.heap.size + 1, 0, none⟩), .pointer (some ⟨w.heap.size + 1 + 1, 0, none⟩), .pointer (some ⟨U.heap.size, 0, none⟩), vs.getD 1 undef, .pointer (some ⟨b, 0, none⟩), .bool false, .pointer (some ⟨b, 0, none⟩), .slice av xs.length cv, .func (.func 127) #[] #[.pointer (some ⟨w.heap.size + 1 + 1 + 1 + 1, 0, none⟩), .pointer (some ⟨w.heap.size + 1 + 1 + 1, 0, none⟩)], vs.getD 0 undef, vs.getD 1 undef, undef, undef, undef, undef, undef, undef, undef, undef, undef, undef, undef, undef, undef, undef, undef, undef, undef], defers := [] })
    ?vv ?assign ?body ?done ?stop
  case ik =>
    intro k m U W h _ hk
    obtain ⟨_, _, _, _, _, _, _, hKU, _⟩ := id h
    exact h.step (by omega) hb rfl (CellsKept.of_kept hk) (fun g t u h1 h2 hbx => (hk.block g hbx.lt (by omega)).trans hbx) (hKU.trans hk)
  case ii =>
    intro k m U W h hp
    obtain ⟨_, _, _, _, _, _, _, hKU, _⟩ := id h
    exact h.step (by omega) hb rfl (CellsKept.of_putl hp) (fun g t u h1 h2 hbx => hp.block hbx) (Kept.then hKU (hp.below.mono (by omega)))
  case ix =>
    rintro c k U W ⟨rfl, v, h0, h1, h2, h3, h4, h5⟩ hp
    exact ⟨rfl, v, hp.block h0, hp.block h1, hp.block h2, h3.cells (CellsKept.of_putl hp) (by omega), Kept.then h4 (hp.below.mono (by omega)), tabX_below h5 hp.below (by omega)⟩
  case i0 =>
    intro W hB _
    exact ⟨.slice none 0 0, 0, (hB.block _ (by omega)).trans b0, (hB.block _ (by omega)).trans b1, (hB.block _ (by omega)).trans b2, by rw [List.take_zero]; exact PRow.nil _ _ _ _, by rw [List.take_zero, List.drop_zero, List.nil_append]; rfl, Kept.then (Kept.below bel) (hB.mono (by omega)), by simp [Value.ownBlock], Nat.zero_le _, hB.size⟩
  case va =>
    rintro k m vs U ⟨x, a, c, h1, h2, h3, h4⟩
    have hbl := asgP_below vs U
    exact ⟨x, a, c, h1, h2, BySlS.mono (BySlS.below h3 hbl (fun g hg => hg.2.2)) (fun g hg => ⟨hg.1, hg.2.1, Nat.lt_of_lt_of_le hg.2.2 hbl.size⟩), h4⟩
  case ia =>
    intro k m vs U _ h
    obtain ⟨_, _, _, _, _, _, _, hKU, _⟩ := id h
    have hbl := asgP_below vs U
    exact h.step (by omega) hb rfl (CellsKept.of_kept (Kept.below hbl)) (fun g t u h1 h2 hbx => (hbl.block g hbx.lt).trans hbx) (hKU.trans (Kept.below hbl))
  case vv =>
    rintro k m vs U W ⟨x, a, c, h1, h2, h3, h4⟩ hp
    exact ⟨x, a, c, h1, h2, BySlS.mono (BySlS.putl h3 hp) (fun g hg => ⟨hg.1, hg.2.1, by rw [hp.size]; exact hg.2.2⟩), h4⟩
  case assign =>
    rintro l k m vs W K _ ⟨x, a, c, h1, rfl, h3, h4⟩ hK
    have hz := zero62
    have hAS : aggL #[.agg (placedA x.1 x.2.2.2 (recA x.2.2.1.1 x.2.2.1.2.1 (.slice a x.2.2.1.2.2.length c))).toArray, .int .i64 x.2.1] = placedA x.1 x.2.2.2 (recA x.2.2.1.1 x.2.2.1.2.1 (.slice a x.2.2.1.2.2.length c)) := rfl
    have HK := hid hK
    unfold asgP at HK
    rw [hAS] at HK
    have HPL := hid (plI_length (x := x) h4 (.slice a x.2.2.1.2.2.length c))
    have HPO := hid (plI_one x a x.2.2.1.2.2.length c)
    unfold plI recI at HPL HPO
    obtain ⟨PA, hPA⟩ : ∃ PA, placedA x.1 x.2.2.2 (recA x.2.2.1.1 x.2.2.1.2.1 (.slice a x.2.2.1.2.2.length c)) = PA := ⟨_, rfl⟩
    rw [hPA] at HK HPL HPO
    rw [hPA]
    obtain ⟨ZP, hZP⟩ : ∃ ZP, zPl = ZP := ⟨_, rfl⟩
    have HZL : Hid (ZP.length = 36) := by rw [← hZP]; rfl
    rw [hZP] at hz HK
    have HTH : Hid (World.there (W.alloc (.cells ZP.toArray 60)) W.heap.size 0 PA.toArray.size) := by
      have h := there_new W ZP 60
      rw [HZL.out] at h
      have e : PA.toArray.size = 36 := HPL.out
      rw [Hid, e]
      exact h
    have HI : Hid ((Tryz.prog.info? 60).map (·.size) = some PA.toArray.size) := by rw [Hid, show PA.toArray.size = 36 from HPL.out]; exact Tryz.info62
    have HO : Hid (PA.toArray.all (·.oneCell') = true) := all_oneCell_toArray HPO.out
    clear hPA hZP hAS h1 h3 h4 hK
    generalize x.2.1 = f at *
    gi_wp2_with (refine wpListIn_skip (by rfl) (fun _ h => by cases h) (fun _ => trivial) (exec_store 60 _ _ (by rfl) W.heap.size 0 PA.toArray (by rfl) (by rfl) HTH.out HI.out HO.out) ?_)
    exact HK.out
  case body =>
    rintro l k m vs U W hkN hmU ⟨x, a, c, hx, rfl, hby, hnm⟩ hI hT hWz hWU hU5
    obtain ⟨v, pos, h0, h1, h2, h3, h4, h5, h6, h7, h8⟩ := hI
    obtain ⟨e1, e2, e3⟩ := scan_next hx h4
    obtain ⟨ra, rc, rfl⟩ := h3.form
    obtain ⟨rn, hrn⟩ : ∃ rn, ((tl xs 0).take k).length = rn := ⟨_, rfl⟩
    rw [hrn] at h0 h3 h6
    have hUW : U.heap.size < W.heap.size := by rw [hWz, asgP_size]; omega
    have HRG : Hid (W.rangeAt U.heap.size 0 (plI x (.slice a x.2.2.1.2.2.length c))) := by
      intro j q hq
      rw [World.cell?_of_block (w := asgP _ U) (a := ⟨U.heap.size, 0 + j, none⟩) (hWU U.heap.size (Nat.le_refl _))]
      have ht := there_new U zPl 60
      have hlen := plI_length (x := x) hnm (.slice a x.2.2.1.2.2.length c)
      have h := World.rangeAt_setCells_same (U.alloc (.cells zPl.toArray 60)) U.heap.size 0 (plI x (.slice a x.2.2.1.2.2.length c)) (by rw [hlen]; exact ht)
      exact h j q hq
    have c70 : W.cell? ⟨U.heap.size, 0, none⟩ = some (.int .i64 (x.1 : Int)) := HRG.out 0 _ rfl
    have c71 : W.cell? ⟨U.heap.size, 1, none⟩ = some (.int .i64 (x.2.2.2 : Int)) := HRG.out 1 _ rfl
    have c0 := h0.cell
    have c1 := h1.cell
    have c2 := h2.cell
    have f0 := h0.frozen
    have f1 := h1.frozen
    have f2 := h2.frozen
    change W.cell? ⟨w.heap.size + 1 + 1, 0, none⟩ = _ at c2
    change W.frozen? ⟨w.heap.size + 1 + 1, 0, none⟩ = _ at f2
    have hfl : ∃ f, x.2.1 = f := ⟨_, rfl⟩
    obtain ⟨f, hf⟩ := hfl
    obtain ⟨p, hp⟩ : ∃ p, x.1 = p := ⟨_, rfl⟩
    obtain ⟨N, hN⟩ : ∃ N, x.2.2.2 = N := ⟨_, rfl⟩
    have HF := hid (And.intro hf (And.intro hp hN))
    have hne : U.heap.size ≠ w.heap.size := by omega
    have hne1 : U.heap.size ≠ w.heap.size + 1 := by omega
    by_cases hf0 : f = 0
    · have hfb : (f != 0) = false := by simp [hf0]
      obtain ⟨hPN, hSC⟩ := e3 (by rw [hf]; exact hf0)
      have HSC := hid hSC
      obtain ⟨us, hl, hown, hn, hk⟩ := h3
      have HPL := hid (plI_length (x := x) hnm (.slice a x.2.2.1.2.2.length c))
      have HPO := hid (plI_one x a x.2.2.1.2.2.length c)
      have HBS := hid (run_onepl x.1 x.2.2.2 x.2.2.1.1 x.2.2.1.2.1 a x.2.2.1.2.2.length c hnm.1 W)
      have hPA' : placedA x.1 x.2.2.2 (recA x.2.2.1.1 x.2.2.1.2.1 (.slice a x.2.2.1.2.2.length c)) = plI x (.slice a x.2.2.1.2.2.length c) := rfl
      rw [hPA'] at HBS
      obtain ⟨PA, hPA⟩ : ∃ PA, plI x (.slice a x.2.2.1.2.2.length c) = PA := ⟨_, rfl⟩
      have HPA := hid hPA
      rw [hPA] at HBS HPL HPO HRG
      rw [hrn] at hown
      have hrk : rn ≤ 1000000000000 := by
        have := tl_length_le xs _ 0 (Nat.le_refl _)
        rw [List.length_take] at hrn
        omega
      have hbW : W0.heap.size ≤ W.heap.size := by omega
      have hal : Below W.heap.size W (W.alloc (.cells PA.toArray 60)) := (Below.refl _ _).alloc (Nat.le_refl _) _
      obtain ⟨i, hi, hiz⟩ : ∃ i, Tryz.prog.info? 60 = some i ∧ (i.zero, i.size, i.bytes) = (some (.agg zPl.toArray), 36, 80) := Option.map_eq_some_iff.1 info62'
      simp only [Prod.mk.injEq] at hiz
      obtain ⟨z1, z2, z3⟩ := hiz
      obtain ⟨g, cap, W2, hap, hown2, hgrow, hat, hg⟩ := run_append_lies (P := Tryz.prog) (W.alloc (.cells PA.toArray 60)) 47 47 W0.heap.size 60 i (.agg zPl.toArray) 36 80 Tryz.underlying47 hi z1 z2 z3 rfl (by omega)
        (.slice ra rn rc) rn _ (ownsRow_kept hown (CellsKept.of_kept (b := b) (Kept.below hal)) (by omega)) ⟨W.heap.size, 0, none⟩ 1 1 PA (by rw [HPL.out]) (fun j u h => by rw [Addr.add_lit]; exact range_new W PA 60 j u h) HPO.out (by omega) (by unfold maxLen; omega) (by omega) (by simp; omega) _ rfl
      have HAP := hid hap
      have low2 : ∀ i, i < W.heap.size → (Value.slice ra rn rc).ownBlock ≠ some i → W2.heap[i]? = W.heap[i]? := fun i hi hne => by
        rw [hgrow.block i (by simp; omega) (fun e => hne e.symm)]
        exact Below.heap_alloc _ _ _ hi
      have hlt := hown.lt
      have s2 := h2.lt
      have nlow : ∀ i, i < W0.heap.size → (Value.slice ra rn rc).ownBlock ≠ some i := fun i hi e => by have := (hlt i e).1; omega
      have q0 := low2 w.heap.size (by omega) (nlow _ (by omega))
      have q1 := low2 (w.heap.size + 1) (by omega) (nlow _ (by omega))
      have q7 := low2 U.heap.size hUW (fun e => by have := h6 _ e; omega)
      have c0' := (World.cell?_of_block (a := ⟨w.heap.size, 0, none⟩) q0).trans c0
      have c1' := (World.cell?_of_block (a := ⟨w.heap.size + 1, 0, none⟩) q1).trans c1
      have f0' := (World.frozen?_of_block (a := ⟨w.heap.size, 0, none⟩) q0).trans f0
      have f1' := (World.frozen?_of_block (a := ⟨w.heap.size + 1, 0, none⟩) q1).trans f1
      have c70' := (World.cell?_of_block (a := ⟨U.heap.size, 0, none⟩) q7).trans c70
      have c71' := (World.cell?_of_block (a := ⟨U.heap.size, 1, none⟩) q7).trans c71
      have HI : Hid ((Tryz.prog.info? 60).map (·.size) = some PA.length) := by rw [Hid, HPL.out]; exact Tryz.info62
      have HALL := hid (And.intro hown2 (And.intro hgrow (And.intro hat hg)))
      have HROW := hid (And.intro hl (And.intro hown (And.intro hn hk)))
      have HB := hid (And.intro hby (And.intro hnm (And.intro h0 (And.intro h1 h2))))
      have HT2 := hid hT
      rw [hp] at c70' hPN
      rw [hN] at c71' hPN
      clear e2 e3 hN hp hWU hWz hSC hown2 hgrow hat hg hown hn hk hl hby hnm h0 h1 h2 hT low2 nlow hlt q0 q1 q7 hap hal hPA' hPA c70 c71 hi z1 z2 z3
      simp only [hf]
      clear hf
      gi_wp2_with (first
        | (refine wpListIn_val (by rfl) (fun _ h => by cases h) (fun _ => trivial) (exec_load 60 _ (by rfl) U.heap.size 0 (by rfl) PA _ HRG.out Tryz.underlying60 rfl HI.out) ?_)
        | (refine wpListIn_val (by rfl) (fun _ h => by cases h) (fun _ => trivial) (exec_slice1 47 _ (by rfl) (.agg PA.toArray) _ (by rfl) HBS.out) ?_)
        | (refine wpListIn_val (by rfl) (fun _ h => by cases h) (fun _ => trivial) (exec_append _ _ 47 (by rfl) (.slice ra rn rc) (.slice (some ⟨W.heap.size, 0, none⟩) 1 1) _ (by rfl) (by rfl) HAP.out) ?_))
      obtain ⟨y1, y2, y3⟩ := HF.out
      obtain ⟨hown2, hgrow, hat, hg⟩ := HALL.out
      obtain ⟨hl, hown, hn, hk⟩ := HROW.out
      obtain ⟨hby, hnm, h0, h1, h2⟩ := HB.out
      have hSC := HSC.out
      have hPA := HPA.out
      have hT := HT2.out
      rw [y2, y3] at hSC
      subst hPA
      subst hrn
      obtain ⟨V, hV⟩ : ∃ V, (W2.setCell ⟨w.heap.size, 0, none⟩ (.slice (some ⟨g, 0, none⟩) (((tl xs 0).take k).length + 1) cap)).setCell ⟨w.heap.size + 1, 0, none⟩ (.int .i64 ((p : Int) + (N : Int))) = V := ⟨_, rfl⟩
      rw [hV]
      obtain ⟨k1, k2, k3, k4, k5, k6, k7, k8⟩ := push_facts (base := W0.heap.size) (b := b) (by omega) hbW hb h8 h0 h1 h2 hl hown hn hnm hk hby h6 hown2 hgrow (by simpa using hat) hg hV
      have hKV := Kept.then h5 k6
      obtain ⟨⟨t1, t2, t3, t4, t5, t6⟩, ht, _, hp, hq⟩ := hT
      refine ⟨k1, ⟨.slice (some ⟨g, 0, none⟩) (((tl xs 0).take k).length + 1) cap, p + N, k2, ?_, k4, ?_, hSC, hKV, ?_, hPN, ?_⟩, ⟨⟨?_, t2, t3, t4, t5, t6⟩, tabX_below ht k6 hb, ?_, ?_, ?_⟩⟩
      · rw [Int.natCast_add]; exact k3
      · rw [e1]; exact k5
      · intro r hr
        simp only [Value.ownBlock, Option.some.injEq] at hr
        omega
      · exact Nat.le_trans hbW k1.size
      · exact Nat.le_trans t1 k1.size
      · exact BySlS.mono (BySlS.kept HV.out hKV (fun g hg => hg)) (fun g hg => ⟨hg.1, by omega⟩)
      · exact (World.cell?_of_block (w := W) (a := ⟨w.heap.size + 4, 0, none⟩) (k8 (w.heap.size + 4) (by omega) (by omega) (by omega))).trans hp
      · exact (World.cell?_of_block (w := W) (a := ⟨w.heap.size + 3, 0, none⟩) (k8 (w.heap.size + 3) (by omega) (by omega) (by omega))).trans hq
    · have hfb : (f != 0) = true := by simp [hf0]
      rw [hp] at c70
      rw [hN] at c71
      have HE := hid (e2 (by rw [hf]; exact hf0))
      have hEq := HF.out
      clear e2 e3 HRG hN hp hWU hWz hEq
      simp only [hf]
      clear hf
      gi_wp2_with fail
      refine wpIn_mono (Q := fun e _ W' => e = .normal ∧ W' = (((W.setCell ⟨w.heap.size, 0, none⟩ (.slice ra rn rc)).setCell ⟨w.heap.size + 1, 0, none⟩ (.int .i64 (p : Int))).setCell ⟨w.heap.size + 1 + 1, 0, none⟩ (.int .i64 f)).drew) ?_ ?_
      · gi_region
        all_goals exact ⟨rfl, rfl⟩
      · rintro e a' W' ⟨rfl, rfl⟩
        gi_wp2_with fail
        obtain ⟨F, hF⟩ : ∃ F, (((W.setCell ⟨w.heap.size, 0, none⟩ (.slice ra rn rc)).setCell ⟨w.heap.size + 1, 0, none⟩ (.int .i64 (p : Int))).setCell ⟨w.heap.size + 1 + 1, 0, none⟩ (.int .i64 f)).drew = F := ⟨_, rfl⟩
        rw [hF]
        obtain ⟨g0, g1, g2, gk, gs, gi⟩ := scan_set3 h0 h1 h2 hF
        obtain ⟨y1, y2, _⟩ := HF.out
        have hEE := HE.out
        rw [y1, y2] at hEE
        refine ⟨⟨by omega, fun i o hi hio _ => (gi i (by omega)).trans hio⟩, rfl, .slice ra rn rc, g0, ?_, ?_, ?_, Kept.then h5 gk, tabX_below hT.2.1 gk hb⟩
        · rw [hEE]; exact g1
        · rw [hEE]; exact g2
        · rw [hEE]
          exact h3.cells ⟨by omega, fun i cs t fr hi _ hio => (gi i (by omega)).trans hio, fun i o u hi _ hio => (World.cell?_of_block (a := ⟨i, o, none⟩) (gi i (by omega))).trans hio⟩ (by omega)
  case done =>
    rintro D m W hD ⟨v, pos, h0, h1, h2, h3, h4, h5, h6, h7, h8⟩ hT hd
    rw [List.take_length, List.drop_length, scanR, List.append_nil] at h4
    rw [List.take_length] at h3
    obtain ⟨ra, rc, rfl⟩ := h3.form
    obtain ⟨L, hL⟩ : ∃ L, tl xs 0 = L := ⟨_, rfl⟩
    rw [hL] at h4 h3 h0 h6
    obtain ⟨rn, hrn⟩ : ∃ rn, L.length = rn := ⟨_, rfl⟩
    rw [hrn] at h0 h3 h6
    have c0 := h0.cell
    have c1 := h1.cell
    have c2 := h2.cell
    have f0 := h0.frozen
    have f1 := h1.frozen
    have f2 := h2.frozen
    change W.cell? ⟨w.heap.size + 1 + 1, 0, none⟩ = _ at c2
    change W.frozen? ⟨w.heap.size + 1 + 1, 0, none⟩ = _ at f2
    gi_wp2_with fail
    refine wpIn_wide.2 ?_
    go_region
    gi_wp2_with fail
    obtain ⟨F, hF⟩ : ∃ F, (((W.setCell ⟨w.heap.size, 0, none⟩ (.slice ra rn rc)).setCell ⟨w.heap.size + 1, 0, none⟩ (.int .i64 (pos : Int))).setCell ⟨w.heap.size + 1 + 1, 0, none⟩ (.int .i64 0)).drew = F := ⟨_, rfl⟩
    rw [hF]
    obtain ⟨g0, g1, g2, gk, gs, gi⟩ := scan_set3 h0 h1 h2 hF
    have gd : F.heap[D]? = some (.deferred (some [])) := (gi D (by omega)).trans hd
    have h3' : PRow 60 W0.heap.size b F (.slice ra rn rc) L := h3.cells ⟨by omega, fun i cs t fr hi _ hio => (gi i (by omega)).trans hio, fun i o u hi _ hio => (World.cell?_of_block (a := ⟨i, o, none⟩) (gi i (by omega))).trans hio⟩ (by omega)
    refine ⟨by simp, .inl ⟨_, _, rfl, run_takeDeferred gd, ?_⟩⟩
    have hpb := put_below (B := w.heap.size + 3) F (.deferred none) (l := D) (by omega) (Array.getElem?_eq_some_iff.1 gd).1
    have z0 := (hpb.cell (p := ⟨w.heap.size, 0, none⟩) (by simp)).trans g0.cell
    have z1 := (hpb.cell (p := ⟨w.heap.size + 1, 0, none⟩) (by simp)).trans g1.cell
    have z2 := (hpb.cell (p := ⟨w.heap.size + 1 + 1, 0, none⟩) (by simp)).trans g2.cell
    rw [h4]
    refine ⟨.tuple #[.slice ra rn rc, .int .i64 (pos : Int), .int .i64 0], by simp [results, Tryz.results64, go_sem, z0, z1, z2], ra, rc, by rw [hrn], ?_, Kept.then h5 (gk.trans (hpb.mono (by omega))), tabX_below hT.2.1 (gk.trans (hpb.mono (by omega))) hb⟩
    rw [hrn]
    exact (h3'.cells (put_kept gd) (by omega)).mono (by omega)
  case stop =>
    rintro D c k W hD hk ⟨rfl, v, h0, h1, h2, h3, h4, h5⟩ hd
    obtain ⟨ra, rc, rfl⟩ := h3.form
    obtain ⟨S, hS⟩ : ∃ S, scanF xs = S := ⟨_, rfl⟩
    rw [hS] at h0 h1 h2 h3
    gi_wp2_with fail
    rw [hS]
    refine ⟨by simp, .inl ⟨_, _, rfl, run_takeDeferred hd, ?_⟩⟩
    have hpb := put_below (B := w.heap.size + 3) W (.deferred none) (l := D) (by omega) (Array.getElem?_eq_some_iff.1 hd).1
    have z0 := (hpb.cell (p := ⟨w.heap.size, 0, none⟩) (by simp)).trans h0.cell
    have z1 := (hpb.cell (p := ⟨w.heap.size + 1, 0, none⟩) (by simp)).trans h1.cell
    have z2 := (hpb.cell (p := ⟨w.heap.size + 1 + 1, 0, none⟩) (by simp)).trans h2.cell
    refine ⟨.tuple #[.slice ra S.1.length rc, .int .i64 (S.2.1 : Int), .int .i64 S.2.2], by simp [results, Tryz.results64, go_sem, z0, z1, z2], ra, rc, rfl, (h3.cells (put_kept hd) (by omega)).mono (by omega), Kept.then h4 (hpb.mono (by omega)), tabX_below h5 hpb (by omega)⟩
end Go.Proofs.YtaaioaocjfpajaaGreatDoor
end

section
/-
  What At answers.
-/
namespace Go.Proofs.YtaaioaocjfpajaaGreatDoor
open Go.RowKit Go.Shelf
open Tlv (Tr BySlS AgreeS Agree)
open Crc (hid Kept Tab)

set_option maxHeartbeats 1000000 in
set_option maxRecDepth 100000 in
theorem at_bad (b : Nat) (a : Option Addr) (l c : Nat) (z : Int) (w : World) (hz : z < 0 ∨ (l : Int) ≤ z) :
    Calls Tryz.prog 70 #[.pointer (some ⟨b, 0, none⟩), .slice a l c, .int .i64 z] w fun e w' => e = .returned (.tuple #[.agg zRec.toArray, .int .i64 1]) ∧ Below w.heap.size w w' := by
  have hz0 := zero35
  obtain ⟨Z, hZ⟩ : ∃ Z, zRec = Z := ⟨_, rfl⟩
  have HZ := hid hZ
  rw [hZ] at hz0
  rw [hZ]
  clear hZ
  have HI2 : Hid ((Tryz.prog.info? 56).map (·.size) = some Z.toArray.size) := by rw [← HZ.out]; exact Tryz.info35
  have H1 : Hid (Z.toArray.all (·.oneCell') = true) := by rw [← HZ.out]; exact all_oneCell_toArray zRec_one
  have HT : Hid (World.there (w.alloc (.cells Z.toArray 56)) w.heap.size 0 Z.toArray.size) := there_new w Z 56
  have hr : World.rangeAt ((w.alloc (.cells Z.toArray 56)).setCells w.heap.size 0 Z) w.heap.size 0 Z := World.rangeAt_setCells_same _ _ _ _ HT.out
  by_cases hz1 : z < 0
  · clear hz
    go_enter Tryz.func70, Tryz.ntmps70
    go_wp2_with (refine wpList_store_mid (by rfl) 56 _ _ (by rfl) w.heap.size 0 Z.toArray (by rfl) (by rfl) HT.out HI2.out H1.out ?_)
    exact bodyPost_ret (v := .tuple #[.agg Z.toArray, .int .i64 1]) (results_cell_mid2 Tryz.results70 _ _ w.heap.size 0 _ _ rfl hr Tryz.underlying56 rfl HI2.out) rfl ⟨rfl, ((Below.refl _ _).alloc (Nat.le_refl _) _).trans (setCells_below (Nat.le_refl _) _ _ _)⟩
  · have hz2 : (l : Int) ≤ z := by omega
    clear hz
    go_enter Tryz.func70, Tryz.ntmps70
    go_wp2_with (refine wpList_store_mid (by rfl) 56 _ _ (by rfl) w.heap.size 0 Z.toArray (by rfl) (by rfl) HT.out HI2.out H1.out ?_)
    exact bodyPost_ret (v := .tuple #[.agg Z.toArray, .int .i64 1]) (results_cell_mid2 Tryz.results70 _ _ w.heap.size 0 _ _ rfl hr Tryz.underlying56 rfl HI2.out) rfl ⟨rfl, ((Below.refl _ _).alloc (Nat.le_refl _) _).trans (setCells_below (Nat.le_refl _) _ _ _)⟩

/-- What At leaves: as Take does, its length left out. -/
def Atd (w w' : World) (b : Nat) (e : Ending) (x : Int × (Int × List Int × List Int) × Nat) : Prop :=
  ∃ a c, e = .returned (.tuple #[.agg (recA x.2.1.1 x.2.1.2.1 (.slice a x.2.1.2.2.length c)).toArray, .int .i64 x.1]) ∧
    BySlS (fun g => w.heap.size ≤ g ∧ g < w'.heap.size) w' (.slice a x.2.1.2.2.length c) x.2.1.2.2 ∧ (x.2.1.2.1.length = 32 ∧ ∀ y ∈ x.2.1.2.1, 0 ≤ y ∧ y ≤ 255) ∧ Kept b w w' ∧ TabX w' b

set_option maxHeartbeats 1000000 in
set_option maxRecDepth 100000 in
theorem at_any (b k : Nat) (v : Value) (xs : List Int) (w : World) (hT : TabX w b) (hv : BySlS (fun g => g ≠ b ∧ g < w.heap.size) w v xs) (hk : k < xs.length) :
    Calls Tryz.prog 70 #[.pointer (some ⟨b, 0, none⟩), v, .int .i64 (k : Int)] w fun e w' => Atd w w' b e (takeF (xs.drop k)) := by
  obtain ⟨a', cap, rfl, hc, hmax, _, h47, _, h7⟩ := id hv
  obtain ⟨g, o, rfl, hgb, _⟩ := h7 (by intro e; subst e; simp at hk)
  have HVV : Hid (BySlS (fun x => x ≠ b ∧ x < w.heap.size) w (.slice (some ⟨g, o + k, none⟩) (xs.length - k) (cap - k)) (xs.drop k)) := bySlS_drop hv hk
  have HT := hid hT
  clear hv h7 hT
  unfold maxLen at hmax
  have hz0 := zero35
  obtain ⟨Z, hZ⟩ : ∃ Z, zRec = Z := ⟨_, rfl⟩
  have HZ := hid hZ
  rw [hZ] at hz0
  clear hZ
  go_enter Tryz.func70, Tryz.ntmps70
  go_wp2_with fail
  have hB1 : Below w.heap.size w (w.alloc (.cells Z.toArray 56)) := (Below.refl _ _).alloc (Nat.le_refl _) _
  have hHT := there_new w Z 56
  have hs1 : (w.alloc (.cells Z.toArray 56)).heap.size = w.heap.size + 1 := by simp
  generalize hW1 : w.alloc (.cells Z.toArray 56) = W1 at *
  refine (take_any b _ (xs.drop k) W1 (HT.out.below hB1) ?_).mono ?_
  · have h : BySlS (fun x => x ≠ b ∧ x < W1.heap.size) W1 _ _ := BySlS.mono (BySlS.below HVV.out hB1 (fun g hg => hg.2)) (fun g hg => ⟨hg.1, by omega⟩)
    simpa only [List.length_drop] using h
  rintro e w1 ⟨ar, cr, rfl, hby, hnm, hkk, htt⟩
  have hbw := HT.out.lt
  have hz1 := hkk.size
  generalize hX : takeF (xs.drop k) = X at *
  have HPL := hid (recA_length X.2.1.1 X.2.1.2.1 (.slice ar X.2.1.2.2.length cr) hnm.1)
  have HPO := hid (recA_one X.2.1.1 X.2.1.2.1 ar X.2.1.2.2.length cr)
  obtain ⟨C, hC⟩ : ∃ C, recA X.2.1.1 X.2.1.2.1 (.slice ar X.2.1.2.2.length cr) = C := ⟨_, rfl⟩
  rw [hC] at HPL HPO
  rw [hC]
  have HCs : Hid (C.toArray.size = 34) := HPL.out
  have HI : Hid ((Tryz.prog.info? 56).map (·.size) = some C.toArray.size) := by rw [Hid, HCs.out]; exact Tryz.info35
  have HO : Hid (C.toArray.all (·.oneCell') = true) := all_oneCell_toArray HPO.out
  have hZl : Z.length = 34 := by rw [← HZ.out]; exact zRec_length
  rw [hZl] at hHT
  have ha1 : Below w1.heap.size w1 (w1.alloc (.cells Z.toArray 56)) := (Below.refl _ _).alloc (Nat.le_refl _) _
  have hb2 := setCells_below (B := w1.heap.size) (Nat.le_refl _) (w1.alloc (.cells Z.toArray 56)) 0 C
  have ht2 : (w1.alloc (.cells Z.toArray 56)).there w1.heap.size 0 34 := by have h := there_new w1 Z 56; rwa [hZl] at h
  have HT2 : Hid (World.there (w1.alloc (.cells Z.toArray 56)) w1.heap.size 0 C.toArray.size) := by rw [Hid, HCs.out]; exact ht2
  have HR2 : Hid (World.rangeAt ((w1.alloc (.cells Z.toArray 56)).setCells w1.heap.size 0 C) w1.heap.size 0 C) := World.rangeAt_setCells_same _ _ _ _ HT2.out
  have h3 : Below w1.heap.size w1 ((w1.alloc (.cells Z.toArray 56)).setCells w1.heap.size 0 C) := ha1.trans hb2
  have HT3 : Hid (World.there ((w1.alloc (.cells Z.toArray 56)).setCells w1.heap.size 0 C) w.heap.size 0 C.toArray.size) := by
    rw [Hid, HCs.out]
    exact there_below (there_kept hHT hkk (by omega) (by omega)) h3 (by omega)
  have HR3 : Hid (World.rangeAt (((w1.alloc (.cells Z.toArray 56)).setCells w1.heap.size 0 C).setCells w.heap.size 0 C) w.heap.size 0 C) := World.rangeAt_setCells_same _ _ _ _ HT3.out
  have H3 := hid h3
  have HBY := hid (And.intro hby (And.intro hnm (And.intro hkk htt)))
  clear h3 ha1 hb2 ht2 hHT hby hnm hkk htt
  go_wp2_with (first
    | (refine wpList_store_mid (by rfl) 56 _ _ (by rfl) w1.heap.size 0 C.toArray (by rfl) (by rfl) HT2.out HI.out HO.out ?_)
    | (refine wpList_load_mid (by rfl) 56 _ (by rfl) w1.heap.size 0 (by rfl) C _ HR2.out Tryz.underlying56 rfl HI.out ?_)
    | (refine wpList_store_mid (by rfl) 56 _ _ (by rfl) w.heap.size 0 C.toArray (by rfl) (by rfl) HT3.out HI.out HO.out ?_))
  obtain ⟨hby, hnm, hkk, htt⟩ := HBY.out
  have hV : Below w.heap.size w1 (((w1.alloc (.cells Z.toArray 56)).setCells w1.heap.size 0 C).setCells w.heap.size 0 C) := (H3.out.mono (by omega)).trans (setCells_below (Nat.le_refl _) _ _ _)
  refine bodyPost_ret (v := .tuple #[.agg C.toArray, .int .i64 X.1]) (results_cell_mid2 Tryz.results70 _ _ w.heap.size 0 _ _ rfl HR3.out Tryz.underlying56 rfl HI.out) rfl ?_
  rw [hX]
  refine ⟨ar, cr, by rw [hC], hby.agree (fun g hg => (setCells_block _ _ _ _ _ (by omega)).trans (H3.out.block g hg.2)) (fun g hg => ⟨by omega, Nat.lt_of_lt_of_le hg.2 hV.size⟩), hnm, Kept.then ((Kept.below hB1).trans hkk) hV, tabX_below htt hV hbw⟩
end Go.Proofs.YtaaioaocjfpajaaGreatDoor
end
