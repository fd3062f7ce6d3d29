/-
  What the iterator of a scan tells, round by round.
-/
import Derived.Test.YthbhdbjjobfchaaFrTellR
namespace Go.Proofs.Ythbhdbjjobfchaa
open Go.RowKit Go.Shelf
open Tlv (Tr BySlS AgreeS Agree)
open Crc (hid Kept Tab)
attribute [local go_sem] Oper.semAt_some

theorem wpListIn_val {F : Fence} {n : Nat} {P : Program} {ops : Array Oper} {rest : List Oper} {o : Oper} {a : Act} {Q : Exit → Act → World → Prop} {w w' : World} {v : Value} (hgd : o.guard = none) (hd : ∀ c, o.op ≠ .defer c) (hF : ∀ f, F.fn f)
    (hr : (execOp a.eval o).run P w = .ok (.value v) w') (h : wpListIn F n P ops Q rest (a.put o.dst v) w') : wpListIn F n P ops Q (o :: rest) a w := by
  unfold wpListIn
  rw [if_pos (by simp [Region.wanted, hgd])]
  refine ⟨fun f _ => hF f, ?_⟩
  rw [Oper.semAt_eq _ _ _ hd, hr]
  exact h
theorem wpListIn_skip {F : Fence} {n : Nat} {P : Program} {ops : Array Oper} {rest : List Oper} {o : Oper} {a : Act} {Q : Exit → Act → World → Prop} {w w' : World} (hgd : o.guard = none) (hd : ∀ c, o.op ≠ .defer c) (hF : ∀ f, F.fn f)
    (hr : (execOp a.eval o).run P w = .ok .skip w') (h : wpListIn F n P ops Q rest (a.put o.dst undef) w') : wpListIn F n P ops Q (o :: rest) a w := by
  unfold wpListIn
  rw [if_pos (by simp [Region.wanted, hgd])]
  refine ⟨fun f _ => hF f, ?_⟩
  rw [Oper.semAt_eq _ _ _ hd, hr]
  exact h

theorem exec_load {P : Program} {o : Oper} {a : Act} {w : World} (ty : TypeId) (x : Operand) (ho : o.op = .load ty x) (b off : Nat) (hx : a.eval x = .pointer (some ⟨b, off, none⟩)) (cs : List Value) (d : TypeDesc) (hc : w.rangeAt b off cs)
    (hu : P.underlying ty = some d) (hd : d.isRow = true) (hi : (P.info? ty).map (·.size) = some cs.length) : (execOp a.eval o).run P w = .ok (.value (.agg cs.toArray)) w := by
  unfold execOp
  simp only [ho, hx, Instr.loadAt, Instr.sureAddr, Sem.run_bind, Sem.run_pure, Result.andThen_ok, run_loadVar_mid w b off ty cs d hc hu hd hi]
theorem exec_store {P : Program} {o : Oper} {a : Act} {w : World} (ty : TypeId) (x y : Operand) (ho : o.op = .store ty x y) (b off : Nat) (cells : Array Value) (hx : a.eval x = .pointer (some ⟨b, off, none⟩)) (hy : a.eval y = .agg cells)
    (ht : w.there b off cells.size) (hi : (P.info? ty).map (·.size) = some cells.size) (h1 : cells.all (·.oneCell') = true) : (execOp a.eval o).run P w = .ok .skip (w.setCells b off cells.toList) := by
  unfold execOp
  simp only [ho, hx, hy, Instr.storeAt, Instr.sureAddr, Sem.run_bind, Sem.run_pure, Result.andThen_ok, run_storeVar_mid w b off ty cells ht hi h1]
theorem exec_build3 {P : Program} {o : Oper} {a : Act} {w : World} (ty : TypeId) (x y z : Operand) (ho : o.op = .build ty #[(0, x), (1, y), (2, z)]) (vx vy vz : Value) (hx : a.eval x = vx) (hy : a.eval y = vy) (hz : a.eval z = vz) (C : Array Value)
    (hb : P.built ty [(0, vx), (1, vy), (2, vz)] = some C) : (execOp a.eval o).run P w = .ok (.value (.agg C)) w := by
  have e : P.built ty ((#[(0, x), (1, y), (2, z)] : Array (Nat × Operand)).map fun (i, x) => (i, a.eval x)).toList = some C := by
    rw [← hb]
    simp only [List.map_toArray, List.map_cons, List.map_nil, hx, hy, hz]
  unfold execOp
  simp only [ho, Sem.run_bind, run_build w ty _ C e, Result.andThen_ok]
  rfl

/-- A placed record's cells. -/
def placedA (p n : Nat) (C : List Value) : List Value := .int .i64 (p : Int) :: .int .i64 (n : Int) :: C
theorem built62 (p n : Nat) (k : Int) (nm : List Int) (h : nm.length = 32) (a : Option Addr) (l c : Nat) : Try.prog.built 62 [(0, .int .i64 (p : Int)), (1, .int .i64 (n : Int)), (2, .agg (recA k nm (.slice a l c)).toArray)] = some (placedA p n (recA k nm (.slice a l c))).toArray := by
  obtain ⟨x0, x1, x2, x3, x4, x5, x6, x7, x8, x9, x10, x11, x12, x13, x14, x15, x16, x17, x18, x19, x20, x21, x22, x23, x24, x25, x26, x27, x28, x29, x30, x31, rfl⟩ := ex32 h
  kernel_rfl

theorem BySlS.putl {B : Nat} {S : Nat → Prop} {U W : World} {v : Value} {xs : List Int} (h : BySlS S U v xs) (k : Putl B U W) : BySlS S W v xs := by
  obtain ⟨a, cap, h1, h2, h3, h4, h5, h6, h7⟩ := h
  refine ⟨a, cap, h1, h2, h3, h4, h5, h6, fun hne => ?_⟩
  obtain ⟨g, o, e, hS, hc⟩ := h7 hne
  exact ⟨g, o, e, hS, fun i hi => k.cell (hc i hi)⟩

/-- The iterator's world: the table at b; the bytes; both below B; the two boxes that it has taken along, at p and q. -/
def Ts (B b p q : Nat) (v : Value) (xs : List Int) (W : World) : Prop :=
  (B ≤ W.heap.size ∧ b < B ∧ p < B ∧ q < B ∧ p ≠ b ∧ q ≠ b) ∧ TabX W b ∧ BySlS (fun x => x ≠ b ∧ x < B) W v xs ∧ W.cell? ⟨p, 0, none⟩ = some v ∧ W.cell? ⟨q, 0, none⟩ = some (.pointer (some ⟨b, 0, none⟩))

theorem tabX_below {B b : Nat} {w w' : World} (h : TabX w b) (k : Below B w w') (hb : b < B) : TabX w' b := by
  obtain ⟨f, n, hf, h1, h2, h3, h4, h5, h6, h7⟩ := h
  have c : ∀ j, w'.cell? ⟨b, j, none⟩ = w.cell? ⟨b, j, none⟩ := fun j => k.cell (p := ⟨b, j, none⟩) hb
  refine ⟨f, n, hf, Nat.lt_of_lt_of_le h1 k.size, (c _).trans h2, (c _).trans h3, (c _).trans h4, fun j hj => ?_, fun e j hj => (c _).trans (h6 e j hj), fun j => (k.frozen (p := ⟨b, j, none⟩) hb).trans (h7 j)⟩
  obtain ⟨x, hx⟩ := h5 j hj
  exact ⟨x, (c _).trans hx⟩

theorem Ts.below {B b p q : Nat} {v : Value} {xs : List Int} {U V : World} (h : Ts B b p q v xs U) (k : Below B U V) : Ts B b p q v xs V := by
  obtain ⟨⟨h1, h2, h3, h4, h5, h6⟩, ht, hv, hp, hq⟩ := h
  exact ⟨⟨Nat.le_trans h1 k.size, h2, h3, h4, h5, h6⟩, tabX_below ht k h2, BySlS.below hv k (fun g hg => hg.2), (k.cell (p := ⟨p, 0, none⟩) h3).trans hp, (k.cell (p := ⟨q, 0, none⟩) h4).trans hq⟩
theorem Ts.took {B b p q : Nat} {v : Value} {xs : List Int} {U V : World} (h : Ts B b p q v xs U) (k : Kept b U V) (t : TabX V b) : Ts B b p q v xs V := by
  obtain ⟨⟨h1, h2, h3, h4, h5, h6⟩, _, hv, hp, hq⟩ := h
  exact ⟨⟨Nat.le_trans h1 k.size, h2, h3, h4, h5, h6⟩, t, BySlS.kept hv k (fun g hg => ⟨hg.1, by omega⟩), (k.cell (p := ⟨p, 0, none⟩) (by simp; omega) h5).trans hp, (k.cell (p := ⟨q, 0, none⟩) (by simp; omega) h6).trans hq⟩

/-- The values of round k. -/
def Vs (B b : Nat) (xs : List Int) (k : Nat) (vs : Array Value) (U : World) : Prop :=
  ∃ (x : Item) (a : Option Addr) (c : Nat), (tl xs 0)[k]? = some x ∧ vs = #[.agg (placedA x.1 x.2.2.2 (recA x.2.2.1.1 x.2.2.1.2.1 (.slice a x.2.2.1.2.2.length c))).toArray, .int .i64 x.2.1] ∧
    BySlS (fun g => B ≤ g ∧ g ≠ b ∧ g < U.heap.size) U (.slice a x.2.2.1.2.2.length c) x.2.2.1.2.2 ∧ (x.2.2.1.2.1.length = 32 ∧ ∀ y ∈ x.2.2.1.2.1, 0 ≤ y ∧ y ≤ 255)

theorem wide_d {n : Nat} : Fence.wide.depth.isSome = true → 1 ≤ n := fun h => by simp [Fence.wide] at h

theorem bySlS_drop {S : Nat → Prop} {w : World} {b o cap E : Nat} {xs : List Int} (h : BySlS S w (.slice (some ⟨b, o, none⟩) xs.length cap) xs) (hE : E < xs.length) : BySlS S w (.slice (some ⟨b, o + E, none⟩) (xs.length - E) (cap - E)) (xs.drop E) := by
  obtain ⟨a', cap', e, h2, h3, h4, h5, h6, h7⟩ := h
  simp only [Value.slice.injEq, true_and] at e
  obtain ⟨rfl, rfl⟩ := e
  have hl : (xs.drop E).length = xs.length - E := List.length_drop
  refine ⟨_, cap - E, by rw [hl], by rw [hl]; omega, by unfold maxLen at *; omega, by simp, by rw [hl]; omega, fun x hx => h6 x (List.mem_of_mem_drop hx), fun _ => ?_⟩
  obtain ⟨b', o', e, hS, hc⟩ := h7 (by intro e; subst e; simp at hE)
  simp only [Option.some.injEq, Addr.mk.injEq, and_true] at e
  obtain ⟨rfl, rfl⟩ := e
  refine ⟨b, o + E, rfl, hS, fun i hi => ?_⟩
  rw [hl] at hi
  rw [Nat.add_assoc, hc (E + i) (by omega)]
  simp

set_option maxHeartbeats 4000000 in
set_option maxRecDepth 100000 in
theorem tells_frames (n B b p q : Nat) (v : Value) (xs : List Int) :
    Tells n 55 #[.pointer (some ⟨p, 0, none⟩), .pointer (some ⟨q, 0, none⟩)] b (Ts B b p q v xs) (Vs B b xs) (tl xs 0).length := by
  intro l J Jx W hT hJ hY h0
  obtain ⟨_, _, hv0, _, _⟩ := id hT
  obtain ⟨a0, cap, rfl, hcap, hmax, _, h47, _, _⟩ := id hv0
  have HT := hid hT
  have HJ := hid hJ
  have HY := hid hY
  have H0 := hid h0
  unfold maxLen at hmax
  clear hT hJ hY h0 hv0
  obtain ⟨_, _, _, hp0, _⟩ := HT.out
  obtain ⟨_, _, _, _, hq0⟩ := HT.out
  refine callsIn_of_wp Try.func55 rfl trivial ?_ rfl
  simp only [Try.ntmps55, List.size_toArray, List.length_cons, List.length_nil, Nat.reduceAdd, Nat.reduceSub, Array.replicate_succ, Array.replicate_zero, List.push_toArray, List.append_toArray, List.nil_append, List.cons_append]
  gi_wp2_with fail
  clear hp0 hq0
  gi_loopw [4] (fun i wr => ∃ k P : Nat, P ≤ xs.length ∧ i = .int .i64 P ∧ Hid ((tl xs 0).drop k = tl xs P ∧ k ≤ (tl xs 0).length) ∧ Hid (J k wr) ∧ Hid (Ts B b p q (.slice a0 xs.length cap) xs wr)) (fun i _ => xs.length - (intOf i).toNat)
  case atStart => exact ⟨0, 0, Nat.zero_le _, rfl, ⟨rfl, Nat.zero_le _⟩, H0, HT⟩
  case round =>
    obtain ⟨k, P, hP, rfl, HD, HJk, HTk⟩ := hrel
    obtain ⟨⟨hB1, hB2, hB3, hB4, hB5, hB6⟩, htab, hv, hp, hq⟩ := HTk.out
    by_cases hlt : P < xs.length
    · obtain ⟨a', cap', ev, _, _, _, _, _, h7⟩ := id hv
      simp only [Value.slice.injEq, true_and] at ev
      obtain ⟨rfl, rfl⟩ := ev
      obtain ⟨g, o, rfl, hgb, _⟩ := h7 (by intro e; subst e; simp at hlt)
      obtain ⟨L, hL, hLc⟩ := tl_head hlt
      have hkN : k < (tl xs 0).length := by
        have h := congrArg List.length HD.out.1
        rw [hL, List.length_drop, List.length_cons] at h
        omega
      have HAT : Hid ((tl xs 0)[k]? = some (P, takeF (xs.drop P))) := by
        have h := congrArg (fun l : List Item => l[0]?) HD.out.1
        rw [hL] at h
        rw [Hid]
        simpa using h
      have HDR : Hid ((tl xs 0).drop (k + 1) = L) := by
        have h := congrArg (fun l : List Item => l.drop 1) HD.out.1
        rw [hL] at h
        rw [Hid]
        simpa [List.drop_drop, Nat.add_comm] using h
      have HLC := hid hLc
      have HKN : Hid (k + 1 ≤ (tl xs 0).length) := hkN
      have HVV : Hid (BySlS (fun x => x ≠ b ∧ x < wr.heap.size) wr (.slice (some ⟨g, o + P, none⟩) (xs.length - P) (cap - P)) (xs.drop P)) := BySlS.mono (bySlS_drop hv hlt) (fun g hg => ⟨hg.1, Nat.lt_of_lt_of_le hg.2 hB1⟩)
      have HTAB := hid htab
      have hPi : (P : Int) < (xs.length : Int) := by omega
      clear hv h7 htab hL hLc
      gi_wp2_with fail
      refine wpIn_wide.2 (tell_region xs (takeF (xs.drop P)) rfl hlt hcap HTAB.out hp hq hB5 hB6 HVV.out (fun gr ar cr wx hTk => ?_))
      obtain ⟨X, hX⟩ : ∃ X, takeF (xs.drop P) = X := ⟨_, rfl⟩
      have HP0 : Hid (X.1 = 0 → 4 ≤ X.2.2 ∧ X.2.2 ≤ xs.length - P) := by
        rw [Hid, ← hX]
        intro h
        have h1 := takeF_pos h
        rw [List.length_drop] at h1
        exact h1
      rw [hX] at hTk HAT HLC
      rw [hX]
      clear hX
      obtain ⟨hk1, ht1, hg0, hg1, hrg, hby, hnx⟩ := hTk
      have HT2 := hid (HTk.out.took hk1 ht1)
      have HJ2 := hid (HJ.out k _ _ HJk.out HT2.out hk1)
      have HVS : Hid (Vs B b xs k #[.agg (placedA P X.2.2 (recA X.2.1.1 X.2.1.2.1 (.slice ar X.2.1.2.2.length cr))).toArray, .int .i64 X.1] wx) :=
        ⟨(P, X), ar, cr, HAT.out, rfl, BySlS.mono hby (fun g hg => ⟨by omega, by omega, hg.2⟩), hnx⟩
      have HBU := hid (built62 P X.2.2 X.2.1.1 X.2.1.2.1 hnx.1 ar X.2.1.2.2.length cr)
      have HCL := hid (recA_length X.2.1.1 X.2.1.2.1 (.slice ar X.2.1.2.2.length cr) hnx.1)
      have HRG := hid hrg
      obtain ⟨fn, tmps, assign, body, hy, hR⟩ := HY.out k wx _ hkN HJ2.out HT2.out HVS.out
      obtain ⟨C, hC⟩ : ∃ C, recA X.2.1.1 X.2.1.2.1 (.slice ar X.2.1.2.2.length cr) = C := ⟨_, rfl⟩
      rw [hC] at HBU HCL HRG hy
      rw [hC]
      have HIC : Hid ((Try.prog.info? 35).map (·.size) = some C.length) := by rw [Hid, HCL.out]; exact Try.info35
      generalize hPA : placedA P X.2.2 C = PA at *
      have HR := hid hR
      generalize hf : X.1 = f at *
      generalize hn : X.2.2 = N at *
      have HF := hid (And.intro hf hn)
      clear hf hn hPA hC hk1 ht1 hby hnx hrg hp hq hR HVS HVV
      gi_wp2_with (first
        | (refine wpListIn_val (by rfl) (fun _ h => by cases h) (fun _ => trivial) (exec_load 35 _ (by rfl) gr 0 (by rfl) C _ HRG.out Try.underlying35 rfl HIC.out) ?_)
        | (refine wpListIn_val (by rfl) (fun _ h => by cases h) (fun _ => trivial) (exec_build3 62 _ _ _ (by rfl) _ _ _ (by rfl) (by rfl) (by rfl) PA.toArray HBU.out) ?_))
      refine ⟨wide_d, HR.out.mono ?_⟩
      rintro e W3 (⟨rfl, hJ3, hT3⟩ | ⟨rfl, hJx3⟩)
      · have HJ3 := hid hJ3
        have HT3 := hid hT3
        clear hJ3 hT3
        by_cases hf0 : f = 0
        · have hP0 := HP0.out hf0
          have HLL : Hid ((tl xs 0).drop (k + 1) = tl xs (P + N)) := by
            rcases HLC.out with ⟨_, h⟩ | ⟨h, _⟩
            · rw [Hid, HDR.out, h]
            · exact absurd hf0 h
          have hfb : (f != 0) = false := by simp [hf0]
          clear hf0
          gi_wp2
          go_roundw
          case rel => exact ⟨k + 1, P + N, by omega, by go_num, ⟨HLL.out, HKN.out⟩, HJ3, HT3⟩
          case measure => simp [intOf]; omega
        · have HLL : Hid (k + 1 = (tl xs 0).length) := by
            rcases HLC.out with ⟨h, _⟩ | ⟨_, h⟩
            · exact absurd h hf0
            · have h2 := HDR.out
              rw [h] at h2
              have h3 := congrArg List.length h2
              rw [List.length_drop, List.length_nil] at h3
              rw [Hid]
              omega
          have hfb : (f != 0) = true := by simp [hf0]
          clear hf0
          gi_wp2
          refine bodyPost_ret (results_none rfl _ _ _) rfl ?_
          exact ⟨⟨_, rfl⟩, .inl ⟨by rw [← HLL.out]; exact HJ3.out, HT3.out⟩⟩
      · have HJx := hid hJx3
        clear hJx3
        gi_wp2
        refine bodyPost_ret (results_none rfl _ _ _) rfl ?_
        exact ⟨⟨_, rfl⟩, .inr ⟨k + 1, HKN.out, HJx.out⟩⟩
    · have HLL : Hid (k = (tl xs 0).length) := by
        have h := congrArg List.length HD.out.1
        rw [tl_end (p := P) (by omega), List.length_drop, List.length_nil] at h
        have := HD.out.2
        rw [Hid]
        omega
      clear hv
      gi_wp2
      go_end0
      exact ⟨⟨_, rfl⟩, .inl ⟨by rw [← HLL.out]; exact HJk.out, HTk.out⟩⟩

/-- frames. -/
theorem frames_any (g : Option Addr) (a : Option Addr) (len cap : Nat) (w : World) :
    Calls Try.prog 40 #[.pointer g, .slice a len cap] w fun e w' => e = .returned (.func (.func 55) #[] #[.pointer (some ⟨w.heap.size + 1, 0, none⟩), .pointer (some ⟨w.heap.size, 0, none⟩)]) ∧
      w' = (w.alloc (.cells #[.pointer g] 30)).alloc (.cells #[.slice a len cap] 24) := by
  have hmf : ∀ (fn : Fn) (first cap : Array Value) (w : World), (Instr.makeFunc fn first cap).run Try.prog w = .ok (.func fn first cap) w := fun _ _ _ _ => rfl
  go_enter Try.func40, Try.ntmps40
  go_wp2
  go_ret
  exact ⟨rfl, rfl⟩
end Go.Proofs.Ythbhdbjjobfchaa
