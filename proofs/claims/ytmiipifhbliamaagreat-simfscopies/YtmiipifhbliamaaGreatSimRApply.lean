/-
  The reference's apply: a change, done to a directory.
-/
import Derived.Test.YtmiipifhbliamaaGreatSimRDir
import Derived.Deep.RegionHeld3
namespace Go.Proofs.YtmiipifhbliamaaGreat.Sim
open Go.RowKit Go.Maps

/-- The number that a change bears. -/
def whichOf (d : Dir) (c : PC) : Nat := if c.kind = 0 then c.file else if c.kind = 1 then 0 else (dfind d c.nm).getD 0
def rchgCells (c : PC) (k : Nat) : List Value := [.int .i64 ((c.kind + 1 : Nat) : Int), .string (sOf c.nm), .string (sOf c.to), .int .i64 (k : Int)]
theorem rchgCells_one (c : PC) (k : Nat) : ∀ u ∈ rchgCells c k, u.oneCell' = true := by
  intro u hu
  simp [rchgCells] at hu
  rcases hu with rfl | rfl | rfl | rfl <;> rfl
theorem OutI.enP {w wr : World} {v : Value} {out : Dir} (h : OutI w wr v out) : EnP (fun x => w.heap.size ≤ x) wr v out := h.1.enP h.2.1
theorem OutI.more {u w wr : World} {v : Value} {out : Dir} (h : OutI w wr v out) (k : Kp No u w) : OutI u wr v out := ⟨h.1, fun x hx => Nat.le_trans k.size (h.2.1 x hx), k.andNone h.2.2⟩

set_option maxHeartbeats 4000000 in
set_option maxRecDepth 100000 in
theorem rapply_any {D : Nat → Prop} (w : World) (v : Value) (d : Dir) (c : PC) (h : EnP D w v d) (hr : Ris d) (hl : d.length ≤ 2000) (hn : ∀ e ∈ d, e.1.length ≤ 1000000) (hc : c.nm.length ≤ 1000000 ∧ c.to.length ≤ 1000000) (hok : okc d c) :
    Calls Tryz.prog 67 #[v, .agg #[.int .i64 ((c.kind + 1 : Nat) : Int), .string (sOf c.nm), .string (sOf c.to), .int .i64 (whichOf d c : Nat)]] w fun e w' => ∃ ad cap, e = .returned (.slice ad (pdo d c).length cap) ∧ OutI w w' (.slice ad (pdo d c).length cap) (pdo d c) := by
  have hn1 : (sOf c.nm).size ≤ 1000000 := by rw [sOf_size]; exact hc.1
  have hn2 : (sOf c.to).size ≤ 1000000 := by rw [sOf_size]; exact hc.2
  have HP : Hid (∀ (V : World) (t : ByteArray) (f : Int), Kp No w V → t.size ≤ 1000000 → Calls Tryz.prog 74 #[v, .string t, .int .i64 f] V fun e w' => ∃ ad cap, e = .returned (.slice ad (rputD d (nm t) f).length cap) ∧ OutI w w' (.slice ad (rputD d (nm t) f).length cap) (rputD d (nm t) f)) := fun V t f k ht => by
    refine (rput_any V v d t f (h.kept k) hr hl ht hn).mono ?_
    rintro e w' ⟨ad, cap, rfl, ho⟩
    exact ⟨ad, cap, rfl, ho.more k⟩
  have hk : c.kind = 0 ∨ c.kind = 1 ∨ c.kind = 2 := by have := hok.1; omega
  rcases hk with hk | hk | hk
  · have HD : Hid (rputD d (nm (sOf c.nm)) (c.file : Int) = pdo d c) := by
      rw [Hid, nm_sOf, rputD, if_neg (by omega), pdo, if_pos hk]; rfl
    have hw : whichOf d c = c.file := by simp [whichOf, hk]
    rw [hw, hk]
    have HC := hid (HP.out (w.alloc (.cells #[.int .i64 1, .string (sOf c.nm), .string (sOf c.to), .int .i64 (c.file : Int)] 102)) (sOf c.nm) (c.file : Int) ((Kp.refl _ _).alloc _) hn1)
    rw [HD.out] at HC
    clear h hr hl hn hc hok HP hk hw HD hn1 hn2
    generalize pdo d c = q at *
    generalize sOf c.nm = sn at *
    generalize sOf c.to = st at *
    go_enter Tryz.func67, Tryz.ntmps67
    go_wp2_with (go_at_call 74; refine (HC.out).mono ?_; rintro e w1 ⟨ad, cap, rfl, ho⟩; have HO := hid ho; clear ho)
    go_ret
    exact ⟨ad, cap, rfl, HO.out⟩
  · have HD : Hid (rputD d (nm (sOf c.nm)) (-1) = pdo d c) := by
      rw [Hid, nm_sOf, rputD, if_pos (by omega), pdo, if_neg (by omega), if_pos hk]
    have hw : whichOf d c = 0 := by simp [whichOf, hk]
    rw [hw, hk]
    have HC := hid (HP.out (w.alloc (.cells #[.int .i64 2, .string (sOf c.nm), .string (sOf c.to), .int .i64 0] 102)) (sOf c.nm) (-1) ((Kp.refl _ _).alloc _) hn1)
    rw [HD.out] at HC
    clear h hr hl hn hc hok HP hk hw HD hn1 hn2
    generalize pdo d c = q at *
    generalize sOf c.nm = sn at *
    generalize sOf c.to = st at *
    go_enter Tryz.func67, Tryz.ntmps67
    go_wp2_with (go_at_call 74; refine (HC.out).mono ?_; rintro e w1 ⟨ad, cap, rfl, ho⟩; have HO := hid ho; clear ho)
    go_ret
    exact ⟨ad, cap, rfl, HO.out⟩
  · obtain ⟨b, hb⟩ := Option.isSome_iff_exists.1 (hok.2 hk)
    have hw : whichOf d c = b := by simp [whichOf, hk, hb]
    have HD : Hid (rputD (ddel d c.nm) (nm (sOf c.to)) (b : Int) = pdo d c) := by
      rw [Hid, nm_sOf, rputD, if_neg (by omega), pdo, if_neg (by omega), if_neg (by omega), hb]; rfl
    have HD1 : Hid (rputD d (nm (sOf c.nm)) (-1) = ddel d c.nm) := by rw [Hid, nm_sOf, rputD, if_pos (by omega)]
    rw [hw, hk]
    have HC1 : Hid (∀ V, Kp No w V → Calls Tryz.prog 74 #[v, .string (sOf c.nm), .int .i64 (-1)] V fun e w' => ∃ ad cap, e = .returned (.slice ad (ddel d c.nm).length cap) ∧ OutI w w' (.slice ad (ddel d c.nm).length cap) (ddel d c.nm) ∧ Kp No V w') := fun V k => by
      refine (rput_any V v d (sOf c.nm) (-1) (h.kept k) hr hl hn1 hn).mono ?_
      rintro e w' ⟨ad, cap, rfl, ho⟩
      rw [HD1.out] at ho ⊢
      exact ⟨ad, cap, rfl, ho.more k, ho.2.2⟩
    have HC2 : Hid (∀ V v', OutI w V v' (ddel d c.nm) → Calls Tryz.prog 74 #[v', .string (sOf c.to), .int .i64 (b : Int)] V fun e w' => ∃ ad cap, e = .returned (.slice ad (pdo d c).length cap) ∧ OutI w w' (.slice ad (pdo d c).length cap) (pdo d c) ∧ Kp No V w') := fun V v' ho => by
      refine (rput_any V v' (ddel d c.nm) (sOf c.to) (b : Int) ho.enP (hr.del _) (by have := length_ddel d c.nm; omega) hn2 (fun e he => hn e (mem_ddel.1 he).1)).mono ?_
      rintro e w' ⟨ad, cap, rfl, ho'⟩
      rw [HD.out] at ho' ⊢
      exact ⟨ad, cap, rfl, ho'.more ho.2.2, ho'.2.2⟩
    clear h hr hl hn hc hok HP hk hw HD HD1 hn1 hn2 hb
    generalize pdo d c = q at *
    generalize ddel d c.nm = q1 at *
    generalize sOf c.nm = sn at *
    generalize sOf c.to = st at *
    have HW0 : Hid (Kp No w (w.alloc (.cells #[.int .i64 3, .string sn, .string st, .int .i64 (b : Int)] 102))) := (Kp.refl _ _).alloc _
    have q1 : (w.alloc (.cells #[.int .i64 3, .string sn, .string st, .int .i64 (b : Int)] 102)).cell? ⟨w.heap.size, 1, none⟩ = some (.string sn) := by rw [World.cell?_alloc_at _ _ _ _ rfl]; rfl
    have q2 : (w.alloc (.cells #[.int .i64 3, .string sn, .string st, .int .i64 (b : Int)] 102)).cell? ⟨w.heap.size, 2, none⟩ = some (.string st) := by rw [World.cell?_alloc_at _ _ _ _ rfl]; rfl
    have q3 : (w.alloc (.cells #[.int .i64 3, .string sn, .string st, .int .i64 (b : Int)] 102)).cell? ⟨w.heap.size, 3, none⟩ = some (.int .i64 (b : Int)) := by rw [World.cell?_alloc_at _ _ _ _ rfl]; rfl
    have hlt : w.heap.size < (w.alloc (.cells #[.int .i64 3, .string sn, .string st, .int .i64 (b : Int)] 102)).heap.size := by simp
    go_enter Tryz.func67, Tryz.ntmps67
    go_wp2_with fail
    generalize w.alloc (.cells #[.int .i64 3, .string sn, .string st, .int .i64 (b : Int)] 102) = W0 at *
    have r1 : ∀ V, Kp No W0 V → V.cell? ⟨w.heap.size, 1, none⟩ = some (.string sn) := fun V k => (k.cell (p := ⟨w.heap.size, 1, none⟩) hlt (fun h => h)).trans q1
    have r2 : ∀ V, Kp No W0 V → V.cell? ⟨w.heap.size, 2, none⟩ = some (.string st) := fun V k => (k.cell (p := ⟨w.heap.size, 2, none⟩) hlt (fun h => h)).trans q2
    have r3 : ∀ V, Kp No W0 V → V.cell? ⟨w.heap.size, 3, none⟩ = some (.int .i64 (b : Int)) := fun V k => (k.cell (p := ⟨w.heap.size, 3, none⟩) hlt (fun h => h)).trans q3
    clear q1 q2 q3
    go_region_held3 (fun V => Kp No W0 V) (first | (with_reducible exact Kp.refl _ _) | (with_reducible exact (Kp.refl _ _).drew) | (with_reducible exact HK2.out) | (with_reducible exact HK1.out)) (first | (go_at_call_of 74 (Value.string sn); refine (HC1.out _ ?_).mono ?_; (with_reducible exact HW0.out.drew); rintro e w1 ⟨ad, cap, rfl, ho, hk⟩; have HO1 := hid ho; have HK1 : Hid (Kp No W0 w1) := (Kp.refl _ _).drew.andNone hk; clear ho hk) | (go_at_call_of 74 (Value.string st); refine (HC2.out _ _ HO1.out).mono ?_; rintro e w2 ⟨ad2, cap2, rfl, ho, hk⟩; have HO2 := hid ho; have HK2 := hid (HK1.out.andNone hk); clear ho hk))
    go_wp2
    go_ret
    exact ⟨ad2, cap2, rfl, HO2.out⟩

end Go.Proofs.YtmiipifhbliamaaGreat.Sim
