/- Of the proof: the texts ShLay, ShLayA, ShInvM, ShCrashM, ShCrashL, ShRange, ShWalk0, ShLoad, one behind the other. -/
import Derived.Test.YtaaioaocjfpajaaGreatDoorB13
import Derived.Test.YtaaioaocjfpajaaGreatDoorB12
import Derived.Test.YtaaioaocjfpajaaGreatDoorB8
import Derived.Test.YtaaioaocjfpajaaGreatDoorB1
import Derived.Test.YtaaioaocjfpajaaGreatDoorB9
import Derived.RangeFuncBox
import Derived.Test.YtaaioaocjfpajaaGreatDoorB10
section
/-
  Lay's closure: a part is laid into a pack, its places behind the others.
-/
namespace Go.Proofs.YtaaioaocjfpajaaGreatDoor.Sh
open Go.RowKit Go.Shelf
open Tlv (BySlS)
open Sim (hid Kp No PS Done Blk nm pAppend pCreate pRemove finds pList Row)

/-- Parts that were laid, each into the next pack. -/
inductive LayR (p0 : PS) (n0 : Int) : List (List El) → PS → Int → List Pl → Prop
  | nil : LayR p0 n0 [] p0 n0 []
  | snoc {ps : List (List El)} {p : PS} {n : Int} {qs : List Pl} {i x : Nat} {z : List El} (h : LayR p0 n0 ps p n qs) (hi : maxZ (idsP p ++ [n]) + 1 = (i : Int)) (hx : p.files x = none) (h0 : (lpF i x p z).1 = 0) : LayR p0 n0 (ps ++ [z]) (lpF i x p z).2 i (qs ++ plc i 0 z)

/-- What is known of a state, purely, behind k packs. -/
def Pre (G : Nat → PS → Int → Prop) (K : Nat) : Prop := ∀ k p n, k < K → G k p n → ∃ i : Nat, maxZ (idsP p ++ [n]) + 1 = (i : Int) ∧ 1 ≤ i ∧ i < 100 ∧ finds p (nm (nameP i)) ≠ 0 ∧ (∀ n ∈ pList p, n.length ≤ 20000000) ∧ (idsP p).length ≤ 1000 ∧
  ∀ x z, p.files x = none → z ≠ [] → z.all okR = true → szs z ≤ 12000 → (lpF i x p z).1 = 0 → G (k + 1) (lpF i x p z).2 i

/-- In the midst of Lay: the world w where it began, wr now. -/
def LT (G : Nat → PS → Int → Prop) (P : Nat → Prop) (N : Nat) (w : World) (h s b gh gp : Nat) (p0 : PS) (n0 : Int) (wr : World) (ps : List (List El)) : Prop :=
  ∃ p n qs P' u, LayR p0 n0 ps p n qs ∧ G ps.length p n ∧ ShAt wr h s b n ∧ TabX wr b ∧ Sim.Sys P' (N + ps.flatten.length + 5 * ps.length) wr s p ∧ (∀ x, P' x → P x ∨ w.heap.size ≤ x) ∧
    Kp (fun y => P y ∨ y = b ∨ y = h) w wr ∧ Blk wr gh 29 [.pointer (some ⟨h, 0, none⟩)] ∧ Blk wr gp 36 [u] ∧ Row wr 51 3 u qs.length (plS qs) ∧
    (∀ x, u.ownBlock = some x → w.heap.size ≤ x ∧ ¬ P' x ∧ x ≠ gh ∧ x ≠ gp) ∧ ¬ P' gh ∧ ¬ P' gp
/-- Behind a fault. -/
def LE (P : Nat → Prop) (M : Nat) (w : World) (h s b : Nat) (p0 : PS) (n0 : Int) (pz : List (List El)) (wr : World) (ps : List (List El)) (φ : Nat) : Prop :=
  ∃ p n qs i x z P', LayR p0 n0 ps p n qs ∧ maxZ (idsP p ++ [n]) + 1 = ((i : Nat) : Int) ∧ p.files x = none ∧ (lpF i x p z).1 = φ ∧ ShAt wr h s b (lpN i x p n) ∧ TabX wr b ∧ Sim.Sys P' M wr s (lpF i x p z).2 ∧ (∀ x, P' x → P x ∨ w.heap.size ≤ x) ∧
    Kp (fun y => P y ∨ y = b ∨ y = h) w wr ∧ ∃ r, pz = ps ++ z :: r

theorem LayR.len {p0 : PS} {n0 : Int} {ps : List (List El)} {p : PS} {n : Int} {qs : List Pl} (h : LayR p0 n0 ps p n qs) : qs.length = ps.flatten.length := by
  induction h with
  | nil => rfl
  | snoc h hi hx h0 ih => rw [List.length_append, ih, plc_length, List.flatten_append, List.length_append, List.flatten_singleton]

theorem row_src {w : World} {e : TypeId} {sz n : Nat} {v : Value} {xs : List Value} (h : Row w e sz v n xs) (h1 : ∀ u ∈ xs, u.oneCell' = true) : Sim.Src w v n sz xs := by
  obtain ⟨a, c, rfl, _, _, ha, hb⟩ := h.shape
  cases a with
  | none =>
    obtain ⟨rfl, rfl⟩ := ha rfl
    have hl := h.1
    rw [Nat.zero_mul] at hl
    exact .inl ⟨rfl, rfl, List.length_eq_zero_iff.1 hl⟩
  | some x =>
    obtain ⟨g, o, sp⟩ := x
    obtain ⟨rfl, rfl⟩ : sp = none ∧ o = 0 := hb _ rfl
    refine .inr ⟨_, c, rfl, h.1, fun j u hu => ?_, h1⟩
    have hj : j < n * sz := by have := (List.getElem?_eq_some_iff.1 hu).1; have := h.1; omega
    rw [Sim.addr_add, Nat.zero_add, h.cellAt j hj]
    exact hu
theorem plS_one (qs : List Pl) : ∀ u ∈ plS qs, u.oneCell' = true := by
  intro u hu
  obtain ⟨q, _, hq⟩ := List.mem_flatMap.1 hu
  simp [plC] at hq
  rcases hq with rfl | rfl | rfl <;> rfl
theorem plS_app (xs ys : List Pl) : plS (xs ++ ys) = plS xs ++ plS ys := by simp [plS]

set_option maxHeartbeats 4000000 in
set_option maxRecDepth 100000 in
theorem lay_taker {P S : Nat → Prop} {N K : Nat} {G : Nat → PS → Int → Prop} (w : World) (h s b gh gp m0 : Nat) (p0 : PS) (n0 : Int) (zs : List El) (hG : Pre G K) (hK : (parts zs).length ≤ K) (hok : zs.all okR = true) (hN : N + 6 * zs.length ≤ 1000)
    (hV : ∀ V, Kp (fun y => P y ∨ y = b ∨ y = h) w V → Vars V) (hPb : ¬ P b) (hPh : ¬ P h) (hhb : h ≠ b) (hhl : h < w.heap.size) (hbl : b < w.heap.size) (hSS : ∀ y, S y → ¬ (P y ∨ y = b ∨ y = h) ∧ y < w.heap.size) (hgh : w.heap.size ≤ gh) (hgp : w.heap.size ≤ gp) (hgg : gh ≠ gp) :
    Taker 29 #[.pointer (some ⟨gh, 0, none⟩), .pointer (some ⟨gp, 0, none⟩)] zs S (fun y => P y ∨ y = b ∨ y = h ∨ w.heap.size ≤ y) m0 (LT G P N w h s b gh gp p0 n0) (LE P (N + 6 * zs.length) w h s b p0 n0 (parts zs)) where
  ent := enters_of Tryz.func29 (by kernel_rfl) rfl
  keep := fun wr w' ps hT k => by
    obtain ⟨p, n, qs, P', u, h1, h2, h3, h4, h5, h6, h7, h8, h9, h10, h11⟩ := hT
    exact ⟨p, n, qs, P', u, h1, h2, h3.kp k (fun x => x), h4.kp k (fun x => x), h5.kept k, h6, h7.andNone k, h8.kp k (fun x => x), h9.kp k (fun x => x), h10.kept k, h11⟩
  tell := fun wr ps z v hT h0 hv hne hall hsz hr => by
    obtain ⟨p, n, qs, P', u, h1, h2, h3, h4, h5, h6, h7, h8, h9, h10, h11, h12, h13⟩ := hT
    obtain ⟨hlen, hflat⟩ : ps.length + 1 ≤ (parts zs).length ∧ ps.flatten.length + z.length ≤ zs.length := by
      obtain ⟨r, hr⟩ := hr
      have e := congrArg List.length (parts_flat zs)
      rw [hr, List.flatten_append, List.length_append, List.flatten_cons, List.length_append] at e
      rw [hr, List.length_append, List.length_cons]
      omega
    have hpl := parts_len zs hok
    have hqs : qs.length ≤ 1000 := by rw [h1.len]; omega
    have hzl : z.length ≤ 1000 := by omega
    obtain ⟨i, hi, hi1, hi2, hf, hnl, hil, hnx⟩ := hG _ _ _ (by omega) h2
    have hP'b := p_no h6 hPb hbl
    have hP'h := p_no h6 hPh hhl
    have hws := h7.size
    have HLP := hid (layPack_any (P := P') (S := S) wr h s b n p i v z h3 h5 h4 hP'b hP'h hhb (hV wr h7) hnl hil hi hi1 hi2 hf hv (fun y hy => by
      have := hSS y hy
      refine ⟨fun e => ?_, by omega⟩
      rcases e with e | e
      · rcases h6 y e with e | e
        · exact this.1 (.inl e)
        · omega
      · exact this.1 (.inr e)) hne hall hsz (by omega))
    obtain ⟨a, c, rfl, _⟩ := hv
    obtain ⟨au, cu, rfl, _⟩ := h10.shape
    have HF := hid (And.intro h1 (And.intro h2 (And.intro h6 (And.intro h7 (And.intro h8 (And.intro h9 (And.intro h10 (And.intro h11 (And.intro h12 h13)))))))))
    have HNX := hid (And.intro hi hnx)
    have ch := h8.cell 0
    simp only [List.getElem?_cons_zero] at ch
    have hghl := h8.lt
    have hgpl := h9.lt
    have HZ := hid (And.intro hne (And.intro hall hsz))
    generalize szs z = sz
    have HRR := hid hr
    clear h1 h2 h3 h4 h5 h6 h7 h8 h9 h10 h11 h12 h13 hi hnx hf hnl hil hne hall hr
    go_enter Tryz.func29, Tryz.ntmps29
    go_wp2_with fail
    refine HLP.out.mono ?_
    rintro e w2 ⟨x, u1, hx, rfl, hu1, hA2, hT2, P2, hS2, hk2, hP2, hR2⟩
    obtain ⟨F, hF⟩ : ∃ F, lpF i x p z = F := ⟨_, rfl⟩
    have HFF := hid hF
    rw [hF] at hu1 hR2 hS2 ⊢
    obtain ⟨g1, g2, g6, g7, g8, g9, g10, g11, g12, g13⟩ := HF.out
    have ngh : ¬ (P' gh ∨ gh = b ∨ gh = h) := by
      rintro (e | e | e)
      · exact g12 e
      · omega
      · omega
    have ngp : ¬ (P' gp ∨ gp = b ∨ gp = h) := by
      rintro (e | e | e)
      · exact g13 e
      · omega
      · omega
    have B8 := g8.kp hk2 ngh
    have B9 := g9.kp hk2 ngp
    have HR2 := hid (g10.kp hk2 (fun y hy => by
      have := g11 y hy
      rintro (e | e | e)
      · exact this.2.1 e
      · omega
      · omega))
    have kB : Kp (fun y => P y ∨ y = b ∨ y = h) w w2 := g7.trans hk2 (fun y hy => by
      rcases hy with hy | hy
      · rcases g6 y hy with e | e
        · exact .inl (.inl e)
        · exact .inr e
      · exact .inl (.inr hy))
    have hP2w := p_up g6 hP2 hws
    have hP2gh : ¬ P2 gh := fun e => by
      rcases hP2 gh e with e | e
      · exact g12 e
      · omega
    have hP2gp : ¬ P2 gp := fun e => by
      rcases hP2 gp e with e | e
      · exact g13 e
      · omega
    have ho2 : ∀ y, (Value.slice au qs.length cu).ownBlock = some y → w.heap.size ≤ y ∧ ¬ P2 y ∧ y ≠ gh ∧ y ≠ gp := fun y hy => by
      have h1 := g11 y hy
      have h2 := g10.lt y hy
      refine ⟨h1.1, fun e => ?_, h1.2.2⟩
      rcases hP2 y e with e | e
      · exact h1.2.1 e
      · omega
    have cg := B9.cell 0
    have fg := B9.frozen 0
    have lg := B9.lt
    simp only [List.getElem?_cons_zero] at cg
    have HB := hid (And.intro B8 (And.intro B9 (And.intro kB (And.intro hP2w (And.intro hP2gh (And.intro hP2gp ho2))))))
    have HST := hid (And.intro hA2 (And.intro hT2 hS2))
    have HX := hid hx
    have hk2s := hk2.size
    have hk2w : Kp (fun y => (P y ∨ y = b ∨ y = h ∨ w.heap.size ≤ y) ∨ m0 ≤ y) wr w2 := kp_more hk2 (fun y hy => by
      rcases hy with hy | hy | hy
      · rcases g6 y hy with e | e
        · exact .inl (.inl e)
        · exact .inl (.inr (.inr (.inr e)))
      · exact .inl (.inr (.inl hy))
      · exact .inl (.inr (.inr (.inl hy))))
    have HK2W := hid hk2w
    clear hF hA2 hT2 hS2 hk2 hP2 g1 g2 g6 g7 g8 g9 g10 g11 g12 g13 ngh ngp B8 B9 kB hP2w hP2gh hP2gp ho2 hx HLP ch hk2w
    by_cases hφ : F.1 = 0
    · obtain ⟨hrow, hown⟩ := hR2 hφ
      have HSRC := hid (row_src hrow (plS_one _))
      have HROW := hid (And.intro hrow hown)
      obtain ⟨a1, c1, rfl, _⟩ := hrow.shape
      have HZ0 := hid hφ
      rw [hφ]
      clear hφ hrow hown hR2 hu1
      go_wp2_with (refine Sim.app_row _ (by rfl) _ _ 36 51 (.agg #[.int .i64 0, .int .i64 0, .int .i64 0]) 3 24 (by rfl) Tryz.underlying36 infoW rfl (by omega) (.slice au qs.length cu) (.slice a1 z.length c1) qs.length z.length (plS qs) (plS (plc i 0 z)) (by rfl) (by rfl) HR2.out HSRC.out (by omega) (by omega) ?_; intro ad2 cap2 w6 hrow6 hgr6 hown6; have hg6 := HB.out.2.1.kp (Kp.ofGrown hgr6) (fun e => (HB.out.2.2.2.2.2.2 gp e).2.2.2 rfl); have cg6 := hg6.cell 0; have fg6 := hg6.frozen 0; have lg6 := hg6.lt; simp only [List.getElem?_cons_zero] at cg6)
      go_ret
      have kg : Kp (fun y => (Value.slice au qs.length cu).ownBlock = some y) w2 w6 := Kp.ofGrown hgr6
      obtain ⟨b8, b9, kB, hP2w, hP2gh, hP2gp, ho2⟩ := HB.out
      obtain ⟨hA2, hT2, hS2⟩ := HST.out
      obtain ⟨hi, hnx⟩ := HNX.out
      obtain ⟨g1, g2, g6, g7, _⟩ := HF.out
      have nown : ∀ y, y < w.heap.size → ¬ (Value.slice au qs.length cu).ownBlock = some y := fun y hy e => by have := (ho2 y e).1; omega
      have ks : Kp (fun y => y = gp) w6 (w6.setCell ⟨gp, 0, none⟩ (.slice ad2 (qs.length + z.length) cap2)) := (Kp.refl (fun y => y = gp) _).setCell (p := ⟨gp, 0, none⟩) (.inl rfl) _
      have kC : Kp (fun y => P y ∨ y = b ∨ y = h) w (w6.setCell ⟨gp, 0, none⟩ (.slice ad2 (qs.length + z.length) cap2)) := (kB.trans kg (fun y hy => .inr (ho2 y hy).1)).trans ks (fun y hy => .inr (by omega))
      have kD : Kp (fun y => (P y ∨ y = b ∨ y = h ∨ w.heap.size ≤ y) ∨ m0 ≤ y) wr (w6.setCell ⟨gp, 0, none⟩ (.slice ad2 (qs.length + z.length) cap2)) := (HK2W.out.trans kg (fun y hy => .inl (.inl (.inr (.inr (.inr (ho2 y hy).1)))))).trans ks (fun y hy => .inl (.inl (.inr (.inr (.inr (by omega))))))
      have hA6 := (hA2.kp kg (nown h hhl)).kp ks (by omega)
      have hT6 := (hT2.kp kg (nown b hbl)).kp ks (by omega)
      have hS6 := (hS2.kp kg (fun y hy e => (ho2 y hy).2.1 e)).kp ks (fun y hy e => hP2gp (hy ▸ e))
      have b8' := (b8.kp kg (fun e => (ho2 gh e).2.2.1 rfl)).kp ks hgg
      have b9' := (b9.kp kg (fun e => (ho2 gp e).2.2.2 rfl)).setCell 0 (.slice ad2 (qs.length + z.length) cap2)
      obtain ⟨hrow, hown⟩ := HROW.out
      have eN : N + (ps ++ [z]).flatten.length + 5 * (ps ++ [z]).length = N + ps.flatten.length + 5 * ps.length + z.length + 5 := by
        rw [List.flatten_append, List.length_append, List.flatten_singleton, List.length_append, List.length_singleton]
        omega
      have eQ : (qs ++ plc i 0 z).length = qs.length + z.length := by rw [List.length_append, plc_length]
      have hF0 : (lpF i x p z).1 = 0 := by rw [HFF.out]; exact HZ0.out
      have eN' : lpN i x p n = (i : Int) := by
        rw [lpN, if_neg]
        intro hc
        rw [lpF, if_pos hc] at hF0
        exact hc hF0
      refine ⟨0, rfl, kD, fun _ => ⟨(lpF i x p z).2, i, qs ++ plc i 0 z, P2, .slice ad2 (qs.length + z.length) cap2, .snoc g1 hi HX.out hF0, ?_, ?_, hT6, ?_, hP2w, kC, b8', b9', ?_, ?_, hP2gh, hP2gp⟩, fun e => absurd rfl e⟩
      · have := hnx x z HX.out HZ.out.1 HZ.out.2.1 HZ.out.2.2 hF0
        rw [List.length_append]
        exact this
      · rw [← eN']; exact hA6
      · rw [eN, HFF.out]; exact hS6
      · rw [eQ, plS_app]
        exact hrow6.kp ks (fun y hy e => by
          rcases hown6 with e' | e'
          · rw [e'] at hy
            exact (ho2 y hy).2.2.2 e
          · rw [e'] at hy
            have : w2.heap.size = y := by simpa using hy
            omega)
      · intro y hy
        rcases hown6 with e' | e'
        · rw [e'] at hy
          exact ho2 y hy
        · rw [e'] at hy
          have : w2.heap.size = y := by simpa using hy
          have h2 := kB.size
          refine ⟨by omega, fun e => by have := hS2.lt y e; omega, by omega, by omega⟩
    · obtain rfl := hu1 hφ
      have HSRC : Hid (Sim.Src w2 (.slice none 0 0) 0 3 []) := .inl ⟨rfl, rfl, rfl⟩
      have HNZ := hid hφ
      clear hφ hR2 hu1
      go_wp2_with (refine Sim.app_row _ (by rfl) _ _ 36 51 (.agg #[.int .i64 0, .int .i64 0, .int .i64 0]) 3 24 (by rfl) Tryz.underlying36 infoW rfl (by omega) (.slice au qs.length cu) (.slice none 0 0) qs.length 0 (plS qs) [] (by rfl) (by rfl) HR2.out HSRC.out (by omega) (by omega) ?_; intro ad2 cap2 w6 hrow6 hgr6 hown6; have hg6 := HB.out.2.1.kp (Kp.ofGrown hgr6) (fun e => (HB.out.2.2.2.2.2.2 gp e).2.2.2 rfl); have cg6 := hg6.cell 0; have fg6 := hg6.frozen 0; have lg6 := hg6.lt; simp only [List.getElem?_cons_zero] at cg6)
      go_ret
      have kg : Kp (fun y => (Value.slice au qs.length cu).ownBlock = some y) w2 w6 := Kp.ofGrown hgr6
      obtain ⟨b8, b9, kB, hP2w, hP2gh, hP2gp, ho2⟩ := HB.out
      obtain ⟨hA2, hT2, hS2⟩ := HST.out
      obtain ⟨hi, hnx⟩ := HNX.out
      obtain ⟨g1, g2, g6, g7, _⟩ := HF.out
      have nown : ∀ y, y < w.heap.size → ¬ (Value.slice au qs.length cu).ownBlock = some y := fun y hy e => by have := (ho2 y e).1; omega
      have ks : Kp (fun y => y = gp) w6 (w6.setCell ⟨gp, 0, none⟩ (.slice ad2 qs.length cap2)) := (Kp.refl (fun y => y = gp) _).setCell (p := ⟨gp, 0, none⟩) (.inl rfl) _
      have kC : Kp (fun y => P y ∨ y = b ∨ y = h) w (w6.setCell ⟨gp, 0, none⟩ (.slice ad2 qs.length cap2)) := (kB.trans kg (fun y hy => .inr (ho2 y hy).1)).trans ks (fun y hy => .inr (by omega))
      have kD : Kp (fun y => (P y ∨ y = b ∨ y = h ∨ w.heap.size ≤ y) ∨ m0 ≤ y) wr (w6.setCell ⟨gp, 0, none⟩ (.slice ad2 qs.length cap2)) := (HK2W.out.trans kg (fun y hy => .inl (.inl (.inr (.inr (.inr (ho2 y hy).1)))))).trans ks (fun y hy => .inl (.inl (.inr (.inr (.inr (by omega))))))
      have hA6 := (hA2.kp kg (nown h hhl)).kp ks (by omega)
      have hT6 := (hT2.kp kg (nown b hbl)).kp ks (by omega)
      have hS6 := (hS2.kp kg (fun y hy e => (ho2 y hy).2.1 e)).kp ks (fun y hy e => hP2gp (hy ▸ e))
      refine ⟨F.1, rfl, kD, fun e => absurd e HNZ.out, fun _ => ⟨p, n, qs, i, x, z, P2, g1, hi, HX.out, by rw [HFF.out], hA6, hT6, ?_, hP2w, kC, HRR.out⟩⟩
      rw [HFF.out]
      exact hS6.more (by omega) hN

end Go.Proofs.YtaaioaocjfpajaaGreatDoor.Sh
end

section
/-
  Lay.
-/
namespace Go.Proofs.YtaaioaocjfpajaaGreatDoor.Sh
open Go.RowKit Go.Shelf
open Tlv (BySlS)
open Sim (hid Kp No PS Done Blk nm pAppend pCreate pRemove finds pList Row)

/-- What Lay answers and leaves. -/
def LayA (G : Nat → PS → Int → Prop) (P : Nat → Prop) (M : Nat) (w w' : World) (h s b : Nat) (p0 : PS) (n0 : Int) (zs : List El) (u : Value) (φ : Nat) : Prop :=
  (φ = 0 → ∃ p n qs P', LayR p0 n0 (parts zs) p n qs ∧ G (parts zs).length p n ∧ ShAt w' h s b n ∧ TabX w' b ∧ Sim.Sys P' M w' s p ∧ (∀ x, P' x → P x ∨ w.heap.size ≤ x) ∧ Kp (fun y => P y ∨ y = b ∨ y = h) w w' ∧
    Row w' 51 3 u qs.length (plS qs) ∧ ∀ x, u.ownBlock = some x → w.heap.size ≤ x ∧ ¬ P' x) ∧
  (φ ≠ 0 → u = .slice none 0 0 ∧ ∃ ps, LE P M w h s b p0 n0 (parts zs) w' ps φ)

set_option maxHeartbeats 4000000 in
set_option maxRecDepth 100000 in
theorem lay_yes {P S : Nat → Prop} {N K : Nat} {G : Nat → PS → Int → Prop} (w : World) (h s b : Nat) (n : Int) (p : PS) (i : Nat) (v : Value) (zs : List El) (hG : Pre G K) (hK : (parts zs).length ≤ K) (hG0 : G 0 p n)
    (hH : ShAt w h s b n) (hS : Sim.Sys P N w s p) (hT : TabX w b) (hPb : ¬ P b) (hPh : ¬ P h) (hhb : h ≠ b) (hV : ∀ V, Kp (fun y => P y ∨ y = b ∨ y = h) w V → Vars V)
    (hnl : ∀ n ∈ pList p, n.length ≤ 20000000) (hil : (idsP p).length ≤ 1000) (hi : maxZ (idsP p ++ [n]) + 1 = (i : Int)) (hi2 : i ≤ 100)
    (hv : RV S w v zs) (hSS : ∀ y, S y → ¬ (P y ∨ y = b ∨ y = h) ∧ y < w.heap.size) (hok : zs.all okR = true) (hN : N + 6 * zs.length ≤ 1000) :
    Calls Tryz.prog 10 #[.pointer (some ⟨h, 0, none⟩), v] w fun e w' => ∃ u φ, e = .returned (.tuple #[u, .int .i64 ((φ : Nat) : Int)]) ∧ LayA G P (N + 6 * zs.length) w w' h s b p n zs u φ := by
  have hhl := hH.lt
  have hbl := hT.lt
  have HNO := hid (fun V (hV' : Kp No w V) => none_any V h s b n (hH.kp hV' (fun x => x)))
  have HND := hid (fun V (hV' : Kp No w V) => need_yes V v zs (hv.kept hV') (fun g hg => Nat.lt_of_lt_of_le (hSS g hg).2 hV'.size) (by omega) hok)
  have HNX := hid (fun V (hV' : Kp No w V) => next_any V h s b n p (hH.kp hV' (fun x => x)) (hS.kept hV') (hV V hV'.ofNo) hnl hil (by rw [hi, IntKind.wrap_i64]; omega))
  rw [hi] at HNX
  have hpl := parts_len zs hok
  have hSL : ∀ V, Kp (fun y => P y ∨ y = b ∨ y = h) w V → ∀ y, S y → ¬ ((P y ∨ y = b ∨ y = h ∨ w.heap.size ≤ y) ∨ V.heap.size ≤ y) := fun V hV' y hy e => by
    have h1 := hSS y hy
    have h2 := hV'.size
    rcases e with (e | e | e | e) | e
    · exact h1.1 (.inl e)
    · exact h1.1 (.inr (.inl e))
    · exact h1.1 (.inr (.inr e))
    · omega
    · omega
  have HDL := hid (fun V gh gp (hV' : Kp (fun y => P y ∨ y = b ∨ y = h) w V) (h1 : w.heap.size ≤ gh) (h2 : w.heap.size ≤ gp) (h3 : gh ≠ gp) hT0 => deal_any V v zs (lay_taker (P := P) (S := S) (N := N) (K := K) (G := G) w h s b gh gp V.heap.size p n zs hG hK hok hN hV hPb hPh hhb hhl hbl hSS h1 h2 h3) hT0 (hv.kp hV' (fun y hy => (hSS y hy).1)) (hSL V hV') hok (by omega))
  have HST := hid (And.intro hH (And.intro hS (And.intro hT hG0)))
  obtain ⟨a, c, rfl, _⟩ := hv
  obtain ⟨m, hm⟩ : ∃ m, zs.length = m := ⟨_, rfl⟩
  have HM := hid hm
  obtain ⟨k, hk⟩ : ∃ k, (parts zs).length = k := ⟨_, rfl⟩
  have HK := hid hk
  obtain ⟨t, ht⟩ : ∃ t, szs zs = t := ⟨_, rfl⟩
  rw [hm] at hN hpl HND HDL ⊢
  rw [hk] at hpl HND
  rw [ht] at HND
  have hmk := run_makeW m (by omega)
  have HMS : Hid ((madeCells #[Value.int .i64 0, .int .i64 0, .int .i64 0] (m * 3)).size = m * 3) := size_madeCells _ _
  generalize madeCells #[Value.int .i64 0, .int .i64 0, .int .i64 0] (m * 3) = MM at *
  clear hm hk ht hH hS hT hG hG0 hV hnl hil hi hok hSS hK hSL
  go_enter Tryz.func10, Tryz.ntmps10
  go_wp2_with fail
  have hk0 : Kp No w (w.alloc (.cells #[.pointer (some ⟨h, 0, none⟩)] 29)) := (Kp.refl No w).alloc _
  refine (HNO.out _ hk0).mono ?_
  rintro e w0 ⟨rfl, hw0⟩
  have HB0 : Hid (Blk w0 w.heap.size 29 [.pointer (some ⟨h, 0, none⟩)]) := by
    rw [hw0]
    exact Blk.new w 29 [.pointer (some ⟨h, 0, none⟩)]
  have HK0 : Hid (Kp No w w0) := by rw [hw0]; exact hk0
  clear hw0 hk0 HNO
  go_wp2_with fail
  refine (HND.out w0 HK0.out).mono ?_
  rintro e w1 ⟨rfl, hk1⟩
  have HK1 : Hid (Kp No w w1) := HK0.out.andNone hk1
  have HB1 := hid (HB0.out.kp hk1 (fun x => x))
  have ch1 := HB1.out.cell 0
  have hl1 := HB1.out.lt
  simp only [List.getElem?_cons_zero] at ch1
  clear HND hk1 HB0 HK0
  go_wp2_with fail
  refine (HNX.out w1 HK1.out).mono ?_
  rintro e w2 ⟨rfl, hk2⟩
  have HK2 : Hid (Kp No w w2) := HK1.out.andNone hk2
  have HB2 := hid (HB1.out.kp hk2 (fun x => x))
  clear HNX hk2 HB1 HK1 ch1 hl1
  have hik : ¬ ((999999 : Int) < (i : Int) + (k : Int) - 1) := by omega
  go_wp2_with fail
  have k3 : Kp No w2 (w2.alloc (.cells MM 51)) := (Kp.refl No w2).alloc _
  have k4 : Kp No (w2.alloc (.cells MM 51)) ((w2.alloc (.cells MM 51)).alloc (.cells #[.slice (some ⟨w2.heap.size, 0, none⟩) 0 m] 36)) := (Kp.refl No _).alloc _
  have k5 : Kp No w ((w2.alloc (.cells MM 51)).alloc (.cells #[.slice (some ⟨w2.heap.size, 0, none⟩) 0 m] 36)) := (HK2.out.andNone k3).andNone k4
  have hs2 := HK2.out.size
  have hb2l := HB2.out.lt
  have hrow : Row ((w2.alloc (.cells MM 51)).alloc (.cells #[.slice (some ⟨w2.heap.size, 0, none⟩) 0 m] 36)) 51 3 (.slice (some ⟨w2.heap.size, 0, none⟩) 0 m) 0 [] :=
    Sim.Row.kept (World.ownsRow_made w2 _ m (Nat.zero_le _) (by unfold maxLen; omega) HMS.out) k4
  have hb5 : Blk ((w2.alloc (.cells MM 51)).alloc (.cells #[.slice (some ⟨w2.heap.size, 0, none⟩) 0 m] 36)) (w2.heap.size + 1) 36 [.slice (some ⟨w2.heap.size, 0, none⟩) 0 m] := by
    have := Blk.new (w2.alloc (.cells MM 51)) 36 [.slice (some ⟨w2.heap.size, 0, none⟩) 0 m]
    simpa using this
  obtain ⟨hH, hS, hT, hG0⟩ := HST.out
  refine (HDL.out _ w.heap.size (w2.heap.size + 1) k5.ofNo (Nat.le_refl _) (by omega) (by omega) ⟨p, n, [], P, _, .nil, hG0, hH.kp k5 (fun x => x), hT.kp k5 (fun x => x), (hS.kept k5), fun x hx => .inl hx, k5.ofNo, (HB2.out.kp k3 (fun x => x)).kp k4 (fun x => x), hb5, hrow, fun x hx => ?_, fun e => by have := hS.lt _ e; omega, fun e => by have := hS.lt _ e; omega⟩).mono ?_
  · have : w2.heap.size = x := by simpa [Value.ownBlock] using hx
    exact ⟨by omega, fun e => by have := hS.lt _ e; omega, by omega, by omega⟩
  rintro e w6 ⟨φ, rfl, hk6, hy, hno⟩
  have HY := hid hy
  have HNO := hid hno
  have HK6 : Hid (Kp No w w2 ∧ w2.heap.size ≤ w6.heap.size) := ⟨HK2.out, by
    have h1 := k3.size
    have h2 := k4.size
    have h3 := hk6.size
    omega⟩
  clear HDL hk6 hy hno k3 k4 k5 hrow hb5 hH hS hT hG0
  by_cases hφ : φ = 0
  · subst hφ
    have hT6 := HY.out rfl
    obtain ⟨p', n', qs, P', u, r1, r2, r3, r4, r5, r6, r7, r8, hbu, hru, r11, _⟩ := hT6
    obtain ⟨au, cu, rfl, _⟩ := hru.shape
    have cu6 := hbu.cell 0
    have lu6 := hbu.lt
    simp only [List.getElem?_cons_zero] at cu6
    have HE := hid (And.intro r1 (And.intro r2 (And.intro r3 (And.intro r4 (And.intro r5 (And.intro r6 (And.intro r7 (And.intro hru r11))))))))
    clear hru hbu r1 r2 r3 r4 r5 r6 r7 r8 r11
    go_wp2_with fail
    go_ret2
    obtain ⟨r1, r2, r3, r4, r5, r6, r7, hru, r11⟩ := HE.out
    refine ⟨_, 0, rfl, fun _ => ⟨p', n', qs, P', r1, r2, r3, r4, r5.more ?_ hN, r6, r7, hru, fun x hx => ⟨(r11 x hx).1, (r11 x hx).2.1⟩⟩, fun e => absurd rfl e⟩
    have e := congrArg List.length (parts_flat zs)
    rw [HM.out] at e
    have e' := HK.out
    omega
  · have hφI : ¬ ((φ : Int) = 0) := by omega
    have HNZ := hid hφ
    clear hφ
    go_wp2_with fail
    go_ret2
    refine ⟨_, φ, rfl, fun e => absurd e HNZ.out, fun e => ⟨rfl, ?_⟩⟩
    exact HNO.out e

end Go.Proofs.YtaaioaocjfpajaaGreatDoor.Sh
end

section
/-
  What holds of a disk that nothing but Lay and Flip was done to: it is up, and all names are of packs up to an id.
-/
namespace Go.Proofs.YtaaioaocjfpajaaGreatDoor.Sh
open Go.RowKit Go.Shelf
open Sim (hid nm Nm PS pCreate pAppend pRemove pFsync pRename pSyncDir pFlip finds wrongs pList nameB dfind dput ddel pdo stp dead tick setF chgd settle)

theorem nm_sort (p : ByteArray) (i : Nat) : nm (sortB p i) = nm p ++ Lib.decDigits i := app_data p _
theorem sign_dig {c : UInt8} (h : digB c = true) : Sim.sign c = true := by
  simp [digB] at h
  simp [Sim.sign]
  omega
theorem nB_sort (p : ByteArray) (hp : (nm p).all Sim.sign = true) (h1 : 1 ≤ (nm p).length) (hl : (nm p).length ≤ 30) (i : Nat) (h2 : i < 100) : nameB (nm (sortB p i)) = true := by
  have hd := dec_small i h2
  have ha : (Lib.decDigits i).all Sim.sign = true := List.all_eq_true.2 fun c hc => sign_dig (dec_digs i c hc)
  rw [nm_sort]
  unfold nameB
  rw [List.all_append, hp, ha, List.length_append]
  simp
  omega
theorem nB_P (i : Nat) (h : i < 100) : nameB (nm (nameP i)) = true := nB_sort _ (by decide) (by decide) (by decide) i h
theorem nB_T (i : Nat) (h : i < 100) : nameB (nm (nameT i)) = true := nB_sort _ (by decide) (by decide) (by decide) i h
theorem len_P (i : Nat) (h : i < 100) : (nm (nameP i)).length ≤ 40 := by
  have := nB_P i h
  simp [nameB] at this
  omega
theorem T_ne_P (i j : Nat) : nm (nameT i) ≠ nm (nameP j) := by
  unfold nameT nameP
  rw [nm_sort, nm_sort]
  intro e
  have h1 : nm (⟨#[116, 109, 112, 46]⟩ : ByteArray) = [116, 109, 112, 46] := rfl
  have h2 : nm (⟨#[112, 97, 99, 107, 46]⟩ : ByteArray) = [112, 97, 99, 107, 46] := rfl
  rw [h1, h2] at e
  simp at e
theorem nameZ_P {j : Nat} (h1 : 1 ≤ j) (h2 : j < 100) : nameZ packS (j : Int) = nameP j := by rw [nameZ_of h1 (by omega)]; rfl
theorem idN_P {j : Nat} (h1 : 1 ≤ j) (h2 : j < 100) : idN (nm (nameP j)) = some (j : Int) := by
  have h := idOf_name (p := packS) (u := j) h1 (by omega)
  have e : (⟨(nm (nameP j)).toArray⟩ : ByteArray) = nameZ packS (j : Int) := by
    rw [nameZ_P h1 h2]
    rfl
  rw [idN, e, h]
  rfl
theorem P_inj {i j : Nat} (h1 : 1 ≤ i) (h2 : i < 100) (h3 : 1 ≤ j) (h4 : j < 100) (h : nm (nameP i) = nm (nameP j)) : i = j := by
  have e1 := idN_P h1 h2
  rw [h, idN_P h3 h4] at e1
  simp at e1
  omega

/-! ### The greatest -/
theorem foldl_max_le : ∀ (zs : List Int) (a n : Int), a ≤ n → (∀ z ∈ zs, z ≤ n) → zs.foldl max a ≤ n
  | [], a, n, h, _ => h
  | z :: r, a, n, h, hz => foldl_max_le r (max a z) n (by have := hz z (by simp); omega) (fun y hy => hz y (by simp [hy]))
theorem maxZ_top (zs : List Int) (n : Int) (h : ∀ z ∈ zs, z ≤ n) : maxZ (zs ++ [n]) = n := by
  cases zs with
  | nil => rfl
  | cons y r =>
    rw [maxZ_snoc _ _ (by simp)]
    have : maxZ (y :: r) ≤ n := foldl_max_le r y n (h y (by simp)) (fun z hz => h z (by simp [hz]))
    omega

/-! ### Calls of a system that is up -/
/-- It is up, and does not go down. -/
def Up (p : PS) : Prop := p.down = false ∧ p.armed = false
theorem Up.dead {p : PS} (h : Up p) : dead p = false := by simp [Sim.dead, h.2]
theorem Up.wrongs {p : PS} (h : Up p) (l : List Nm) (hl : l.all nameB = true) : wrongs p l = 0 := by simp [Sim.wrongs, h.1, hl]
theorem Up.stp {p : PS} (h : Up p) (g : PS → PS) : stp p g = (0, g (tick p)) := by simp [Sim.stp, h.dead]
end Go.Proofs.YtaaioaocjfpajaaGreatDoor.Sh
end

section
/-
  Packs on a disk that may go down at any step: what is there, whatever then survives.
-/
namespace Go.Proofs.YtaaioaocjfpajaaGreatDoor.Sh
open Go.RowKit Go.Shelf
open Sim (hid nm Nm PS Fl Dir Ris PC pCreate pAppend pRemove pFsync pRename pSyncDir pUp finds wrongs pList nameB dfind dput ddel pdo stp dead fileAt blockOf pBytes loses lose used)

/-- Whole: frames of right records, one at least. -/
def Wh (bs : List Nat) : Prop := ∃ rs : List Rec, rs ≠ [] ∧ (∀ r ∈ rs, Rt r) ∧ bs = nats (cat rs)
/-- The directory behind the first k changes. -/
def dirK (p : PS) (k : Nat) : Dir := (p.chg.take k).foldl pdo p.safe
def PkE (Q : List Nat → Prop) (files : Nat → Option Fl) (n : Int) (e : Nm × Nat) : Prop :=
  (∃ j : Nat, j < 100 ∧ e.1 = nm (nameT j)) ∨ (∃ (j : Nat) (bs : List Nat), 1 ≤ j ∧ (j : Int) ≤ n ∧ e.1 = nm (nameP j) ∧ files e.2 = some ⟨bs, bs.length⟩ ∧ Q bs)
def HdD (files : Nat → Option Fl) (H : List (Nat × List Nat)) (d : Dir) : Prop := ∀ h ∈ H, ∃ x, (nm (nameP h.1), x) ∈ d ∧ files x = some ⟨h.2, h.2.length⟩
/-- Whatever survives, each pack is whole, and those of H are there. -/
structure CInv (Q : List Nat → Prop) (n : Int) (H : List (Nat × List Nat)) (p : PS) : Prop where
  se : p.seen = p.chg.foldl pdo p.safe
  rs : Ris p.safe
  pk : ∀ k, ∀ e ∈ dirK p k, PkE Q p.files n e
  hd : ∀ k, HdD p.files H (dirK p k)
  hb : ∀ h ∈ H, 1 ≤ h.1 ∧ (h.1 : Int) ≤ n
  nb : n < 100

section
variable {Q : List Nat → Prop} {n : Int} {H : List (Nat × List Nat)} {p : PS}
theorem dirK_all (h : CInv Q n H p) : dirK p p.chg.length = p.seen := by rw [dirK, List.take_length, h.se]
theorem CInv.seenPk (h : CInv Q n H p) : ∀ e ∈ p.seen, PkE Q p.files n e := by rw [← dirK_all h]; exact h.pk _
theorem CInv.seenHd (h : CInv Q n H p) : HdD p.files H p.seen := by rw [← dirK_all h]; exact h.hd _
theorem CInv.ris (h : CInv Q n H p) : Ris p.seen := by rw [h.se]; exact h.rs.fold _
theorem PkE.mono {f : Nat → Option Fl} {m : Int} {e : Nm × Nat} (h : PkE Q f n e) (hm : n ≤ m) : PkE Q f m e := by
  rcases h with h | ⟨j, bs, h1, h2, h3⟩
  · exact .inl h
  · exact .inr ⟨j, bs, h1, by omega, h3⟩
theorem CInv.mono {m : Int} (h : CInv Q n H p) (hm : n ≤ m) (hb : m < 100) : CInv Q m H p := ⟨h.se, h.rs, fun k e he => (h.pk k e he).mono hm, h.hd, fun x hx => ⟨(h.hb x hx).1, by have := (h.hb x hx).2; omega⟩, hb⟩
theorem CInv.fall (h : CInv Q n H p) : CInv Q n H (Sim.fall p) := ⟨h.se, h.rs, h.pk, h.hd, h.hb, h.nb⟩
theorem CInv.tick (h : CInv Q n H p) : CInv Q n H (Sim.tick p) := ⟨h.se, h.rs, h.pk, h.hd, h.hb, h.nb⟩
theorem dirK_chgd (c : PC) (k : Nat) : (dirK (Sim.chgd c p) k = dirK p k) ∨ dirK (Sim.chgd c p) k = pdo (p.chg.foldl pdo p.safe) c := by
  unfold dirK Sim.chgd
  simp only
  by_cases hk : k ≤ p.chg.length
  · left; rw [List.take_append_of_le_length hk]
  · right; rw [List.take_of_length_le (by simp; omega), List.foldl_append]; rfl
/-- A change. -/
theorem CInv.chgd (h : CInv Q n H p) (c : PC) (h1 : ∀ e ∈ pdo p.seen c, PkE Q p.files n e) (h2 : HdD p.files H (pdo p.seen c)) : CInv Q n H (Sim.chgd c p) := by
  rw [h.se] at h1 h2
  refine ⟨?_, h.rs, fun k => ?_, fun k => ?_, h.hb, h.nb⟩
  · show pdo p.seen c = (p.chg ++ [c]).foldl pdo p.safe
    rw [List.foldl_append, h.se]
    rfl
  · rcases dirK_chgd (p := p) c k with e | e
    · rw [e]; exact h.pk k
    · rw [e]; exact h1
  · rcases dirK_chgd (p := p) c k with e | e
    · rw [e]; exact h.hd k
    · rw [e]; exact h2
/-- No pack has block b, whatever survives. -/
def Fr (p : PS) (b : Nat) : Prop := ∀ k, ∀ e ∈ dirK p k, (∃ j, e.1 = nm (nameP j)) → e.2 ≠ b
/-- A file that is no pack's is written. -/
theorem CInv.setF (h : CInv Q n H p) (b : Nat) (f : Fl) (hfr : Fr p b) : CInv Q n H (Sim.setF b f p) := by
  refine ⟨h.se, h.rs, fun k e he => ?_, fun k x hx => ?_, h.hb, h.nb⟩
  · rcases h.pk k e he with h1 | ⟨j, bs, h1, h2, h3, h4, h5⟩
    · exact .inl h1
    · refine .inr ⟨j, bs, h1, h2, h3, ?_, h5⟩
      show (if e.2 = b then some f else p.files e.2) = _
      rw [if_neg (hfr k e he ⟨j, h3⟩)]
      exact h4
  · obtain ⟨y, h1, h2⟩ := h.hd k x hx
    refine ⟨y, h1, ?_⟩
    show (if y = b then some f else p.files y) = _
    rw [if_neg (hfr k _ h1 ⟨x.1, rfl⟩)]
    exact h2
theorem CInv.fresh (h : CInv Q n H p) {x : Nat} (hx : p.files x = none) : Fr p x := fun k e he hj => by
  obtain ⟨j, hj⟩ := hj
  rcases h.pk k e he with ⟨j', _, h1⟩ | ⟨j', bs, _, _, _, h4, _⟩
  · rw [h1] at hj
    exact absurd hj (T_ne_P j' j)
  · intro e2
    rw [e2, hx] at h4
    cases h4
theorem CInv.settle (h : CInv Q n H p) (m : Nat) : ∀ q : PS, q.safe = dirK p m → q.chg = [] → q.seen = q.safe → (∀ x bs, p.files x = some ⟨bs, bs.length⟩ → q.files x = some ⟨bs, bs.length⟩) → CInv Q n H q := fun q hs hc hse hf => by
  have e : ∀ k, dirK q k = dirK p m := fun k => by rw [dirK, hc, List.take_nil]; exact hs
  refine ⟨by rw [hse, hc]; rfl, by rw [hs]; exact h.rs.fold _, fun k e' he => ?_, fun k x hx => ?_, h.hb, h.nb⟩
  · rw [e k] at he
    rcases h.pk m e' he with h1 | ⟨j, bs, h1, h2, h3, h4, h5⟩
    · exact .inl h1
    · exact .inr ⟨j, bs, h1, h2, h3, hf _ _ h4, h5⟩
  · rw [e k]
    obtain ⟨y, h1, h2⟩ := h.hd m x hx
    exact ⟨y, h1, hf _ _ h2⟩

/-! ### A pack that is being laid -/
structure COpn (Q : List Nat → Prop) (n : Int) (H : List (Nat × List Nat)) (i b : Nat) (ys : List Nat) (p : PS) : Prop where
  c : CInv Q n H p
  fr : Fr p b
  o : p.down = true ∨ (dfind p.seen (nm (nameT i)) = some b ∧ (∃ s, p.files b = some ⟨ys, s⟩) ∧ (∀ e ∈ p.seen, e.1 = nm (nameT i) ∨ ∃ j : Nat, 1 ≤ j ∧ (j : Int) ≤ n ∧ e.1 = nm (nameP j)) ∧ (p.seen.length : Int) ≤ n + 1)
theorem COpn.fall {i b : Nat} {ys : List Nat} (h : COpn Q n H i b ys p) : COpn Q n H i b ys (Sim.fall p) := ⟨h.c.fall, h.fr, .inl rfl⟩
theorem finds_down {x : Nm} (h : p.down = true) : finds p x = 12 := by simp [Sim.finds, Sim.wrongs, h]
theorem finds_up {x : Nm} {b : Nat} (h : p.down = false) (hn : nameB x = true) (hf : dfind p.seen x = some b) : finds p x = 0 := by simp [Sim.finds, Sim.wrongs, h, hn, hf]

theorem COpn.append {i b : Nat} {ys : List Nat} (h : COpn Q n H i b ys p) (hi : i < 100) (bs : List Nat) :
    ((pAppend (nm (nameT i)) bs p).1 ≠ 0 ∧ COpn Q n H i b ys (pAppend (nm (nameT i)) bs p).2) ∨ ((pAppend (nm (nameT i)) bs p).1 = 0 ∧ (pAppend (nm (nameT i)) bs p).2.down = false ∧ COpn Q n H i b (ys ++ bs) (pAppend (nm (nameT i)) bs p).2) := by
  cases hd : p.down with
  | true =>
    have e : pAppend (nm (nameT i)) bs p = (12, p) := by rw [pAppend, finds_down hd]; simp
    rw [e]
    exact .inl ⟨by simp, h⟩
  | false =>
    rcases h.o with ho | ⟨h1, ⟨s, h2⟩, h3, h4⟩
    · rw [hd] at ho; cases ho
    · have ef := finds_up hd (nB_T i hi) h1
      have eb : blockOf p (nm (nameT i)) = b := by simp [blockOf, h1]
      have ea : fileAt p b = ⟨ys, s⟩ := by simp [fileAt, h2]
      by_cases hr : used p + bs.length > p.room
      · have e : pAppend (nm (nameT i)) bs p = (11, p) := by rw [pAppend, ef, if_neg (by simp), if_pos hr]
        rw [e]
        exact .inl ⟨by simp, h⟩
      · have e : pAppend (nm (nameT i)) bs p = stp p (Sim.setF b ⟨ys ++ bs, s⟩) := by rw [pAppend, ef, if_neg (by simp), if_neg hr, eb, ea]
        rw [e, stp]
        cases hdd : dead p with
        | true => rw [if_pos rfl]; exact .inl ⟨by simp, h.fall⟩
        | false =>
          rw [if_neg (by simp)]
          refine .inr ⟨rfl, hd, h.c.tick.setF b _ h.fr, h.fr, .inr ⟨h1, ⟨s, ?_⟩, h3, h4⟩⟩
          simp [Sim.setF, Sim.tick]
theorem COpn.aps {i b : Nat} (h : COpn Q n H i b [] p) (hd : p.down = false) (hi : i < 100) (z : List El) :
    ((Sh.aps i p z).1 ≠ 0 ∧ ∃ ys, COpn Q n H i b ys (Sh.aps i p z).2) ∨ ((Sh.aps i p z).1 = 0 ∧ (Sh.aps i p z).2.down = false ∧ COpn Q n H i b (z.flatMap fun y => nats (frE y)) (Sh.aps i p z).2) := by
  refine list_snoc (p := fun z => ((Sh.aps i p z).1 ≠ 0 ∧ ∃ ys, COpn Q n H i b ys (Sh.aps i p z).2) ∨ ((Sh.aps i p z).1 = 0 ∧ (Sh.aps i p z).2.down = false ∧ COpn Q n H i b (z.flatMap fun y => nats (frE y)) (Sh.aps i p z).2)) z (.inr ⟨rfl, hd, h⟩) (fun z y ih => ?_)
  rw [Sh.aps_snoc]
  rcases ih with ⟨h1, ys, h2⟩ | ⟨h1, h2, h3⟩
  · rw [if_pos h1]
    exact .inl ⟨h1, ys, h2⟩
  · rw [if_neg (by omega)]
    rcases h3.append hi (nats (frE y)) with ⟨g1, g2⟩ | ⟨g1, g2, g3⟩
    · exact .inl ⟨g1, _, g2⟩
    · refine .inr ⟨g1, g2, ?_⟩
      rw [List.flatMap_append]
      simpa using g3

/-- Between packs. -/
def CG (Q : List Nat → Prop) (m : Nat) (n : Int) (H : List (Nat × List Nat)) (p : PS) : Prop :=
  CInv Q n H p ∧ 0 ≤ n ∧ n ≤ (m : Int) ∧ (p.down = true ∨ ((∀ e ∈ p.seen, ∃ j : Nat, 1 ≤ j ∧ (j : Int) ≤ n ∧ e.1 = nm (nameP j)) ∧ (p.seen.length : Int) ≤ n))

/-- What is left once a pack's name is taken away. -/
theorem COpn.remove {i b m : Nat} {ys : List Nat} (h : COpn Q n H i b ys p) (hi : i < 100) (hin : (i : Int) = n + 1) (hn : 0 ≤ n) (hm : n ≤ (m : Int)) : CG Q (m + 1) (i : Int) H (pRemove (nm (nameT i)) p).2 := by
  have hmono := h.c.mono (m := (i : Int)) (by omega) (by omega)
  cases hd : p.down with
  | true =>
    have e : pRemove (nm (nameT i)) p = (12, p) := by rw [pRemove, finds_down hd]; simp
    rw [e]
    exact ⟨hmono, by omega, by omega, .inl hd⟩
  | false =>
    rcases h.o with ho | ⟨h1, ⟨s, h2⟩, h3, h4⟩
    · rw [hd] at ho; cases ho
    · have e : pRemove (nm (nameT i)) p = stp p (Sim.chgd ⟨1, nm (nameT i), [], 0⟩) := by rw [pRemove, finds_up hd (nB_T i hi) h1, if_neg (by simp)]
      rw [e, stp]
      cases hdd : dead p with
      | true => rw [if_pos rfl]; exact ⟨hmono.fall, by omega, by omega, .inl rfl⟩
      | false =>
        rw [if_neg (by simp)]
        have ed : pdo p.seen ⟨1, nm (nameT i), [], 0⟩ = ddel p.seen (nm (nameT i)) := by simp [pdo]
        have hl := Sim.length_ddel p.seen (nm (nameT i))
        refine ⟨hmono.tick.chgd _ (fun e he => ?_) (fun x hx => ?_), by omega, by omega, .inr ⟨fun e he => ?_, ?_⟩⟩
        · have he' : e ∈ ddel p.seen (nm (nameT i)) := by rw [← ed]; exact he
          exact hmono.seenPk e (Sim.mem_ddel.1 he').1
        · obtain ⟨y, g1, g2⟩ := h.c.seenHd x hx
          refine ⟨y, ?_, g2⟩
          show _ ∈ pdo p.seen _
          rw [ed]
          exact Sim.mem_ddel.2 ⟨g1, fun e => T_ne_P i x.1 e.symm⟩
        · have he' : e ∈ ddel p.seen (nm (nameT i)) := by rw [← ed]; exact he
          obtain ⟨g1, g2⟩ := Sim.mem_ddel.1 he'
          rcases h3 e g1 with g3 | ⟨j, g3, g4, g5⟩
          · exact absurd g3 g2
          · exact ⟨j, g3, by omega, g5⟩
        · show ((pdo p.seen ⟨1, nm (nameT i), [], 0⟩).length : Int) ≤ _
          rw [ed]
          omega

/-- A pack is sealed, or the disk is down. -/
theorem COpn.seal {i b m : Nat} {ys : List Nat} (h : COpn Q n H i b ys p) (hd : p.down = false) (hw : Q ys) (hi : i < 100) (hin : (i : Int) = n + 1) (hn : 0 ≤ n) (hm : n ≤ (m : Int)) :
    ((sealF i p).1 ≠ 0 ∧ (sealF i p).2.down = true ∧ CG Q (m + 1) (i : Int) H (sealF i p).2) ∨ ((sealF i p).1 = 0 ∧ (sealF i p).2.down = false ∧ (sealF i p).2.chg = [] ∧ CG Q (m + 1) (i : Int) ((i, ys) :: H) (sealF i p).2) := by
  have hmono := h.c.mono (m := (i : Int)) (by omega) (by omega)
  rcases h.o with ho | ⟨h1, ⟨s, h2⟩, h3, h4⟩
  · rw [hd] at ho; cases ho
  · have ef := finds_up hd (nB_T i hi) h1
    have eb : blockOf p (nm (nameT i)) = b := by simp [blockOf, h1]
    have ea : fileAt p b = ⟨ys, s⟩ := by simp [fileAt, h2]
    have e1 : pFsync (nm (nameT i)) p = stp p (Sim.setF b ⟨ys, ys.length⟩) := by rw [pFsync, ef, if_neg (by simp), eb, ea]
    cases hd1 : dead p with
    | true =>
      have e1' : pFsync (nm (nameT i)) p = (12, Sim.fall p) := by rw [e1, stp, hd1]; rfl
      left
      rw [sealF, e1', if_pos (by simp)]
      exact ⟨by simp, rfl, hmono.fall, by omega, by omega, .inl rfl⟩
    | false =>
      have e1' : pFsync (nm (nameT i)) p = (0, Sim.setF b ⟨ys, ys.length⟩ (Sim.tick p)) := by rw [e1, stp, hd1]; rfl
      obtain ⟨q, hq⟩ : ∃ q, Sim.setF b ⟨ys, ys.length⟩ (Sim.tick p) = q := ⟨_, rfl⟩
      have cq : CInv Q (i : Int) H q := by rw [← hq]; exact hmono.tick.setF b _ h.fr
      have qs : q.seen = p.seen := by rw [← hq]; rfl
      have qd : q.down = false := by rw [← hq]; exact hd
      have qf : q.files b = some ⟨ys, ys.length⟩ := by rw [← hq]; simp [Sim.setF]
      rw [sealF, e1', hq, if_neg (by simp)]
      simp only
      have e2 : pRename (nm (nameT i)) (nm (nameP i)) q = stp q (Sim.chgd ⟨2, nm (nameT i), nm (nameP i), 0⟩) := by simp [pRename, Sim.wrongs, qd, nB_T i hi, nB_P i hi, qs, h1]
      cases hd2 : dead q with
      | true =>
        have e2' : pRename (nm (nameT i)) (nm (nameP i)) q = (12, Sim.fall q) := by rw [e2, stp, hd2]; rfl
        left
        rw [e2', if_pos (by simp)]
        exact ⟨by simp, rfl, cq.fall, by omega, by omega, .inl rfl⟩
      | false =>
        have e2' : pRename (nm (nameT i)) (nm (nameP i)) q = (0, Sim.chgd ⟨2, nm (nameT i), nm (nameP i), 0⟩ (Sim.tick q)) := by rw [e2, stp, hd2]; rfl
        obtain ⟨r, hr⟩ : ∃ r, Sim.chgd ⟨2, nm (nameT i), nm (nameP i), 0⟩ (Sim.tick q) = r := ⟨_, rfl⟩
        have ed : pdo q.seen ⟨2, nm (nameT i), nm (nameP i), 0⟩ = dput (ddel p.seen (nm (nameT i))) (nm (nameP i)) b := by simp [pdo, qs, h1]
        have rseen : r.seen = dput (ddel p.seen (nm (nameT i))) (nm (nameP i)) b := by rw [← hr, ← ed]; rfl
        have hnew : ∀ e ∈ dput (ddel p.seen (nm (nameT i))) (nm (nameP i)) b, e = (nm (nameP i), b) ∨ (e ∈ p.seen ∧ e.1 ≠ nm (nameT i)) := fun e he => by
          rcases Sim.mem_dput.1 he with e' | ⟨e', _⟩
          · exact .inl e'
          · exact .inr (Sim.mem_ddel.1 e')
        have hheld : ∀ x ∈ H, nm (nameP x.1) ≠ nm (nameP i) := fun x hx e => by
          have := h.c.hb x hx
          have := P_inj (by omega) (by omega) (by omega) hi e
          omega
        have cr : CInv Q (i : Int) H r := by
          rw [← hr]
          refine cq.tick.chgd _ (fun e he => ?_) (fun x hx => ?_)
          · have he' : e ∈ dput (ddel p.seen (nm (nameT i))) (nm (nameP i)) b := by rw [← ed]; exact he
            rcases hnew e he' with rfl | ⟨g1, _⟩
            · exact .inr ⟨i, ys, by omega, by omega, rfl, qf, hw⟩
            · exact cq.seenPk e (by rw [qs]; exact g1)
          · obtain ⟨y, g1, g2⟩ := cq.seenHd x hx
            refine ⟨y, ?_, g2⟩
            show _ ∈ pdo q.seen _
            rw [ed]
            refine Sim.mem_dput.2 (.inr ⟨Sim.mem_ddel.2 ⟨by rw [← qs]; exact g1, fun e => T_ne_P i x.1 e.symm⟩, hheld x hx⟩)
        have rd : r.down = false := by rw [← hr]; exact qd
        have rf : r.files b = some ⟨ys, ys.length⟩ := by rw [← hr]; exact qf
        rw [e2', hr, if_neg (by simp)]
        simp only
        have e3 : pSyncDir r = stp r (Sim.settle r.chg.length) := by simp [pSyncDir, Sim.wrongs, rd]
        cases hd3 : dead r with
        | true =>
          have e3' : pSyncDir r = (12, Sim.fall r) := by rw [e3, stp, hd3]; rfl
          left
          rw [e3']
          exact ⟨by simp, rfl, cr.fall, by omega, by omega, .inl rfl⟩
        | false =>
          have e3' : pSyncDir r = (0, Sim.settle r.chg.length (Sim.tick r)) := by rw [e3, stp, hd3]; rfl
          right
          rw [e3']
          have hsafe : (Sim.settle r.chg.length (Sim.tick r)).safe = r.seen := by
            show (r.chg.take r.chg.length).foldl pdo r.safe = _
            rw [List.take_length, cr.se]
          have cs : CInv Q (i : Int) H (Sim.settle r.chg.length (Sim.tick r)) := cr.settle r.chg.length _ rfl rfl (by rw [hsafe]; rfl) (fun x bs hx => hx)
          have hl1 := Sim.length_dput (ddel p.seen (nm (nameT i))) (nm (nameP i)) b
          have hl2 : (ddel p.seen (nm (nameT i))).length < p.seen.length := by
            unfold ddel
            have hm' := Sim.mem_of_dfind h1
            refine List.length_filter_lt_length_iff_exists.2 ⟨_, hm', by simp⟩
          refine ⟨rfl, rd, rfl, ⟨cs.se, cs.rs, cs.pk, fun k x hx => ?_, fun x hx => ?_, by omega⟩, by omega, by omega, .inr ⟨fun e he => ?_, ?_⟩⟩
          · rcases List.mem_cons.1 hx with rfl | hx
            · refine ⟨b, ?_, rf⟩
              have e : dirK (Sim.settle r.chg.length (Sim.tick r)) k = r.seen := by
                rw [dirK]
                show ([].take k).foldl pdo (Sim.settle r.chg.length (Sim.tick r)).safe = _
                rw [List.take_nil]
                exact hsafe
              rw [e, rseen]
              exact Sim.mem_dput.2 (.inl rfl)
            · exact cs.hd k x hx
          · rcases List.mem_cons.1 hx with rfl | hx
            · exact ⟨by omega, by omega⟩
            · exact cs.hb x hx
          · have he' : e ∈ r.seen := he
            rw [rseen] at he'
            rcases hnew e he' with rfl | ⟨g1, g2⟩
            · exact ⟨i, by omega, by omega, rfl⟩
            · rcases h3 e g1 with g3 | ⟨j, g3, g4, g5⟩
              · exact absurd g3 g2
              · exact ⟨j, g3, by omega, g5⟩
          · show (r.seen.length : Int) ≤ _
            rw [rseen]
            omega
end

end Go.Proofs.YtaaioaocjfpajaaGreatDoor.Sh
end

section
/-
  A Lay, an Up and an Open on a disk that may go down at any step.
-/
namespace Go.Proofs.YtaaioaocjfpajaaGreatDoor.Sh
open Go.RowKit Go.Shelf
open Sim (hid nm Nm PS Fl Dir Ris PC pCreate pAppend pRemove pFsync pRename pSyncDir pUp pArm finds wrongs pList nameB dfind dput ddel pdo stp dead fileAt blockOf pBytes loses lose)

/-- A record in memory is right. -/
def RtE (z : El) : Prop := okR z = true ∧ Rt z.1
theorem RtE.fr {z : El} (h : RtE z) : frE z = frOf z.1 := by
  have h' : rightB z.1.1 z.1.2.2.length = true := h.1
  rw [frE, putX, h', if_pos rfl]
  rfl
/-- The bytes of a pack of these records. -/
def zb (z : List El) : List Nat := z.flatMap fun y => nats (frE y)
theorem zb_cat : ∀ {z : List El}, (∀ y ∈ z, RtE y) → zb z = nats (cat (z.map (·.1)))
  | [], _ => rfl
  | y :: r, h => by
    have ih := zb_cat (z := r) (fun u hu => h u (by simp [hu]))
    show nats (frE y) ++ zb r = nats (frOf y.1 ++ cat (r.map (·.1)))
    rw [nats_append, ih, (h y (by simp)).fr]
theorem wh_zb {z : List El} (hne : z ≠ []) (h : ∀ y ∈ z, RtE y) : Wh (zb z) :=
  ⟨z.map (·.1), by simpa using hne, fun r hr => by obtain ⟨y, hy, rfl⟩ := List.mem_map.1 hr; exact (h y hy).2, zb_cat h⟩

section
variable {Q : List Nat → Prop} {n : Int} {H : List (Nat × List Nat)} {p : PS}
theorem CG.up {m k : Nat} (h : CG Q m n H p) (hk : m ≤ k) : CG Q k n H p := ⟨h.1, h.2.1, by have := h.2.2.1; omega, h.2.2.2⟩
/-- A pack is begun, or the disk is down. -/
theorem CG.create {m i x : Nat} (h : CG Q m n H p) (hi : i < 100) (hx : p.files x = none) :
    ((pCreate (nm (nameT i)) x p).1 ≠ 0 ∧ CG Q m n H (pCreate (nm (nameT i)) x p).2) ∨ ((pCreate (nm (nameT i)) x p).1 = 0 ∧ (pCreate (nm (nameT i)) x p).2.down = false ∧ COpn Q n H i x [] (pCreate (nm (nameT i)) x p).2) := by
  obtain ⟨hc, h0, hm, ho⟩ := h
  cases hd : p.down with
  | true =>
    have e : pCreate (nm (nameT i)) x p = (12, p) := by simp [pCreate, Sim.wrongs, hd]
    rw [e]
    exact .inl ⟨by simp, hc, h0, hm, .inl hd⟩
  | false =>
    rcases ho with ho | ⟨h1, h2⟩
    · rw [hd] at ho; cases ho
    · have hnT : dfind p.seen (nm (nameT i)) = none := by
        cases hf : dfind p.seen (nm (nameT i)) with
        | none => rfl
        | some b =>
          obtain ⟨j, _, _, e⟩ := h1 _ (Sim.mem_of_dfind hf)
          exact absurd e (T_ne_P i j)
      have e : pCreate (nm (nameT i)) x p = stp p (fun q => Sim.chgd ⟨0, nm (nameT i), [], x⟩ (Sim.setF x ⟨[], 0⟩ q)) := by simp [pCreate, Sim.wrongs, hd, nB_T i hi, hnT]
      rw [e, stp]
      cases hdd : dead p with
      | true => rw [if_pos rfl]; exact .inl ⟨by simp, hc.fall, h0, hm, .inl rfl⟩
      | false =>
        rw [if_neg (by simp)]
        have hfr := hc.fresh hx
        obtain ⟨q, hq⟩ : ∃ q, Sim.setF x ⟨[], 0⟩ (Sim.tick p) = q := ⟨_, rfl⟩
        have cq : CInv Q n H q := by rw [← hq]; exact hc.tick.setF x _ hfr
        have qs : q.seen = p.seen := by rw [← hq]; rfl
        have qf : q.files x = some ⟨[], 0⟩ := by rw [← hq]; simp [Sim.setF]
        have qk : ∀ k, dirK q k = dirK p k := fun k => by rw [← hq]; rfl
        have ed : pdo q.seen ⟨0, nm (nameT i), [], x⟩ = dput p.seen (nm (nameT i)) x := by simp [pdo, qs]
        show ((0 : Nat) ≠ 0 ∧ _) ∨ ((0 : Nat) = 0 ∧ (Sim.chgd ⟨0, nm (nameT i), [], x⟩ (Sim.setF x ⟨[], 0⟩ (Sim.tick p))).down = false ∧ COpn Q n H i x [] (Sim.chgd ⟨0, nm (nameT i), [], x⟩ (Sim.setF x ⟨[], 0⟩ (Sim.tick p))))
        rw [hq]
        have qd : q.down = false := by rw [← hq]; exact hd
        have hT : (nm (nameT i), x) ∈ dput p.seen (nm (nameT i)) x := Sim.mem_dput.2 (.inl rfl)
        refine .inr ⟨rfl, qd, cq.chgd _ (fun e he => ?_) (fun y hy => ?_), fun k e he hj => ?_, .inr ⟨?_, ⟨0, qf⟩, fun e he => ?_, ?_⟩⟩
        · rw [ed] at he
          rcases Sim.mem_dput.1 he with rfl | ⟨g1, _⟩
          · exact .inl ⟨i, hi, rfl⟩
          · exact cq.seenPk e (by rw [qs]; exact g1)
        · obtain ⟨z, g1, g2⟩ := cq.seenHd y hy
          refine ⟨z, ?_, g2⟩
          rw [ed]
          exact Sim.mem_dput.2 (.inr ⟨by rw [← qs]; exact g1, fun e => T_ne_P i y.1 e.symm⟩)
        · have hfr' : ∀ e ∈ p.seen, (∃ j, e.1 = nm (nameP j)) → e.2 ≠ x := fun e he => hfr p.chg.length e (by rw [dirK_all hc]; exact he)
          rcases dirK_chgd (p := q) ⟨0, nm (nameT i), [], x⟩ k with e' | e'
          · rw [e', qk] at he
            exact hfr k e he hj
          · rw [e', ← cq.se, ed] at he
            rcases Sim.mem_dput.1 he with rfl | ⟨g1, _⟩
            · obtain ⟨j, hj⟩ := hj
              exact absurd hj (T_ne_P i j)
            · exact hfr' e g1 hj
        · show dfind (pdo q.seen ⟨0, nm (nameT i), [], x⟩) (nm (nameT i)) = some x
          rw [ed]
          exact Sim.dfind_of_mem (hc.ris.put _ _).nodup hT
        · have he' : e ∈ dput p.seen (nm (nameT i)) x := by rw [← ed]; exact he
          rcases Sim.mem_dput.1 he' with rfl | ⟨g1, _⟩
          · exact .inl rfl
          · exact .inr (h1 e g1)
        · show ((pdo q.seen ⟨0, nm (nameT i), [], x⟩).length : Int) ≤ n + 1
          rw [ed]
          have := Sim.length_dput p.seen (nm (nameT i)) x
          omega

/-- A pack is laid, or a fault is told. -/
theorem CG.lpF {m i x : Nat} (h : CG Q m n H p) (hin : (i : Int) = n + 1) (hi : i < 100) (hx : p.files x = none) (z : List El) (hz : Q (zb z)) :
    ((lpF i x p z).1 ≠ 0 → CG Q (m + 1) (lpN i x p n) H (lpF i x p z).2) ∧ ((lpF i x p z).1 = 0 → CG Q (m + 1) (i : Int) ((i, zb z) :: H) (lpF i x p z).2 ∧ (lpF i x p z).2.down = false ∧ (lpF i x p z).2.chg = []) := by
  have h0 := h.2.1
  have hm := h.2.2.1
  rcases h.create hi hx with ⟨c1, c2⟩ | ⟨c1, c2, c3⟩
  · have e : Sh.lpF i x p z = pCreate (nm (nameT i)) x p := by rw [Sh.lpF, if_pos c1]
    have en : lpN i x p n = n := by rw [lpN, if_pos c1]
    rw [e, en]
    exact ⟨fun _ => c2.up (by omega), fun e => absurd e c1⟩
  · have en : lpN i x p n = (i : Int) := by rw [lpN, if_neg (by omega)]
    rw [en]
    unfold Sh.lpF
    rw [if_neg (by omega)]
    rcases c3.aps c2 hi z with ⟨a1, ys, a2⟩ | ⟨a1, a2, a3⟩
    · rw [if_pos a1]
      exact ⟨fun _ => a2.remove hi hin h0 hm, fun e => absurd e a1⟩
    · rw [if_neg (by omega)]
      rcases a3.seal (m := m) a2 hz hi hin h0 hm with ⟨s1, s2, s3⟩ | ⟨s1, s2, s3, s4⟩
      · rw [if_pos s1]
        have e : pRemove (nm (nameT i)) (sealF i (Sh.aps i (pCreate (nm (nameT i)) x p).2 z).2).2 = (12, (sealF i (Sh.aps i (pCreate (nm (nameT i)) x p).2 z).2).2) := by rw [pRemove, finds_down s2]; simp
        rw [e]
        exact ⟨fun _ => s3, fun e => absurd e s1⟩
      · rw [if_neg (by omega)]
        exact ⟨fun e => absurd s1 e, fun _ => ⟨s4, s2, s3⟩⟩

/-! ### What Lay asks -/
theorem CG.ids {m : Nat} (h : CG Q m n H p) : ∀ z ∈ idsP p, 1 ≤ z ∧ z ≤ n := fun z hz => by
  have hnb := h.1.nb
  unfold idsP at hz
  rw [List.mem_mergeSort] at hz
  obtain ⟨x, hx, hz⟩ := List.mem_filterMap.1 hz
  unfold pList at hx
  split at hx
  · simp at hx
  · rename_i hd
    rcases h.2.2.2 with e | ⟨h1, _⟩
    · exact absurd e hd
    · obtain ⟨e, he, rfl⟩ := List.mem_map.1 hx
      obtain ⟨j, g1, g2, g3⟩ := h1 e he
      rw [g3, idN_P g1 (by omega)] at hz
      simp at hz
      omega
theorem CG.max {m : Nat} (h : CG Q m n H p) : maxZ (idsP p ++ [n]) = n := maxZ_top _ _ fun z hz => (h.ids z hz).2
theorem CG.list {m : Nat} (h : CG Q m n H p) : (∀ x ∈ pList p, x.length ≤ 40) ∧ (pList p).length ≤ 100 := by
  have hnb := h.1.nb
  unfold pList
  split
  · simp
  · rename_i hd
    rcases h.2.2.2 with e | ⟨h1, h2⟩
    · exact absurd e hd
    · refine ⟨fun x hx => ?_, by rw [List.length_map]; omega⟩
      obtain ⟨e, he, rfl⟩ := List.mem_map.1 hx
      obtain ⟨j, g1, g2, g3⟩ := h1 e he
      rw [g3]
      exact len_P j (by omega)
theorem CG.noP {m i : Nat} (h : CG Q m n H p) (hin : (i : Int) = n + 1) (hi : i < 100) : finds p (nm (nameP i)) ≠ 0 := by
  cases hd : p.down with
  | true => rw [finds_down hd]; omega
  | false =>
    rcases h.2.2.2 with e | ⟨h1, h2⟩
    · rw [hd] at e; cases e
    · have hn : dfind p.seen (nm (nameP i)) = none := by
        cases hf : dfind p.seen (nm (nameP i)) with
        | none => rfl
        | some b =>
          obtain ⟨j, g1, g2, g3⟩ := h1 _ (Sim.mem_of_dfind hf)
          have := P_inj (by omega) hi g1 (by omega) g3
          omega
      simp [Sim.finds, Sim.wrongs, hd, nB_P i hi, hn]
end

/-- Places are those of records that are held. -/
def PlOk (H : List (Nat × List Nat)) (zs : List El) (qs : List Pl) : Prop :=
  qs.length = zs.length ∧ ∀ (k : Nat) (q : Pl), qs[k]? = some q → ∃ y z pre r, zs[k]? = some y ∧ (q.1, zb z) ∈ H ∧ z = pre ++ y :: r ∧ q.2.1 = szs pre ∧ q.2.2 = szE y ∧ ∀ u ∈ z, RtE u
theorem PlOk.more {H H' : List (Nat × List Nat)} {zs : List El} {qs : List Pl} (h : PlOk H zs qs) (hs : ∀ x ∈ H, x ∈ H') : PlOk H' zs qs := ⟨h.1, fun k q hq => by
  obtain ⟨y, z, pre, r, h1, h2, h3⟩ := h.2 k q hq
  exact ⟨y, z, pre, r, h1, hs _ h2, h3⟩⟩
theorem plc_at (i : Nat) : ∀ (z : List El) (a k : Nat) (q : Pl), (plc i a z)[k]? = some q → ∃ y pre r, z[k]? = some y ∧ z = pre ++ y :: r ∧ q = (i, a + szs pre, szE y)
  | [], _, _, _, h => by simp [plc] at h
  | y :: z, a, 0, q, h => by
    simp [plc] at h
    exact ⟨y, [], z, rfl, rfl, by rw [← h]; simp [szs]⟩
  | y :: z, a, k + 1, q, h => by
    rw [plc, List.getElem?_cons_succ] at h
    obtain ⟨u, pre, r, h1, h2, h3⟩ := plc_at i z (a + szE y) k q h
    refine ⟨u, y :: pre, r, by rw [List.getElem?_cons_succ]; exact h1, by rw [h2]; rfl, ?_⟩
    rw [h3]
    have : szs (y :: pre) = szE y + szs pre := by simp [szs]
    rw [this, Nat.add_assoc]
theorem PlOk.app {H : List (Nat × List Nat)} {zs ys : List El} {qs rs : List Pl} (h : PlOk H zs qs) (k : PlOk H ys rs) : PlOk H (zs ++ ys) (qs ++ rs) := by
  refine ⟨by rw [List.length_append, List.length_append, h.1, k.1], fun j q hq => ?_⟩
  by_cases hj : j < qs.length
  · rw [List.getElem?_append_left hj] at hq
    obtain ⟨y, z, pre, r, h1, h2⟩ := h.2 j q hq
    exact ⟨y, z, pre, r, by rw [List.getElem?_append_left (by have := h.1; omega)]; exact h1, h2⟩
  · rw [List.getElem?_append_right (by omega)] at hq
    obtain ⟨y, z, pre, r, h1, h2⟩ := k.2 _ q hq
    exact ⟨y, z, pre, r, by rw [List.getElem?_append_right (by have := h.1; omega), ← h.1]; exact h1, h2⟩
theorem plOk_plc {H : List (Nat × List Nat)} (i : Nat) (z : List El) (hz : ∀ u ∈ z, RtE u) (hH : (i, zb z) ∈ H) : PlOk H z (plc i 0 z) := by
  refine ⟨plc_length i z 0, fun k q hq => ?_⟩
  obtain ⟨y, pre, r, h1, h2, rfl⟩ := plc_at i z 0 k q hq
  exact ⟨y, z, pre, r, h1, hH, h2, by simp, rfl, hz⟩

/-- Packs that were laid: what is held behind them. -/
theorem CG.layR {m : Nat} {p0 p : PS} {n0 n : Int} {H0 : List (Nat × List Nat)} {ps : List (List El)} {qs : List Pl} (h0 : CG Wh m n0 H0 p0) (h : LayR p0 n0 ps p n qs) (hm : m + ps.length < 100) (hz : ∀ z ∈ ps, z ≠ [] ∧ ∀ y ∈ z, RtE y) :
    ∃ H, CG Wh (m + ps.length) n H p ∧ (∀ x ∈ H0, x ∈ H) ∧ PlOk H ps.flatten qs ∧ (ps ≠ [] → p.down = false ∧ p.chg = []) := by
  induction h with
  | nil => exact ⟨H0, h0, fun x hx => hx, ⟨rfl, fun k q hq => by simp at hq⟩, fun e => absurd rfl e⟩
  | snoc h hi hx h0' ih =>
    rename_i ps' p' n' qs' i' x' z'
    rw [List.length_append, List.length_singleton] at hm
    obtain ⟨H, g1, g2, g3, _⟩ := ih (by omega) (fun z hz' => hz z (by simp [hz']))
    rw [g1.max] at hi
    have g4 := g1.2.2.1
    obtain ⟨hne, hzz⟩ := hz z' (by simp)
    obtain ⟨c1, c2, c3⟩ := (g1.lpF (i := i') hi.symm (by omega) hx z' (wh_zb hne hzz)).2 h0'
    refine ⟨(i', zb z') :: H, by rw [List.length_append, List.length_singleton]; exact c1, fun x hx => by simp [g2 x hx], ?_, fun _ => ⟨c2, c3⟩⟩
    rw [List.flatten_append, List.flatten_singleton]
    exact (g3.more (fun x hx => by simp [hx])).app (plOk_plc i' z' hzz (by simp))
theorem CInv.less {Q : List Nat → Prop} {n : Int} {H H' : List (Nat × List Nat)} {p : PS} (h : CInv Q n H p) (hs : ∀ x ∈ H', x ∈ H) : CInv Q n H' p := ⟨h.se, h.rs, h.pk, fun k x hx => h.hd k x (hs x hx), fun x hx => h.hb x (hs x hx), h.nb⟩
theorem CG.less {Q : List Nat → Prop} {m : Nat} {n : Int} {H H' : List (Nat × List Nat)} {p : PS} (h : CG Q m n H p) (hs : ∀ x ∈ H', x ∈ H) : CG Q m n H' p := ⟨h.1.less hs, h.2⟩
/-- What Lay wants of it (what the packs hold, and which there are, is forgotten). -/
theorem CG.pre (m K : Nat) (hm : m + K < 100) : Pre (fun k p n => CG (fun _ => True) (m + k) n [] p) K := fun k p n hk h => by
  have h0 := h.2.1
  have h1 := h.2.2.1
  obtain ⟨i, hi⟩ : ∃ i : Nat, (i : Int) = n + 1 := ⟨(n + 1).toNat, by omega⟩
  refine ⟨i, by rw [h.max]; omega, by omega, by omega, h.noP hi (by omega), fun x hx => by have := h.list.1 x hx; omega, ?_, fun x z hx _ _ _ hz => ?_⟩
  · have h2 := h.list.2
    have h3 := List.length_filterMap_le idN (pList p)
    unfold idsP
    rw [List.length_mergeSort]
    omega
  · exact ((h.lpF hi (by omega) hx z trivial).2 hz).1.less (fun x hx => by simp at hx)

end Go.Proofs.YtaaioaocjfpajaaGreatDoor.Sh
end

section
/-
  A range over a function that itself writes one block, and holds memory over its yields: the caller's law. (As FrRange's, but the body says which blocks it owns, and leaves all others.)
-/
namespace Go.Proofs.YtaaioaocjfpajaaGreatDoor
open Go.RowKit
open Crc (hid Kept Tab)

/-- Cells outside O that were there stand. -/
structure StayO (O : Nat → Prop) (U W : World) : Prop where
  size : U.heap.size ≤ W.heap.size
  cell : ∀ g o v, U.cell? ⟨g, o, none⟩ = some v → ¬ O g → W.cell? ⟨g, o, none⟩ = some v
theorem StayO.trans {O : Nat → Prop} {U V W : World} (h : StayO O U V) (k : StayO O V W) : StayO O U W := ⟨Nat.le_trans h.size k.size, fun g o v hi ho => k.cell g o v (h.cell g o v hi ho) ho⟩
theorem cell_lt {U : World} {g o : Nat} {v : Value} (h : U.cell? ⟨g, o, none⟩ = some v) : g < U.heap.size := by
  by_cases hg : g < U.heap.size
  · exact hg
  · simp [World.cell?, Array.getElem?_eq_none (Nat.le_of_not_lt hg)] at h
theorem StayO.of_below {O : Nat → Prop} {U W : World} (h : Below U.heap.size U W) : StayO O U W := ⟨h.size, fun g o _ hi _ => (h.cell (p := ⟨g, o, none⟩) (cell_lt hi)).trans hi⟩
theorem StayO.of_putl {O : Nat → Prop} {B : Nat} {U W : World} (h : Putl B U W) : StayO O U W := ⟨Nat.le_of_eq h.size.symm, fun _ _ _ hi _ => h.cell hi⟩
theorem StayO.of_kp {O L : Nat → Prop} {U W : World} (h : Sim.Kp L U W) (hL : ∀ x, L x → O x) : StayO O U W := ⟨h.size, fun g o _ hi ho => (h.cell (p := ⟨g, o, none⟩) (cell_lt hi) (fun e => ho (hL g e))).trans hi⟩
/-- A range, and bytes, outside O stand. -/
theorem StayO.range {O : Nat → Prop} {U W : World} (h : StayO O U W) {g o : Nat} {C : List Value} (hr : U.rangeAt g o C) (hg : ¬ O g) : W.rangeAt g o C := fun j v hv => h.cell g (o + j) v (hr j v hv) hg
theorem StayO.bytes {O S S' : Nat → Prop} {U W : World} (h : StayO O U W) {v : Value} {xs : List Int} (hb : Tlv.BySlS S U v xs) (hS : ∀ g, S g → ¬ O g ∧ S' g) : Tlv.BySlS S' W v xs := by
  obtain ⟨a, c, e, h1, h2, h3, h4, h5, h6⟩ := hb
  refine ⟨a, c, e, h1, h2, h3, h4, h5, fun hne => ?_⟩
  obtain ⟨b, o, e, hg, hc⟩ := h6 hne
  exact ⟨b, o, e, (hS b hg).2, fun i hi => h.cell b (o + i) _ (hc i hi) (hS b hg).1⟩

/-- What an iterator that may write block b and blocks that it made itself tells, over a body that owns the blocks O (they grow by new ones), and leaves all other cells that were there: N rounds, in round k values as V says. -/
def TellsO (n gf : Nat) (lb : Array Value) (b : Nat) (T : World → Prop) (V : Nat → (Nat → Prop) → Array Value → World → Prop) (N : Nat) (O0 : Nat → Prop) : Prop :=
  ∀ (l : Nat) (J : Nat → (Nat → Prop) → World → Prop) (Jx : Nat → World → Prop) (W : World), T W → (∀ k O U W', J k O U → T W' → Kept b U W' → J k O W') →
    (∀ k O U vs, k < N → (∀ x, O x → x < U.heap.size) → J k O U → T U → V k O vs U → YieldAt Fence.wide (n - 1) Tryz.prog l vs U fun e W' =>
      (e = .returned (.bool true) ∧ ∃ O', J (k + 1) O' W' ∧ T W' ∧ (∀ x, O' x → (O x ∨ U.heap.size ≤ x) ∧ x < W'.heap.size) ∧ StayO O U W') ∨ (e = .returned (.bool false) ∧ Jx (k + 1) W')) →
    J 0 O0 W → (∀ x, O0 x → x < W.heap.size) →
    CallsIn Fence.wide n Tryz.prog gf (#[.func (.yield l) #[] #[]] ++ lb) W fun e W' => (∃ v, e = .returned v) ∧ ((∃ O, J N O W' ∧ T W') ∨ ∃ k, k ≤ N ∧ Jx k W')

/-- How the body of a round may be left: k rounds have come, this one with them. -/
def roundEndsO (B : Nat) (T : World → Prop) (I : Nat → (Nat → Prop) → World → Prop) (Ix : Code → Nat → World → Prop) (k : Nat) (O : Nat → Prop) (W : World) : Exit → Act → World → Prop
  | .normal, _, V => KeepsFrom B W V ∧ (∃ O', I k O' V ∧ (∀ x, O' x → (O x ∨ W.heap.size ≤ x) ∧ x < V.heap.size) ∧ StayO O W V) ∧ T V
  | .ret, _, V => KeepsFrom B W V ∧ Ix .ret k V
  | .exit id, _, V => KeepsFrom B W V ∧ Ix (.exit id) k V
  | _, _, _ => False

theorem over_funcO {g : Operand} {ps : Array Tmp} {assign body : Code} {Q : Exit → Act → World → Prop} {a : Act} {w : World} {n gf : Nat} {lb : Array Value}
    (hg : a.eval g = .func (.func gf) #[] lb) (eg : ∀ args w, (callFunc gf args).run Tryz.prog w = .ok (.enter gf args) w)
    {b : Nat} {T : World → Prop} {V : Nat → (Nat → Prop) → Array Value → World → Prop} {N : Nat} {O0 : Nat → Prop} (hO0 : ∀ x, O0 x → x < w.heap.size) (hseq : TellsO (n - 1) gf lb b T V N O0) (hps : ∀ k m vs U, V k m vs U → vs.size = ps.size)
    (hb : b < w.heap.size) (hT : ∀ U W, T U → Below w.heap.size U W → T W) (hT0 : T w)
    (I : Nat → (Nat → Prop) → World → Prop) (Ix : Code → Nat → World → Prop) (hIk : ∀ k m U W, I k m U → T W → Kept b U W → I k m W) (hI : ∀ k m U W, I k m U → Putl w.heap.size U W → I k m W)
    (hIx : ∀ c k U W, Ix c k U → Putl w.heap.size U W → Ix c k W)
    (h0 : ∀ W, Below w.heap.size w W → W.heap.size = w.heap.size + 2 → I 0 O0 W)
    (asg : Array Value → World → World) (hasg : ∀ vs W, Below W.heap.size W (asg vs W)) (hVa : ∀ k m vs U, V k m vs U → V k m vs (asg vs U)) (hIa : ∀ k m vs U, V k m vs U → I k m U → I k m (asg vs U)) (a₁ : Nat → Array Value → World → Act)
    (hV : ∀ k m vs U W, V k m vs U → Putl w.heap.size U W → V k m vs W)
    (hassign : ∀ (l k : Nat) (m : Nat → Prop) (vs : Array Value) (W : World) (K : Act → World → Prop), k < N → V k m vs W → K (a₁ k vs W) (asg vs W) →
      assign.wpIn (Fence.wide.inRound l) (n - 1 - 1) Tryz.prog (Exit.then K (fun _ _ _ => False)) { tmps := (ps.zip vs).foldl (fun t (p, v) => t.setIfInBounds p v) a.tmps, defers := [] } W)
    (hbody : ∀ (l k : Nat) (m : Nat → Prop) (vs : Array Value) (U W : World), k < N → (∀ x, m x → x < U.heap.size) → V k m vs W → I k m W → T W → W.heap.size = (asg vs U).heap.size → (∀ i, U.heap.size ≤ i → W.heap[i]? = (asg vs U).heap[i]?) → w.heap.size ≤ U.heap.size → body.wpIn (Fence.wide.inRound l) (n - 1 - 1) Tryz.prog (roundEndsO w.heap.size T I Ix (k + 1) m W) (a₁ k vs U) W)
    (hdone : ∀ (D : Nat) (m : Nat → Prop) (W : World), w.heap.size ≤ D → I N m W → T W → W.heap[D]? = some (.deferred (some [])) → Q .normal { a with defers := { target := .collected D, args := #[] } :: a.defers } W)
    (hstop : ∀ (D : Nat) (c : Code) (k : Nat) (W : World), w.heap.size ≤ D → k ≤ N → Ix c k W → W.heap[D]? = some (.deferred (some [])) → c.wpIn Fence.wide n Tryz.prog Q { a with defers := { target := .collected D, args := #[] } :: a.defers } W) :
    (Code.rangeFunc g ps assign body).wpIn Fence.wide n Tryz.prog Q a w := by
  refine wpIn_rangeFunc fun fn hfn => ?_
  -- the record of the loop, by its state and the jump that is pending; it lies in the second of two new blocks
  let rec0 : LoopState → Option Code → Loop := fun st pe => { state := st, pending := pe, fn, tmps := a.tmps, params := ps, assign, body, defers := w.heap.size }
  have hB : ∀ (W : World) (o : Obj) (l : Nat), w.heap.size ≤ l → l < W.heap.size → Below w.heap.size W (W.putObj l o) := fun W o l h1 h2 => put_below W o h1 h2
  let Rec : LoopState → Option Code → World → Prop := fun st pe W => W.heap[w.heap.size + 1]? = some (.loop (rec0 st pe)) ∧ W.heap[w.heap.size]? = some (.deferred (some []))
  have start : Below w.heap.size w ((w.alloc (.deferred (some []))).alloc (.loop (rec0 .ready none))) := ((Below.refl _ w).alloc (Nat.le_refl _) _).alloc (by simp) _
  have r0 : Rec .ready none ((w.alloc (.deferred (some []))).alloc (.loop (rec0 .ready none))) := by
    refine ⟨?_, (Below.heap_alloc _ _ _ (by simp)).trans (World.alloc_heap_new w _)⟩
    have h := World.alloc_heap_new (w.alloc (.deferred (some []))) (.loop (rec0 .ready none))
    rwa [World.size_alloc] at h
  have hlt : ∀ {st pe W}, Rec st pe W → w.heap.size + 1 < W.heap.size := fun h => (Array.getElem?_eq_some_iff.1 h.1).1
  -- the record is put anew
  have put : ∀ {st pe W} (st' : LoopState) (pe' : Option Code), Rec st pe W → Rec st' pe' (W.putObj (w.heap.size + 1) (.loop (rec0 st' pe'))) := fun st' pe' h =>
    ⟨World.putObj_heap_same (hlt h), (World.putObj_heap_other (by omega)).trans h.2⟩
  have keep : ∀ {st pe W V}, Rec st pe W → KeepsFrom w.heap.size W V → Rec st pe V := fun h k => ⟨k.same _ _ (by omega) h.1 rfl, k.same _ _ (Nat.le_refl _) h.2 rfl⟩
  have psz : ∀ (W : World) (o : Obj) (l : Nat), (W.putObj l o).heap.size = W.heap.size := fun W o l => by simp [World.putObj]
  have poth : ∀ (W : World) (o : Obj), ∀ i, i ≠ w.heap.size + 1 → (W.putObj (w.heap.size + 1) o).heap[i]? = W.heap[i]? := fun W o i hi => World.putObj_heap_other (by omega)
  have putI : ∀ {k m st pe W} (st' : LoopState) (pe' : Option Code), Rec st pe W → I k m W → I k m (W.putObj (w.heap.size + 1) (.loop (rec0 st' pe'))) := fun {k m st pe W} st' pe' h hi =>
    hI k m W _ hi ⟨rfl, rfl, rfl, psz _ _ _, w.heap.size + 1, _, by omega, h.1, poth W _⟩
  have putIx : ∀ {c k st pe W} (st' : LoopState) (pe' : Option Code), Rec st pe W → Ix c k W → Ix c k (W.putObj (w.heap.size + 1) (.loop (rec0 st' pe'))) := fun {c k st pe W} st' pe' h hi =>
    hIx c k W _ hi ⟨rfl, rfl, rfl, psz _ _ _, w.heap.size + 1, _, by omega, h.1, poth W _⟩
  refine ⟨w.heap.size + 1, [{ target := .collected w.heap.size, args := #[] }], (w.alloc (.deferred (some []))).alloc (.loop (rec0 .ready none)), { target := .fn (.func gf) lb, args := #[.func (.yield (w.heap.size + 1)) #[] #[]] },
    (w.alloc (.deferred (some []))).alloc (.loop (rec0 .ready none)), gf, #[.func (.yield (w.heap.size + 1)) #[] #[]] ++ lb, (w.alloc (.deferred (some []))).alloc (.loop (rec0 .ready none)), ?_, ?_, fun _ _ => trivial, ?_, fun h => by simp [Fence.wide] at h, ?_⟩
  · exact run_enterLoop_outer _ _ _ _ _
  · simp only [resolve, hg]
    simp [go_sem]
  · simp [invoke, go_sem, eg]
  · refine (hseq (w.heap.size + 1) (fun k m W => I k m W ∧ Rec .ready none W) (fun k W => ∃ c, Ix c k W ∧ Rec .done (some c) W) _ (hT _ _ hT0 start) ?_ ?_ ⟨h0 _ start (by simp), r0⟩ (fun x hx => by have := hO0 x hx; simp; omega)).mono ?_
    · -- the iterator writes block b
      rintro k m U W' ⟨hi, hr⟩ hTW hk
      have hs := hlt hr
      exact ⟨hIk k m U W' hi hTW hk, (hk.block _ hs (by omega)).trans hr.1, (hk.block _ (by omega) (by omega)).trans hr.2⟩
    · -- one round
      rintro k m U vs hkN hmU ⟨hi, hr⟩ hTU hVU
      have hs := hlt hr
      have ba := hasg vs U
      have hra : Rec .ready none (asg vs U) := ⟨(ba.block _ hs).trans hr.1, (ba.block _ (by omega)).trans hr.2⟩
      have hsa := hlt hra
      refine ⟨fn, _, assign, body, run_yield (P := Tryz.prog) (args := vs) hr.1 (hps k m vs U hVU), roundIn_of_wpIn hfn (hassign _ k m vs U _ hkN hVU ⟨_, run_beginRound hra.1 rfl, ?_⟩)⟩
      have b1 := hB (asg vs U) (.loop { rec0 .ready none with state := .busy }) _ (by omega) hsa
      have hTa : T (asg vs U) := hT _ _ hTU (ba.mono (by omega))
      have hIa' : I k m (asg vs U) := hIa k m vs U hVU hi
      have hVa' : V k m vs (asg vs U) := hVa k m vs U hVU
      refine wpIn_mono (hbody _ k m vs U _ hkN hmU ?_ (putI .busy none hra hIa') (hT _ _ hTa b1) ?_ ?_ (by omega)) ?_
      · exact hV k m vs _ _ hVa' ⟨rfl, rfl, rfl, psz _ _ _, w.heap.size + 1, _, by omega, hra.1, poth _ _⟩
      · exact psz _ _ _
      · intro i hi
        exact poth _ _ i (by omega)
      have hr1 : Rec .busy none ((asg vs U).putObj (w.heap.size + 1) (.loop { rec0 .ready none with state := .busy })) := put .busy none hra
      have ends : ∀ (jump : Option Code) (V : World), KeepsFrom w.heap.size ((asg vs U).putObj (w.heap.size + 1) (.loop { rec0 .ready none with state := .busy })) V →
          (Instr.endRound (w.heap.size + 1) jump).run Tryz.prog V = .ok (.bool jump.isNone) (V.putObj (w.heap.size + 1) (.loop (rec0 (if jump.isNone then .ready else .done) jump))) ∧
          Rec (if jump.isNone then .ready else .done) jump (V.putObj (w.heap.size + 1) (.loop (rec0 (if jump.isNone then .ready else .done) jump))) ∧ Below w.heap.size V (V.putObj (w.heap.size + 1) (.loop (rec0 (if jump.isNone then .ready else .done) jump))) ∧ Rec .busy none V := fun jump V hk => by
        have hr2 := keep hr1 hk
        exact ⟨run_endRound (P := Tryz.prog) jump hr2.1, put _ _ hr2, hB V _ _ (by omega) (hlt hr2), hr2⟩
      rintro e a3 V hp
      cases e with
      | normal =>
        obtain ⟨hk, ⟨O', hi2, ho2, hst2⟩, ht2⟩ := hp
        obtain ⟨h1, h2, h3, h4⟩ := ends none V hk
        refine ⟨_, _, h1, .inl ⟨rfl, O', ⟨putI _ _ h4 hi2, h2⟩, hT _ _ ht2 h3, fun x hx => ⟨?_, ?_⟩, ?_⟩⟩
        · rcases (ho2 x hx).1 with e | e
          · exact .inl e
          · right
            rw [psz] at e
            have := ba.size
            omega
        · rw [psz]
          exact (ho2 x hx).2
        · have s1 : StayO m (asg vs U) ((asg vs U).putObj (w.heap.size + 1) (.loop { rec0 .ready none with state := .busy })) := .of_putl (B := w.heap.size) ⟨rfl, rfl, rfl, psz _ _ _, w.heap.size + 1, _, Nat.le_succ _, hra.1, poth _ _⟩
          have s2 : StayO m V (V.putObj (w.heap.size + 1) (.loop (rec0 (if (none : Option Code).isNone then .ready else .done) none))) := .of_putl (B := w.heap.size) ⟨rfl, rfl, rfl, psz _ _ _, w.heap.size + 1, _, Nat.le_succ _, h4.1, poth _ _⟩
          exact (((StayO.of_below ba).trans s1).trans hst2).trans s2
      | ret =>
        obtain ⟨hk, hi2⟩ := hp
        obtain ⟨h1, h2, h3, h4⟩ := ends (some .ret) V hk
        exact ⟨_, _, h1, .inr ⟨rfl, .ret, putIx _ _ h4 hi2, h2⟩⟩
      | exit id =>
        obtain ⟨hk, hi2⟩ := hp
        obtain ⟨h1, h2, h3, h4⟩ := ends (some (.exit id)) V hk
        exact ⟨_, _, h1, .inr ⟨rfl, .exit id, putIx _ _ h4 hi2, h2⟩⟩
      | goto t => exact hp.elim
      | panic ch => exact hp.elim
      | outgrown => exact hp.elim
    · -- behind the iterator
      rintro e V ⟨⟨v, rfl⟩, (⟨m, ⟨hi, hr⟩, ht⟩ | ⟨k, hk, c, hi, hr⟩)⟩
      · exact ⟨none, _, run_endLoop (P := Tryz.prog) hr.1 (by simp [rec0]), hdone _ m _ (Nat.le_refl _) (putI .exhausted none hr hi) (hT _ _ ht (hB V _ _ (Nat.le_succ _) (hlt hr))) ((World.putObj_heap_other (by omega)).trans hr.2)⟩
      · exact ⟨some c, _, run_endLoop (P := Tryz.prog) hr.1 (by simp [rec0]), hstop _ c k _ (Nat.le_refl _) hk (putIx .exhausted (some c) hr hi) ((World.putObj_heap_other (by omega)).trans hr.2)⟩

end Go.Proofs.YtaaioaocjfpajaaGreatDoor
end

section
/-
  A walk through no pack.
-/
namespace Go.Proofs.YtaaioaocjfpajaaGreatDoor.Sh
open Go.RowKit Go.Shelf
open Crc (Kept)
open Sim (hid Kp No PS Done Blk nm pList OwnN)
attribute [local go_sem] Oper.semAt_some

theorem records_any (w : World) (a : Option Addr) (n c : Nat) (fn : Fn) (first caps : Array Value) :
    Calls Tryz.prog 34 #[.slice a n c, .func fn first caps] w fun e w' => e = .returned (.func (.func 59) #[] #[.pointer (some ⟨w.heap.size, 0, none⟩), .pointer (some ⟨w.heap.size + 1, 0, none⟩)]) ∧
      w' = (w.alloc (.cells #[.slice a n c] 23)).alloc (.cells #[.func fn first caps] 49) := by
  have hmf : ∀ (fn : Fn) (first cap : Array Value) (w : World), (Instr.makeFunc fn first cap).run Tryz.prog w = .ok (.func fn first cap) w := fun _ _ _ _ => rfl
  go_enter Tryz.func34, Tryz.ntmps34
  go_wp2
  go_ret
  exact ⟨rfl, rfl⟩

end Go.Proofs.YtaaioaocjfpajaaGreatDoor.Sh
end

section
/-
  Load of a shelf.
-/
namespace Go.Proofs.YtaaioaocjfpajaaGreatDoor.Sh
open Go.RowKit Go.Shelf
open Sim (hid Kp No PS Blk nm finds pBytes)

theorem loaded_shape {w w' : World} {b : Nat} {e : Ending} {f : Nat} {S : List Item × Nat × Int} (h : Loaded w w' b e f S) : ∃ (v : Value) (z : Int), e = .returned (.tuple #[v, .int .i64 z]) := by
  rcases h.1 with ⟨_, rfl⟩ | ⟨_, _, rfl⟩ | ⟨_, _, _, a, c, rfl, _⟩
  · exact ⟨_, _, rfl⟩
  · exact ⟨_, _, rfl⟩
  · exact ⟨_, _, rfl⟩

set_option maxHeartbeats 2000000 in
set_option maxRecDepth 100000 in
theorem sload_any {P : Nat → Prop} {N : Nat} (w : World) (h s b : Nat) (n : Int) (p : PS) (i : Nat) (h1 : 1 ≤ i) (h2 : i < 100) (hH : ShAt w h s b n) (hS : Sim.Sys P N w s p) (hT : TabX w b) (hb : ∀ x ∈ pBytes (nm (nameP i)) p, x < 256) (hl : (pBytes (nm (nameP i)) p).length ≤ 20000000) :
    Calls Tryz.prog 16 #[.pointer (some ⟨h, 0, none⟩), .int .i64 (i : Int)] w fun e w' => Loaded w w' b e (finds p (nm (nameP i))) (scanF (ints (pBytes (nm (nameP i)) p))) := by
  have HN := hid (none_any w h s b n hH)
  have HLD := hid (load_any w.drew s b p i h1 h2 (hS.kept (Kp.refl No w).drew) (hT.kp (Kp.refl No w).drew (fun x => x)) hb hl)
  have c0 : w.cell? ⟨h, 0, none⟩ = some (.pointer (some ⟨s, 0, none⟩)) := hH.cell 0
  have c1 : w.cell? ⟨h, 1, none⟩ = some (.pointer (some ⟨b, 0, none⟩)) := hH.cell 1
  have hhl := hH.lt
  clear hH hS hT hb hl
  go_enter Tryz.func16, Tryz.ntmps16
  go_wp2_with fail
  refine HN.out.mono ?_
  rintro e w0 ⟨rfl, hw0⟩
  subst w0
  clear HN
  go_wp2_with fail
  go_region_with (go_at_call 36; refine HLD.out.mono ?_; rintro e w2 hD; obtain ⟨v, z, rfl⟩ := loaded_shape hD; have HD := hid hD; clear hD)
  all_goals
    go_wp2_with fail
    go_ret2
    show Loaded w w2 b (.returned (.tuple #[v, .int .i64 z])) _ _
    exact ⟨HD.out.1, (Crc.Kept.refl b w).drew.trans HD.out.2.1, HD.out.2.2⟩

end Go.Proofs.YtaaioaocjfpajaaGreatDoor.Sh
end
