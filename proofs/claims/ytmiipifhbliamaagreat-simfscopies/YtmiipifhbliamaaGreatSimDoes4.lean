/-
  The statements' own Step, of any kind.
-/
import Derived.Test.YtmiipifhbliamaaGreatSimDoes3
import Derived.Test.YtmiipifhbliamaaGreatSimRUp
namespace Go.Proofs.YtmiipifhbliamaaGreat.Sim
open Go.RowKit Go.Maps

theorem IntsAt.keeps {A : Nat → Prop} {w w' : World} {v : Value} {zs : List Int} (h : IntsAt A w v zs) (k : Keeps A w w') : IntsAt A w' v zs := h.kp k (fun _ hx ha => hx ha)
theorem two_up {A : Nat → Prop} {N : Nat} {w : World} {s m : Nat} {p r : PS} (h : Two A N w s p m r) (k : Int) (v : Value) (cuts : List Int) (hv : IntsAt A w v cuts) :
    Calls Tryz.prog 18 #[.pointer (some ⟨s, 0, none⟩), .int .i64 k, v] w fun e w' => e = .returned (.int .i64 0) ∧ Two A N w' s (pUp k cuts p) m r ∧ Keeps A w w' := by
  obtain ⟨P, Q, h1, h2, h3, h4⟩ := h
  refine (up_any w s p k v cuts h1 hv (fun x hx => (h4 x hx).2.1)).mono ?_
  rintro e w' ⟨rfl, hD⟩
  exact ⟨rfl, two_done hD h2 h3 h4 (Nat.le_refl _) h1.inv.big⟩
theorem two_rup {A : Nat → Prop} {N : Nat} {w : World} {s m : Nat} {p r : PS} (h : Two A N w s p m r) (k : Int) (ca : Option Addr) (cc : Nat) (cuts : List Int) (hv : IntsAt A w (.slice ca cuts.length cc) cuts) :
    Calls Tryz.prog 38 #[.pointer (some ⟨m, 0, none⟩), .int .i64 k, .slice ca cuts.length cc] w fun e w' => e = .returned (.tuple #[]) ∧ Two A N w' s p m (pUp k cuts r) ∧ Keeps A w w' := by
  obtain ⟨P, Q, h1, h2, h3, h4⟩ := h
  refine (rup_any w m r k ca cc cuts h2 hv (fun x hx => (h4 x hx).2.2)).mono ?_
  rintro e w' ⟨rfl, hD⟩
  exact ⟨rfl, two_rdone hD h1 h3 h4 (Nat.le_refl _) h1.inv.big⟩

set_option maxHeartbeats 4000000 in
set_option maxRecDepth 100000 in
theorem step8 {A : Nat → Prop} {N : Nat} {w : World} {s m : Nat} {p r : PS} (h : Two A N w s p m r) (hN : N + 2 ≤ 1000) (n t : ByteArray) (vB : Value) (z : Int) (y : Nat) (ca : Option Addr) (cc : Nat) (cuts : List Int) (hv : IntsAt A w (.slice ca cuts.length cc) cuts) :
    Calls Tryz.prog 10 #[.pointer (some ⟨s, 0, none⟩), .pointer (some ⟨m, 0, none⟩), .agg #[.int .i64 8, .string n, .string t, vB, .int .i64 z, .int .u8 (y : Int), .slice ca cuts.length cc]] w fun e w' => e = .returned (.bool true) ∧ Two A (N + 2) w' s (pUp z cuts p) m (pUp z cuts r) ∧ Keeps A w w' := by
  obtain ⟨W, hW⟩ : ∃ W, w.alloc (.cells #[.int .i64 8, .string n, .string t, vB, .int .i64 z, .int .u8 (y : Int), .slice ca cuts.length cc] 35) = W := ⟨_, rfl⟩
  obtain ⟨hT, hK, hC⟩ := box_cells h [.int .i64 8, .string n, .string t, vB, .int .i64 z, .int .u8 (y : Int), .slice ca cuts.length cc] _ hW
  have c0 := hC W (Keeps.refl _ _) 0
  have c4 := hC W (Keeps.refl _ _) 4
  have c6 := hC W (Keeps.refl _ _) 6
  have r4 := fun V k => hC V k 4
  have r6 := fun V k => hC V k 6
  simp only [List.getElem?_cons_zero, List.getElem?_cons_succ] at c0 c4 c6 r4 r6
  have R4 := hid r4
  have R6 := hid r6
  have HLA : Hid (∀ x, A x → (fun x => A x ∨ x = w.heap.size) x) := fun x hx => .inl hx
  have HT := hid hT
  have HK := hid hK
  generalize (fun x => A x ∨ x = w.heap.size) = A' at *
  have HV : Hid (IntsAt A' W (.slice ca cuts.length cc) cuts) := by
    obtain ⟨a, c, e1, e2, e3, e4, e5⟩ := hv.keeps hK
    refine ⟨a, c, e1, e2, e3, e4, fun hne => ?_⟩
    obtain ⟨g, o, f1, f2, f3⟩ := e5 hne
    exact ⟨g, o, f1, HLA.out g f2, f3⟩
  clear h hT hK hC r4 r6 hv
  go_enter Tryz.func10, Tryz.ntmps10
  go_wp2_with fail
  refine (two_rup HT.out z ca cc cuts HV.out).mono ?_
  rintro e w2 ⟨rfl, h2, k2⟩
  have H2 := hid h2
  have K2 := hid k2
  have d4 := R4.out w2 k2
  have d6 := R6.out w2 k2
  clear h2 k2 c4 c6 R4 R6
  go_wp2_with fail
  refine (two_up H2.out z _ cuts (HV.out.keeps K2.out)).mono ?_
  rintro e w3 ⟨rfl, h3, k3⟩
  have H3 := hid h3
  have K3 := hid (K2.out.trans k3)
  clear h3 k3
  go_wp2
  go_ret
  exact ⟨rfl, (H3.out.less HLA.out).more (by omega) hN, HK.out.trans (K3.out.less HLA.out)⟩

/-- What a call of any kind makes of a state, and its answer. -/
def stepQ (o : RawOp) (bs : List Nat) (cuts : List Int) (c : Nat) (p : PS) : Nat × PS := if o.k = 8 then (0, pUp o.z cuts p) else stepP o bs c p
def stepC (o : RawOp) (bs : List Nat) (cuts : List Int) (c d : Nat) (p r : PS) : Bool := if o.k = 2 then decide (pBytes (nm o.s) p = pBytes (nm o.s) r) && (finds p (nm o.s) == finds r (nm o.s)) else (stepQ o bs cuts c p).1 == (stepQ o bs cuts d r).1

set_option maxRecDepth 100000 in
theorem step_all {A : Nat → Prop} {N : Nat} {w : World} {s m : Nat} {p r : PS} (h : Two A N w s p m r) (hN : N + 2 ≤ 1000) (o : RawOp) (bs : List Nat) (cuts : List Int) (hs : o.s.size ≤ 60) (ht : o.t.size ≤ 60) (hy : ByP A w (.slice o.a o.l o.c) bs) (hl : bs.length ≤ 200) (hv : IntsAt A w (.slice o.a' o.l' o.c') cuts) (hz : o.z ≤ 9223372036854775807) (hy2 : o.y < 256) :
    Calls Tryz.prog 10 #[.pointer (some ⟨s, 0, none⟩), .pointer (some ⟨m, 0, none⟩), .agg #[.int .i64 o.k, .string o.s, .string o.t, .slice o.a o.l o.c, .int .i64 o.z, .int .u8 (o.y : Int), .slice o.a' o.l' o.c']] w fun e w' =>
      ∃ c d, (o.k = 0 → p.files c = none ∧ r.files d = none) ∧ e = .returned (.bool (stepC o bs cuts c d p r)) ∧ Two A (N + 2) w' s (stepQ o bs cuts c p).2 m (stepQ o bs cuts d r).2 ∧ Keeps A w w' := by
  by_cases h8 : o.k = 8
  · have hq : ∀ c q, stepQ o bs cuts c q = (0, pUp o.z cuts q) := fun c q => by rw [stepQ, if_pos h8]
    have hc : ∀ c d, stepC o bs cuts c d p r = true := fun c d => by rw [stepC, if_neg (by omega), hq, hq]; rfl
    have hv' := hv
    obtain ⟨a, cc, e, _⟩ := hv'
    have hl' : o.l' = cuts.length := by simp only [Value.slice.injEq] at e; exact e.2.1
    rw [h8]
    rw [hl'] at hv ⊢
    refine (step8 h hN o.s o.t _ o.z o.y o.a' o.c' cuts hv).mono ?_
    rintro e w' ⟨rfl, h2, k2⟩
    refine ⟨0, 0, fun hk => by omega, by rw [hc], ?_, k2⟩
    rw [hq, hq]
    exact h2
  · refine (step_any h hN o bs h8 hs ht hy hl hz hy2).mono ?_
    rintro e w' ⟨c, d, hcd, rfl, h2, k2⟩
    have hq : ∀ c q, stepQ o bs cuts c q = stepP o bs c q := fun c q => by rw [stepQ, if_neg h8]
    refine ⟨c, d, hcd, ?_, by rw [hq, hq]; exact h2, k2⟩
    rw [stepC, stepB, hq, hq]

end Go.Proofs.YtmiipifhbliamaaGreat.Sim
