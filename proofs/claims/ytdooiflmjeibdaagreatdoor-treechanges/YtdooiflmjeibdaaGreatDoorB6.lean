/- Of the proof: the texts TrRef6, one behind the other. -/
import Derived.Test.YtdooiflmjeibdaaGreatDoorAbb
import Derived.Test.YtdooiflmjeibdaaGreatDoorB3
section
/-
  Right, of the document.
-/
namespace Go.Proofs.YtdooiflmjeibdaaGreatDoor.Tr
open Go.RowKit

/-- What Right asks of the item at i. -/
def okAt (t : List It) (i : Nat) (x : It) : Prop := wrongB t x = false ∧ ∀ y, 0 < i → t[i - 1]? = some y → bytesBefore (tx y.1) (tx x.1) = true
theorem right_all {t : List It} (hl : t.length ≤ 60) (h : ∀ i x, t[i]? = some x → okAt t i x) : rightB t = true := by
  have h1 : risesB t = true := (rises_adj t).2 (fun i x y hx hy => (h (i + 1) y hy).2 x (by omega) (by simpa using hx))
  have h2 : t.any (wrongB t) = false := List.any_eq_false.2 (fun x hx => by
    obtain ⟨i, hi⟩ := List.mem_iff_getElem?.1 hx
    rw [(h i x hi).1]
    simp)
  rw [rightB, decide_eq_true hl, h1, h2]
  rfl
theorem right_bad {t : List It} {i : Nat} {x : It} (hx : t[i]? = some x) (h : ¬ okAt t i x) : rightB t = false := by
  cases e : rightB t with
  | false => rfl
  | true =>
    exfalso
    refine h ⟨?_, fun y hi hy => ?_⟩
    · simp only [rightB, Bool.and_eq_true] at e
      cases hw : wrongB t x with
      | false => rfl
      | true =>
        have := List.any_eq_true.2 ⟨x, List.mem_of_getElem? hx, hw⟩
        rw [this] at e
        simp at e
    · have h1 := (by simp only [rightB, Bool.and_eq_true] at e; exact e.1.2)
      obtain ⟨k, rfl⟩ : ∃ k, i = k + 1 := ⟨i - 1, by omega⟩
      exact (rises_adj t).1 h1 k y x (by simpa using hy) hx

set_option maxHeartbeats 8000000 in
set_option maxRecDepth 100000 in
theorem rright_any (w : World) (v : Value) (t : List It) (h : IRow Any w v t) (hl : t.length ≤ 100000) (hs : ∀ x ∈ t, ShortI x) :
    Calls Tryz.prog 42 #[v] w fun e w' => e = .returned (.bool (rightB t)) ∧ Kp No w w' := by
  have HROW := hid h
  have HSH := hid hs
  have HALL := hid (@right_all t)
  have HLONG : Hid (60 < t.length → rightB t = false) := fun h => by rw [rightB, decide_eq_false (by omega)]; rfl
  have HBADI := hid (fun (i : Nat) (x : It) (hx : t[i]? = some x) (hb : ¬ okAt t i x) => right_bad hx hb)
  have HDIR := hid (fun (V : World) (k : Kp No w V) (p : ByteArray) (hp : p.size ≤ 1000000) => rdir_any V v t p (h.kept k) hl hp)
  generalize rightB t = q at *
  have hcl := hid (fun (hne : t ≠ []) => h.cells hne)
  obtain ⟨a, cap, rfl, _⟩ := h.form
  obtain ⟨n, hn⟩ : ∃ n, t.length = n := ⟨_, rfl⟩
  have HN := hid hn
  rw [hn] at hl hcl HLONG HALL HDIR ⊢
  clear hn h hs HROW
  by_cases h60 : 60 < n
  · have h60I : (60 : Int) < (n : Int) := by omega
    rw [HLONG.out h60]
    go_enter Tryz.func42, Tryz.ntmps42
    go_wp2
    go_ret
    exact ⟨rfl, Kp.refl _ _⟩
  · have h60I : ¬ (60 : Int) < (n : Int) := by omega
    go_enter Tryz.func42, Tryz.ntmps42
    go_wp2_with fail
    go_loopw [3] (fun x wr => ∃ i : Nat, x = .int .i64 i ∧ i ≤ n ∧ Hid ((∀ j y, j < i → t[j]? = some y → okAt t j y) ∧ Kp No w wr)) (fun x _ => n - (intOf x).toNat)
    case atStart => exact ⟨0, rfl, Nat.zero_le _, fun j y hj => absurd hj (Nat.not_lt_zero _), Kp.refl _ _⟩
    case round =>
      obtain ⟨i, rfl, hi, HS⟩ := hrel
      by_cases hlt : i < n
      · have hltI : (i : Int) < (n : Int) := by omega
        have hi0 : (0 : Int) ≤ (i : Int) := by omega
        obtain ⟨x, hx⟩ : ∃ x, t[i]? = some x := ⟨_, List.getElem?_eq_getElem (by rw [HN.out]; omega)⟩
        have HX := hid hx
        obtain ⟨g, o, c', e, hc⟩ := hcl.out (by rintro rfl; simp at hx)
        cases e
        have HSX := hid (HSH.out x (List.mem_of_getElem? hx))
        have HOK : Hid (okAt t i x ↔ (wrongB t x = false ∧ ∀ y, 0 < i → t[i - 1]? = some y → bytesBefore (tx y.1) (tx x.1) = true)) := Iff.rfl
        have HBAD := hid (fun (hb : ¬ okAt t i x) => HBADI.out i x hx hb)
        have HWB : Hid (wrongB t x = (!(pathB (tx x.1)) || !(decide (homeF t x.1 = 0)) || decide ((if x.2.1 then 0 else 2000) < x.2.2.length))) := rfl
        have HP := hid (fun (V : World) (_ : Kp No wr V) => rpath_any x.1 (by have := HSX.out.1; omega) V)
        have HDR := hid (fun (V : World) (k : Kp No wr V) => HDIR.out V (HS.out.2.andNone k) x.1 (by have := HSX.out.1; omega))
        obtain ⟨u, c0, c1, c2, hu⟩ := hc _ HS.out.2 i x hx
        obtain ⟨au, cu, rfl, huc, hum, _⟩ := hu
        have HNXT : Hid (okAt t i x → ∀ j y, j < i + 1 → t[j]? = some y → okAt t j y) := fun ho j y hj hy => by
          by_cases e : j = i
          · subst e
            have := HX.out
            rw [hy] at this
            cases this
            exact ho
          · exact HS.out.1 j y (by omega) hy
        have HYC : Hid (0 < i → ∃ y, t[i - 1]? = some y ∧ wr.cell? ⟨g, o + (i - 1) * 3, none⟩ = some (.string y.1) ∧ ShortI y) := fun h0 => by
          obtain ⟨y, hy⟩ : ∃ y, t[i - 1]? = some y := ⟨_, List.getElem?_eq_getElem (by rw [HN.out]; omega)⟩
          obtain ⟨_, y0, _⟩ := hc _ HS.out.2 (i - 1) y hy
          exact ⟨y, hy, y0, HSH.out y (List.mem_of_getElem? hy)⟩
        have x0' : ∀ V, Kp No wr V → V.cell? ⟨g, o + i * 3, none⟩ = some (.string x.1) := fun V k => (k.cell (p := ⟨g, o + i * 3, none⟩) (World.block_lt_of_cell? _ _ c0) (fun h => h)).trans c0
        have x1' : ∀ V, Kp No wr V → V.cell? ⟨g, o + i * 3 + 1, none⟩ = some (.bool x.2.1) := fun V k => (k.cell (p := ⟨g, o + i * 3 + 1, none⟩) (World.block_lt_of_cell? _ _ c1) (fun h => h)).trans c1
        have x2' : ∀ V, Kp No wr V → V.cell? ⟨g, o + i * 3 + 2, none⟩ = some (.slice au x.2.2.length cu) := fun V k => (k.cell (p := ⟨g, o + i * 3 + 2, none⟩) (World.block_lt_of_cell? _ _ c2) (fun h => h)).trans c2
        obtain ⟨s, d, bs⟩ := x
        simp only at x0' x1' x2' HP HDR HWB HBAD HOK
        have hbl : bs.length ≤ 10000 := HSX.out.2
        generalize homeF t s = f at *
        have hwi : IntKind.i64.wrap ((i : Int) - 1) = (i : Int) - 1 := by rw [IntKind.wrap_i64]; omega
        clear hx hc
        cases hpb : pathB (tx s) with
        | false =>
          simp only [hpb] at HP HWB
          have HNO : Hid (¬ okAt t i (s, d, bs)) := fun h => by have := (HOK.out.1 h).1; rw [HWB.out] at this; simp at this
          clear hpb
          clear HNXT HWB HOK
          go_wp2_with fail
          refine wp_region_held_drew (S := fun V => Kp No wr V) (by kernel_rfl) ((Kp.refl _ _).drew) (fun hH => ?_)
          refine wpAnyH_take (i := 0) (oi := ⟨some 13, .move (.tmp 0), 22, "ref.go:95", #[], none⟩) (v := .slice (some ⟨g, o, none⟩) n cap) rfl (by kernel_rfl) (by kernel_rfl) (by kernel_rfl) (fun _ _ _ h => h) (Or.inl ⟨by rfl, fun w' hw' => by (clear hw'; go_simp)⟩) hH ?_
          simp only [Act.put, sjA, sjB, sjC]
          refine wpAnyH_take (i := 1) (oi := ⟨some 14, .move (.tmp 3), 3, "ref.go:95", #[], none⟩) (v := .int .i64 (i : Int)) rfl (by kernel_rfl) (by kernel_rfl) (by kernel_rfl) (fun _ _ _ h => h) (Or.inl ⟨by rfl, fun w' hw' => by (clear hw'; go_simp)⟩) hH ?_
          simp only [Act.put, sjA, sjB, sjC]
          refine wpAnyH_take (i := 2) (oi := ⟨some 15, .indexAddr 22 (.tmp 13) (.tmp 14), 0, "ref.go:95", #[⟨0, .data⟩, ⟨1, .data⟩], none⟩) (v := .pointer (some ⟨g, o + i * 3, none⟩)) rfl (by kernel_rfl) (by kernel_rfl) (by kernel_rfl) (fun _ _ _ h => h) (Or.inl ⟨by rfl, fun w' hw' => by (clear hw'; go_simp)⟩) hH ?_
          simp only [Act.put, sjA, sjB, sjC]
          refine wpAnyH_take (i := 3) (oi := ⟨some 16, .fieldAddr 41 (.tmp 15) 0, 0, "ref.go:95", #[⟨2, .data⟩], none⟩) (v := .pointer (some ⟨g, o + i * 3, none⟩)) rfl (by kernel_rfl) (by kernel_rfl) (by kernel_rfl) (fun _ _ _ h => h) (Or.inl ⟨by rfl, fun w' hw' => by (clear hw'; go_simp)⟩) hH ?_
          simp only [Act.put, sjA, sjB, sjC]
          refine wpAnyH_take (i := 4) (oi := ⟨some 17, .load 9 (.tmp 16), 9, "ref.go:95", #[⟨3, .data⟩], none⟩) (v := .string s) rfl (by kernel_rfl) (by kernel_rfl) (by kernel_rfl) (fun _ _ _ h => h) (Or.inl ⟨by rfl, fun w' hw' => by (have q := x0' w' hw'; clear hw'; go_simp)⟩) hH ?_
          simp only [Act.put, sjA, sjB, sjC]
          refine wpAnyH_ready (rs := [5]) (by kernel_rfl) (by simp) ?_
          refine AllReadyH.cons (o := ⟨some 18, .call { callee := .value (.func 43), args := #[.tmp 17], argTypes := #[9] }, 4, "ref.go:95", #[⟨4, .data⟩], none⟩) rfl (fun K hK => ?_) AllReadyH.nil
          go_simp
          refine (HP.out _ (Kp.refl _ _).drew).mono ?_
          rintro e w1 ⟨rfl, hk⟩
          have HK1 : Hid (Kp No wr w1) := (Kp.refl _ _).drew.andNone hk
          clear hk
          go_wp2_with fail
          refine hK.out _ _ (HK1.out) (fun hh => ?_)
          clear hK K hH
          have hH := hh
          clear hh
          try simp only [Act.put, sjA, sjB, sjC]
          refine wpAnyH_take (i := 6) (oi := ⟨some 19, .unOp .not 4 (.tmp 18), 4, "ref.go:95", #[⟨5, .data⟩], none⟩) (v := .bool true) rfl (by kernel_rfl) (by kernel_rfl) (by kernel_rfl) (fun _ _ _ h => h) (Or.inl ⟨by rfl, fun w' hw' => by (clear hw'; go_simp)⟩) hH ?_
          simp only [Act.put, sjA, sjB, sjC]
          refine wpAnyH_take (i := 7) (oi := ⟨some 20, .move (.tmp 19), 4, "ref.go:95", #[⟨6, .data⟩, ⟨5, .chain⟩], none⟩) (v := .bool true) rfl (by kernel_rfl) (by kernel_rfl) (by kernel_rfl) (fun _ _ _ h => h) (Or.inl ⟨by rfl, fun w' hw' => by (clear hw'; go_simp)⟩) hH ?_
          simp only [Act.put, sjA, sjB, sjC]
          refine wpAnyH_take (i := 8) (oi := ⟨some 21, .move (.tmp 3), 3, "ref.go:95", #[⟨7, .guard⟩], some (7, false)⟩) (v := undef) rfl (by kernel_rfl) (by kernel_rfl) (by kernel_rfl) (fun _ _ _ h => h) (Or.inr ⟨by rfl, rfl⟩) hH ?_
          simp only [Act.put, sjA, sjB, sjC]
          refine wpAnyH_take (i := 9) (oi := ⟨some 22, .binOp .gtr 3 (.tmp 21) (.const (.int .i64 0)) 3, 4, "ref.go:95", #[⟨8, .data⟩, ⟨7, .guard⟩], some (7, false)⟩) (v := undef) rfl (by kernel_rfl) (by kernel_rfl) (by kernel_rfl) (fun _ _ _ h => h) (Or.inr ⟨by rfl, rfl⟩) hH ?_
          simp only [Act.put, sjA, sjB, sjC]
          refine wpAnyH_take (i := 10) (oi := ⟨some 23, .move (.tmp 22), 4, "ref.go:95", #[⟨9, .data⟩, ⟨7, .chain⟩, ⟨7, .guard⟩], some (7, false)⟩) (v := undef) rfl (by kernel_rfl) (by kernel_rfl) (by kernel_rfl) (fun _ _ _ h => h) (Or.inr ⟨by rfl, rfl⟩) hH ?_
          simp only [Act.put, sjA, sjB, sjC]
          refine wpAnyH_take (i := 11) (oi := ⟨some 24, .move (.tmp 0), 22, "ref.go:95", #[⟨10, .guard⟩], some (10, true)⟩) (v := undef) rfl (by kernel_rfl) (by kernel_rfl) (by kernel_rfl) (fun _ _ _ h => h) (Or.inr ⟨by rfl, rfl⟩) hH ?_
          simp only [Act.put, sjA, sjB, sjC]
          refine wpAnyH_take (i := 12) (oi := ⟨some 25, .move (.tmp 3), 3, "ref.go:95", #[⟨10, .guard⟩], some (10, true)⟩) (v := undef) rfl (by kernel_rfl) (by kernel_rfl) (by kernel_rfl) (fun _ _ _ h => h) (Or.inr ⟨by rfl, rfl⟩) hH ?_
          simp only [Act.put, sjA, sjB, sjC]
          refine wpAnyH_take (i := 13) (oi := ⟨some 26, .binOp .sub 3 (.tmp 25) (.const (.int .i64 1)) 3, 3, "ref.go:95", #[⟨12, .data⟩, ⟨10, .guard⟩], some (10, true)⟩) (v := undef) rfl (by kernel_rfl) (by kernel_rfl) (by kernel_rfl) (fun _ _ _ h => h) (Or.inr ⟨by rfl, rfl⟩) hH ?_
          simp only [Act.put, sjA, sjB, sjC]
          refine wpAnyH_take (i := 14) (oi := ⟨some 27, .indexAddr 22 (.tmp 24) (.tmp 26), 0, "ref.go:95", #[⟨11, .data⟩, ⟨13, .data⟩, ⟨10, .guard⟩], some (10, true)⟩) (v := undef) rfl (by kernel_rfl) (by kernel_rfl) (by kernel_rfl) (fun _ _ _ h => h) (Or.inr ⟨by rfl, rfl⟩) hH ?_
          simp only [Act.put, sjA, sjB, sjC]
          refine wpAnyH_take (i := 15) (oi := ⟨some 28, .fieldAddr 41 (.tmp 27) 0, 0, "ref.go:95", #[⟨14, .data⟩, ⟨10, .guard⟩], some (10, true)⟩) (v := undef) rfl (by kernel_rfl) (by kernel_rfl) (by kernel_rfl) (fun _ _ _ h => h) (Or.inr ⟨by rfl, rfl⟩) hH ?_
          simp only [Act.put, sjA, sjB, sjC]
          refine wpAnyH_take (i := 16) (oi := ⟨some 29, .load 9 (.tmp 28), 9, "ref.go:95", #[⟨15, .data⟩, ⟨10, .guard⟩], some (10, true)⟩) (v := undef) rfl (by kernel_rfl) (by kernel_rfl) (by kernel_rfl) (fun _ _ _ h => h) (Or.inr ⟨by rfl, rfl⟩) hH ?_
          simp only [Act.put, sjA, sjB, sjC]
          refine wpAnyH_take (i := 17) (oi := ⟨some 30, .move (.tmp 0), 22, "ref.go:95", #[⟨10, .guard⟩], some (10, true)⟩) (v := undef) rfl (by kernel_rfl) (by kernel_rfl) (by kernel_rfl) (fun _ _ _ h => h) (Or.inr ⟨by rfl, rfl⟩) hH ?_
          simp only [Act.put, sjA, sjB, sjC]
          refine wpAnyH_take (i := 18) (oi := ⟨some 31, .move (.tmp 3), 3, "ref.go:95", #[⟨10, .guard⟩], some (10, true)⟩) (v := undef) rfl (by kernel_rfl) (by kernel_rfl) (by kernel_rfl) (fun _ _ _ h => h) (Or.inr ⟨by rfl, rfl⟩) hH ?_
          simp only [Act.put, sjA, sjB, sjC]
          refine wpAnyH_take (i := 19) (oi := ⟨some 32, .indexAddr 22 (.tmp 30) (.tmp 31), 0, "ref.go:95", #[⟨17, .data⟩, ⟨18, .data⟩, ⟨10, .guard⟩], some (10, true)⟩) (v := undef) rfl (by kernel_rfl) (by kernel_rfl) (by kernel_rfl) (fun _ _ _ h => h) (Or.inr ⟨by rfl, rfl⟩) hH ?_
          simp only [Act.put, sjA, sjB, sjC]
          refine wpAnyH_take (i := 20) (oi := ⟨some 33, .fieldAddr 41 (.tmp 32) 0, 0, "ref.go:95", #[⟨19, .data⟩, ⟨10, .guard⟩], some (10, true)⟩) (v := undef) rfl (by kernel_rfl) (by kernel_rfl) (by kernel_rfl) (fun _ _ _ h => h) (Or.inr ⟨by rfl, rfl⟩) hH ?_
          simp only [Act.put, sjA, sjB, sjC]
          refine wpAnyH_take (i := 21) (oi := ⟨some 34, .load 9 (.tmp 33), 9, "ref.go:95", #[⟨20, .data⟩, ⟨10, .guard⟩], some (10, true)⟩) (v := undef) rfl (by kernel_rfl) (by kernel_rfl) (by kernel_rfl) (fun _ _ _ h => h) (Or.inr ⟨by rfl, rfl⟩) hH ?_
          simp only [Act.put, sjA, sjB, sjC]
          refine wpAnyH_take (i := 22) (oi := ⟨some 35, .call { callee := .value (.func 61), args := #[.tmp 29, .tmp 34], argTypes := #[9, 9] }, 4, "ref.go:95", #[⟨16, .data⟩, ⟨21, .data⟩, ⟨10, .chain⟩, ⟨10, .guard⟩], some (10, true)⟩) (v := undef) rfl (by kernel_rfl) (by kernel_rfl) (by kernel_rfl) (fun _ _ _ h => h) (Or.inr ⟨by rfl, rfl⟩) hH ?_
          simp only [Act.put, sjA, sjB, sjC]
          refine wpAnyH_take (i := 23) (oi := ⟨some 36, .unOp .not 4 (.tmp 35), 4, "ref.go:95", #[⟨22, .data⟩, ⟨10, .guard⟩], some (10, true)⟩) (v := undef) rfl (by kernel_rfl) (by kernel_rfl) (by kernel_rfl) (fun _ _ _ h => h) (Or.inr ⟨by rfl, rfl⟩) hH ?_
          simp only [Act.put, sjA, sjB, sjC]
          refine wpAnyH_take (i := 24) (oi := ⟨some 37, .pick (.tmp 23) (.tmp 36) (.const (.bool false)), 4, "ref.go:95", #[⟨10, .data⟩, ⟨23, .data⟩, ⟨7, .guard⟩], some (7, false)⟩) (v := undef) rfl (by kernel_rfl) (by kernel_rfl) (by kernel_rfl) (fun _ _ _ h => h) (Or.inr ⟨by rfl, rfl⟩) hH ?_
          simp only [Act.put, sjA, sjB, sjC]
          refine wpAnyH_take (i := 25) (oi := ⟨some 38, .pick (.tmp 20) (.const (.bool true)) (.tmp 37), 4, "ref.go:95", #[⟨7, .data⟩, ⟨24, .data⟩], none⟩) (v := .bool true) rfl (by kernel_rfl) (by kernel_rfl) (by kernel_rfl) (fun _ _ _ h => h) (Or.inl ⟨by rfl, fun w' hw' => by (clear hw'; go_simp)⟩) hH ?_
          simp only [Act.put, sjA, sjB, sjC]
          refine wpAnyH_take (i := 26) (oi := ⟨some 39, .move (.tmp 38), 4, "ref.go:95", #[⟨25, .data⟩, ⟨22, .chain⟩], none⟩) (v := .bool true) rfl (by kernel_rfl) (by kernel_rfl) (by kernel_rfl) (fun _ _ _ h => h) (Or.inl ⟨by rfl, fun w' hw' => by (clear hw'; go_simp)⟩) hH ?_
          simp only [Act.put, sjA, sjB, sjC]
          refine wpAnyH_take (i := 27) (oi := ⟨some 40, .move (.tmp 0), 22, "ref.go:95", #[⟨26, .guard⟩], some (26, false)⟩) (v := undef) rfl (by kernel_rfl) (by kernel_rfl) (by kernel_rfl) (fun _ _ _ h => h) (Or.inr ⟨by rfl, rfl⟩) hH ?_
          simp only [Act.put, sjA, sjB, sjC]
          refine wpAnyH_take (i := 28) (oi := ⟨some 41, .move (.tmp 0), 22, "ref.go:95", #[⟨26, .guard⟩], some (26, false)⟩) (v := undef) rfl (by kernel_rfl) (by kernel_rfl) (by kernel_rfl) (fun _ _ _ h => h) (Or.inr ⟨by rfl, rfl⟩) hH ?_
          simp only [Act.put, sjA, sjB, sjC]
          refine wpAnyH_take (i := 29) (oi := ⟨some 42, .move (.tmp 3), 3, "ref.go:95", #[⟨26, .guard⟩], some (26, false)⟩) (v := undef) rfl (by kernel_rfl) (by kernel_rfl) (by kernel_rfl) (fun _ _ _ h => h) (Or.inr ⟨by rfl, rfl⟩) hH ?_
          simp only [Act.put, sjA, sjB, sjC]
          refine wpAnyH_take (i := 30) (oi := ⟨some 43, .indexAddr 22 (.tmp 41) (.tmp 42), 0, "ref.go:95", #[⟨28, .data⟩, ⟨29, .data⟩, ⟨26, .guard⟩], some (26, false)⟩) (v := undef) rfl (by kernel_rfl) (by kernel_rfl) (by kernel_rfl) (fun _ _ _ h => h) (Or.inr ⟨by rfl, rfl⟩) hH ?_
          simp only [Act.put, sjA, sjB, sjC]
          refine wpAnyH_take (i := 31) (oi := ⟨some 44, .fieldAddr 41 (.tmp 43) 0, 0, "ref.go:95", #[⟨30, .data⟩, ⟨26, .guard⟩], some (26, false)⟩) (v := undef) rfl (by kernel_rfl) (by kernel_rfl) (by kernel_rfl) (fun _ _ _ h => h) (Or.inr ⟨by rfl, rfl⟩) hH ?_
          simp only [Act.put, sjA, sjB, sjC]
          refine wpAnyH_take (i := 32) (oi := ⟨some 45, .load 9 (.tmp 44), 9, "ref.go:95", #[⟨31, .data⟩, ⟨26, .guard⟩], some (26, false)⟩) (v := undef) rfl (by kernel_rfl) (by kernel_rfl) (by kernel_rfl) (fun _ _ _ h => h) (Or.inr ⟨by rfl, rfl⟩) hH ?_
          simp only [Act.put, sjA, sjB, sjC]
          refine wpAnyH_take (i := 33) (oi := ⟨some 46, .call { callee := .value (.func 41), args := #[.tmp 40, .tmp 45], argTypes := #[22, 9] }, 31, "ref.go:95", #[⟨27, .data⟩, ⟨32, .data⟩, ⟨26, .chain⟩, ⟨26, .guard⟩], some (26, false)⟩) (v := undef) rfl (by kernel_rfl) (by kernel_rfl) (by kernel_rfl) (fun _ _ _ h => h) (Or.inr ⟨by rfl, rfl⟩) hH ?_
          simp only [Act.put, sjA, sjB, sjC]
          refine wpAnyH_take (i := 34) (oi := ⟨some 47, .binOp .neq 31 (.tmp 46) (.const (.int .i64 0)) 31, 4, "ref.go:95", #[⟨33, .data⟩, ⟨26, .guard⟩], some (26, false)⟩) (v := undef) rfl (by kernel_rfl) (by kernel_rfl) (by kernel_rfl) (fun _ _ _ h => h) (Or.inr ⟨by rfl, rfl⟩) hH ?_
          simp only [Act.put, sjA, sjB, sjC]
          refine wpAnyH_take (i := 35) (oi := ⟨some 48, .pick (.tmp 39) (.const (.bool true)) (.tmp 47), 4, "ref.go:95", #[⟨26, .data⟩, ⟨34, .data⟩], none⟩) (v := .bool true) rfl (by kernel_rfl) (by kernel_rfl) (by kernel_rfl) (fun _ _ _ h => h) (Or.inl ⟨by rfl, fun w' hw' => by (clear hw'; go_simp)⟩) hH ?_
          simp only [Act.put, sjA, sjB, sjC]
          refine wpAnyH_take (i := 36) (oi := ⟨some 49, .move (.tmp 48), 4, "ref.go:95", #[⟨35, .data⟩, ⟨33, .chain⟩], none⟩) (v := .bool true) rfl (by kernel_rfl) (by kernel_rfl) (by kernel_rfl) (fun _ _ _ h => h) (Or.inl ⟨by rfl, fun w' hw' => by (clear hw'; go_simp)⟩) hH ?_
          simp only [Act.put, sjA, sjB, sjC]
          refine wpAnyH_take (i := 37) (oi := ⟨some 50, .move (.tmp 0), 22, "ref.go:95", #[⟨36, .guard⟩], some (36, false)⟩) (v := undef) rfl (by kernel_rfl) (by kernel_rfl) (by kernel_rfl) (fun _ _ _ h => h) (Or.inr ⟨by rfl, rfl⟩) hH ?_
          simp only [Act.put, sjA, sjB, sjC]
          refine wpAnyH_take (i := 38) (oi := ⟨some 51, .move (.tmp 3), 3, "ref.go:95", #[⟨36, .guard⟩], some (36, false)⟩) (v := undef) rfl (by kernel_rfl) (by kernel_rfl) (by kernel_rfl) (fun _ _ _ h => h) (Or.inr ⟨by rfl, rfl⟩) hH ?_
          simp only [Act.put, sjA, sjB, sjC]
          refine wpAnyH_take (i := 39) (oi := ⟨some 52, .indexAddr 22 (.tmp 50) (.tmp 51), 0, "ref.go:95", #[⟨37, .data⟩, ⟨38, .data⟩, ⟨36, .guard⟩], some (36, false)⟩) (v := undef) rfl (by kernel_rfl) (by kernel_rfl) (by kernel_rfl) (fun _ _ _ h => h) (Or.inr ⟨by rfl, rfl⟩) hH ?_
          simp only [Act.put, sjA, sjB, sjC]
          refine wpAnyH_take (i := 40) (oi := ⟨some 53, .fieldAddr 41 (.tmp 52) 1, 0, "ref.go:95", #[⟨39, .data⟩, ⟨36, .guard⟩], some (36, false)⟩) (v := undef) rfl (by kernel_rfl) (by kernel_rfl) (by kernel_rfl) (fun _ _ _ h => h) (Or.inr ⟨by rfl, rfl⟩) hH ?_
          simp only [Act.put, sjA, sjB, sjC]
          refine wpAnyH_take (i := 41) (oi := ⟨some 54, .load 4 (.tmp 53), 4, "ref.go:95", #[⟨40, .data⟩, ⟨36, .guard⟩], some (36, false)⟩) (v := undef) rfl (by kernel_rfl) (by kernel_rfl) (by kernel_rfl) (fun _ _ _ h => h) (Or.inr ⟨by rfl, rfl⟩) hH ?_
          simp only [Act.put, sjA, sjB, sjC]
          refine wpAnyH_take (i := 42) (oi := ⟨some 55, .move (.tmp 54), 4, "ref.go:95", #[⟨41, .data⟩, ⟨36, .chain⟩, ⟨36, .guard⟩], some (36, false)⟩) (v := undef) rfl (by kernel_rfl) (by kernel_rfl) (by kernel_rfl) (fun _ _ _ h => h) (Or.inr ⟨by rfl, rfl⟩) hH ?_
          simp only [Act.put, sjA, sjB, sjC]
          refine wpAnyH_take (i := 43) (oi := ⟨some 56, .move (.tmp 0), 22, "ref.go:95", #[⟨42, .guard⟩], some (42, true)⟩) (v := undef) rfl (by kernel_rfl) (by kernel_rfl) (by kernel_rfl) (fun _ _ _ h => h) (Or.inr ⟨by rfl, rfl⟩) hH ?_
          simp only [Act.put, sjA, sjB, sjC]
          refine wpAnyH_take (i := 44) (oi := ⟨some 57, .move (.tmp 3), 3, "ref.go:95", #[⟨42, .guard⟩], some (42, true)⟩) (v := undef) rfl (by kernel_rfl) (by kernel_rfl) (by kernel_rfl) (fun _ _ _ h => h) (Or.inr ⟨by rfl, rfl⟩) hH ?_
          simp only [Act.put, sjA, sjB, sjC]
          refine wpAnyH_take (i := 45) (oi := ⟨some 58, .indexAddr 22 (.tmp 56) (.tmp 57), 0, "ref.go:95", #[⟨43, .data⟩, ⟨44, .data⟩, ⟨42, .guard⟩], some (42, true)⟩) (v := undef) rfl (by kernel_rfl) (by kernel_rfl) (by kernel_rfl) (fun _ _ _ h => h) (Or.inr ⟨by rfl, rfl⟩) hH ?_
          simp only [Act.put, sjA, sjB, sjC]
          refine wpAnyH_take (i := 46) (oi := ⟨some 59, .fieldAddr 41 (.tmp 58) 2, 0, "ref.go:95", #[⟨45, .data⟩, ⟨42, .guard⟩], some (42, true)⟩) (v := undef) rfl (by kernel_rfl) (by kernel_rfl) (by kernel_rfl) (fun _ _ _ h => h) (Or.inr ⟨by rfl, rfl⟩) hH ?_
          simp only [Act.put, sjA, sjB, sjC]
          refine wpAnyH_take (i := 47) (oi := ⟨some 60, .load 23 (.tmp 59), 23, "ref.go:95", #[⟨46, .data⟩, ⟨42, .guard⟩], some (42, true)⟩) (v := undef) rfl (by kernel_rfl) (by kernel_rfl) (by kernel_rfl) (fun _ _ _ h => h) (Or.inr ⟨by rfl, rfl⟩) hH ?_
          simp only [Act.put, sjA, sjB, sjC]
          refine wpAnyH_take (i := 48) (oi := ⟨some 61, .call { callee := .builtin Builtin.len, args := #[.tmp 60], argTypes := #[23] }, 3, "ref.go:95", #[⟨47, .data⟩, ⟨42, .guard⟩], some (42, true)⟩) (v := undef) rfl (by kernel_rfl) (by kernel_rfl) (by kernel_rfl) (fun _ _ _ h => h) (Or.inr ⟨by rfl, rfl⟩) hH ?_
          simp only [Act.put, sjA, sjB, sjC]
          refine wpAnyH_take (i := 49) (oi := ⟨some 62, .binOp .gtr 3 (.tmp 61) (.const (.int .i64 0)) 3, 4, "ref.go:95", #[⟨48, .data⟩, ⟨42, .guard⟩], some (42, true)⟩) (v := undef) rfl (by kernel_rfl) (by kernel_rfl) (by kernel_rfl) (fun _ _ _ h => h) (Or.inr ⟨by rfl, rfl⟩) hH ?_
          simp only [Act.put, sjA, sjB, sjC]
          refine wpAnyH_take (i := 50) (oi := ⟨some 63, .pick (.tmp 55) (.tmp 62) (.const (.bool false)), 4, "ref.go:95", #[⟨42, .data⟩, ⟨49, .data⟩, ⟨36, .guard⟩], some (36, false)⟩) (v := undef) rfl (by kernel_rfl) (by kernel_rfl) (by kernel_rfl) (fun _ _ _ h => h) (Or.inr ⟨by rfl, rfl⟩) hH ?_
          simp only [Act.put, sjA, sjB, sjC]
          refine wpAnyH_take (i := 51) (oi := ⟨some 64, .pick (.tmp 49) (.const (.bool true)) (.tmp 63), 4, "ref.go:95", #[⟨36, .data⟩, ⟨50, .data⟩], none⟩) (v := .bool true) rfl (by kernel_rfl) (by kernel_rfl) (by kernel_rfl) (fun _ _ _ h => h) (Or.inl ⟨by rfl, fun w' hw' => by (clear hw'; go_simp)⟩) hH ?_
          simp only [Act.put, sjA, sjB, sjC]
          refine wpAnyH_take (i := 52) (oi := ⟨some 65, .move (.tmp 64), 4, "ref.go:95", #[⟨51, .data⟩, ⟨42, .chain⟩], none⟩) (v := .bool true) rfl (by kernel_rfl) (by kernel_rfl) (by kernel_rfl) (fun _ _ _ h => h) (Or.inl ⟨by rfl, fun w' hw' => by (clear hw'; go_simp)⟩) hH ?_
          simp only [Act.put, sjA, sjB, sjC]
          refine wpAnyH_take (i := 53) (oi := ⟨some 66, .move (.tmp 0), 22, "ref.go:95", #[⟨52, .guard⟩], some (52, false)⟩) (v := undef) rfl (by kernel_rfl) (by kernel_rfl) (by kernel_rfl) (fun _ _ _ h => h) (Or.inr ⟨by rfl, rfl⟩) hH ?_
          simp only [Act.put, sjA, sjB, sjC]
          refine wpAnyH_take (i := 54) (oi := ⟨some 67, .move (.tmp 3), 3, "ref.go:95", #[⟨52, .guard⟩], some (52, false)⟩) (v := undef) rfl (by kernel_rfl) (by kernel_rfl) (by kernel_rfl) (fun _ _ _ h => h) (Or.inr ⟨by rfl, rfl⟩) hH ?_
          simp only [Act.put, sjA, sjB, sjC]
          refine wpAnyH_take (i := 55) (oi := ⟨some 68, .indexAddr 22 (.tmp 66) (.tmp 67), 0, "ref.go:95", #[⟨53, .data⟩, ⟨54, .data⟩, ⟨52, .guard⟩], some (52, false)⟩) (v := undef) rfl (by kernel_rfl) (by kernel_rfl) (by kernel_rfl) (fun _ _ _ h => h) (Or.inr ⟨by rfl, rfl⟩) hH ?_
          simp only [Act.put, sjA, sjB, sjC]
          refine wpAnyH_take (i := 56) (oi := ⟨some 69, .fieldAddr 41 (.tmp 68) 2, 0, "ref.go:95", #[⟨55, .data⟩, ⟨52, .guard⟩], some (52, false)⟩) (v := undef) rfl (by kernel_rfl) (by kernel_rfl) (by kernel_rfl) (fun _ _ _ h => h) (Or.inr ⟨by rfl, rfl⟩) hH ?_
          simp only [Act.put, sjA, sjB, sjC]
          refine wpAnyH_take (i := 57) (oi := ⟨some 70, .load 23 (.tmp 69), 23, "ref.go:95", #[⟨56, .data⟩, ⟨52, .guard⟩], some (52, false)⟩) (v := undef) rfl (by kernel_rfl) (by kernel_rfl) (by kernel_rfl) (fun _ _ _ h => h) (Or.inr ⟨by rfl, rfl⟩) hH ?_
          simp only [Act.put, sjA, sjB, sjC]
          refine wpAnyH_take (i := 58) (oi := ⟨some 71, .call { callee := .builtin Builtin.len, args := #[.tmp 70], argTypes := #[23] }, 3, "ref.go:95", #[⟨57, .data⟩, ⟨52, .guard⟩], some (52, false)⟩) (v := undef) rfl (by kernel_rfl) (by kernel_rfl) (by kernel_rfl) (fun _ _ _ h => h) (Or.inr ⟨by rfl, rfl⟩) hH ?_
          simp only [Act.put, sjA, sjB, sjC]
          refine wpAnyH_take (i := 59) (oi := ⟨some 72, .binOp .gtr 3 (.tmp 71) (.const (.int .i64 2000)) 3, 4, "ref.go:95", #[⟨58, .data⟩, ⟨52, .guard⟩], some (52, false)⟩) (v := undef) rfl (by kernel_rfl) (by kernel_rfl) (by kernel_rfl) (fun _ _ _ h => h) (Or.inr ⟨by rfl, rfl⟩) hH ?_
          simp only [Act.put, sjA, sjB, sjC]
          refine wpAnyH_take (i := 60) (oi := ⟨some 73, .pick (.tmp 65) (.const (.bool true)) (.tmp 72), 4, "ref.go:95", #[⟨52, .data⟩, ⟨59, .data⟩], none⟩) (v := .bool true) rfl (by kernel_rfl) (by kernel_rfl) (by kernel_rfl) (fun _ _ _ h => h) (Or.inl ⟨by rfl, fun w' hw' => by (clear hw'; go_simp)⟩) hH ?_
          simp only [Act.put, sjA, sjB, sjC]
          refine wpAnyH_done (by kernel_rfl) ?_ _
          clear hH x0' x1' x2'
          go_wp2_with fail
          go_ret
          refine ⟨?_, HS.out.2.andNone HK1.out⟩
          rw [HBAD.out HNO.out]
          rfl
        | true =>
          simp only [hpb] at HP HWB
          simp only [Bool.not_true, Bool.false_or] at HWB
          clear hpb
          by_cases hi1 : 0 < i
          · have hi1I : (0 : Int) < (i : Int) := by omega
            obtain ⟨y, hy, yc, hys⟩ := HYC.out hi1
            have HY := hid hy
            obtain ⟨i1, hi1e⟩ : ∃ i1, i - 1 = i1 := ⟨_, rfl⟩
            have e1 : (i : Int) - 1 = (i1 : Int) := by omega
            have e2 : (i1 : Int) < (n : Int) := by omega
            have e3 : IntKind.i64.wrap (i1 : Int) = (i1 : Int) := by rw [IntKind.wrap_i64]; omega
            rw [hi1e] at yc
            have y0' : ∀ V, Kp No wr V → V.cell? ⟨g, o + i1 * 3, none⟩ = some (.string y.1) := fun V k => (k.cell (p := ⟨g, o + i1 * 3, none⟩) (World.block_lt_of_cell? _ _ yc) (fun h => h)).trans yc
            have HLS := hid (fun (V : World) (_ : Kp No wr V) => rLess_any y.1 s (by have := hys.1; omega) (by have := HSX.out.1; simp only at this; omega) V)
            clear hy hys yc hi1e hwi
            cases hlb : bytesBefore (tx y.1) (tx s) with
            | false =>
              simp only [hlb] at HLS
              have HNO : Hid (¬ okAt t i (s, d, bs)) := fun h => by have := (HOK.out.1 h).2 y hi1 HY.out; rw [hlb] at this; cases this
              clear hlb
              clear HNXT HWB HOK
              go_wp2_with fail
              refine wp_region_held_drew (S := fun V => Kp No wr V) (by kernel_rfl) ((Kp.refl _ _).drew) (fun hH => ?_)
              refine wpAnyH_take (i := 0) (oi := ⟨some 13, .move (.tmp 0), 22, "ref.go:95", #[], none⟩) (v := .slice (some ⟨g, o, none⟩) n cap) rfl (by kernel_rfl) (by kernel_rfl) (by kernel_rfl) (fun _ _ _ h => h) (Or.inl ⟨by rfl, fun w' hw' => by (clear hw'; go_simp)⟩) hH ?_
              simp only [Act.put, sjA, sjB, sjC]
              refine wpAnyH_take (i := 1) (oi := ⟨some 14, .move (.tmp 3), 3, "ref.go:95", #[], none⟩) (v := .int .i64 (i : Int)) rfl (by kernel_rfl) (by kernel_rfl) (by kernel_rfl) (fun _ _ _ h => h) (Or.inl ⟨by rfl, fun w' hw' => by (clear hw'; go_simp)⟩) hH ?_
              simp only [Act.put, sjA, sjB, sjC]
              refine wpAnyH_take (i := 2) (oi := ⟨some 15, .indexAddr 22 (.tmp 13) (.tmp 14), 0, "ref.go:95", #[⟨0, .data⟩, ⟨1, .data⟩], none⟩) (v := .pointer (some ⟨g, o + i * 3, none⟩)) rfl (by kernel_rfl) (by kernel_rfl) (by kernel_rfl) (fun _ _ _ h => h) (Or.inl ⟨by rfl, fun w' hw' => by (clear hw'; go_simp)⟩) hH ?_
              simp only [Act.put, sjA, sjB, sjC]
              refine wpAnyH_take (i := 3) (oi := ⟨some 16, .fieldAddr 41 (.tmp 15) 0, 0, "ref.go:95", #[⟨2, .data⟩], none⟩) (v := .pointer (some ⟨g, o + i * 3, none⟩)) rfl (by kernel_rfl) (by kernel_rfl) (by kernel_rfl) (fun _ _ _ h => h) (Or.inl ⟨by rfl, fun w' hw' => by (clear hw'; go_simp)⟩) hH ?_
              simp only [Act.put, sjA, sjB, sjC]
              refine wpAnyH_take (i := 4) (oi := ⟨some 17, .load 9 (.tmp 16), 9, "ref.go:95", #[⟨3, .data⟩], none⟩) (v := .string s) rfl (by kernel_rfl) (by kernel_rfl) (by kernel_rfl) (fun _ _ _ h => h) (Or.inl ⟨by rfl, fun w' hw' => by (have q := x0' w' hw'; clear hw'; go_simp)⟩) hH ?_
              simp only [Act.put, sjA, sjB, sjC]
              refine wpAnyH_ready (rs := [5]) (by kernel_rfl) (by simp) ?_
              refine AllReadyH.cons (o := ⟨some 18, .call { callee := .value (.func 43), args := #[.tmp 17], argTypes := #[9] }, 4, "ref.go:95", #[⟨4, .data⟩], none⟩) rfl (fun K hK => ?_) AllReadyH.nil
              go_simp
              refine (HP.out _ (Kp.refl _ _).drew).mono ?_
              rintro e w1 ⟨rfl, hk⟩
              have HK1 : Hid (Kp No wr w1) := (Kp.refl _ _).drew.andNone hk
              clear hk
              go_wp2_with fail
              refine hK.out _ _ (HK1.out) (fun hh => ?_)
              clear hK K hH
              have hH := hh
              clear hh
              try simp only [Act.put, sjA, sjB, sjC]
              refine wpAnyH_take (i := 6) (oi := ⟨some 19, .unOp .not 4 (.tmp 18), 4, "ref.go:95", #[⟨5, .data⟩], none⟩) (v := .bool false) rfl (by kernel_rfl) (by kernel_rfl) (by kernel_rfl) (fun _ _ _ h => h) (Or.inl ⟨by rfl, fun w' hw' => by (clear hw'; go_simp)⟩) hH ?_
              simp only [Act.put, sjA, sjB, sjC]
              refine wpAnyH_take (i := 7) (oi := ⟨some 20, .move (.tmp 19), 4, "ref.go:95", #[⟨6, .data⟩, ⟨5, .chain⟩], none⟩) (v := .bool false) rfl (by kernel_rfl) (by kernel_rfl) (by kernel_rfl) (fun _ _ _ h => h) (Or.inl ⟨by rfl, fun w' hw' => by (clear hw'; go_simp)⟩) hH ?_
              simp only [Act.put, sjA, sjB, sjC]
              refine wpAnyH_take (i := 8) (oi := ⟨some 21, .move (.tmp 3), 3, "ref.go:95", #[⟨7, .guard⟩], some (7, false)⟩) (v := .int .i64 (i : Int)) rfl (by kernel_rfl) (by kernel_rfl) (by kernel_rfl) (fun _ _ _ h => h) (Or.inl ⟨by rfl, fun w' hw' => by (clear hw'; go_simp)⟩) hH ?_
              simp only [Act.put, sjA, sjB, sjC]
              refine wpAnyH_take (i := 9) (oi := ⟨some 22, .binOp .gtr 3 (.tmp 21) (.const (.int .i64 0)) 3, 4, "ref.go:95", #[⟨8, .data⟩, ⟨7, .guard⟩], some (7, false)⟩) (v := .bool true) rfl (by kernel_rfl) (by kernel_rfl) (by kernel_rfl) (fun _ _ _ h => h) (Or.inl ⟨by rfl, fun w' hw' => by (clear hw'; go_simp)⟩) hH ?_
              simp only [Act.put, sjA, sjB, sjC]
              refine wpAnyH_take (i := 10) (oi := ⟨some 23, .move (.tmp 22), 4, "ref.go:95", #[⟨9, .data⟩, ⟨7, .chain⟩, ⟨7, .guard⟩], some (7, false)⟩) (v := .bool true) rfl (by kernel_rfl) (by kernel_rfl) (by kernel_rfl) (fun _ _ _ h => h) (Or.inl ⟨by rfl, fun w' hw' => by (clear hw'; go_simp)⟩) hH ?_
              simp only [Act.put, sjA, sjB, sjC]
              refine wpAnyH_take (i := 11) (oi := ⟨some 24, .move (.tmp 0), 22, "ref.go:95", #[⟨10, .guard⟩], some (10, true)⟩) (v := .slice (some ⟨g, o, none⟩) n cap) rfl (by kernel_rfl) (by kernel_rfl) (by kernel_rfl) (fun _ _ _ h => h) (Or.inl ⟨by rfl, fun w' hw' => by (clear hw'; go_simp)⟩) hH ?_
              simp only [Act.put, sjA, sjB, sjC]
              refine wpAnyH_take (i := 12) (oi := ⟨some 25, .move (.tmp 3), 3, "ref.go:95", #[⟨10, .guard⟩], some (10, true)⟩) (v := .int .i64 (i : Int)) rfl (by kernel_rfl) (by kernel_rfl) (by kernel_rfl) (fun _ _ _ h => h) (Or.inl ⟨by rfl, fun w' hw' => by (clear hw'; go_simp)⟩) hH ?_
              simp only [Act.put, sjA, sjB, sjC]
              refine wpAnyH_take (i := 13) (oi := ⟨some 26, .binOp .sub 3 (.tmp 25) (.const (.int .i64 1)) 3, 3, "ref.go:95", #[⟨12, .data⟩, ⟨10, .guard⟩], some (10, true)⟩) (v := .int .i64 (i1 : Int)) rfl (by kernel_rfl) (by kernel_rfl) (by kernel_rfl) (fun _ _ _ h => h) (Or.inl ⟨by rfl, fun w' hw' => by (clear hw'; go_simp)⟩) hH ?_
              simp only [Act.put, sjA, sjB, sjC]
              refine wpAnyH_take (i := 14) (oi := ⟨some 27, .indexAddr 22 (.tmp 24) (.tmp 26), 0, "ref.go:95", #[⟨11, .data⟩, ⟨13, .data⟩, ⟨10, .guard⟩], some (10, true)⟩) (v := .pointer (some ⟨g, o + i1 * 3, none⟩)) rfl (by kernel_rfl) (by kernel_rfl) (by kernel_rfl) (fun _ _ _ h => h) (Or.inl ⟨by rfl, fun w' hw' => by (clear hw'; go_simp)⟩) hH ?_
              simp only [Act.put, sjA, sjB, sjC]
              refine wpAnyH_take (i := 15) (oi := ⟨some 28, .fieldAddr 41 (.tmp 27) 0, 0, "ref.go:95", #[⟨14, .data⟩, ⟨10, .guard⟩], some (10, true)⟩) (v := .pointer (some ⟨g, o + i1 * 3, none⟩)) rfl (by kernel_rfl) (by kernel_rfl) (by kernel_rfl) (fun _ _ _ h => h) (Or.inl ⟨by rfl, fun w' hw' => by (clear hw'; go_simp)⟩) hH ?_
              simp only [Act.put, sjA, sjB, sjC]
              refine wpAnyH_take (i := 16) (oi := ⟨some 29, .load 9 (.tmp 28), 9, "ref.go:95", #[⟨15, .data⟩, ⟨10, .guard⟩], some (10, true)⟩) (v := .string y.1) rfl (by kernel_rfl) (by kernel_rfl) (by kernel_rfl) (fun _ _ _ h => h) (Or.inl ⟨by rfl, fun w' hw' => by (have q := y0' w' hw'; clear hw'; go_simp)⟩) hH ?_
              simp only [Act.put, sjA, sjB, sjC]
              refine wpAnyH_take (i := 17) (oi := ⟨some 30, .move (.tmp 0), 22, "ref.go:95", #[⟨10, .guard⟩], some (10, true)⟩) (v := .slice (some ⟨g, o, none⟩) n cap) rfl (by kernel_rfl) (by kernel_rfl) (by kernel_rfl) (fun _ _ _ h => h) (Or.inl ⟨by rfl, fun w' hw' => by (clear hw'; go_simp)⟩) hH ?_
              simp only [Act.put, sjA, sjB, sjC]
              refine wpAnyH_take (i := 18) (oi := ⟨some 31, .move (.tmp 3), 3, "ref.go:95", #[⟨10, .guard⟩], some (10, true)⟩) (v := .int .i64 (i : Int)) rfl (by kernel_rfl) (by kernel_rfl) (by kernel_rfl) (fun _ _ _ h => h) (Or.inl ⟨by rfl, fun w' hw' => by (clear hw'; go_simp)⟩) hH ?_
              simp only [Act.put, sjA, sjB, sjC]
              refine wpAnyH_take (i := 19) (oi := ⟨some 32, .indexAddr 22 (.tmp 30) (.tmp 31), 0, "ref.go:95", #[⟨17, .data⟩, ⟨18, .data⟩, ⟨10, .guard⟩], some (10, true)⟩) (v := .pointer (some ⟨g, o + i * 3, none⟩)) rfl (by kernel_rfl) (by kernel_rfl) (by kernel_rfl) (fun _ _ _ h => h) (Or.inl ⟨by rfl, fun w' hw' => by (clear hw'; go_simp)⟩) hH ?_
              simp only [Act.put, sjA, sjB, sjC]
              refine wpAnyH_take (i := 20) (oi := ⟨some 33, .fieldAddr 41 (.tmp 32) 0, 0, "ref.go:95", #[⟨19, .data⟩, ⟨10, .guard⟩], some (10, true)⟩) (v := .pointer (some ⟨g, o + i * 3, none⟩)) rfl (by kernel_rfl) (by kernel_rfl) (by kernel_rfl) (fun _ _ _ h => h) (Or.inl ⟨by rfl, fun w' hw' => by (clear hw'; go_simp)⟩) hH ?_
              simp only [Act.put, sjA, sjB, sjC]
              refine wpAnyH_take (i := 21) (oi := ⟨some 34, .load 9 (.tmp 33), 9, "ref.go:95", #[⟨20, .data⟩, ⟨10, .guard⟩], some (10, true)⟩) (v := .string s) rfl (by kernel_rfl) (by kernel_rfl) (by kernel_rfl) (fun _ _ _ h => h) (Or.inl ⟨by rfl, fun w' hw' => by (have q := x0' w' hw'; clear hw'; go_simp)⟩) hH ?_
              simp only [Act.put, sjA, sjB, sjC]
              refine wpAnyH_ready (rs := [22]) (by kernel_rfl) (by simp) ?_
              refine AllReadyH.cons (o := ⟨some 35, .call { callee := .value (.func 61), args := #[.tmp 29, .tmp 34], argTypes := #[9, 9] }, 4, "ref.go:95", #[⟨16, .data⟩, ⟨21, .data⟩, ⟨10, .chain⟩, ⟨10, .guard⟩], some (10, true)⟩) rfl (fun K hK => ?_) AllReadyH.nil
              go_simp
              refine (HLS.out _ HK1.out).mono ?_
              rintro e w2 ⟨rfl, hk⟩
              have HK2 : Hid (Kp No wr w2) := HK1.out.andNone hk
              clear hk
              go_wp2_with fail
              refine hK.out _ _ (HK2.out) (fun hh => ?_)
              clear hK K hH
              have hH := hh
              clear hh
              try simp only [Act.put, sjA, sjB, sjC]
              refine wpAnyH_take (i := 23) (oi := ⟨some 36, .unOp .not 4 (.tmp 35), 4, "ref.go:95", #[⟨22, .data⟩, ⟨10, .guard⟩], some (10, true)⟩) (v := .bool true) rfl (by kernel_rfl) (by kernel_rfl) (by kernel_rfl) (fun _ _ _ h => h) (Or.inl ⟨by rfl, fun w' hw' => by (clear hw'; go_simp)⟩) hH ?_
              simp only [Act.put, sjA, sjB, sjC]
              refine wpAnyH_take (i := 24) (oi := ⟨some 37, .pick (.tmp 23) (.tmp 36) (.const (.bool false)), 4, "ref.go:95", #[⟨10, .data⟩, ⟨23, .data⟩, ⟨7, .guard⟩], some (7, false)⟩) (v := .bool true) rfl (by kernel_rfl) (by kernel_rfl) (by kernel_rfl) (fun _ _ _ h => h) (Or.inl ⟨by rfl, fun w' hw' => by (clear hw'; go_simp)⟩) hH ?_
              simp only [Act.put, sjA, sjB, sjC]
              refine wpAnyH_take (i := 25) (oi := ⟨some 38, .pick (.tmp 20) (.const (.bool true)) (.tmp 37), 4, "ref.go:95", #[⟨7, .data⟩, ⟨24, .data⟩], none⟩) (v := .bool true) rfl (by kernel_rfl) (by kernel_rfl) (by kernel_rfl) (fun _ _ _ h => h) (Or.inl ⟨by rfl, fun w' hw' => by (clear hw'; go_simp)⟩) hH ?_
              simp only [Act.put, sjA, sjB, sjC]
              refine wpAnyH_take (i := 26) (oi := ⟨some 39, .move (.tmp 38), 4, "ref.go:95", #[⟨25, .data⟩, ⟨22, .chain⟩], none⟩) (v := .bool true) rfl (by kernel_rfl) (by kernel_rfl) (by kernel_rfl) (fun _ _ _ h => h) (Or.inl ⟨by rfl, fun w' hw' => by (clear hw'; go_simp)⟩) hH ?_
              simp only [Act.put, sjA, sjB, sjC]
              refine wpAnyH_take (i := 27) (oi := ⟨some 40, .move (.tmp 0), 22, "ref.go:95", #[⟨26, .guard⟩], some (26, false)⟩) (v := undef) rfl (by kernel_rfl) (by kernel_rfl) (by kernel_rfl) (fun _ _ _ h => h) (Or.inr ⟨by rfl, rfl⟩) hH ?_
              simp only [Act.put, sjA, sjB, sjC]
              refine wpAnyH_take (i := 28) (oi := ⟨some 41, .move (.tmp 0), 22, "ref.go:95", #[⟨26, .guard⟩], some (26, false)⟩) (v := undef) rfl (by kernel_rfl) (by kernel_rfl) (by kernel_rfl) (fun _ _ _ h => h) (Or.inr ⟨by rfl, rfl⟩) hH ?_
              simp only [Act.put, sjA, sjB, sjC]
              refine wpAnyH_take (i := 29) (oi := ⟨some 42, .move (.tmp 3), 3, "ref.go:95", #[⟨26, .guard⟩], some (26, false)⟩) (v := undef) rfl (by kernel_rfl) (by kernel_rfl) (by kernel_rfl) (fun _ _ _ h => h) (Or.inr ⟨by rfl, rfl⟩) hH ?_
              simp only [Act.put, sjA, sjB, sjC]
              refine wpAnyH_take (i := 30) (oi := ⟨some 43, .indexAddr 22 (.tmp 41) (.tmp 42), 0, "ref.go:95", #[⟨28, .data⟩, ⟨29, .data⟩, ⟨26, .guard⟩], some (26, false)⟩) (v := undef) rfl (by kernel_rfl) (by kernel_rfl) (by kernel_rfl) (fun _ _ _ h => h) (Or.inr ⟨by rfl, rfl⟩) hH ?_
              simp only [Act.put, sjA, sjB, sjC]
              refine wpAnyH_take (i := 31) (oi := ⟨some 44, .fieldAddr 41 (.tmp 43) 0, 0, "ref.go:95", #[⟨30, .data⟩, ⟨26, .guard⟩], some (26, false)⟩) (v := undef) rfl (by kernel_rfl) (by kernel_rfl) (by kernel_rfl) (fun _ _ _ h => h) (Or.inr ⟨by rfl, rfl⟩) hH ?_
              simp only [Act.put, sjA, sjB, sjC]
              refine wpAnyH_take (i := 32) (oi := ⟨some 45, .load 9 (.tmp 44), 9, "ref.go:95", #[⟨31, .data⟩, ⟨26, .guard⟩], some (26, false)⟩) (v := undef) rfl (by kernel_rfl) (by kernel_rfl) (by kernel_rfl) (fun _ _ _ h => h) (Or.inr ⟨by rfl, rfl⟩) hH ?_
              simp only [Act.put, sjA, sjB, sjC]
              refine wpAnyH_take (i := 33) (oi := ⟨some 46, .call { callee := .value (.func 41), args := #[.tmp 40, .tmp 45], argTypes := #[22, 9] }, 31, "ref.go:95", #[⟨27, .data⟩, ⟨32, .data⟩, ⟨26, .chain⟩, ⟨26, .guard⟩], some (26, false)⟩) (v := undef) rfl (by kernel_rfl) (by kernel_rfl) (by kernel_rfl) (fun _ _ _ h => h) (Or.inr ⟨by rfl, rfl⟩) hH ?_
              simp only [Act.put, sjA, sjB, sjC]
              refine wpAnyH_take (i := 34) (oi := ⟨some 47, .binOp .neq 31 (.tmp 46) (.const (.int .i64 0)) 31, 4, "ref.go:95", #[⟨33, .data⟩, ⟨26, .guard⟩], some (26, false)⟩) (v := undef) rfl (by kernel_rfl) (by kernel_rfl) (by kernel_rfl) (fun _ _ _ h => h) (Or.inr ⟨by rfl, rfl⟩) hH ?_
              simp only [Act.put, sjA, sjB, sjC]
              refine wpAnyH_take (i := 35) (oi := ⟨some 48, .pick (.tmp 39) (.const (.bool true)) (.tmp 47), 4, "ref.go:95", #[⟨26, .data⟩, ⟨34, .data⟩], none⟩) (v := .bool true) rfl (by kernel_rfl) (by kernel_rfl) (by kernel_rfl) (fun _ _ _ h => h) (Or.inl ⟨by rfl, fun w' hw' => by (clear hw'; go_simp)⟩) hH ?_
              simp only [Act.put, sjA, sjB, sjC]
              refine wpAnyH_take (i := 36) (oi := ⟨some 49, .move (.tmp 48), 4, "ref.go:95", #[⟨35, .data⟩, ⟨33, .chain⟩], none⟩) (v := .bool true) rfl (by kernel_rfl) (by kernel_rfl) (by kernel_rfl) (fun _ _ _ h => h) (Or.inl ⟨by rfl, fun w' hw' => by (clear hw'; go_simp)⟩) hH ?_
              simp only [Act.put, sjA, sjB, sjC]
              refine wpAnyH_take (i := 37) (oi := ⟨some 50, .move (.tmp 0), 22, "ref.go:95", #[⟨36, .guard⟩], some (36, false)⟩) (v := undef) rfl (by kernel_rfl) (by kernel_rfl) (by kernel_rfl) (fun _ _ _ h => h) (Or.inr ⟨by rfl, rfl⟩) hH ?_
              simp only [Act.put, sjA, sjB, sjC]
              refine wpAnyH_take (i := 38) (oi := ⟨some 51, .move (.tmp 3), 3, "ref.go:95", #[⟨36, .guard⟩], some (36, false)⟩) (v := undef) rfl (by kernel_rfl) (by kernel_rfl) (by kernel_rfl) (fun _ _ _ h => h) (Or.inr ⟨by rfl, rfl⟩) hH ?_
              simp only [Act.put, sjA, sjB, sjC]
              refine wpAnyH_take (i := 39) (oi := ⟨some 52, .indexAddr 22 (.tmp 50) (.tmp 51), 0, "ref.go:95", #[⟨37, .data⟩, ⟨38, .data⟩, ⟨36, .guard⟩], some (36, false)⟩) (v := undef) rfl (by kernel_rfl) (by kernel_rfl) (by kernel_rfl) (fun _ _ _ h => h) (Or.inr ⟨by rfl, rfl⟩) hH ?_
              simp only [Act.put, sjA, sjB, sjC]
              refine wpAnyH_take (i := 40) (oi := ⟨some 53, .fieldAddr 41 (.tmp 52) 1, 0, "ref.go:95", #[⟨39, .data⟩, ⟨36, .guard⟩], some (36, false)⟩) (v := undef) rfl (by kernel_rfl) (by kernel_rfl) (by kernel_rfl) (fun _ _ _ h => h) (Or.inr ⟨by rfl, rfl⟩) hH ?_
              simp only [Act.put, sjA, sjB, sjC]
              refine wpAnyH_take (i := 41) (oi := ⟨some 54, .load 4 (.tmp 53), 4, "ref.go:95", #[⟨40, .data⟩, ⟨36, .guard⟩], some (36, false)⟩) (v := undef) rfl (by kernel_rfl) (by kernel_rfl) (by kernel_rfl) (fun _ _ _ h => h) (Or.inr ⟨by rfl, rfl⟩) hH ?_
              simp only [Act.put, sjA, sjB, sjC]
              refine wpAnyH_take (i := 42) (oi := ⟨some 55, .move (.tmp 54), 4, "ref.go:95", #[⟨41, .data⟩, ⟨36, .chain⟩, ⟨36, .guard⟩], some (36, false)⟩) (v := undef) rfl (by kernel_rfl) (by kernel_rfl) (by kernel_rfl) (fun _ _ _ h => h) (Or.inr ⟨by rfl, rfl⟩) hH ?_
              simp only [Act.put, sjA, sjB, sjC]
              refine wpAnyH_take (i := 43) (oi := ⟨some 56, .move (.tmp 0), 22, "ref.go:95", #[⟨42, .guard⟩], some (42, true)⟩) (v := undef) rfl (by kernel_rfl) (by kernel_rfl) (by kernel_rfl) (fun _ _ _ h => h) (Or.inr ⟨by rfl, rfl⟩) hH ?_
              simp only [Act.put, sjA, sjB, sjC]
              refine wpAnyH_take (i := 44) (oi := ⟨some 57, .move (.tmp 3), 3, "ref.go:95", #[⟨42, .guard⟩], some (42, true)⟩) (v := undef) rfl (by kernel_rfl) (by kernel_rfl) (by kernel_rfl) (fun _ _ _ h => h) (Or.inr ⟨by rfl, rfl⟩) hH ?_
              simp only [Act.put, sjA, sjB, sjC]
              refine wpAnyH_take (i := 45) (oi := ⟨some 58, .indexAddr 22 (.tmp 56) (.tmp 57), 0, "ref.go:95", #[⟨43, .data⟩, ⟨44, .data⟩, ⟨42, .guard⟩], some (42, true)⟩) (v := undef) rfl (by kernel_rfl) (by kernel_rfl) (by kernel_rfl) (fun _ _ _ h => h) (Or.inr ⟨by rfl, rfl⟩) hH ?_
              simp only [Act.put, sjA, sjB, sjC]
              refine wpAnyH_take (i := 46) (oi := ⟨some 59, .fieldAddr 41 (.tmp 58) 2, 0, "ref.go:95", #[⟨45, .data⟩, ⟨42, .guard⟩], some (42, true)⟩) (v := undef) rfl (by kernel_rfl) (by kernel_rfl) (by kernel_rfl) (fun _ _ _ h => h) (Or.inr ⟨by rfl, rfl⟩) hH ?_
              simp only [Act.put, sjA, sjB, sjC]
              refine wpAnyH_take (i := 47) (oi := ⟨some 60, .load 23 (.tmp 59), 23, "ref.go:95", #[⟨46, .data⟩, ⟨42, .guard⟩], some (42, true)⟩) (v := undef) rfl (by kernel_rfl) (by kernel_rfl) (by kernel_rfl) (fun _ _ _ h => h) (Or.inr ⟨by rfl, rfl⟩) hH ?_
              simp only [Act.put, sjA, sjB, sjC]
              refine wpAnyH_take (i := 48) (oi := ⟨some 61, .call { callee := .builtin Builtin.len, args := #[.tmp 60], argTypes := #[23] }, 3, "ref.go:95", #[⟨47, .data⟩, ⟨42, .guard⟩], some (42, true)⟩) (v := undef) rfl (by kernel_rfl) (by kernel_rfl) (by kernel_rfl) (fun _ _ _ h => h) (Or.inr ⟨by rfl, rfl⟩) hH ?_
              simp only [Act.put, sjA, sjB, sjC]
              refine wpAnyH_take (i := 49) (oi := ⟨some 62, .binOp .gtr 3 (.tmp 61) (.const (.int .i64 0)) 3, 4, "ref.go:95", #[⟨48, .data⟩, ⟨42, .guard⟩], some (42, true)⟩) (v := undef) rfl (by kernel_rfl) (by kernel_rfl) (by kernel_rfl) (fun _ _ _ h => h) (Or.inr ⟨by rfl, rfl⟩) hH ?_
              simp only [Act.put, sjA, sjB, sjC]
              refine wpAnyH_take (i := 50) (oi := ⟨some 63, .pick (.tmp 55) (.tmp 62) (.const (.bool false)), 4, "ref.go:95", #[⟨42, .data⟩, ⟨49, .data⟩, ⟨36, .guard⟩], some (36, false)⟩) (v := undef) rfl (by kernel_rfl) (by kernel_rfl) (by kernel_rfl) (fun _ _ _ h => h) (Or.inr ⟨by rfl, rfl⟩) hH ?_
              simp only [Act.put, sjA, sjB, sjC]
              refine wpAnyH_take (i := 51) (oi := ⟨some 64, .pick (.tmp 49) (.const (.bool true)) (.tmp 63), 4, "ref.go:95", #[⟨36, .data⟩, ⟨50, .data⟩], none⟩) (v := .bool true) rfl (by kernel_rfl) (by kernel_rfl) (by kernel_rfl) (fun _ _ _ h => h) (Or.inl ⟨by rfl, fun w' hw' => by (clear hw'; go_simp)⟩) hH ?_
              simp only [Act.put, sjA, sjB, sjC]
              refine wpAnyH_take (i := 52) (oi := ⟨some 65, .move (.tmp 64), 4, "ref.go:95", #[⟨51, .data⟩, ⟨42, .chain⟩], none⟩) (v := .bool true) rfl (by kernel_rfl) (by kernel_rfl) (by kernel_rfl) (fun _ _ _ h => h) (Or.inl ⟨by rfl, fun w' hw' => by (clear hw'; go_simp)⟩) hH ?_
              simp only [Act.put, sjA, sjB, sjC]
              refine wpAnyH_take (i := 53) (oi := ⟨some 66, .move (.tmp 0), 22, "ref.go:95", #[⟨52, .guard⟩], some (52, false)⟩) (v := undef) rfl (by kernel_rfl) (by kernel_rfl) (by kernel_rfl) (fun _ _ _ h => h) (Or.inr ⟨by rfl, rfl⟩) hH ?_
              simp only [Act.put, sjA, sjB, sjC]
              refine wpAnyH_take (i := 54) (oi := ⟨some 67, .move (.tmp 3), 3, "ref.go:95", #[⟨52, .guard⟩], some (52, false)⟩) (v := undef) rfl (by kernel_rfl) (by kernel_rfl) (by kernel_rfl) (fun _ _ _ h => h) (Or.inr ⟨by rfl, rfl⟩) hH ?_
              simp only [Act.put, sjA, sjB, sjC]
              refine wpAnyH_take (i := 55) (oi := ⟨some 68, .indexAddr 22 (.tmp 66) (.tmp 67), 0, "ref.go:95", #[⟨53, .data⟩, ⟨54, .data⟩, ⟨52, .guard⟩], some (52, false)⟩) (v := undef) rfl (by kernel_rfl) (by kernel_rfl) (by kernel_rfl) (fun _ _ _ h => h) (Or.inr ⟨by rfl, rfl⟩) hH ?_
              simp only [Act.put, sjA, sjB, sjC]
              refine wpAnyH_take (i := 56) (oi := ⟨some 69, .fieldAddr 41 (.tmp 68) 2, 0, "ref.go:95", #[⟨55, .data⟩, ⟨52, .guard⟩], some (52, false)⟩) (v := undef) rfl (by kernel_rfl) (by kernel_rfl) (by kernel_rfl) (fun _ _ _ h => h) (Or.inr ⟨by rfl, rfl⟩) hH ?_
              simp only [Act.put, sjA, sjB, sjC]
              refine wpAnyH_take (i := 57) (oi := ⟨some 70, .load 23 (.tmp 69), 23, "ref.go:95", #[⟨56, .data⟩, ⟨52, .guard⟩], some (52, false)⟩) (v := undef) rfl (by kernel_rfl) (by kernel_rfl) (by kernel_rfl) (fun _ _ _ h => h) (Or.inr ⟨by rfl, rfl⟩) hH ?_
              simp only [Act.put, sjA, sjB, sjC]
              refine wpAnyH_take (i := 58) (oi := ⟨some 71, .call { callee := .builtin Builtin.len, args := #[.tmp 70], argTypes := #[23] }, 3, "ref.go:95", #[⟨57, .data⟩, ⟨52, .guard⟩], some (52, false)⟩) (v := undef) rfl (by kernel_rfl) (by kernel_rfl) (by kernel_rfl) (fun _ _ _ h => h) (Or.inr ⟨by rfl, rfl⟩) hH ?_
              simp only [Act.put, sjA, sjB, sjC]
              refine wpAnyH_take (i := 59) (oi := ⟨some 72, .binOp .gtr 3 (.tmp 71) (.const (.int .i64 2000)) 3, 4, "ref.go:95", #[⟨58, .data⟩, ⟨52, .guard⟩], some (52, false)⟩) (v := undef) rfl (by kernel_rfl) (by kernel_rfl) (by kernel_rfl) (fun _ _ _ h => h) (Or.inr ⟨by rfl, rfl⟩) hH ?_
              simp only [Act.put, sjA, sjB, sjC]
              refine wpAnyH_take (i := 60) (oi := ⟨some 73, .pick (.tmp 65) (.const (.bool true)) (.tmp 72), 4, "ref.go:95", #[⟨52, .data⟩, ⟨59, .data⟩], none⟩) (v := .bool true) rfl (by kernel_rfl) (by kernel_rfl) (by kernel_rfl) (fun _ _ _ h => h) (Or.inl ⟨by rfl, fun w' hw' => by (clear hw'; go_simp)⟩) hH ?_
              simp only [Act.put, sjA, sjB, sjC]
              refine wpAnyH_done (by kernel_rfl) ?_ _
              clear hH x0' x1' x2'
              go_wp2_with fail
              go_ret
              refine ⟨?_, HS.out.2.andNone HK2.out⟩
              rw [HBAD.out HNO.out]
              rfl
            | true =>
              simp only [hlb] at HLS
              have HOY : Hid (∀ z, 0 < i → t[i - 1]? = some z → bytesBefore (tx z.1) (tx s) = true) := fun z _ hz => by rw [HY.out] at hz; cases hz; exact hlb
              clear hlb
              by_cases hf : f = 0
              · subst hf
                by_cases hm : (if d then 0 else 2000) < bs.length
                · have HNO : Hid (¬ okAt t i (s, d, bs)) := fun h => by have := (HOK.out.1 h).1; rw [HWB.out, decide_eq_true hm] at this; simp at this
                  cases d
                  · have hmI : (2000 : Int) < (bs.length : Int) := by simp at hm; omega
                    clear hm
                    clear HNXT HWB HOK
                    go_wp2_with fail
                    refine wp_region_held_drew (S := fun V => Kp No wr V) (by kernel_rfl) ((Kp.refl _ _).drew) (fun hH => ?_)
                    refine wpAnyH_take (i := 0) (oi := ⟨some 13, .move (.tmp 0), 22, "ref.go:95", #[], none⟩) (v := .slice (some ⟨g, o, none⟩) n cap) rfl (by kernel_rfl) (by kernel_rfl) (by kernel_rfl) (fun _ _ _ h => h) (Or.inl ⟨by rfl, fun w' hw' => by (clear hw'; go_simp)⟩) hH ?_
                    simp only [Act.put, sjA, sjB, sjC]
                    refine wpAnyH_take (i := 1) (oi := ⟨some 14, .move (.tmp 3), 3, "ref.go:95", #[], none⟩) (v := .int .i64 (i : Int)) rfl (by kernel_rfl) (by kernel_rfl) (by kernel_rfl) (fun _ _ _ h => h) (Or.inl ⟨by rfl, fun w' hw' => by (clear hw'; go_simp)⟩) hH ?_
                    simp only [Act.put, sjA, sjB, sjC]
                    refine wpAnyH_take (i := 2) (oi := ⟨some 15, .indexAddr 22 (.tmp 13) (.tmp 14), 0, "ref.go:95", #[⟨0, .data⟩, ⟨1, .data⟩], none⟩) (v := .pointer (some ⟨g, o + i * 3, none⟩)) rfl (by kernel_rfl) (by kernel_rfl) (by kernel_rfl) (fun _ _ _ h => h) (Or.inl ⟨by rfl, fun w' hw' => by (clear hw'; go_simp)⟩) hH ?_
                    simp only [Act.put, sjA, sjB, sjC]
                    refine wpAnyH_take (i := 3) (oi := ⟨some 16, .fieldAddr 41 (.tmp 15) 0, 0, "ref.go:95", #[⟨2, .data⟩], none⟩) (v := .pointer (some ⟨g, o + i * 3, none⟩)) rfl (by kernel_rfl) (by kernel_rfl) (by kernel_rfl) (fun _ _ _ h => h) (Or.inl ⟨by rfl, fun w' hw' => by (clear hw'; go_simp)⟩) hH ?_
                    simp only [Act.put, sjA, sjB, sjC]
                    refine wpAnyH_take (i := 4) (oi := ⟨some 17, .load 9 (.tmp 16), 9, "ref.go:95", #[⟨3, .data⟩], none⟩) (v := .string s) rfl (by kernel_rfl) (by kernel_rfl) (by kernel_rfl) (fun _ _ _ h => h) (Or.inl ⟨by rfl, fun w' hw' => by (have q := x0' w' hw'; clear hw'; go_simp)⟩) hH ?_
                    simp only [Act.put, sjA, sjB, sjC]
                    refine wpAnyH_ready (rs := [5]) (by kernel_rfl) (by simp) ?_
                    refine AllReadyH.cons (o := ⟨some 18, .call { callee := .value (.func 43), args := #[.tmp 17], argTypes := #[9] }, 4, "ref.go:95", #[⟨4, .data⟩], none⟩) rfl (fun K hK => ?_) AllReadyH.nil
                    go_simp
                    refine (HP.out _ (Kp.refl _ _).drew).mono ?_
                    rintro e w1 ⟨rfl, hk⟩
                    have HK1 : Hid (Kp No wr w1) := (Kp.refl _ _).drew.andNone hk
                    clear hk
                    go_wp2_with fail
                    refine hK.out _ _ (HK1.out) (fun hh => ?_)
                    clear hK K hH
                    have hH := hh
                    clear hh
                    try simp only [Act.put, sjA, sjB, sjC]
                    refine wpAnyH_take (i := 6) (oi := ⟨some 19, .unOp .not 4 (.tmp 18), 4, "ref.go:95", #[⟨5, .data⟩], none⟩) (v := .bool false) rfl (by kernel_rfl) (by kernel_rfl) (by kernel_rfl) (fun _ _ _ h => h) (Or.inl ⟨by rfl, fun w' hw' => by (clear hw'; go_simp)⟩) hH ?_
                    simp only [Act.put, sjA, sjB, sjC]
                    refine wpAnyH_take (i := 7) (oi := ⟨some 20, .move (.tmp 19), 4, "ref.go:95", #[⟨6, .data⟩, ⟨5, .chain⟩], none⟩) (v := .bool false) rfl (by kernel_rfl) (by kernel_rfl) (by kernel_rfl) (fun _ _ _ h => h) (Or.inl ⟨by rfl, fun w' hw' => by (clear hw'; go_simp)⟩) hH ?_
                    simp only [Act.put, sjA, sjB, sjC]
                    refine wpAnyH_take (i := 8) (oi := ⟨some 21, .move (.tmp 3), 3, "ref.go:95", #[⟨7, .guard⟩], some (7, false)⟩) (v := .int .i64 (i : Int)) rfl (by kernel_rfl) (by kernel_rfl) (by kernel_rfl) (fun _ _ _ h => h) (Or.inl ⟨by rfl, fun w' hw' => by (clear hw'; go_simp)⟩) hH ?_
                    simp only [Act.put, sjA, sjB, sjC]
                    refine wpAnyH_take (i := 9) (oi := ⟨some 22, .binOp .gtr 3 (.tmp 21) (.const (.int .i64 0)) 3, 4, "ref.go:95", #[⟨8, .data⟩, ⟨7, .guard⟩], some (7, false)⟩) (v := .bool true) rfl (by kernel_rfl) (by kernel_rfl) (by kernel_rfl) (fun _ _ _ h => h) (Or.inl ⟨by rfl, fun w' hw' => by (clear hw'; go_simp)⟩) hH ?_
                    simp only [Act.put, sjA, sjB, sjC]
                    refine wpAnyH_take (i := 10) (oi := ⟨some 23, .move (.tmp 22), 4, "ref.go:95", #[⟨9, .data⟩, ⟨7, .chain⟩, ⟨7, .guard⟩], some (7, false)⟩) (v := .bool true) rfl (by kernel_rfl) (by kernel_rfl) (by kernel_rfl) (fun _ _ _ h => h) (Or.inl ⟨by rfl, fun w' hw' => by (clear hw'; go_simp)⟩) hH ?_
                    simp only [Act.put, sjA, sjB, sjC]
                    refine wpAnyH_take (i := 11) (oi := ⟨some 24, .move (.tmp 0), 22, "ref.go:95", #[⟨10, .guard⟩], some (10, true)⟩) (v := .slice (some ⟨g, o, none⟩) n cap) rfl (by kernel_rfl) (by kernel_rfl) (by kernel_rfl) (fun _ _ _ h => h) (Or.inl ⟨by rfl, fun w' hw' => by (clear hw'; go_simp)⟩) hH ?_
                    simp only [Act.put, sjA, sjB, sjC]
                    refine wpAnyH_take (i := 12) (oi := ⟨some 25, .move (.tmp 3), 3, "ref.go:95", #[⟨10, .guard⟩], some (10, true)⟩) (v := .int .i64 (i : Int)) rfl (by kernel_rfl) (by kernel_rfl) (by kernel_rfl) (fun _ _ _ h => h) (Or.inl ⟨by rfl, fun w' hw' => by (clear hw'; go_simp)⟩) hH ?_
                    simp only [Act.put, sjA, sjB, sjC]
                    refine wpAnyH_take (i := 13) (oi := ⟨some 26, .binOp .sub 3 (.tmp 25) (.const (.int .i64 1)) 3, 3, "ref.go:95", #[⟨12, .data⟩, ⟨10, .guard⟩], some (10, true)⟩) (v := .int .i64 (i1 : Int)) rfl (by kernel_rfl) (by kernel_rfl) (by kernel_rfl) (fun _ _ _ h => h) (Or.inl ⟨by rfl, fun w' hw' => by (clear hw'; go_simp)⟩) hH ?_
                    simp only [Act.put, sjA, sjB, sjC]
                    refine wpAnyH_take (i := 14) (oi := ⟨some 27, .indexAddr 22 (.tmp 24) (.tmp 26), 0, "ref.go:95", #[⟨11, .data⟩, ⟨13, .data⟩, ⟨10, .guard⟩], some (10, true)⟩) (v := .pointer (some ⟨g, o + i1 * 3, none⟩)) rfl (by kernel_rfl) (by kernel_rfl) (by kernel_rfl) (fun _ _ _ h => h) (Or.inl ⟨by rfl, fun w' hw' => by (clear hw'; go_simp)⟩) hH ?_
                    simp only [Act.put, sjA, sjB, sjC]
                    refine wpAnyH_take (i := 15) (oi := ⟨some 28, .fieldAddr 41 (.tmp 27) 0, 0, "ref.go:95", #[⟨14, .data⟩, ⟨10, .guard⟩], some (10, true)⟩) (v := .pointer (some ⟨g, o + i1 * 3, none⟩)) rfl (by kernel_rfl) (by kernel_rfl) (by kernel_rfl) (fun _ _ _ h => h) (Or.inl ⟨by rfl, fun w' hw' => by (clear hw'; go_simp)⟩) hH ?_
                    simp only [Act.put, sjA, sjB, sjC]
                    refine wpAnyH_take (i := 16) (oi := ⟨some 29, .load 9 (.tmp 28), 9, "ref.go:95", #[⟨15, .data⟩, ⟨10, .guard⟩], some (10, true)⟩) (v := .string y.1) rfl (by kernel_rfl) (by kernel_rfl) (by kernel_rfl) (fun _ _ _ h => h) (Or.inl ⟨by rfl, fun w' hw' => by (have q := y0' w' hw'; clear hw'; go_simp)⟩) hH ?_
                    simp only [Act.put, sjA, sjB, sjC]
                    refine wpAnyH_take (i := 17) (oi := ⟨some 30, .move (.tmp 0), 22, "ref.go:95", #[⟨10, .guard⟩], some (10, true)⟩) (v := .slice (some ⟨g, o, none⟩) n cap) rfl (by kernel_rfl) (by kernel_rfl) (by kernel_rfl) (fun _ _ _ h => h) (Or.inl ⟨by rfl, fun w' hw' => by (clear hw'; go_simp)⟩) hH ?_
                    simp only [Act.put, sjA, sjB, sjC]
                    refine wpAnyH_take (i := 18) (oi := ⟨some 31, .move (.tmp 3), 3, "ref.go:95", #[⟨10, .guard⟩], some (10, true)⟩) (v := .int .i64 (i : Int)) rfl (by kernel_rfl) (by kernel_rfl) (by kernel_rfl) (fun _ _ _ h => h) (Or.inl ⟨by rfl, fun w' hw' => by (clear hw'; go_simp)⟩) hH ?_
                    simp only [Act.put, sjA, sjB, sjC]
                    refine wpAnyH_take (i := 19) (oi := ⟨some 32, .indexAddr 22 (.tmp 30) (.tmp 31), 0, "ref.go:95", #[⟨17, .data⟩, ⟨18, .data⟩, ⟨10, .guard⟩], some (10, true)⟩) (v := .pointer (some ⟨g, o + i * 3, none⟩)) rfl (by kernel_rfl) (by kernel_rfl) (by kernel_rfl) (fun _ _ _ h => h) (Or.inl ⟨by rfl, fun w' hw' => by (clear hw'; go_simp)⟩) hH ?_
                    simp only [Act.put, sjA, sjB, sjC]
                    refine wpAnyH_take (i := 20) (oi := ⟨some 33, .fieldAddr 41 (.tmp 32) 0, 0, "ref.go:95", #[⟨19, .data⟩, ⟨10, .guard⟩], some (10, true)⟩) (v := .pointer (some ⟨g, o + i * 3, none⟩)) rfl (by kernel_rfl) (by kernel_rfl) (by kernel_rfl) (fun _ _ _ h => h) (Or.inl ⟨by rfl, fun w' hw' => by (clear hw'; go_simp)⟩) hH ?_
                    simp only [Act.put, sjA, sjB, sjC]
                    refine wpAnyH_take (i := 21) (oi := ⟨some 34, .load 9 (.tmp 33), 9, "ref.go:95", #[⟨20, .data⟩, ⟨10, .guard⟩], some (10, true)⟩) (v := .string s) rfl (by kernel_rfl) (by kernel_rfl) (by kernel_rfl) (fun _ _ _ h => h) (Or.inl ⟨by rfl, fun w' hw' => by (have q := x0' w' hw'; clear hw'; go_simp)⟩) hH ?_
                    simp only [Act.put, sjA, sjB, sjC]
                    refine wpAnyH_ready (rs := [22]) (by kernel_rfl) (by simp) ?_
                    refine AllReadyH.cons (o := ⟨some 35, .call { callee := .value (.func 61), args := #[.tmp 29, .tmp 34], argTypes := #[9, 9] }, 4, "ref.go:95", #[⟨16, .data⟩, ⟨21, .data⟩, ⟨10, .chain⟩, ⟨10, .guard⟩], some (10, true)⟩) rfl (fun K hK => ?_) AllReadyH.nil
                    go_simp
                    refine (HLS.out _ HK1.out).mono ?_
                    rintro e w2 ⟨rfl, hk⟩
                    have HK2 : Hid (Kp No wr w2) := HK1.out.andNone hk
                    clear hk
                    go_wp2_with fail
                    refine hK.out _ _ (HK2.out) (fun hh => ?_)
                    clear hK K hH
                    have hH := hh
                    clear hh
                    try simp only [Act.put, sjA, sjB, sjC]
                    refine wpAnyH_take (i := 23) (oi := ⟨some 36, .unOp .not 4 (.tmp 35), 4, "ref.go:95", #[⟨22, .data⟩, ⟨10, .guard⟩], some (10, true)⟩) (v := .bool false) rfl (by kernel_rfl) (by kernel_rfl) (by kernel_rfl) (fun _ _ _ h => h) (Or.inl ⟨by rfl, fun w' hw' => by (clear hw'; go_simp)⟩) hH ?_
                    simp only [Act.put, sjA, sjB, sjC]
                    refine wpAnyH_take (i := 24) (oi := ⟨some 37, .pick (.tmp 23) (.tmp 36) (.const (.bool false)), 4, "ref.go:95", #[⟨10, .data⟩, ⟨23, .data⟩, ⟨7, .guard⟩], some (7, false)⟩) (v := .bool false) rfl (by kernel_rfl) (by kernel_rfl) (by kernel_rfl) (fun _ _ _ h => h) (Or.inl ⟨by rfl, fun w' hw' => by (clear hw'; go_simp)⟩) hH ?_
                    simp only [Act.put, sjA, sjB, sjC]
                    refine wpAnyH_take (i := 25) (oi := ⟨some 38, .pick (.tmp 20) (.const (.bool true)) (.tmp 37), 4, "ref.go:95", #[⟨7, .data⟩, ⟨24, .data⟩], none⟩) (v := .bool false) rfl (by kernel_rfl) (by kernel_rfl) (by kernel_rfl) (fun _ _ _ h => h) (Or.inl ⟨by rfl, fun w' hw' => by (clear hw'; go_simp)⟩) hH ?_
                    simp only [Act.put, sjA, sjB, sjC]
                    refine wpAnyH_take (i := 26) (oi := ⟨some 39, .move (.tmp 38), 4, "ref.go:95", #[⟨25, .data⟩, ⟨22, .chain⟩], none⟩) (v := .bool false) rfl (by kernel_rfl) (by kernel_rfl) (by kernel_rfl) (fun _ _ _ h => h) (Or.inl ⟨by rfl, fun w' hw' => by (clear hw'; go_simp)⟩) hH ?_
                    simp only [Act.put, sjA, sjB, sjC]
                    refine wpAnyH_take (i := 27) (oi := ⟨some 40, .move (.tmp 0), 22, "ref.go:95", #[⟨26, .guard⟩], some (26, false)⟩) (v := .slice (some ⟨g, o, none⟩) n cap) rfl (by kernel_rfl) (by kernel_rfl) (by kernel_rfl) (fun _ _ _ h => h) (Or.inl ⟨by rfl, fun w' hw' => by (clear hw'; go_simp)⟩) hH ?_
                    simp only [Act.put, sjA, sjB, sjC]
                    refine wpAnyH_take (i := 28) (oi := ⟨some 41, .move (.tmp 0), 22, "ref.go:95", #[⟨26, .guard⟩], some (26, false)⟩) (v := .slice (some ⟨g, o, none⟩) n cap) rfl (by kernel_rfl) (by kernel_rfl) (by kernel_rfl) (fun _ _ _ h => h) (Or.inl ⟨by rfl, fun w' hw' => by (clear hw'; go_simp)⟩) hH ?_
                    simp only [Act.put, sjA, sjB, sjC]
                    refine wpAnyH_take (i := 29) (oi := ⟨some 42, .move (.tmp 3), 3, "ref.go:95", #[⟨26, .guard⟩], some (26, false)⟩) (v := .int .i64 (i : Int)) rfl (by kernel_rfl) (by kernel_rfl) (by kernel_rfl) (fun _ _ _ h => h) (Or.inl ⟨by rfl, fun w' hw' => by (clear hw'; go_simp)⟩) hH ?_
                    simp only [Act.put, sjA, sjB, sjC]
                    refine wpAnyH_take (i := 30) (oi := ⟨some 43, .indexAddr 22 (.tmp 41) (.tmp 42), 0, "ref.go:95", #[⟨28, .data⟩, ⟨29, .data⟩, ⟨26, .guard⟩], some (26, false)⟩) (v := .pointer (some ⟨g, o + i * 3, none⟩)) rfl (by kernel_rfl) (by kernel_rfl) (by kernel_rfl) (fun _ _ _ h => h) (Or.inl ⟨by rfl, fun w' hw' => by (clear hw'; go_simp)⟩) hH ?_
                    simp only [Act.put, sjA, sjB, sjC]
                    refine wpAnyH_take (i := 31) (oi := ⟨some 44, .fieldAddr 41 (.tmp 43) 0, 0, "ref.go:95", #[⟨30, .data⟩, ⟨26, .guard⟩], some (26, false)⟩) (v := .pointer (some ⟨g, o + i * 3, none⟩)) rfl (by kernel_rfl) (by kernel_rfl) (by kernel_rfl) (fun _ _ _ h => h) (Or.inl ⟨by rfl, fun w' hw' => by (clear hw'; go_simp)⟩) hH ?_
                    simp only [Act.put, sjA, sjB, sjC]
                    refine wpAnyH_take (i := 32) (oi := ⟨some 45, .load 9 (.tmp 44), 9, "ref.go:95", #[⟨31, .data⟩, ⟨26, .guard⟩], some (26, false)⟩) (v := .string s) rfl (by kernel_rfl) (by kernel_rfl) (by kernel_rfl) (fun _ _ _ h => h) (Or.inl ⟨by rfl, fun w' hw' => by (have q := x0' w' hw'; clear hw'; go_simp)⟩) hH ?_
                    simp only [Act.put, sjA, sjB, sjC]
                    refine wpAnyH_ready (rs := [33]) (by kernel_rfl) (by simp) ?_
                    refine AllReadyH.cons (o := ⟨some 46, .call { callee := .value (.func 41), args := #[.tmp 40, .tmp 45], argTypes := #[22, 9] }, 31, "ref.go:95", #[⟨27, .data⟩, ⟨32, .data⟩, ⟨26, .chain⟩, ⟨26, .guard⟩], some (26, false)⟩) rfl (fun K hK => ?_) AllReadyH.nil
                    go_simp
                    refine (HDR.out _ HK2.out).mono ?_
                    rintro e w3 ⟨rfl, hk⟩
                    have HK3 : Hid (Kp No wr w3) := HK2.out.andNone hk
                    clear hk
                    go_wp2_with fail
                    refine hK.out _ _ (HK3.out) (fun hh => ?_)
                    clear hK K hH
                    have hH := hh
                    clear hh
                    try simp only [Act.put, sjA, sjB, sjC]
                    refine wpAnyH_take (i := 34) (oi := ⟨some 47, .binOp .neq 31 (.tmp 46) (.const (.int .i64 0)) 31, 4, "ref.go:95", #[⟨33, .data⟩, ⟨26, .guard⟩], some (26, false)⟩) (v := .bool false) rfl (by kernel_rfl) (by kernel_rfl) (by kernel_rfl) (fun _ _ _ h => h) (Or.inl ⟨by rfl, fun w' hw' => by (clear hw'; go_simp)⟩) hH ?_
                    simp only [Act.put, sjA, sjB, sjC]
                    refine wpAnyH_take (i := 35) (oi := ⟨some 48, .pick (.tmp 39) (.const (.bool true)) (.tmp 47), 4, "ref.go:95", #[⟨26, .data⟩, ⟨34, .data⟩], none⟩) (v := .bool false) rfl (by kernel_rfl) (by kernel_rfl) (by kernel_rfl) (fun _ _ _ h => h) (Or.inl ⟨by rfl, fun w' hw' => by (clear hw'; go_simp)⟩) hH ?_
                    simp only [Act.put, sjA, sjB, sjC]
                    refine wpAnyH_take (i := 36) (oi := ⟨some 49, .move (.tmp 48), 4, "ref.go:95", #[⟨35, .data⟩, ⟨33, .chain⟩], none⟩) (v := .bool false) rfl (by kernel_rfl) (by kernel_rfl) (by kernel_rfl) (fun _ _ _ h => h) (Or.inl ⟨by rfl, fun w' hw' => by (clear hw'; go_simp)⟩) hH ?_
                    simp only [Act.put, sjA, sjB, sjC]
                    refine wpAnyH_take (i := 37) (oi := ⟨some 50, .move (.tmp 0), 22, "ref.go:95", #[⟨36, .guard⟩], some (36, false)⟩) (v := .slice (some ⟨g, o, none⟩) n cap) rfl (by kernel_rfl) (by kernel_rfl) (by kernel_rfl) (fun _ _ _ h => h) (Or.inl ⟨by rfl, fun w' hw' => by (clear hw'; go_simp)⟩) hH ?_
                    simp only [Act.put, sjA, sjB, sjC]
                    refine wpAnyH_take (i := 38) (oi := ⟨some 51, .move (.tmp 3), 3, "ref.go:95", #[⟨36, .guard⟩], some (36, false)⟩) (v := .int .i64 (i : Int)) rfl (by kernel_rfl) (by kernel_rfl) (by kernel_rfl) (fun _ _ _ h => h) (Or.inl ⟨by rfl, fun w' hw' => by (clear hw'; go_simp)⟩) hH ?_
                    simp only [Act.put, sjA, sjB, sjC]
                    refine wpAnyH_take (i := 39) (oi := ⟨some 52, .indexAddr 22 (.tmp 50) (.tmp 51), 0, "ref.go:95", #[⟨37, .data⟩, ⟨38, .data⟩, ⟨36, .guard⟩], some (36, false)⟩) (v := .pointer (some ⟨g, o + i * 3, none⟩)) rfl (by kernel_rfl) (by kernel_rfl) (by kernel_rfl) (fun _ _ _ h => h) (Or.inl ⟨by rfl, fun w' hw' => by (clear hw'; go_simp)⟩) hH ?_
                    simp only [Act.put, sjA, sjB, sjC]
                    refine wpAnyH_take (i := 40) (oi := ⟨some 53, .fieldAddr 41 (.tmp 52) 1, 0, "ref.go:95", #[⟨39, .data⟩, ⟨36, .guard⟩], some (36, false)⟩) (v := .pointer (some ⟨g, o + i * 3 + 1, none⟩)) rfl (by kernel_rfl) (by kernel_rfl) (by kernel_rfl) (fun _ _ _ h => h) (Or.inl ⟨by rfl, fun w' hw' => by (clear hw'; go_simp)⟩) hH ?_
                    simp only [Act.put, sjA, sjB, sjC]
                    refine wpAnyH_take (i := 41) (oi := ⟨some 54, .load 4 (.tmp 53), 4, "ref.go:95", #[⟨40, .data⟩, ⟨36, .guard⟩], some (36, false)⟩) (v := .bool false) rfl (by kernel_rfl) (by kernel_rfl) (by kernel_rfl) (fun _ _ _ h => h) (Or.inl ⟨by rfl, fun w' hw' => by (have q := x1' w' hw'; clear hw'; go_simp)⟩) hH ?_
                    simp only [Act.put, sjA, sjB, sjC]
                    refine wpAnyH_take (i := 42) (oi := ⟨some 55, .move (.tmp 54), 4, "ref.go:95", #[⟨41, .data⟩, ⟨36, .chain⟩, ⟨36, .guard⟩], some (36, false)⟩) (v := .bool false) rfl (by kernel_rfl) (by kernel_rfl) (by kernel_rfl) (fun _ _ _ h => h) (Or.inl ⟨by rfl, fun w' hw' => by (clear hw'; go_simp)⟩) hH ?_
                    simp only [Act.put, sjA, sjB, sjC]
                    refine wpAnyH_take (i := 43) (oi := ⟨some 56, .move (.tmp 0), 22, "ref.go:95", #[⟨42, .guard⟩], some (42, true)⟩) (v := undef) rfl (by kernel_rfl) (by kernel_rfl) (by kernel_rfl) (fun _ _ _ h => h) (Or.inr ⟨by rfl, rfl⟩) hH ?_
                    simp only [Act.put, sjA, sjB, sjC]
                    refine wpAnyH_take (i := 44) (oi := ⟨some 57, .move (.tmp 3), 3, "ref.go:95", #[⟨42, .guard⟩], some (42, true)⟩) (v := undef) rfl (by kernel_rfl) (by kernel_rfl) (by kernel_rfl) (fun _ _ _ h => h) (Or.inr ⟨by rfl, rfl⟩) hH ?_
                    simp only [Act.put, sjA, sjB, sjC]
                    refine wpAnyH_take (i := 45) (oi := ⟨some 58, .indexAddr 22 (.tmp 56) (.tmp 57), 0, "ref.go:95", #[⟨43, .data⟩, ⟨44, .data⟩, ⟨42, .guard⟩], some (42, true)⟩) (v := undef) rfl (by kernel_rfl) (by kernel_rfl) (by kernel_rfl) (fun _ _ _ h => h) (Or.inr ⟨by rfl, rfl⟩) hH ?_
                    simp only [Act.put, sjA, sjB, sjC]
                    refine wpAnyH_take (i := 46) (oi := ⟨some 59, .fieldAddr 41 (.tmp 58) 2, 0, "ref.go:95", #[⟨45, .data⟩, ⟨42, .guard⟩], some (42, true)⟩) (v := undef) rfl (by kernel_rfl) (by kernel_rfl) (by kernel_rfl) (fun _ _ _ h => h) (Or.inr ⟨by rfl, rfl⟩) hH ?_
                    simp only [Act.put, sjA, sjB, sjC]
                    refine wpAnyH_take (i := 47) (oi := ⟨some 60, .load 23 (.tmp 59), 23, "ref.go:95", #[⟨46, .data⟩, ⟨42, .guard⟩], some (42, true)⟩) (v := undef) rfl (by kernel_rfl) (by kernel_rfl) (by kernel_rfl) (fun _ _ _ h => h) (Or.inr ⟨by rfl, rfl⟩) hH ?_
                    simp only [Act.put, sjA, sjB, sjC]
                    refine wpAnyH_take (i := 48) (oi := ⟨some 61, .call { callee := .builtin Builtin.len, args := #[.tmp 60], argTypes := #[23] }, 3, "ref.go:95", #[⟨47, .data⟩, ⟨42, .guard⟩], some (42, true)⟩) (v := undef) rfl (by kernel_rfl) (by kernel_rfl) (by kernel_rfl) (fun _ _ _ h => h) (Or.inr ⟨by rfl, rfl⟩) hH ?_
                    simp only [Act.put, sjA, sjB, sjC]
                    refine wpAnyH_take (i := 49) (oi := ⟨some 62, .binOp .gtr 3 (.tmp 61) (.const (.int .i64 0)) 3, 4, "ref.go:95", #[⟨48, .data⟩, ⟨42, .guard⟩], some (42, true)⟩) (v := undef) rfl (by kernel_rfl) (by kernel_rfl) (by kernel_rfl) (fun _ _ _ h => h) (Or.inr ⟨by rfl, rfl⟩) hH ?_
                    simp only [Act.put, sjA, sjB, sjC]
                    refine wpAnyH_take (i := 50) (oi := ⟨some 63, .pick (.tmp 55) (.tmp 62) (.const (.bool false)), 4, "ref.go:95", #[⟨42, .data⟩, ⟨49, .data⟩, ⟨36, .guard⟩], some (36, false)⟩) (v := .bool false) rfl (by kernel_rfl) (by kernel_rfl) (by kernel_rfl) (fun _ _ _ h => h) (Or.inl ⟨by rfl, fun w' hw' => by (clear hw'; go_simp)⟩) hH ?_
                    simp only [Act.put, sjA, sjB, sjC]
                    refine wpAnyH_take (i := 51) (oi := ⟨some 64, .pick (.tmp 49) (.const (.bool true)) (.tmp 63), 4, "ref.go:95", #[⟨36, .data⟩, ⟨50, .data⟩], none⟩) (v := .bool false) rfl (by kernel_rfl) (by kernel_rfl) (by kernel_rfl) (fun _ _ _ h => h) (Or.inl ⟨by rfl, fun w' hw' => by (clear hw'; go_simp)⟩) hH ?_
                    simp only [Act.put, sjA, sjB, sjC]
                    refine wpAnyH_take (i := 52) (oi := ⟨some 65, .move (.tmp 64), 4, "ref.go:95", #[⟨51, .data⟩, ⟨42, .chain⟩], none⟩) (v := .bool false) rfl (by kernel_rfl) (by kernel_rfl) (by kernel_rfl) (fun _ _ _ h => h) (Or.inl ⟨by rfl, fun w' hw' => by (clear hw'; go_simp)⟩) hH ?_
                    simp only [Act.put, sjA, sjB, sjC]
                    refine wpAnyH_take (i := 53) (oi := ⟨some 66, .move (.tmp 0), 22, "ref.go:95", #[⟨52, .guard⟩], some (52, false)⟩) (v := .slice (some ⟨g, o, none⟩) n cap) rfl (by kernel_rfl) (by kernel_rfl) (by kernel_rfl) (fun _ _ _ h => h) (Or.inl ⟨by rfl, fun w' hw' => by (clear hw'; go_simp)⟩) hH ?_
                    simp only [Act.put, sjA, sjB, sjC]
                    refine wpAnyH_take (i := 54) (oi := ⟨some 67, .move (.tmp 3), 3, "ref.go:95", #[⟨52, .guard⟩], some (52, false)⟩) (v := .int .i64 (i : Int)) rfl (by kernel_rfl) (by kernel_rfl) (by kernel_rfl) (fun _ _ _ h => h) (Or.inl ⟨by rfl, fun w' hw' => by (clear hw'; go_simp)⟩) hH ?_
                    simp only [Act.put, sjA, sjB, sjC]
                    refine wpAnyH_take (i := 55) (oi := ⟨some 68, .indexAddr 22 (.tmp 66) (.tmp 67), 0, "ref.go:95", #[⟨53, .data⟩, ⟨54, .data⟩, ⟨52, .guard⟩], some (52, false)⟩) (v := .pointer (some ⟨g, o + i * 3, none⟩)) rfl (by kernel_rfl) (by kernel_rfl) (by kernel_rfl) (fun _ _ _ h => h) (Or.inl ⟨by rfl, fun w' hw' => by (clear hw'; go_simp)⟩) hH ?_
                    simp only [Act.put, sjA, sjB, sjC]
                    refine wpAnyH_take (i := 56) (oi := ⟨some 69, .fieldAddr 41 (.tmp 68) 2, 0, "ref.go:95", #[⟨55, .data⟩, ⟨52, .guard⟩], some (52, false)⟩) (v := .pointer (some ⟨g, o + i * 3 + 2, none⟩)) rfl (by kernel_rfl) (by kernel_rfl) (by kernel_rfl) (fun _ _ _ h => h) (Or.inl ⟨by rfl, fun w' hw' => by (clear hw'; go_simp)⟩) hH ?_
                    simp only [Act.put, sjA, sjB, sjC]
                    refine wpAnyH_take (i := 57) (oi := ⟨some 70, .load 23 (.tmp 69), 23, "ref.go:95", #[⟨56, .data⟩, ⟨52, .guard⟩], some (52, false)⟩) (v := .slice au bs.length cu) rfl (by kernel_rfl) (by kernel_rfl) (by kernel_rfl) (fun _ _ _ h => h) (Or.inl ⟨by rfl, fun w' hw' => by (have q := x2' w' hw'; clear hw'; go_simp)⟩) hH ?_
                    simp only [Act.put, sjA, sjB, sjC]
                    refine wpAnyH_take (i := 58) (oi := ⟨some 71, .call { callee := .builtin Builtin.len, args := #[.tmp 70], argTypes := #[23] }, 3, "ref.go:95", #[⟨57, .data⟩, ⟨52, .guard⟩], some (52, false)⟩) (v := .int .i64 (bs.length : Int)) rfl (by kernel_rfl) (by kernel_rfl) (by kernel_rfl) (fun _ _ _ h => h) (Or.inl ⟨by rfl, fun w' hw' => by (clear hw'; go_simp)⟩) hH ?_
                    simp only [Act.put, sjA, sjB, sjC]
                    refine wpAnyH_take (i := 59) (oi := ⟨some 72, .binOp .gtr 3 (.tmp 71) (.const (.int .i64 2000)) 3, 4, "ref.go:95", #[⟨58, .data⟩, ⟨52, .guard⟩], some (52, false)⟩) (v := .bool true) rfl (by kernel_rfl) (by kernel_rfl) (by kernel_rfl) (fun _ _ _ h => h) (Or.inl ⟨by rfl, fun w' hw' => by (clear hw'; go_simp)⟩) hH ?_
                    simp only [Act.put, sjA, sjB, sjC]
                    refine wpAnyH_take (i := 60) (oi := ⟨some 73, .pick (.tmp 65) (.const (.bool true)) (.tmp 72), 4, "ref.go:95", #[⟨52, .data⟩, ⟨59, .data⟩], none⟩) (v := .bool true) rfl (by kernel_rfl) (by kernel_rfl) (by kernel_rfl) (fun _ _ _ h => h) (Or.inl ⟨by rfl, fun w' hw' => by (clear hw'; go_simp)⟩) hH ?_
                    simp only [Act.put, sjA, sjB, sjC]
                    refine wpAnyH_done (by kernel_rfl) ?_ _
                    clear hH x0' x1' x2'
                    go_wp2_with fail
                    go_ret
                    refine ⟨?_, HS.out.2.andNone HK3.out⟩
                    rw [HBAD.out HNO.out]
                    rfl
                  · have hmI : 0 < bs.length := by simp at hm; omega
                    clear hm
                    clear HNXT HWB HOK
                    go_wp2_with fail
                    refine wp_region_held_drew (S := fun V => Kp No wr V) (by kernel_rfl) ((Kp.refl _ _).drew) (fun hH => ?_)
                    refine wpAnyH_take (i := 0) (oi := ⟨some 13, .move (.tmp 0), 22, "ref.go:95", #[], none⟩) (v := .slice (some ⟨g, o, none⟩) n cap) rfl (by kernel_rfl) (by kernel_rfl) (by kernel_rfl) (fun _ _ _ h => h) (Or.inl ⟨by rfl, fun w' hw' => by (clear hw'; go_simp)⟩) hH ?_
                    simp only [Act.put, sjA, sjB, sjC]
                    refine wpAnyH_take (i := 1) (oi := ⟨some 14, .move (.tmp 3), 3, "ref.go:95", #[], none⟩) (v := .int .i64 (i : Int)) rfl (by kernel_rfl) (by kernel_rfl) (by kernel_rfl) (fun _ _ _ h => h) (Or.inl ⟨by rfl, fun w' hw' => by (clear hw'; go_simp)⟩) hH ?_
                    simp only [Act.put, sjA, sjB, sjC]
                    refine wpAnyH_take (i := 2) (oi := ⟨some 15, .indexAddr 22 (.tmp 13) (.tmp 14), 0, "ref.go:95", #[⟨0, .data⟩, ⟨1, .data⟩], none⟩) (v := .pointer (some ⟨g, o + i * 3, none⟩)) rfl (by kernel_rfl) (by kernel_rfl) (by kernel_rfl) (fun _ _ _ h => h) (Or.inl ⟨by rfl, fun w' hw' => by (clear hw'; go_simp)⟩) hH ?_
                    simp only [Act.put, sjA, sjB, sjC]
                    refine wpAnyH_take (i := 3) (oi := ⟨some 16, .fieldAddr 41 (.tmp 15) 0, 0, "ref.go:95", #[⟨2, .data⟩], none⟩) (v := .pointer (some ⟨g, o + i * 3, none⟩)) rfl (by kernel_rfl) (by kernel_rfl) (by kernel_rfl) (fun _ _ _ h => h) (Or.inl ⟨by rfl, fun w' hw' => by (clear hw'; go_simp)⟩) hH ?_
                    simp only [Act.put, sjA, sjB, sjC]
                    refine wpAnyH_take (i := 4) (oi := ⟨some 17, .load 9 (.tmp 16), 9, "ref.go:95", #[⟨3, .data⟩], none⟩) (v := .string s) rfl (by kernel_rfl) (by kernel_rfl) (by kernel_rfl) (fun _ _ _ h => h) (Or.inl ⟨by rfl, fun w' hw' => by (have q := x0' w' hw'; clear hw'; go_simp)⟩) hH ?_
                    simp only [Act.put, sjA, sjB, sjC]
                    refine wpAnyH_ready (rs := [5]) (by kernel_rfl) (by simp) ?_
                    refine AllReadyH.cons (o := ⟨some 18, .call { callee := .value (.func 43), args := #[.tmp 17], argTypes := #[9] }, 4, "ref.go:95", #[⟨4, .data⟩], none⟩) rfl (fun K hK => ?_) AllReadyH.nil
                    go_simp
                    refine (HP.out _ (Kp.refl _ _).drew).mono ?_
                    rintro e w1 ⟨rfl, hk⟩
                    have HK1 : Hid (Kp No wr w1) := (Kp.refl _ _).drew.andNone hk
                    clear hk
                    go_wp2_with fail
                    refine hK.out _ _ (HK1.out) (fun hh => ?_)
                    clear hK K hH
                    have hH := hh
                    clear hh
                    try simp only [Act.put, sjA, sjB, sjC]
                    refine wpAnyH_take (i := 6) (oi := ⟨some 19, .unOp .not 4 (.tmp 18), 4, "ref.go:95", #[⟨5, .data⟩], none⟩) (v := .bool false) rfl (by kernel_rfl) (by kernel_rfl) (by kernel_rfl) (fun _ _ _ h => h) (Or.inl ⟨by rfl, fun w' hw' => by (clear hw'; go_simp)⟩) hH ?_
                    simp only [Act.put, sjA, sjB, sjC]
                    refine wpAnyH_take (i := 7) (oi := ⟨some 20, .move (.tmp 19), 4, "ref.go:95", #[⟨6, .data⟩, ⟨5, .chain⟩], none⟩) (v := .bool false) rfl (by kernel_rfl) (by kernel_rfl) (by kernel_rfl) (fun _ _ _ h => h) (Or.inl ⟨by rfl, fun w' hw' => by (clear hw'; go_simp)⟩) hH ?_
                    simp only [Act.put, sjA, sjB, sjC]
                    refine wpAnyH_take (i := 8) (oi := ⟨some 21, .move (.tmp 3), 3, "ref.go:95", #[⟨7, .guard⟩], some (7, false)⟩) (v := .int .i64 (i : Int)) rfl (by kernel_rfl) (by kernel_rfl) (by kernel_rfl) (fun _ _ _ h => h) (Or.inl ⟨by rfl, fun w' hw' => by (clear hw'; go_simp)⟩) hH ?_
                    simp only [Act.put, sjA, sjB, sjC]
                    refine wpAnyH_take (i := 9) (oi := ⟨some 22, .binOp .gtr 3 (.tmp 21) (.const (.int .i64 0)) 3, 4, "ref.go:95", #[⟨8, .data⟩, ⟨7, .guard⟩], some (7, false)⟩) (v := .bool true) rfl (by kernel_rfl) (by kernel_rfl) (by kernel_rfl) (fun _ _ _ h => h) (Or.inl ⟨by rfl, fun w' hw' => by (clear hw'; go_simp)⟩) hH ?_
                    simp only [Act.put, sjA, sjB, sjC]
                    refine wpAnyH_take (i := 10) (oi := ⟨some 23, .move (.tmp 22), 4, "ref.go:95", #[⟨9, .data⟩, ⟨7, .chain⟩, ⟨7, .guard⟩], some (7, false)⟩) (v := .bool true) rfl (by kernel_rfl) (by kernel_rfl) (by kernel_rfl) (fun _ _ _ h => h) (Or.inl ⟨by rfl, fun w' hw' => by (clear hw'; go_simp)⟩) hH ?_
                    simp only [Act.put, sjA, sjB, sjC]
                    refine wpAnyH_take (i := 11) (oi := ⟨some 24, .move (.tmp 0), 22, "ref.go:95", #[⟨10, .guard⟩], some (10, true)⟩) (v := .slice (some ⟨g, o, none⟩) n cap) rfl (by kernel_rfl) (by kernel_rfl) (by kernel_rfl) (fun _ _ _ h => h) (Or.inl ⟨by rfl, fun w' hw' => by (clear hw'; go_simp)⟩) hH ?_
                    simp only [Act.put, sjA, sjB, sjC]
                    refine wpAnyH_take (i := 12) (oi := ⟨some 25, .move (.tmp 3), 3, "ref.go:95", #[⟨10, .guard⟩], some (10, true)⟩) (v := .int .i64 (i : Int)) rfl (by kernel_rfl) (by kernel_rfl) (by kernel_rfl) (fun _ _ _ h => h) (Or.inl ⟨by rfl, fun w' hw' => by (clear hw'; go_simp)⟩) hH ?_
                    simp only [Act.put, sjA, sjB, sjC]
                    refine wpAnyH_take (i := 13) (oi := ⟨some 26, .binOp .sub 3 (.tmp 25) (.const (.int .i64 1)) 3, 3, "ref.go:95", #[⟨12, .data⟩, ⟨10, .guard⟩], some (10, true)⟩) (v := .int .i64 (i1 : Int)) rfl (by kernel_rfl) (by kernel_rfl) (by kernel_rfl) (fun _ _ _ h => h) (Or.inl ⟨by rfl, fun w' hw' => by (clear hw'; go_simp)⟩) hH ?_
                    simp only [Act.put, sjA, sjB, sjC]
                    refine wpAnyH_take (i := 14) (oi := ⟨some 27, .indexAddr 22 (.tmp 24) (.tmp 26), 0, "ref.go:95", #[⟨11, .data⟩, ⟨13, .data⟩, ⟨10, .guard⟩], some (10, true)⟩) (v := .pointer (some ⟨g, o + i1 * 3, none⟩)) rfl (by kernel_rfl) (by kernel_rfl) (by kernel_rfl) (fun _ _ _ h => h) (Or.inl ⟨by rfl, fun w' hw' => by (clear hw'; go_simp)⟩) hH ?_
                    simp only [Act.put, sjA, sjB, sjC]
                    refine wpAnyH_take (i := 15) (oi := ⟨some 28, .fieldAddr 41 (.tmp 27) 0, 0, "ref.go:95", #[⟨14, .data⟩, ⟨10, .guard⟩], some (10, true)⟩) (v := .pointer (some ⟨g, o + i1 * 3, none⟩)) rfl (by kernel_rfl) (by kernel_rfl) (by kernel_rfl) (fun _ _ _ h => h) (Or.inl ⟨by rfl, fun w' hw' => by (clear hw'; go_simp)⟩) hH ?_
                    simp only [Act.put, sjA, sjB, sjC]
                    refine wpAnyH_take (i := 16) (oi := ⟨some 29, .load 9 (.tmp 28), 9, "ref.go:95", #[⟨15, .data⟩, ⟨10, .guard⟩], some (10, true)⟩) (v := .string y.1) rfl (by kernel_rfl) (by kernel_rfl) (by kernel_rfl) (fun _ _ _ h => h) (Or.inl ⟨by rfl, fun w' hw' => by (have q := y0' w' hw'; clear hw'; go_simp)⟩) hH ?_
                    simp only [Act.put, sjA, sjB, sjC]
                    refine wpAnyH_take (i := 17) (oi := ⟨some 30, .move (.tmp 0), 22, "ref.go:95", #[⟨10, .guard⟩], some (10, true)⟩) (v := .slice (some ⟨g, o, none⟩) n cap) rfl (by kernel_rfl) (by kernel_rfl) (by kernel_rfl) (fun _ _ _ h => h) (Or.inl ⟨by rfl, fun w' hw' => by (clear hw'; go_simp)⟩) hH ?_
                    simp only [Act.put, sjA, sjB, sjC]
                    refine wpAnyH_take (i := 18) (oi := ⟨some 31, .move (.tmp 3), 3, "ref.go:95", #[⟨10, .guard⟩], some (10, true)⟩) (v := .int .i64 (i : Int)) rfl (by kernel_rfl) (by kernel_rfl) (by kernel_rfl) (fun _ _ _ h => h) (Or.inl ⟨by rfl, fun w' hw' => by (clear hw'; go_simp)⟩) hH ?_
                    simp only [Act.put, sjA, sjB, sjC]
                    refine wpAnyH_take (i := 19) (oi := ⟨some 32, .indexAddr 22 (.tmp 30) (.tmp 31), 0, "ref.go:95", #[⟨17, .data⟩, ⟨18, .data⟩, ⟨10, .guard⟩], some (10, true)⟩) (v := .pointer (some ⟨g, o + i * 3, none⟩)) rfl (by kernel_rfl) (by kernel_rfl) (by kernel_rfl) (fun _ _ _ h => h) (Or.inl ⟨by rfl, fun w' hw' => by (clear hw'; go_simp)⟩) hH ?_
                    simp only [Act.put, sjA, sjB, sjC]
                    refine wpAnyH_take (i := 20) (oi := ⟨some 33, .fieldAddr 41 (.tmp 32) 0, 0, "ref.go:95", #[⟨19, .data⟩, ⟨10, .guard⟩], some (10, true)⟩) (v := .pointer (some ⟨g, o + i * 3, none⟩)) rfl (by kernel_rfl) (by kernel_rfl) (by kernel_rfl) (fun _ _ _ h => h) (Or.inl ⟨by rfl, fun w' hw' => by (clear hw'; go_simp)⟩) hH ?_
                    simp only [Act.put, sjA, sjB, sjC]
                    refine wpAnyH_take (i := 21) (oi := ⟨some 34, .load 9 (.tmp 33), 9, "ref.go:95", #[⟨20, .data⟩, ⟨10, .guard⟩], some (10, true)⟩) (v := .string s) rfl (by kernel_rfl) (by kernel_rfl) (by kernel_rfl) (fun _ _ _ h => h) (Or.inl ⟨by rfl, fun w' hw' => by (have q := x0' w' hw'; clear hw'; go_simp)⟩) hH ?_
                    simp only [Act.put, sjA, sjB, sjC]
                    refine wpAnyH_ready (rs := [22]) (by kernel_rfl) (by simp) ?_
                    refine AllReadyH.cons (o := ⟨some 35, .call { callee := .value (.func 61), args := #[.tmp 29, .tmp 34], argTypes := #[9, 9] }, 4, "ref.go:95", #[⟨16, .data⟩, ⟨21, .data⟩, ⟨10, .chain⟩, ⟨10, .guard⟩], some (10, true)⟩) rfl (fun K hK => ?_) AllReadyH.nil
                    go_simp
                    refine (HLS.out _ HK1.out).mono ?_
                    rintro e w2 ⟨rfl, hk⟩
                    have HK2 : Hid (Kp No wr w2) := HK1.out.andNone hk
                    clear hk
                    go_wp2_with fail
                    refine hK.out _ _ (HK2.out) (fun hh => ?_)
                    clear hK K hH
                    have hH := hh
                    clear hh
                    try simp only [Act.put, sjA, sjB, sjC]
                    refine wpAnyH_take (i := 23) (oi := ⟨some 36, .unOp .not 4 (.tmp 35), 4, "ref.go:95", #[⟨22, .data⟩, ⟨10, .guard⟩], some (10, true)⟩) (v := .bool false) rfl (by kernel_rfl) (by kernel_rfl) (by kernel_rfl) (fun _ _ _ h => h) (Or.inl ⟨by rfl, fun w' hw' => by (clear hw'; go_simp)⟩) hH ?_
                    simp only [Act.put, sjA, sjB, sjC]
                    refine wpAnyH_take (i := 24) (oi := ⟨some 37, .pick (.tmp 23) (.tmp 36) (.const (.bool false)), 4, "ref.go:95", #[⟨10, .data⟩, ⟨23, .data⟩, ⟨7, .guard⟩], some (7, false)⟩) (v := .bool false) rfl (by kernel_rfl) (by kernel_rfl) (by kernel_rfl) (fun _ _ _ h => h) (Or.inl ⟨by rfl, fun w' hw' => by (clear hw'; go_simp)⟩) hH ?_
                    simp only [Act.put, sjA, sjB, sjC]
                    refine wpAnyH_take (i := 25) (oi := ⟨some 38, .pick (.tmp 20) (.const (.bool true)) (.tmp 37), 4, "ref.go:95", #[⟨7, .data⟩, ⟨24, .data⟩], none⟩) (v := .bool false) rfl (by kernel_rfl) (by kernel_rfl) (by kernel_rfl) (fun _ _ _ h => h) (Or.inl ⟨by rfl, fun w' hw' => by (clear hw'; go_simp)⟩) hH ?_
                    simp only [Act.put, sjA, sjB, sjC]
                    refine wpAnyH_take (i := 26) (oi := ⟨some 39, .move (.tmp 38), 4, "ref.go:95", #[⟨25, .data⟩, ⟨22, .chain⟩], none⟩) (v := .bool false) rfl (by kernel_rfl) (by kernel_rfl) (by kernel_rfl) (fun _ _ _ h => h) (Or.inl ⟨by rfl, fun w' hw' => by (clear hw'; go_simp)⟩) hH ?_
                    simp only [Act.put, sjA, sjB, sjC]
                    refine wpAnyH_take (i := 27) (oi := ⟨some 40, .move (.tmp 0), 22, "ref.go:95", #[⟨26, .guard⟩], some (26, false)⟩) (v := .slice (some ⟨g, o, none⟩) n cap) rfl (by kernel_rfl) (by kernel_rfl) (by kernel_rfl) (fun _ _ _ h => h) (Or.inl ⟨by rfl, fun w' hw' => by (clear hw'; go_simp)⟩) hH ?_
                    simp only [Act.put, sjA, sjB, sjC]
                    refine wpAnyH_take (i := 28) (oi := ⟨some 41, .move (.tmp 0), 22, "ref.go:95", #[⟨26, .guard⟩], some (26, false)⟩) (v := .slice (some ⟨g, o, none⟩) n cap) rfl (by kernel_rfl) (by kernel_rfl) (by kernel_rfl) (fun _ _ _ h => h) (Or.inl ⟨by rfl, fun w' hw' => by (clear hw'; go_simp)⟩) hH ?_
                    simp only [Act.put, sjA, sjB, sjC]
                    refine wpAnyH_take (i := 29) (oi := ⟨some 42, .move (.tmp 3), 3, "ref.go:95", #[⟨26, .guard⟩], some (26, false)⟩) (v := .int .i64 (i : Int)) rfl (by kernel_rfl) (by kernel_rfl) (by kernel_rfl) (fun _ _ _ h => h) (Or.inl ⟨by rfl, fun w' hw' => by (clear hw'; go_simp)⟩) hH ?_
                    simp only [Act.put, sjA, sjB, sjC]
                    refine wpAnyH_take (i := 30) (oi := ⟨some 43, .indexAddr 22 (.tmp 41) (.tmp 42), 0, "ref.go:95", #[⟨28, .data⟩, ⟨29, .data⟩, ⟨26, .guard⟩], some (26, false)⟩) (v := .pointer (some ⟨g, o + i * 3, none⟩)) rfl (by kernel_rfl) (by kernel_rfl) (by kernel_rfl) (fun _ _ _ h => h) (Or.inl ⟨by rfl, fun w' hw' => by (clear hw'; go_simp)⟩) hH ?_
                    simp only [Act.put, sjA, sjB, sjC]
                    refine wpAnyH_take (i := 31) (oi := ⟨some 44, .fieldAddr 41 (.tmp 43) 0, 0, "ref.go:95", #[⟨30, .data⟩, ⟨26, .guard⟩], some (26, false)⟩) (v := .pointer (some ⟨g, o + i * 3, none⟩)) rfl (by kernel_rfl) (by kernel_rfl) (by kernel_rfl) (fun _ _ _ h => h) (Or.inl ⟨by rfl, fun w' hw' => by (clear hw'; go_simp)⟩) hH ?_
                    simp only [Act.put, sjA, sjB, sjC]
                    refine wpAnyH_take (i := 32) (oi := ⟨some 45, .load 9 (.tmp 44), 9, "ref.go:95", #[⟨31, .data⟩, ⟨26, .guard⟩], some (26, false)⟩) (v := .string s) rfl (by kernel_rfl) (by kernel_rfl) (by kernel_rfl) (fun _ _ _ h => h) (Or.inl ⟨by rfl, fun w' hw' => by (have q := x0' w' hw'; clear hw'; go_simp)⟩) hH ?_
                    simp only [Act.put, sjA, sjB, sjC]
                    refine wpAnyH_ready (rs := [33]) (by kernel_rfl) (by simp) ?_
                    refine AllReadyH.cons (o := ⟨some 46, .call { callee := .value (.func 41), args := #[.tmp 40, .tmp 45], argTypes := #[22, 9] }, 31, "ref.go:95", #[⟨27, .data⟩, ⟨32, .data⟩, ⟨26, .chain⟩, ⟨26, .guard⟩], some (26, false)⟩) rfl (fun K hK => ?_) AllReadyH.nil
                    go_simp
                    refine (HDR.out _ HK2.out).mono ?_
                    rintro e w3 ⟨rfl, hk⟩
                    have HK3 : Hid (Kp No wr w3) := HK2.out.andNone hk
                    clear hk
                    go_wp2_with fail
                    refine hK.out _ _ (HK3.out) (fun hh => ?_)
                    clear hK K hH
                    have hH := hh
                    clear hh
                    try simp only [Act.put, sjA, sjB, sjC]
                    refine wpAnyH_take (i := 34) (oi := ⟨some 47, .binOp .neq 31 (.tmp 46) (.const (.int .i64 0)) 31, 4, "ref.go:95", #[⟨33, .data⟩, ⟨26, .guard⟩], some (26, false)⟩) (v := .bool false) rfl (by kernel_rfl) (by kernel_rfl) (by kernel_rfl) (fun _ _ _ h => h) (Or.inl ⟨by rfl, fun w' hw' => by (clear hw'; go_simp)⟩) hH ?_
                    simp only [Act.put, sjA, sjB, sjC]
                    refine wpAnyH_take (i := 35) (oi := ⟨some 48, .pick (.tmp 39) (.const (.bool true)) (.tmp 47), 4, "ref.go:95", #[⟨26, .data⟩, ⟨34, .data⟩], none⟩) (v := .bool false) rfl (by kernel_rfl) (by kernel_rfl) (by kernel_rfl) (fun _ _ _ h => h) (Or.inl ⟨by rfl, fun w' hw' => by (clear hw'; go_simp)⟩) hH ?_
                    simp only [Act.put, sjA, sjB, sjC]
                    refine wpAnyH_take (i := 36) (oi := ⟨some 49, .move (.tmp 48), 4, "ref.go:95", #[⟨35, .data⟩, ⟨33, .chain⟩], none⟩) (v := .bool false) rfl (by kernel_rfl) (by kernel_rfl) (by kernel_rfl) (fun _ _ _ h => h) (Or.inl ⟨by rfl, fun w' hw' => by (clear hw'; go_simp)⟩) hH ?_
                    simp only [Act.put, sjA, sjB, sjC]
                    refine wpAnyH_take (i := 37) (oi := ⟨some 50, .move (.tmp 0), 22, "ref.go:95", #[⟨36, .guard⟩], some (36, false)⟩) (v := .slice (some ⟨g, o, none⟩) n cap) rfl (by kernel_rfl) (by kernel_rfl) (by kernel_rfl) (fun _ _ _ h => h) (Or.inl ⟨by rfl, fun w' hw' => by (clear hw'; go_simp)⟩) hH ?_
                    simp only [Act.put, sjA, sjB, sjC]
                    refine wpAnyH_take (i := 38) (oi := ⟨some 51, .move (.tmp 3), 3, "ref.go:95", #[⟨36, .guard⟩], some (36, false)⟩) (v := .int .i64 (i : Int)) rfl (by kernel_rfl) (by kernel_rfl) (by kernel_rfl) (fun _ _ _ h => h) (Or.inl ⟨by rfl, fun w' hw' => by (clear hw'; go_simp)⟩) hH ?_
                    simp only [Act.put, sjA, sjB, sjC]
                    refine wpAnyH_take (i := 39) (oi := ⟨some 52, .indexAddr 22 (.tmp 50) (.tmp 51), 0, "ref.go:95", #[⟨37, .data⟩, ⟨38, .data⟩, ⟨36, .guard⟩], some (36, false)⟩) (v := .pointer (some ⟨g, o + i * 3, none⟩)) rfl (by kernel_rfl) (by kernel_rfl) (by kernel_rfl) (fun _ _ _ h => h) (Or.inl ⟨by rfl, fun w' hw' => by (clear hw'; go_simp)⟩) hH ?_
                    simp only [Act.put, sjA, sjB, sjC]
                    refine wpAnyH_take (i := 40) (oi := ⟨some 53, .fieldAddr 41 (.tmp 52) 1, 0, "ref.go:95", #[⟨39, .data⟩, ⟨36, .guard⟩], some (36, false)⟩) (v := .pointer (some ⟨g, o + i * 3 + 1, none⟩)) rfl (by kernel_rfl) (by kernel_rfl) (by kernel_rfl) (fun _ _ _ h => h) (Or.inl ⟨by rfl, fun w' hw' => by (clear hw'; go_simp)⟩) hH ?_
                    simp only [Act.put, sjA, sjB, sjC]
                    refine wpAnyH_take (i := 41) (oi := ⟨some 54, .load 4 (.tmp 53), 4, "ref.go:95", #[⟨40, .data⟩, ⟨36, .guard⟩], some (36, false)⟩) (v := .bool true) rfl (by kernel_rfl) (by kernel_rfl) (by kernel_rfl) (fun _ _ _ h => h) (Or.inl ⟨by rfl, fun w' hw' => by (have q := x1' w' hw'; clear hw'; go_simp)⟩) hH ?_
                    simp only [Act.put, sjA, sjB, sjC]
                    refine wpAnyH_take (i := 42) (oi := ⟨some 55, .move (.tmp 54), 4, "ref.go:95", #[⟨41, .data⟩, ⟨36, .chain⟩, ⟨36, .guard⟩], some (36, false)⟩) (v := .bool true) rfl (by kernel_rfl) (by kernel_rfl) (by kernel_rfl) (fun _ _ _ h => h) (Or.inl ⟨by rfl, fun w' hw' => by (clear hw'; go_simp)⟩) hH ?_
                    simp only [Act.put, sjA, sjB, sjC]
                    refine wpAnyH_take (i := 43) (oi := ⟨some 56, .move (.tmp 0), 22, "ref.go:95", #[⟨42, .guard⟩], some (42, true)⟩) (v := .slice (some ⟨g, o, none⟩) n cap) rfl (by kernel_rfl) (by kernel_rfl) (by kernel_rfl) (fun _ _ _ h => h) (Or.inl ⟨by rfl, fun w' hw' => by (clear hw'; go_simp)⟩) hH ?_
                    simp only [Act.put, sjA, sjB, sjC]
                    refine wpAnyH_take (i := 44) (oi := ⟨some 57, .move (.tmp 3), 3, "ref.go:95", #[⟨42, .guard⟩], some (42, true)⟩) (v := .int .i64 (i : Int)) rfl (by kernel_rfl) (by kernel_rfl) (by kernel_rfl) (fun _ _ _ h => h) (Or.inl ⟨by rfl, fun w' hw' => by (clear hw'; go_simp)⟩) hH ?_
                    simp only [Act.put, sjA, sjB, sjC]
                    refine wpAnyH_take (i := 45) (oi := ⟨some 58, .indexAddr 22 (.tmp 56) (.tmp 57), 0, "ref.go:95", #[⟨43, .data⟩, ⟨44, .data⟩, ⟨42, .guard⟩], some (42, true)⟩) (v := .pointer (some ⟨g, o + i * 3, none⟩)) rfl (by kernel_rfl) (by kernel_rfl) (by kernel_rfl) (fun _ _ _ h => h) (Or.inl ⟨by rfl, fun w' hw' => by (clear hw'; go_simp)⟩) hH ?_
                    simp only [Act.put, sjA, sjB, sjC]
                    refine wpAnyH_take (i := 46) (oi := ⟨some 59, .fieldAddr 41 (.tmp 58) 2, 0, "ref.go:95", #[⟨45, .data⟩, ⟨42, .guard⟩], some (42, true)⟩) (v := .pointer (some ⟨g, o + i * 3 + 2, none⟩)) rfl (by kernel_rfl) (by kernel_rfl) (by kernel_rfl) (fun _ _ _ h => h) (Or.inl ⟨by rfl, fun w' hw' => by (clear hw'; go_simp)⟩) hH ?_
                    simp only [Act.put, sjA, sjB, sjC]
                    refine wpAnyH_take (i := 47) (oi := ⟨some 60, .load 23 (.tmp 59), 23, "ref.go:95", #[⟨46, .data⟩, ⟨42, .guard⟩], some (42, true)⟩) (v := .slice au bs.length cu) rfl (by kernel_rfl) (by kernel_rfl) (by kernel_rfl) (fun _ _ _ h => h) (Or.inl ⟨by rfl, fun w' hw' => by (have q := x2' w' hw'; clear hw'; go_simp)⟩) hH ?_
                    simp only [Act.put, sjA, sjB, sjC]
                    refine wpAnyH_take (i := 48) (oi := ⟨some 61, .call { callee := .builtin Builtin.len, args := #[.tmp 60], argTypes := #[23] }, 3, "ref.go:95", #[⟨47, .data⟩, ⟨42, .guard⟩], some (42, true)⟩) (v := .int .i64 (bs.length : Int)) rfl (by kernel_rfl) (by kernel_rfl) (by kernel_rfl) (fun _ _ _ h => h) (Or.inl ⟨by rfl, fun w' hw' => by (clear hw'; go_simp)⟩) hH ?_
                    simp only [Act.put, sjA, sjB, sjC]
                    refine wpAnyH_take (i := 49) (oi := ⟨some 62, .binOp .gtr 3 (.tmp 61) (.const (.int .i64 0)) 3, 4, "ref.go:95", #[⟨48, .data⟩, ⟨42, .guard⟩], some (42, true)⟩) (v := .bool true) rfl (by kernel_rfl) (by kernel_rfl) (by kernel_rfl) (fun _ _ _ h => h) (Or.inl ⟨by rfl, fun w' hw' => by (clear hw'; go_simp)⟩) hH ?_
                    simp only [Act.put, sjA, sjB, sjC]
                    refine wpAnyH_take (i := 50) (oi := ⟨some 63, .pick (.tmp 55) (.tmp 62) (.const (.bool false)), 4, "ref.go:95", #[⟨42, .data⟩, ⟨49, .data⟩, ⟨36, .guard⟩], some (36, false)⟩) (v := .bool true) rfl (by kernel_rfl) (by kernel_rfl) (by kernel_rfl) (fun _ _ _ h => h) (Or.inl ⟨by rfl, fun w' hw' => by (clear hw'; go_simp)⟩) hH ?_
                    simp only [Act.put, sjA, sjB, sjC]
                    refine wpAnyH_take (i := 51) (oi := ⟨some 64, .pick (.tmp 49) (.const (.bool true)) (.tmp 63), 4, "ref.go:95", #[⟨36, .data⟩, ⟨50, .data⟩], none⟩) (v := .bool true) rfl (by kernel_rfl) (by kernel_rfl) (by kernel_rfl) (fun _ _ _ h => h) (Or.inl ⟨by rfl, fun w' hw' => by (clear hw'; go_simp)⟩) hH ?_
                    simp only [Act.put, sjA, sjB, sjC]
                    refine wpAnyH_take (i := 52) (oi := ⟨some 65, .move (.tmp 64), 4, "ref.go:95", #[⟨51, .data⟩, ⟨42, .chain⟩], none⟩) (v := .bool true) rfl (by kernel_rfl) (by kernel_rfl) (by kernel_rfl) (fun _ _ _ h => h) (Or.inl ⟨by rfl, fun w' hw' => by (clear hw'; go_simp)⟩) hH ?_
                    simp only [Act.put, sjA, sjB, sjC]
                    refine wpAnyH_take (i := 53) (oi := ⟨some 66, .move (.tmp 0), 22, "ref.go:95", #[⟨52, .guard⟩], some (52, false)⟩) (v := undef) rfl (by kernel_rfl) (by kernel_rfl) (by kernel_rfl) (fun _ _ _ h => h) (Or.inr ⟨by rfl, rfl⟩) hH ?_
                    simp only [Act.put, sjA, sjB, sjC]
                    refine wpAnyH_take (i := 54) (oi := ⟨some 67, .move (.tmp 3), 3, "ref.go:95", #[⟨52, .guard⟩], some (52, false)⟩) (v := undef) rfl (by kernel_rfl) (by kernel_rfl) (by kernel_rfl) (fun _ _ _ h => h) (Or.inr ⟨by rfl, rfl⟩) hH ?_
                    simp only [Act.put, sjA, sjB, sjC]
                    refine wpAnyH_take (i := 55) (oi := ⟨some 68, .indexAddr 22 (.tmp 66) (.tmp 67), 0, "ref.go:95", #[⟨53, .data⟩, ⟨54, .data⟩, ⟨52, .guard⟩], some (52, false)⟩) (v := undef) rfl (by kernel_rfl) (by kernel_rfl) (by kernel_rfl) (fun _ _ _ h => h) (Or.inr ⟨by rfl, rfl⟩) hH ?_
                    simp only [Act.put, sjA, sjB, sjC]
                    refine wpAnyH_take (i := 56) (oi := ⟨some 69, .fieldAddr 41 (.tmp 68) 2, 0, "ref.go:95", #[⟨55, .data⟩, ⟨52, .guard⟩], some (52, false)⟩) (v := undef) rfl (by kernel_rfl) (by kernel_rfl) (by kernel_rfl) (fun _ _ _ h => h) (Or.inr ⟨by rfl, rfl⟩) hH ?_
                    simp only [Act.put, sjA, sjB, sjC]
                    refine wpAnyH_take (i := 57) (oi := ⟨some 70, .load 23 (.tmp 69), 23, "ref.go:95", #[⟨56, .data⟩, ⟨52, .guard⟩], some (52, false)⟩) (v := undef) rfl (by kernel_rfl) (by kernel_rfl) (by kernel_rfl) (fun _ _ _ h => h) (Or.inr ⟨by rfl, rfl⟩) hH ?_
                    simp only [Act.put, sjA, sjB, sjC]
                    refine wpAnyH_take (i := 58) (oi := ⟨some 71, .call { callee := .builtin Builtin.len, args := #[.tmp 70], argTypes := #[23] }, 3, "ref.go:95", #[⟨57, .data⟩, ⟨52, .guard⟩], some (52, false)⟩) (v := undef) rfl (by kernel_rfl) (by kernel_rfl) (by kernel_rfl) (fun _ _ _ h => h) (Or.inr ⟨by rfl, rfl⟩) hH ?_
                    simp only [Act.put, sjA, sjB, sjC]
                    refine wpAnyH_take (i := 59) (oi := ⟨some 72, .binOp .gtr 3 (.tmp 71) (.const (.int .i64 2000)) 3, 4, "ref.go:95", #[⟨58, .data⟩, ⟨52, .guard⟩], some (52, false)⟩) (v := undef) rfl (by kernel_rfl) (by kernel_rfl) (by kernel_rfl) (fun _ _ _ h => h) (Or.inr ⟨by rfl, rfl⟩) hH ?_
                    simp only [Act.put, sjA, sjB, sjC]
                    refine wpAnyH_take (i := 60) (oi := ⟨some 73, .pick (.tmp 65) (.const (.bool true)) (.tmp 72), 4, "ref.go:95", #[⟨52, .data⟩, ⟨59, .data⟩], none⟩) (v := .bool true) rfl (by kernel_rfl) (by kernel_rfl) (by kernel_rfl) (fun _ _ _ h => h) (Or.inl ⟨by rfl, fun w' hw' => by (clear hw'; go_simp)⟩) hH ?_
                    simp only [Act.put, sjA, sjB, sjC]
                    refine wpAnyH_done (by kernel_rfl) ?_ _
                    clear hH x0' x1' x2'
                    go_wp2_with fail
                    go_ret
                    refine ⟨?_, HS.out.2.andNone HK3.out⟩
                    rw [HBAD.out HNO.out]
                    rfl
                · have HYES : Hid (okAt t i (s, d, bs)) := HOK.out.2 ⟨by rw [HWB.out, decide_eq_false hm]; rfl, HOY.out⟩
                  cases d
                  · have hmI : ¬ (2000 : Int) < (bs.length : Int) := by simp at hm; omega
                    clear hm
                    have HNX2 := hid (HNXT.out HYES.out)
                    clear HNXT HWB HOK HBAD
                    go_wp2_with fail
                    refine wp_region_held_drew (S := fun V => Kp No wr V) (by kernel_rfl) ((Kp.refl _ _).drew) (fun hH => ?_)
                    refine wpAnyH_take (i := 0) (oi := ⟨some 13, .move (.tmp 0), 22, "ref.go:95", #[], none⟩) (v := .slice (some ⟨g, o, none⟩) n cap) rfl (by kernel_rfl) (by kernel_rfl) (by kernel_rfl) (fun _ _ _ h => h) (Or.inl ⟨by rfl, fun w' hw' => by (clear hw'; go_simp)⟩) hH ?_
                    simp only [Act.put, sjA, sjB, sjC]
                    refine wpAnyH_take (i := 1) (oi := ⟨some 14, .move (.tmp 3), 3, "ref.go:95", #[], none⟩) (v := .int .i64 (i : Int)) rfl (by kernel_rfl) (by kernel_rfl) (by kernel_rfl) (fun _ _ _ h => h) (Or.inl ⟨by rfl, fun w' hw' => by (clear hw'; go_simp)⟩) hH ?_
                    simp only [Act.put, sjA, sjB, sjC]
                    refine wpAnyH_take (i := 2) (oi := ⟨some 15, .indexAddr 22 (.tmp 13) (.tmp 14), 0, "ref.go:95", #[⟨0, .data⟩, ⟨1, .data⟩], none⟩) (v := .pointer (some ⟨g, o + i * 3, none⟩)) rfl (by kernel_rfl) (by kernel_rfl) (by kernel_rfl) (fun _ _ _ h => h) (Or.inl ⟨by rfl, fun w' hw' => by (clear hw'; go_simp)⟩) hH ?_
                    simp only [Act.put, sjA, sjB, sjC]
                    refine wpAnyH_take (i := 3) (oi := ⟨some 16, .fieldAddr 41 (.tmp 15) 0, 0, "ref.go:95", #[⟨2, .data⟩], none⟩) (v := .pointer (some ⟨g, o + i * 3, none⟩)) rfl (by kernel_rfl) (by kernel_rfl) (by kernel_rfl) (fun _ _ _ h => h) (Or.inl ⟨by rfl, fun w' hw' => by (clear hw'; go_simp)⟩) hH ?_
                    simp only [Act.put, sjA, sjB, sjC]
                    refine wpAnyH_take (i := 4) (oi := ⟨some 17, .load 9 (.tmp 16), 9, "ref.go:95", #[⟨3, .data⟩], none⟩) (v := .string s) rfl (by kernel_rfl) (by kernel_rfl) (by kernel_rfl) (fun _ _ _ h => h) (Or.inl ⟨by rfl, fun w' hw' => by (have q := x0' w' hw'; clear hw'; go_simp)⟩) hH ?_
                    simp only [Act.put, sjA, sjB, sjC]
                    refine wpAnyH_ready (rs := [5]) (by kernel_rfl) (by simp) ?_
                    refine AllReadyH.cons (o := ⟨some 18, .call { callee := .value (.func 43), args := #[.tmp 17], argTypes := #[9] }, 4, "ref.go:95", #[⟨4, .data⟩], none⟩) rfl (fun K hK => ?_) AllReadyH.nil
                    go_simp
                    refine (HP.out _ (Kp.refl _ _).drew).mono ?_
                    rintro e w1 ⟨rfl, hk⟩
                    have HK1 : Hid (Kp No wr w1) := (Kp.refl _ _).drew.andNone hk
                    clear hk
                    go_wp2_with fail
                    refine hK.out _ _ (HK1.out) (fun hh => ?_)
                    clear hK K hH
                    have hH := hh
                    clear hh
                    try simp only [Act.put, sjA, sjB, sjC]
                    refine wpAnyH_take (i := 6) (oi := ⟨some 19, .unOp .not 4 (.tmp 18), 4, "ref.go:95", #[⟨5, .data⟩], none⟩) (v := .bool false) rfl (by kernel_rfl) (by kernel_rfl) (by kernel_rfl) (fun _ _ _ h => h) (Or.inl ⟨by rfl, fun w' hw' => by (clear hw'; go_simp)⟩) hH ?_
                    simp only [Act.put, sjA, sjB, sjC]
                    refine wpAnyH_take (i := 7) (oi := ⟨some 20, .move (.tmp 19), 4, "ref.go:95", #[⟨6, .data⟩, ⟨5, .chain⟩], none⟩) (v := .bool false) rfl (by kernel_rfl) (by kernel_rfl) (by kernel_rfl) (fun _ _ _ h => h) (Or.inl ⟨by rfl, fun w' hw' => by (clear hw'; go_simp)⟩) hH ?_
                    simp only [Act.put, sjA, sjB, sjC]
                    refine wpAnyH_take (i := 8) (oi := ⟨some 21, .move (.tmp 3), 3, "ref.go:95", #[⟨7, .guard⟩], some (7, false)⟩) (v := .int .i64 (i : Int)) rfl (by kernel_rfl) (by kernel_rfl) (by kernel_rfl) (fun _ _ _ h => h) (Or.inl ⟨by rfl, fun w' hw' => by (clear hw'; go_simp)⟩) hH ?_
                    simp only [Act.put, sjA, sjB, sjC]
                    refine wpAnyH_take (i := 9) (oi := ⟨some 22, .binOp .gtr 3 (.tmp 21) (.const (.int .i64 0)) 3, 4, "ref.go:95", #[⟨8, .data⟩, ⟨7, .guard⟩], some (7, false)⟩) (v := .bool true) rfl (by kernel_rfl) (by kernel_rfl) (by kernel_rfl) (fun _ _ _ h => h) (Or.inl ⟨by rfl, fun w' hw' => by (clear hw'; go_simp)⟩) hH ?_
                    simp only [Act.put, sjA, sjB, sjC]
                    refine wpAnyH_take (i := 10) (oi := ⟨some 23, .move (.tmp 22), 4, "ref.go:95", #[⟨9, .data⟩, ⟨7, .chain⟩, ⟨7, .guard⟩], some (7, false)⟩) (v := .bool true) rfl (by kernel_rfl) (by kernel_rfl) (by kernel_rfl) (fun _ _ _ h => h) (Or.inl ⟨by rfl, fun w' hw' => by (clear hw'; go_simp)⟩) hH ?_
                    simp only [Act.put, sjA, sjB, sjC]
                    refine wpAnyH_take (i := 11) (oi := ⟨some 24, .move (.tmp 0), 22, "ref.go:95", #[⟨10, .guard⟩], some (10, true)⟩) (v := .slice (some ⟨g, o, none⟩) n cap) rfl (by kernel_rfl) (by kernel_rfl) (by kernel_rfl) (fun _ _ _ h => h) (Or.inl ⟨by rfl, fun w' hw' => by (clear hw'; go_simp)⟩) hH ?_
                    simp only [Act.put, sjA, sjB, sjC]
                    refine wpAnyH_take (i := 12) (oi := ⟨some 25, .move (.tmp 3), 3, "ref.go:95", #[⟨10, .guard⟩], some (10, true)⟩) (v := .int .i64 (i : Int)) rfl (by kernel_rfl) (by kernel_rfl) (by kernel_rfl) (fun _ _ _ h => h) (Or.inl ⟨by rfl, fun w' hw' => by (clear hw'; go_simp)⟩) hH ?_
                    simp only [Act.put, sjA, sjB, sjC]
                    refine wpAnyH_take (i := 13) (oi := ⟨some 26, .binOp .sub 3 (.tmp 25) (.const (.int .i64 1)) 3, 3, "ref.go:95", #[⟨12, .data⟩, ⟨10, .guard⟩], some (10, true)⟩) (v := .int .i64 (i1 : Int)) rfl (by kernel_rfl) (by kernel_rfl) (by kernel_rfl) (fun _ _ _ h => h) (Or.inl ⟨by rfl, fun w' hw' => by (clear hw'; go_simp)⟩) hH ?_
                    simp only [Act.put, sjA, sjB, sjC]
                    refine wpAnyH_take (i := 14) (oi := ⟨some 27, .indexAddr 22 (.tmp 24) (.tmp 26), 0, "ref.go:95", #[⟨11, .data⟩, ⟨13, .data⟩, ⟨10, .guard⟩], some (10, true)⟩) (v := .pointer (some ⟨g, o + i1 * 3, none⟩)) rfl (by kernel_rfl) (by kernel_rfl) (by kernel_rfl) (fun _ _ _ h => h) (Or.inl ⟨by rfl, fun w' hw' => by (clear hw'; go_simp)⟩) hH ?_
                    simp only [Act.put, sjA, sjB, sjC]
                    refine wpAnyH_take (i := 15) (oi := ⟨some 28, .fieldAddr 41 (.tmp 27) 0, 0, "ref.go:95", #[⟨14, .data⟩, ⟨10, .guard⟩], some (10, true)⟩) (v := .pointer (some ⟨g, o + i1 * 3, none⟩)) rfl (by kernel_rfl) (by kernel_rfl) (by kernel_rfl) (fun _ _ _ h => h) (Or.inl ⟨by rfl, fun w' hw' => by (clear hw'; go_simp)⟩) hH ?_
                    simp only [Act.put, sjA, sjB, sjC]
                    refine wpAnyH_take (i := 16) (oi := ⟨some 29, .load 9 (.tmp 28), 9, "ref.go:95", #[⟨15, .data⟩, ⟨10, .guard⟩], some (10, true)⟩) (v := .string y.1) rfl (by kernel_rfl) (by kernel_rfl) (by kernel_rfl) (fun _ _ _ h => h) (Or.inl ⟨by rfl, fun w' hw' => by (have q := y0' w' hw'; clear hw'; go_simp)⟩) hH ?_
                    simp only [Act.put, sjA, sjB, sjC]
                    refine wpAnyH_take (i := 17) (oi := ⟨some 30, .move (.tmp 0), 22, "ref.go:95", #[⟨10, .guard⟩], some (10, true)⟩) (v := .slice (some ⟨g, o, none⟩) n cap) rfl (by kernel_rfl) (by kernel_rfl) (by kernel_rfl) (fun _ _ _ h => h) (Or.inl ⟨by rfl, fun w' hw' => by (clear hw'; go_simp)⟩) hH ?_
                    simp only [Act.put, sjA, sjB, sjC]
                    refine wpAnyH_take (i := 18) (oi := ⟨some 31, .move (.tmp 3), 3, "ref.go:95", #[⟨10, .guard⟩], some (10, true)⟩) (v := .int .i64 (i : Int)) rfl (by kernel_rfl) (by kernel_rfl) (by kernel_rfl) (fun _ _ _ h => h) (Or.inl ⟨by rfl, fun w' hw' => by (clear hw'; go_simp)⟩) hH ?_
                    simp only [Act.put, sjA, sjB, sjC]
                    refine wpAnyH_take (i := 19) (oi := ⟨some 32, .indexAddr 22 (.tmp 30) (.tmp 31), 0, "ref.go:95", #[⟨17, .data⟩, ⟨18, .data⟩, ⟨10, .guard⟩], some (10, true)⟩) (v := .pointer (some ⟨g, o + i * 3, none⟩)) rfl (by kernel_rfl) (by kernel_rfl) (by kernel_rfl) (fun _ _ _ h => h) (Or.inl ⟨by rfl, fun w' hw' => by (clear hw'; go_simp)⟩) hH ?_
                    simp only [Act.put, sjA, sjB, sjC]
                    refine wpAnyH_take (i := 20) (oi := ⟨some 33, .fieldAddr 41 (.tmp 32) 0, 0, "ref.go:95", #[⟨19, .data⟩, ⟨10, .guard⟩], some (10, true)⟩) (v := .pointer (some ⟨g, o + i * 3, none⟩)) rfl (by kernel_rfl) (by kernel_rfl) (by kernel_rfl) (fun _ _ _ h => h) (Or.inl ⟨by rfl, fun w' hw' => by (clear hw'; go_simp)⟩) hH ?_
                    simp only [Act.put, sjA, sjB, sjC]
                    refine wpAnyH_take (i := 21) (oi := ⟨some 34, .load 9 (.tmp 33), 9, "ref.go:95", #[⟨20, .data⟩, ⟨10, .guard⟩], some (10, true)⟩) (v := .string s) rfl (by kernel_rfl) (by kernel_rfl) (by kernel_rfl) (fun _ _ _ h => h) (Or.inl ⟨by rfl, fun w' hw' => by (have q := x0' w' hw'; clear hw'; go_simp)⟩) hH ?_
                    simp only [Act.put, sjA, sjB, sjC]
                    refine wpAnyH_ready (rs := [22]) (by kernel_rfl) (by simp) ?_
                    refine AllReadyH.cons (o := ⟨some 35, .call { callee := .value (.func 61), args := #[.tmp 29, .tmp 34], argTypes := #[9, 9] }, 4, "ref.go:95", #[⟨16, .data⟩, ⟨21, .data⟩, ⟨10, .chain⟩, ⟨10, .guard⟩], some (10, true)⟩) rfl (fun K hK => ?_) AllReadyH.nil
                    go_simp
                    refine (HLS.out _ HK1.out).mono ?_
                    rintro e w2 ⟨rfl, hk⟩
                    have HK2 : Hid (Kp No wr w2) := HK1.out.andNone hk
                    clear hk
                    go_wp2_with fail
                    refine hK.out _ _ (HK2.out) (fun hh => ?_)
                    clear hK K hH
                    have hH := hh
                    clear hh
                    try simp only [Act.put, sjA, sjB, sjC]
                    refine wpAnyH_take (i := 23) (oi := ⟨some 36, .unOp .not 4 (.tmp 35), 4, "ref.go:95", #[⟨22, .data⟩, ⟨10, .guard⟩], some (10, true)⟩) (v := .bool false) rfl (by kernel_rfl) (by kernel_rfl) (by kernel_rfl) (fun _ _ _ h => h) (Or.inl ⟨by rfl, fun w' hw' => by (clear hw'; go_simp)⟩) hH ?_
                    simp only [Act.put, sjA, sjB, sjC]
                    refine wpAnyH_take (i := 24) (oi := ⟨some 37, .pick (.tmp 23) (.tmp 36) (.const (.bool false)), 4, "ref.go:95", #[⟨10, .data⟩, ⟨23, .data⟩, ⟨7, .guard⟩], some (7, false)⟩) (v := .bool false) rfl (by kernel_rfl) (by kernel_rfl) (by kernel_rfl) (fun _ _ _ h => h) (Or.inl ⟨by rfl, fun w' hw' => by (clear hw'; go_simp)⟩) hH ?_
                    simp only [Act.put, sjA, sjB, sjC]
                    refine wpAnyH_take (i := 25) (oi := ⟨some 38, .pick (.tmp 20) (.const (.bool true)) (.tmp 37), 4, "ref.go:95", #[⟨7, .data⟩, ⟨24, .data⟩], none⟩) (v := .bool false) rfl (by kernel_rfl) (by kernel_rfl) (by kernel_rfl) (fun _ _ _ h => h) (Or.inl ⟨by rfl, fun w' hw' => by (clear hw'; go_simp)⟩) hH ?_
                    simp only [Act.put, sjA, sjB, sjC]
                    refine wpAnyH_take (i := 26) (oi := ⟨some 39, .move (.tmp 38), 4, "ref.go:95", #[⟨25, .data⟩, ⟨22, .chain⟩], none⟩) (v := .bool false) rfl (by kernel_rfl) (by kernel_rfl) (by kernel_rfl) (fun _ _ _ h => h) (Or.inl ⟨by rfl, fun w' hw' => by (clear hw'; go_simp)⟩) hH ?_
                    simp only [Act.put, sjA, sjB, sjC]
                    refine wpAnyH_take (i := 27) (oi := ⟨some 40, .move (.tmp 0), 22, "ref.go:95", #[⟨26, .guard⟩], some (26, false)⟩) (v := .slice (some ⟨g, o, none⟩) n cap) rfl (by kernel_rfl) (by kernel_rfl) (by kernel_rfl) (fun _ _ _ h => h) (Or.inl ⟨by rfl, fun w' hw' => by (clear hw'; go_simp)⟩) hH ?_
                    simp only [Act.put, sjA, sjB, sjC]
                    refine wpAnyH_take (i := 28) (oi := ⟨some 41, .move (.tmp 0), 22, "ref.go:95", #[⟨26, .guard⟩], some (26, false)⟩) (v := .slice (some ⟨g, o, none⟩) n cap) rfl (by kernel_rfl) (by kernel_rfl) (by kernel_rfl) (fun _ _ _ h => h) (Or.inl ⟨by rfl, fun w' hw' => by (clear hw'; go_simp)⟩) hH ?_
                    simp only [Act.put, sjA, sjB, sjC]
                    refine wpAnyH_take (i := 29) (oi := ⟨some 42, .move (.tmp 3), 3, "ref.go:95", #[⟨26, .guard⟩], some (26, false)⟩) (v := .int .i64 (i : Int)) rfl (by kernel_rfl) (by kernel_rfl) (by kernel_rfl) (fun _ _ _ h => h) (Or.inl ⟨by rfl, fun w' hw' => by (clear hw'; go_simp)⟩) hH ?_
                    simp only [Act.put, sjA, sjB, sjC]
                    refine wpAnyH_take (i := 30) (oi := ⟨some 43, .indexAddr 22 (.tmp 41) (.tmp 42), 0, "ref.go:95", #[⟨28, .data⟩, ⟨29, .data⟩, ⟨26, .guard⟩], some (26, false)⟩) (v := .pointer (some ⟨g, o + i * 3, none⟩)) rfl (by kernel_rfl) (by kernel_rfl) (by kernel_rfl) (fun _ _ _ h => h) (Or.inl ⟨by rfl, fun w' hw' => by (clear hw'; go_simp)⟩) hH ?_
                    simp only [Act.put, sjA, sjB, sjC]
                    refine wpAnyH_take (i := 31) (oi := ⟨some 44, .fieldAddr 41 (.tmp 43) 0, 0, "ref.go:95", #[⟨30, .data⟩, ⟨26, .guard⟩], some (26, false)⟩) (v := .pointer (some ⟨g, o + i * 3, none⟩)) rfl (by kernel_rfl) (by kernel_rfl) (by kernel_rfl) (fun _ _ _ h => h) (Or.inl ⟨by rfl, fun w' hw' => by (clear hw'; go_simp)⟩) hH ?_
                    simp only [Act.put, sjA, sjB, sjC]
                    refine wpAnyH_take (i := 32) (oi := ⟨some 45, .load 9 (.tmp 44), 9, "ref.go:95", #[⟨31, .data⟩, ⟨26, .guard⟩], some (26, false)⟩) (v := .string s) rfl (by kernel_rfl) (by kernel_rfl) (by kernel_rfl) (fun _ _ _ h => h) (Or.inl ⟨by rfl, fun w' hw' => by (have q := x0' w' hw'; clear hw'; go_simp)⟩) hH ?_
                    simp only [Act.put, sjA, sjB, sjC]
                    refine wpAnyH_ready (rs := [33]) (by kernel_rfl) (by simp) ?_
                    refine AllReadyH.cons (o := ⟨some 46, .call { callee := .value (.func 41), args := #[.tmp 40, .tmp 45], argTypes := #[22, 9] }, 31, "ref.go:95", #[⟨27, .data⟩, ⟨32, .data⟩, ⟨26, .chain⟩, ⟨26, .guard⟩], some (26, false)⟩) rfl (fun K hK => ?_) AllReadyH.nil
                    go_simp
                    refine (HDR.out _ HK2.out).mono ?_
                    rintro e w3 ⟨rfl, hk⟩
                    have HK3 : Hid (Kp No wr w3) := HK2.out.andNone hk
                    clear hk
                    go_wp2_with fail
                    refine hK.out _ _ (HK3.out) (fun hh => ?_)
                    clear hK K hH
                    have hH := hh
                    clear hh
                    try simp only [Act.put, sjA, sjB, sjC]
                    refine wpAnyH_take (i := 34) (oi := ⟨some 47, .binOp .neq 31 (.tmp 46) (.const (.int .i64 0)) 31, 4, "ref.go:95", #[⟨33, .data⟩, ⟨26, .guard⟩], some (26, false)⟩) (v := .bool false) rfl (by kernel_rfl) (by kernel_rfl) (by kernel_rfl) (fun _ _ _ h => h) (Or.inl ⟨by rfl, fun w' hw' => by (clear hw'; go_simp)⟩) hH ?_
                    simp only [Act.put, sjA, sjB, sjC]
                    refine wpAnyH_take (i := 35) (oi := ⟨some 48, .pick (.tmp 39) (.const (.bool true)) (.tmp 47), 4, "ref.go:95", #[⟨26, .data⟩, ⟨34, .data⟩], none⟩) (v := .bool false) rfl (by kernel_rfl) (by kernel_rfl) (by kernel_rfl) (fun _ _ _ h => h) (Or.inl ⟨by rfl, fun w' hw' => by (clear hw'; go_simp)⟩) hH ?_
                    simp only [Act.put, sjA, sjB, sjC]
                    refine wpAnyH_take (i := 36) (oi := ⟨some 49, .move (.tmp 48), 4, "ref.go:95", #[⟨35, .data⟩, ⟨33, .chain⟩], none⟩) (v := .bool false) rfl (by kernel_rfl) (by kernel_rfl) (by kernel_rfl) (fun _ _ _ h => h) (Or.inl ⟨by rfl, fun w' hw' => by (clear hw'; go_simp)⟩) hH ?_
                    simp only [Act.put, sjA, sjB, sjC]
                    refine wpAnyH_take (i := 37) (oi := ⟨some 50, .move (.tmp 0), 22, "ref.go:95", #[⟨36, .guard⟩], some (36, false)⟩) (v := .slice (some ⟨g, o, none⟩) n cap) rfl (by kernel_rfl) (by kernel_rfl) (by kernel_rfl) (fun _ _ _ h => h) (Or.inl ⟨by rfl, fun w' hw' => by (clear hw'; go_simp)⟩) hH ?_
                    simp only [Act.put, sjA, sjB, sjC]
                    refine wpAnyH_take (i := 38) (oi := ⟨some 51, .move (.tmp 3), 3, "ref.go:95", #[⟨36, .guard⟩], some (36, false)⟩) (v := .int .i64 (i : Int)) rfl (by kernel_rfl) (by kernel_rfl) (by kernel_rfl) (fun _ _ _ h => h) (Or.inl ⟨by rfl, fun w' hw' => by (clear hw'; go_simp)⟩) hH ?_
                    simp only [Act.put, sjA, sjB, sjC]
                    refine wpAnyH_take (i := 39) (oi := ⟨some 52, .indexAddr 22 (.tmp 50) (.tmp 51), 0, "ref.go:95", #[⟨37, .data⟩, ⟨38, .data⟩, ⟨36, .guard⟩], some (36, false)⟩) (v := .pointer (some ⟨g, o + i * 3, none⟩)) rfl (by kernel_rfl) (by kernel_rfl) (by kernel_rfl) (fun _ _ _ h => h) (Or.inl ⟨by rfl, fun w' hw' => by (clear hw'; go_simp)⟩) hH ?_
                    simp only [Act.put, sjA, sjB, sjC]
                    refine wpAnyH_take (i := 40) (oi := ⟨some 53, .fieldAddr 41 (.tmp 52) 1, 0, "ref.go:95", #[⟨39, .data⟩, ⟨36, .guard⟩], some (36, false)⟩) (v := .pointer (some ⟨g, o + i * 3 + 1, none⟩)) rfl (by kernel_rfl) (by kernel_rfl) (by kernel_rfl) (fun _ _ _ h => h) (Or.inl ⟨by rfl, fun w' hw' => by (clear hw'; go_simp)⟩) hH ?_
                    simp only [Act.put, sjA, sjB, sjC]
                    refine wpAnyH_take (i := 41) (oi := ⟨some 54, .load 4 (.tmp 53), 4, "ref.go:95", #[⟨40, .data⟩, ⟨36, .guard⟩], some (36, false)⟩) (v := .bool false) rfl (by kernel_rfl) (by kernel_rfl) (by kernel_rfl) (fun _ _ _ h => h) (Or.inl ⟨by rfl, fun w' hw' => by (have q := x1' w' hw'; clear hw'; go_simp)⟩) hH ?_
                    simp only [Act.put, sjA, sjB, sjC]
                    refine wpAnyH_take (i := 42) (oi := ⟨some 55, .move (.tmp 54), 4, "ref.go:95", #[⟨41, .data⟩, ⟨36, .chain⟩, ⟨36, .guard⟩], some (36, false)⟩) (v := .bool false) rfl (by kernel_rfl) (by kernel_rfl) (by kernel_rfl) (fun _ _ _ h => h) (Or.inl ⟨by rfl, fun w' hw' => by (clear hw'; go_simp)⟩) hH ?_
                    simp only [Act.put, sjA, sjB, sjC]
                    refine wpAnyH_take (i := 43) (oi := ⟨some 56, .move (.tmp 0), 22, "ref.go:95", #[⟨42, .guard⟩], some (42, true)⟩) (v := undef) rfl (by kernel_rfl) (by kernel_rfl) (by kernel_rfl) (fun _ _ _ h => h) (Or.inr ⟨by rfl, rfl⟩) hH ?_
                    simp only [Act.put, sjA, sjB, sjC]
                    refine wpAnyH_take (i := 44) (oi := ⟨some 57, .move (.tmp 3), 3, "ref.go:95", #[⟨42, .guard⟩], some (42, true)⟩) (v := undef) rfl (by kernel_rfl) (by kernel_rfl) (by kernel_rfl) (fun _ _ _ h => h) (Or.inr ⟨by rfl, rfl⟩) hH ?_
                    simp only [Act.put, sjA, sjB, sjC]
                    refine wpAnyH_take (i := 45) (oi := ⟨some 58, .indexAddr 22 (.tmp 56) (.tmp 57), 0, "ref.go:95", #[⟨43, .data⟩, ⟨44, .data⟩, ⟨42, .guard⟩], some (42, true)⟩) (v := undef) rfl (by kernel_rfl) (by kernel_rfl) (by kernel_rfl) (fun _ _ _ h => h) (Or.inr ⟨by rfl, rfl⟩) hH ?_
                    simp only [Act.put, sjA, sjB, sjC]
                    refine wpAnyH_take (i := 46) (oi := ⟨some 59, .fieldAddr 41 (.tmp 58) 2, 0, "ref.go:95", #[⟨45, .data⟩, ⟨42, .guard⟩], some (42, true)⟩) (v := undef) rfl (by kernel_rfl) (by kernel_rfl) (by kernel_rfl) (fun _ _ _ h => h) (Or.inr ⟨by rfl, rfl⟩) hH ?_
                    simp only [Act.put, sjA, sjB, sjC]
                    refine wpAnyH_take (i := 47) (oi := ⟨some 60, .load 23 (.tmp 59), 23, "ref.go:95", #[⟨46, .data⟩, ⟨42, .guard⟩], some (42, true)⟩) (v := undef) rfl (by kernel_rfl) (by kernel_rfl) (by kernel_rfl) (fun _ _ _ h => h) (Or.inr ⟨by rfl, rfl⟩) hH ?_
                    simp only [Act.put, sjA, sjB, sjC]
                    refine wpAnyH_take (i := 48) (oi := ⟨some 61, .call { callee := .builtin Builtin.len, args := #[.tmp 60], argTypes := #[23] }, 3, "ref.go:95", #[⟨47, .data⟩, ⟨42, .guard⟩], some (42, true)⟩) (v := undef) rfl (by kernel_rfl) (by kernel_rfl) (by kernel_rfl) (fun _ _ _ h => h) (Or.inr ⟨by rfl, rfl⟩) hH ?_
                    simp only [Act.put, sjA, sjB, sjC]
                    refine wpAnyH_take (i := 49) (oi := ⟨some 62, .binOp .gtr 3 (.tmp 61) (.const (.int .i64 0)) 3, 4, "ref.go:95", #[⟨48, .data⟩, ⟨42, .guard⟩], some (42, true)⟩) (v := undef) rfl (by kernel_rfl) (by kernel_rfl) (by kernel_rfl) (fun _ _ _ h => h) (Or.inr ⟨by rfl, rfl⟩) hH ?_
                    simp only [Act.put, sjA, sjB, sjC]
                    refine wpAnyH_take (i := 50) (oi := ⟨some 63, .pick (.tmp 55) (.tmp 62) (.const (.bool false)), 4, "ref.go:95", #[⟨42, .data⟩, ⟨49, .data⟩, ⟨36, .guard⟩], some (36, false)⟩) (v := .bool false) rfl (by kernel_rfl) (by kernel_rfl) (by kernel_rfl) (fun _ _ _ h => h) (Or.inl ⟨by rfl, fun w' hw' => by (clear hw'; go_simp)⟩) hH ?_
                    simp only [Act.put, sjA, sjB, sjC]
                    refine wpAnyH_take (i := 51) (oi := ⟨some 64, .pick (.tmp 49) (.const (.bool true)) (.tmp 63), 4, "ref.go:95", #[⟨36, .data⟩, ⟨50, .data⟩], none⟩) (v := .bool false) rfl (by kernel_rfl) (by kernel_rfl) (by kernel_rfl) (fun _ _ _ h => h) (Or.inl ⟨by rfl, fun w' hw' => by (clear hw'; go_simp)⟩) hH ?_
                    simp only [Act.put, sjA, sjB, sjC]
                    refine wpAnyH_take (i := 52) (oi := ⟨some 65, .move (.tmp 64), 4, "ref.go:95", #[⟨51, .data⟩, ⟨42, .chain⟩], none⟩) (v := .bool false) rfl (by kernel_rfl) (by kernel_rfl) (by kernel_rfl) (fun _ _ _ h => h) (Or.inl ⟨by rfl, fun w' hw' => by (clear hw'; go_simp)⟩) hH ?_
                    simp only [Act.put, sjA, sjB, sjC]
                    refine wpAnyH_take (i := 53) (oi := ⟨some 66, .move (.tmp 0), 22, "ref.go:95", #[⟨52, .guard⟩], some (52, false)⟩) (v := .slice (some ⟨g, o, none⟩) n cap) rfl (by kernel_rfl) (by kernel_rfl) (by kernel_rfl) (fun _ _ _ h => h) (Or.inl ⟨by rfl, fun w' hw' => by (clear hw'; go_simp)⟩) hH ?_
                    simp only [Act.put, sjA, sjB, sjC]
                    refine wpAnyH_take (i := 54) (oi := ⟨some 67, .move (.tmp 3), 3, "ref.go:95", #[⟨52, .guard⟩], some (52, false)⟩) (v := .int .i64 (i : Int)) rfl (by kernel_rfl) (by kernel_rfl) (by kernel_rfl) (fun _ _ _ h => h) (Or.inl ⟨by rfl, fun w' hw' => by (clear hw'; go_simp)⟩) hH ?_
                    simp only [Act.put, sjA, sjB, sjC]
                    refine wpAnyH_take (i := 55) (oi := ⟨some 68, .indexAddr 22 (.tmp 66) (.tmp 67), 0, "ref.go:95", #[⟨53, .data⟩, ⟨54, .data⟩, ⟨52, .guard⟩], some (52, false)⟩) (v := .pointer (some ⟨g, o + i * 3, none⟩)) rfl (by kernel_rfl) (by kernel_rfl) (by kernel_rfl) (fun _ _ _ h => h) (Or.inl ⟨by rfl, fun w' hw' => by (clear hw'; go_simp)⟩) hH ?_
                    simp only [Act.put, sjA, sjB, sjC]
                    refine wpAnyH_take (i := 56) (oi := ⟨some 69, .fieldAddr 41 (.tmp 68) 2, 0, "ref.go:95", #[⟨55, .data⟩, ⟨52, .guard⟩], some (52, false)⟩) (v := .pointer (some ⟨g, o + i * 3 + 2, none⟩)) rfl (by kernel_rfl) (by kernel_rfl) (by kernel_rfl) (fun _ _ _ h => h) (Or.inl ⟨by rfl, fun w' hw' => by (clear hw'; go_simp)⟩) hH ?_
                    simp only [Act.put, sjA, sjB, sjC]
                    refine wpAnyH_take (i := 57) (oi := ⟨some 70, .load 23 (.tmp 69), 23, "ref.go:95", #[⟨56, .data⟩, ⟨52, .guard⟩], some (52, false)⟩) (v := .slice au bs.length cu) rfl (by kernel_rfl) (by kernel_rfl) (by kernel_rfl) (fun _ _ _ h => h) (Or.inl ⟨by rfl, fun w' hw' => by (have q := x2' w' hw'; clear hw'; go_simp)⟩) hH ?_
                    simp only [Act.put, sjA, sjB, sjC]
                    refine wpAnyH_take (i := 58) (oi := ⟨some 71, .call { callee := .builtin Builtin.len, args := #[.tmp 70], argTypes := #[23] }, 3, "ref.go:95", #[⟨57, .data⟩, ⟨52, .guard⟩], some (52, false)⟩) (v := .int .i64 (bs.length : Int)) rfl (by kernel_rfl) (by kernel_rfl) (by kernel_rfl) (fun _ _ _ h => h) (Or.inl ⟨by rfl, fun w' hw' => by (clear hw'; go_simp)⟩) hH ?_
                    simp only [Act.put, sjA, sjB, sjC]
                    refine wpAnyH_take (i := 59) (oi := ⟨some 72, .binOp .gtr 3 (.tmp 71) (.const (.int .i64 2000)) 3, 4, "ref.go:95", #[⟨58, .data⟩, ⟨52, .guard⟩], some (52, false)⟩) (v := .bool false) rfl (by kernel_rfl) (by kernel_rfl) (by kernel_rfl) (fun _ _ _ h => h) (Or.inl ⟨by rfl, fun w' hw' => by (clear hw'; go_simp)⟩) hH ?_
                    simp only [Act.put, sjA, sjB, sjC]
                    refine wpAnyH_take (i := 60) (oi := ⟨some 73, .pick (.tmp 65) (.const (.bool true)) (.tmp 72), 4, "ref.go:95", #[⟨52, .data⟩, ⟨59, .data⟩], none⟩) (v := .bool false) rfl (by kernel_rfl) (by kernel_rfl) (by kernel_rfl) (fun _ _ _ h => h) (Or.inl ⟨by rfl, fun w' hw' => by (clear hw'; go_simp)⟩) hH ?_
                    simp only [Act.put, sjA, sjB, sjC]
                    refine wpAnyH_done (by kernel_rfl) ?_ _
                    clear hH x0' x1' x2'
                    go_wp2_with fail
                    go_roundw
                    case rel => exact ⟨i + 1, by go_num, by omega, HNX2.out, HS.out.2.andNone HK3.out⟩
                    case measure => simp [intOf] <;> omega
                  · have hm2 : ¬ 0 < bs.length := by simpa using hm
                    have hmI : bs.length = 0 := by omega
                    have hm3 : ¬ (2000 : Int) < (bs.length : Int) := by omega
                    have HM4 := hid hmI
                    clear hm hmI
                    have HNX2 := hid (HNXT.out HYES.out)
                    clear HNXT HWB HOK HBAD
                    go_wp2_with fail
                    refine wp_region_held_drew (S := fun V => Kp No wr V) (by kernel_rfl) ((Kp.refl _ _).drew) (fun hH => ?_)
                    refine wpAnyH_take (i := 0) (oi := ⟨some 13, .move (.tmp 0), 22, "ref.go:95", #[], none⟩) (v := .slice (some ⟨g, o, none⟩) n cap) rfl (by kernel_rfl) (by kernel_rfl) (by kernel_rfl) (fun _ _ _ h => h) (Or.inl ⟨by rfl, fun w' hw' => by (clear hw'; go_simp)⟩) hH ?_
                    simp only [Act.put, sjA, sjB, sjC]
                    refine wpAnyH_take (i := 1) (oi := ⟨some 14, .move (.tmp 3), 3, "ref.go:95", #[], none⟩) (v := .int .i64 (i : Int)) rfl (by kernel_rfl) (by kernel_rfl) (by kernel_rfl) (fun _ _ _ h => h) (Or.inl ⟨by rfl, fun w' hw' => by (clear hw'; go_simp)⟩) hH ?_
                    simp only [Act.put, sjA, sjB, sjC]
                    refine wpAnyH_take (i := 2) (oi := ⟨some 15, .indexAddr 22 (.tmp 13) (.tmp 14), 0, "ref.go:95", #[⟨0, .data⟩, ⟨1, .data⟩], none⟩) (v := .pointer (some ⟨g, o + i * 3, none⟩)) rfl (by kernel_rfl) (by kernel_rfl) (by kernel_rfl) (fun _ _ _ h => h) (Or.inl ⟨by rfl, fun w' hw' => by (clear hw'; go_simp)⟩) hH ?_
                    simp only [Act.put, sjA, sjB, sjC]
                    refine wpAnyH_take (i := 3) (oi := ⟨some 16, .fieldAddr 41 (.tmp 15) 0, 0, "ref.go:95", #[⟨2, .data⟩], none⟩) (v := .pointer (some ⟨g, o + i * 3, none⟩)) rfl (by kernel_rfl) (by kernel_rfl) (by kernel_rfl) (fun _ _ _ h => h) (Or.inl ⟨by rfl, fun w' hw' => by (clear hw'; go_simp)⟩) hH ?_
                    simp only [Act.put, sjA, sjB, sjC]
                    refine wpAnyH_take (i := 4) (oi := ⟨some 17, .load 9 (.tmp 16), 9, "ref.go:95", #[⟨3, .data⟩], none⟩) (v := .string s) rfl (by kernel_rfl) (by kernel_rfl) (by kernel_rfl) (fun _ _ _ h => h) (Or.inl ⟨by rfl, fun w' hw' => by (have q := x0' w' hw'; clear hw'; go_simp)⟩) hH ?_
                    simp only [Act.put, sjA, sjB, sjC]
                    refine wpAnyH_ready (rs := [5]) (by kernel_rfl) (by simp) ?_
                    refine AllReadyH.cons (o := ⟨some 18, .call { callee := .value (.func 43), args := #[.tmp 17], argTypes := #[9] }, 4, "ref.go:95", #[⟨4, .data⟩], none⟩) rfl (fun K hK => ?_) AllReadyH.nil
                    go_simp
                    refine (HP.out _ (Kp.refl _ _).drew).mono ?_
                    rintro e w1 ⟨rfl, hk⟩
                    have HK1 : Hid (Kp No wr w1) := (Kp.refl _ _).drew.andNone hk
                    clear hk
                    go_wp2_with fail
                    refine hK.out _ _ (HK1.out) (fun hh => ?_)
                    clear hK K hH
                    have hH := hh
                    clear hh
                    try simp only [Act.put, sjA, sjB, sjC]
                    refine wpAnyH_take (i := 6) (oi := ⟨some 19, .unOp .not 4 (.tmp 18), 4, "ref.go:95", #[⟨5, .data⟩], none⟩) (v := .bool false) rfl (by kernel_rfl) (by kernel_rfl) (by kernel_rfl) (fun _ _ _ h => h) (Or.inl ⟨by rfl, fun w' hw' => by (clear hw'; go_simp)⟩) hH ?_
                    simp only [Act.put, sjA, sjB, sjC]
                    refine wpAnyH_take (i := 7) (oi := ⟨some 20, .move (.tmp 19), 4, "ref.go:95", #[⟨6, .data⟩, ⟨5, .chain⟩], none⟩) (v := .bool false) rfl (by kernel_rfl) (by kernel_rfl) (by kernel_rfl) (fun _ _ _ h => h) (Or.inl ⟨by rfl, fun w' hw' => by (clear hw'; go_simp)⟩) hH ?_
                    simp only [Act.put, sjA, sjB, sjC]
                    refine wpAnyH_take (i := 8) (oi := ⟨some 21, .move (.tmp 3), 3, "ref.go:95", #[⟨7, .guard⟩], some (7, false)⟩) (v := .int .i64 (i : Int)) rfl (by kernel_rfl) (by kernel_rfl) (by kernel_rfl) (fun _ _ _ h => h) (Or.inl ⟨by rfl, fun w' hw' => by (clear hw'; go_simp)⟩) hH ?_
                    simp only [Act.put, sjA, sjB, sjC]
                    refine wpAnyH_take (i := 9) (oi := ⟨some 22, .binOp .gtr 3 (.tmp 21) (.const (.int .i64 0)) 3, 4, "ref.go:95", #[⟨8, .data⟩, ⟨7, .guard⟩], some (7, false)⟩) (v := .bool true) rfl (by kernel_rfl) (by kernel_rfl) (by kernel_rfl) (fun _ _ _ h => h) (Or.inl ⟨by rfl, fun w' hw' => by (clear hw'; go_simp)⟩) hH ?_
                    simp only [Act.put, sjA, sjB, sjC]
                    refine wpAnyH_take (i := 10) (oi := ⟨some 23, .move (.tmp 22), 4, "ref.go:95", #[⟨9, .data⟩, ⟨7, .chain⟩, ⟨7, .guard⟩], some (7, false)⟩) (v := .bool true) rfl (by kernel_rfl) (by kernel_rfl) (by kernel_rfl) (fun _ _ _ h => h) (Or.inl ⟨by rfl, fun w' hw' => by (clear hw'; go_simp)⟩) hH ?_
                    simp only [Act.put, sjA, sjB, sjC]
                    refine wpAnyH_take (i := 11) (oi := ⟨some 24, .move (.tmp 0), 22, "ref.go:95", #[⟨10, .guard⟩], some (10, true)⟩) (v := .slice (some ⟨g, o, none⟩) n cap) rfl (by kernel_rfl) (by kernel_rfl) (by kernel_rfl) (fun _ _ _ h => h) (Or.inl ⟨by rfl, fun w' hw' => by (clear hw'; go_simp)⟩) hH ?_
                    simp only [Act.put, sjA, sjB, sjC]
                    refine wpAnyH_take (i := 12) (oi := ⟨some 25, .move (.tmp 3), 3, "ref.go:95", #[⟨10, .guard⟩], some (10, true)⟩) (v := .int .i64 (i : Int)) rfl (by kernel_rfl) (by kernel_rfl) (by kernel_rfl) (fun _ _ _ h => h) (Or.inl ⟨by rfl, fun w' hw' => by (clear hw'; go_simp)⟩) hH ?_
                    simp only [Act.put, sjA, sjB, sjC]
                    refine wpAnyH_take (i := 13) (oi := ⟨some 26, .binOp .sub 3 (.tmp 25) (.const (.int .i64 1)) 3, 3, "ref.go:95", #[⟨12, .data⟩, ⟨10, .guard⟩], some (10, true)⟩) (v := .int .i64 (i1 : Int)) rfl (by kernel_rfl) (by kernel_rfl) (by kernel_rfl) (fun _ _ _ h => h) (Or.inl ⟨by rfl, fun w' hw' => by (clear hw'; go_simp)⟩) hH ?_
                    simp only [Act.put, sjA, sjB, sjC]
                    refine wpAnyH_take (i := 14) (oi := ⟨some 27, .indexAddr 22 (.tmp 24) (.tmp 26), 0, "ref.go:95", #[⟨11, .data⟩, ⟨13, .data⟩, ⟨10, .guard⟩], some (10, true)⟩) (v := .pointer (some ⟨g, o + i1 * 3, none⟩)) rfl (by kernel_rfl) (by kernel_rfl) (by kernel_rfl) (fun _ _ _ h => h) (Or.inl ⟨by rfl, fun w' hw' => by (clear hw'; go_simp)⟩) hH ?_
                    simp only [Act.put, sjA, sjB, sjC]
                    refine wpAnyH_take (i := 15) (oi := ⟨some 28, .fieldAddr 41 (.tmp 27) 0, 0, "ref.go:95", #[⟨14, .data⟩, ⟨10, .guard⟩], some (10, true)⟩) (v := .pointer (some ⟨g, o + i1 * 3, none⟩)) rfl (by kernel_rfl) (by kernel_rfl) (by kernel_rfl) (fun _ _ _ h => h) (Or.inl ⟨by rfl, fun w' hw' => by (clear hw'; go_simp)⟩) hH ?_
                    simp only [Act.put, sjA, sjB, sjC]
                    refine wpAnyH_take (i := 16) (oi := ⟨some 29, .load 9 (.tmp 28), 9, "ref.go:95", #[⟨15, .data⟩, ⟨10, .guard⟩], some (10, true)⟩) (v := .string y.1) rfl (by kernel_rfl) (by kernel_rfl) (by kernel_rfl) (fun _ _ _ h => h) (Or.inl ⟨by rfl, fun w' hw' => by (have q := y0' w' hw'; clear hw'; go_simp)⟩) hH ?_
                    simp only [Act.put, sjA, sjB, sjC]
                    refine wpAnyH_take (i := 17) (oi := ⟨some 30, .move (.tmp 0), 22, "ref.go:95", #[⟨10, .guard⟩], some (10, true)⟩) (v := .slice (some ⟨g, o, none⟩) n cap) rfl (by kernel_rfl) (by kernel_rfl) (by kernel_rfl) (fun _ _ _ h => h) (Or.inl ⟨by rfl, fun w' hw' => by (clear hw'; go_simp)⟩) hH ?_
                    simp only [Act.put, sjA, sjB, sjC]
                    refine wpAnyH_take (i := 18) (oi := ⟨some 31, .move (.tmp 3), 3, "ref.go:95", #[⟨10, .guard⟩], some (10, true)⟩) (v := .int .i64 (i : Int)) rfl (by kernel_rfl) (by kernel_rfl) (by kernel_rfl) (fun _ _ _ h => h) (Or.inl ⟨by rfl, fun w' hw' => by (clear hw'; go_simp)⟩) hH ?_
                    simp only [Act.put, sjA, sjB, sjC]
                    refine wpAnyH_take (i := 19) (oi := ⟨some 32, .indexAddr 22 (.tmp 30) (.tmp 31), 0, "ref.go:95", #[⟨17, .data⟩, ⟨18, .data⟩, ⟨10, .guard⟩], some (10, true)⟩) (v := .pointer (some ⟨g, o + i * 3, none⟩)) rfl (by kernel_rfl) (by kernel_rfl) (by kernel_rfl) (fun _ _ _ h => h) (Or.inl ⟨by rfl, fun w' hw' => by (clear hw'; go_simp)⟩) hH ?_
                    simp only [Act.put, sjA, sjB, sjC]
                    refine wpAnyH_take (i := 20) (oi := ⟨some 33, .fieldAddr 41 (.tmp 32) 0, 0, "ref.go:95", #[⟨19, .data⟩, ⟨10, .guard⟩], some (10, true)⟩) (v := .pointer (some ⟨g, o + i * 3, none⟩)) rfl (by kernel_rfl) (by kernel_rfl) (by kernel_rfl) (fun _ _ _ h => h) (Or.inl ⟨by rfl, fun w' hw' => by (clear hw'; go_simp)⟩) hH ?_
                    simp only [Act.put, sjA, sjB, sjC]
                    refine wpAnyH_take (i := 21) (oi := ⟨some 34, .load 9 (.tmp 33), 9, "ref.go:95", #[⟨20, .data⟩, ⟨10, .guard⟩], some (10, true)⟩) (v := .string s) rfl (by kernel_rfl) (by kernel_rfl) (by kernel_rfl) (fun _ _ _ h => h) (Or.inl ⟨by rfl, fun w' hw' => by (have q := x0' w' hw'; clear hw'; go_simp)⟩) hH ?_
                    simp only [Act.put, sjA, sjB, sjC]
                    refine wpAnyH_ready (rs := [22]) (by kernel_rfl) (by simp) ?_
                    refine AllReadyH.cons (o := ⟨some 35, .call { callee := .value (.func 61), args := #[.tmp 29, .tmp 34], argTypes := #[9, 9] }, 4, "ref.go:95", #[⟨16, .data⟩, ⟨21, .data⟩, ⟨10, .chain⟩, ⟨10, .guard⟩], some (10, true)⟩) rfl (fun K hK => ?_) AllReadyH.nil
                    go_simp
                    refine (HLS.out _ HK1.out).mono ?_
                    rintro e w2 ⟨rfl, hk⟩
                    have HK2 : Hid (Kp No wr w2) := HK1.out.andNone hk
                    clear hk
                    go_wp2_with fail
                    refine hK.out _ _ (HK2.out) (fun hh => ?_)
                    clear hK K hH
                    have hH := hh
                    clear hh
                    try simp only [Act.put, sjA, sjB, sjC]
                    refine wpAnyH_take (i := 23) (oi := ⟨some 36, .unOp .not 4 (.tmp 35), 4, "ref.go:95", #[⟨22, .data⟩, ⟨10, .guard⟩], some (10, true)⟩) (v := .bool false) rfl (by kernel_rfl) (by kernel_rfl) (by kernel_rfl) (fun _ _ _ h => h) (Or.inl ⟨by rfl, fun w' hw' => by (clear hw'; go_simp)⟩) hH ?_
                    simp only [Act.put, sjA, sjB, sjC]
                    refine wpAnyH_take (i := 24) (oi := ⟨some 37, .pick (.tmp 23) (.tmp 36) (.const (.bool false)), 4, "ref.go:95", #[⟨10, .data⟩, ⟨23, .data⟩, ⟨7, .guard⟩], some (7, false)⟩) (v := .bool false) rfl (by kernel_rfl) (by kernel_rfl) (by kernel_rfl) (fun _ _ _ h => h) (Or.inl ⟨by rfl, fun w' hw' => by (clear hw'; go_simp)⟩) hH ?_
                    simp only [Act.put, sjA, sjB, sjC]
                    refine wpAnyH_take (i := 25) (oi := ⟨some 38, .pick (.tmp 20) (.const (.bool true)) (.tmp 37), 4, "ref.go:95", #[⟨7, .data⟩, ⟨24, .data⟩], none⟩) (v := .bool false) rfl (by kernel_rfl) (by kernel_rfl) (by kernel_rfl) (fun _ _ _ h => h) (Or.inl ⟨by rfl, fun w' hw' => by (clear hw'; go_simp)⟩) hH ?_
                    simp only [Act.put, sjA, sjB, sjC]
                    refine wpAnyH_take (i := 26) (oi := ⟨some 39, .move (.tmp 38), 4, "ref.go:95", #[⟨25, .data⟩, ⟨22, .chain⟩], none⟩) (v := .bool false) rfl (by kernel_rfl) (by kernel_rfl) (by kernel_rfl) (fun _ _ _ h => h) (Or.inl ⟨by rfl, fun w' hw' => by (clear hw'; go_simp)⟩) hH ?_
                    simp only [Act.put, sjA, sjB, sjC]
                    refine wpAnyH_take (i := 27) (oi := ⟨some 40, .move (.tmp 0), 22, "ref.go:95", #[⟨26, .guard⟩], some (26, false)⟩) (v := .slice (some ⟨g, o, none⟩) n cap) rfl (by kernel_rfl) (by kernel_rfl) (by kernel_rfl) (fun _ _ _ h => h) (Or.inl ⟨by rfl, fun w' hw' => by (clear hw'; go_simp)⟩) hH ?_
                    simp only [Act.put, sjA, sjB, sjC]
                    refine wpAnyH_take (i := 28) (oi := ⟨some 41, .move (.tmp 0), 22, "ref.go:95", #[⟨26, .guard⟩], some (26, false)⟩) (v := .slice (some ⟨g, o, none⟩) n cap) rfl (by kernel_rfl) (by kernel_rfl) (by kernel_rfl) (fun _ _ _ h => h) (Or.inl ⟨by rfl, fun w' hw' => by (clear hw'; go_simp)⟩) hH ?_
                    simp only [Act.put, sjA, sjB, sjC]
                    refine wpAnyH_take (i := 29) (oi := ⟨some 42, .move (.tmp 3), 3, "ref.go:95", #[⟨26, .guard⟩], some (26, false)⟩) (v := .int .i64 (i : Int)) rfl (by kernel_rfl) (by kernel_rfl) (by kernel_rfl) (fun _ _ _ h => h) (Or.inl ⟨by rfl, fun w' hw' => by (clear hw'; go_simp)⟩) hH ?_
                    simp only [Act.put, sjA, sjB, sjC]
                    refine wpAnyH_take (i := 30) (oi := ⟨some 43, .indexAddr 22 (.tmp 41) (.tmp 42), 0, "ref.go:95", #[⟨28, .data⟩, ⟨29, .data⟩, ⟨26, .guard⟩], some (26, false)⟩) (v := .pointer (some ⟨g, o + i * 3, none⟩)) rfl (by kernel_rfl) (by kernel_rfl) (by kernel_rfl) (fun _ _ _ h => h) (Or.inl ⟨by rfl, fun w' hw' => by (clear hw'; go_simp)⟩) hH ?_
                    simp only [Act.put, sjA, sjB, sjC]
                    refine wpAnyH_take (i := 31) (oi := ⟨some 44, .fieldAddr 41 (.tmp 43) 0, 0, "ref.go:95", #[⟨30, .data⟩, ⟨26, .guard⟩], some (26, false)⟩) (v := .pointer (some ⟨g, o + i * 3, none⟩)) rfl (by kernel_rfl) (by kernel_rfl) (by kernel_rfl) (fun _ _ _ h => h) (Or.inl ⟨by rfl, fun w' hw' => by (clear hw'; go_simp)⟩) hH ?_
                    simp only [Act.put, sjA, sjB, sjC]
                    refine wpAnyH_take (i := 32) (oi := ⟨some 45, .load 9 (.tmp 44), 9, "ref.go:95", #[⟨31, .data⟩, ⟨26, .guard⟩], some (26, false)⟩) (v := .string s) rfl (by kernel_rfl) (by kernel_rfl) (by kernel_rfl) (fun _ _ _ h => h) (Or.inl ⟨by rfl, fun w' hw' => by (have q := x0' w' hw'; clear hw'; go_simp)⟩) hH ?_
                    simp only [Act.put, sjA, sjB, sjC]
                    refine wpAnyH_ready (rs := [33]) (by kernel_rfl) (by simp) ?_
                    refine AllReadyH.cons (o := ⟨some 46, .call { callee := .value (.func 41), args := #[.tmp 40, .tmp 45], argTypes := #[22, 9] }, 31, "ref.go:95", #[⟨27, .data⟩, ⟨32, .data⟩, ⟨26, .chain⟩, ⟨26, .guard⟩], some (26, false)⟩) rfl (fun K hK => ?_) AllReadyH.nil
                    go_simp
                    refine (HDR.out _ HK2.out).mono ?_
                    rintro e w3 ⟨rfl, hk⟩
                    have HK3 : Hid (Kp No wr w3) := HK2.out.andNone hk
                    clear hk
                    go_wp2_with fail
                    refine hK.out _ _ (HK3.out) (fun hh => ?_)
                    clear hK K hH
                    have hH := hh
                    clear hh
                    try simp only [Act.put, sjA, sjB, sjC]
                    refine wpAnyH_take (i := 34) (oi := ⟨some 47, .binOp .neq 31 (.tmp 46) (.const (.int .i64 0)) 31, 4, "ref.go:95", #[⟨33, .data⟩, ⟨26, .guard⟩], some (26, false)⟩) (v := .bool false) rfl (by kernel_rfl) (by kernel_rfl) (by kernel_rfl) (fun _ _ _ h => h) (Or.inl ⟨by rfl, fun w' hw' => by (clear hw'; go_simp)⟩) hH ?_
                    simp only [Act.put, sjA, sjB, sjC]
                    refine wpAnyH_take (i := 35) (oi := ⟨some 48, .pick (.tmp 39) (.const (.bool true)) (.tmp 47), 4, "ref.go:95", #[⟨26, .data⟩, ⟨34, .data⟩], none⟩) (v := .bool false) rfl (by kernel_rfl) (by kernel_rfl) (by kernel_rfl) (fun _ _ _ h => h) (Or.inl ⟨by rfl, fun w' hw' => by (clear hw'; go_simp)⟩) hH ?_
                    simp only [Act.put, sjA, sjB, sjC]
                    refine wpAnyH_take (i := 36) (oi := ⟨some 49, .move (.tmp 48), 4, "ref.go:95", #[⟨35, .data⟩, ⟨33, .chain⟩], none⟩) (v := .bool false) rfl (by kernel_rfl) (by kernel_rfl) (by kernel_rfl) (fun _ _ _ h => h) (Or.inl ⟨by rfl, fun w' hw' => by (clear hw'; go_simp)⟩) hH ?_
                    simp only [Act.put, sjA, sjB, sjC]
                    refine wpAnyH_take (i := 37) (oi := ⟨some 50, .move (.tmp 0), 22, "ref.go:95", #[⟨36, .guard⟩], some (36, false)⟩) (v := .slice (some ⟨g, o, none⟩) n cap) rfl (by kernel_rfl) (by kernel_rfl) (by kernel_rfl) (fun _ _ _ h => h) (Or.inl ⟨by rfl, fun w' hw' => by (clear hw'; go_simp)⟩) hH ?_
                    simp only [Act.put, sjA, sjB, sjC]
                    refine wpAnyH_take (i := 38) (oi := ⟨some 51, .move (.tmp 3), 3, "ref.go:95", #[⟨36, .guard⟩], some (36, false)⟩) (v := .int .i64 (i : Int)) rfl (by kernel_rfl) (by kernel_rfl) (by kernel_rfl) (fun _ _ _ h => h) (Or.inl ⟨by rfl, fun w' hw' => by (clear hw'; go_simp)⟩) hH ?_
                    simp only [Act.put, sjA, sjB, sjC]
                    refine wpAnyH_take (i := 39) (oi := ⟨some 52, .indexAddr 22 (.tmp 50) (.tmp 51), 0, "ref.go:95", #[⟨37, .data⟩, ⟨38, .data⟩, ⟨36, .guard⟩], some (36, false)⟩) (v := .pointer (some ⟨g, o + i * 3, none⟩)) rfl (by kernel_rfl) (by kernel_rfl) (by kernel_rfl) (fun _ _ _ h => h) (Or.inl ⟨by rfl, fun w' hw' => by (clear hw'; go_simp)⟩) hH ?_
                    simp only [Act.put, sjA, sjB, sjC]
                    refine wpAnyH_take (i := 40) (oi := ⟨some 53, .fieldAddr 41 (.tmp 52) 1, 0, "ref.go:95", #[⟨39, .data⟩, ⟨36, .guard⟩], some (36, false)⟩) (v := .pointer (some ⟨g, o + i * 3 + 1, none⟩)) rfl (by kernel_rfl) (by kernel_rfl) (by kernel_rfl) (fun _ _ _ h => h) (Or.inl ⟨by rfl, fun w' hw' => by (clear hw'; go_simp)⟩) hH ?_
                    simp only [Act.put, sjA, sjB, sjC]
                    refine wpAnyH_take (i := 41) (oi := ⟨some 54, .load 4 (.tmp 53), 4, "ref.go:95", #[⟨40, .data⟩, ⟨36, .guard⟩], some (36, false)⟩) (v := .bool true) rfl (by kernel_rfl) (by kernel_rfl) (by kernel_rfl) (fun _ _ _ h => h) (Or.inl ⟨by rfl, fun w' hw' => by (have q := x1' w' hw'; clear hw'; go_simp)⟩) hH ?_
                    simp only [Act.put, sjA, sjB, sjC]
                    refine wpAnyH_take (i := 42) (oi := ⟨some 55, .move (.tmp 54), 4, "ref.go:95", #[⟨41, .data⟩, ⟨36, .chain⟩, ⟨36, .guard⟩], some (36, false)⟩) (v := .bool true) rfl (by kernel_rfl) (by kernel_rfl) (by kernel_rfl) (fun _ _ _ h => h) (Or.inl ⟨by rfl, fun w' hw' => by (clear hw'; go_simp)⟩) hH ?_
                    simp only [Act.put, sjA, sjB, sjC]
                    refine wpAnyH_take (i := 43) (oi := ⟨some 56, .move (.tmp 0), 22, "ref.go:95", #[⟨42, .guard⟩], some (42, true)⟩) (v := .slice (some ⟨g, o, none⟩) n cap) rfl (by kernel_rfl) (by kernel_rfl) (by kernel_rfl) (fun _ _ _ h => h) (Or.inl ⟨by rfl, fun w' hw' => by (clear hw'; go_simp)⟩) hH ?_
                    simp only [Act.put, sjA, sjB, sjC]
                    refine wpAnyH_take (i := 44) (oi := ⟨some 57, .move (.tmp 3), 3, "ref.go:95", #[⟨42, .guard⟩], some (42, true)⟩) (v := .int .i64 (i : Int)) rfl (by kernel_rfl) (by kernel_rfl) (by kernel_rfl) (fun _ _ _ h => h) (Or.inl ⟨by rfl, fun w' hw' => by (clear hw'; go_simp)⟩) hH ?_
                    simp only [Act.put, sjA, sjB, sjC]
                    refine wpAnyH_take (i := 45) (oi := ⟨some 58, .indexAddr 22 (.tmp 56) (.tmp 57), 0, "ref.go:95", #[⟨43, .data⟩, ⟨44, .data⟩, ⟨42, .guard⟩], some (42, true)⟩) (v := .pointer (some ⟨g, o + i * 3, none⟩)) rfl (by kernel_rfl) (by kernel_rfl) (by kernel_rfl) (fun _ _ _ h => h) (Or.inl ⟨by rfl, fun w' hw' => by (clear hw'; go_simp)⟩) hH ?_
                    simp only [Act.put, sjA, sjB, sjC]
                    refine wpAnyH_take (i := 46) (oi := ⟨some 59, .fieldAddr 41 (.tmp 58) 2, 0, "ref.go:95", #[⟨45, .data⟩, ⟨42, .guard⟩], some (42, true)⟩) (v := .pointer (some ⟨g, o + i * 3 + 2, none⟩)) rfl (by kernel_rfl) (by kernel_rfl) (by kernel_rfl) (fun _ _ _ h => h) (Or.inl ⟨by rfl, fun w' hw' => by (clear hw'; go_simp)⟩) hH ?_
                    simp only [Act.put, sjA, sjB, sjC]
                    refine wpAnyH_take (i := 47) (oi := ⟨some 60, .load 23 (.tmp 59), 23, "ref.go:95", #[⟨46, .data⟩, ⟨42, .guard⟩], some (42, true)⟩) (v := .slice au bs.length cu) rfl (by kernel_rfl) (by kernel_rfl) (by kernel_rfl) (fun _ _ _ h => h) (Or.inl ⟨by rfl, fun w' hw' => by (have q := x2' w' hw'; clear hw'; go_simp)⟩) hH ?_
                    simp only [Act.put, sjA, sjB, sjC]
                    refine wpAnyH_take (i := 48) (oi := ⟨some 61, .call { callee := .builtin Builtin.len, args := #[.tmp 60], argTypes := #[23] }, 3, "ref.go:95", #[⟨47, .data⟩, ⟨42, .guard⟩], some (42, true)⟩) (v := .int .i64 (bs.length : Int)) rfl (by kernel_rfl) (by kernel_rfl) (by kernel_rfl) (fun _ _ _ h => h) (Or.inl ⟨by rfl, fun w' hw' => by (clear hw'; go_simp)⟩) hH ?_
                    simp only [Act.put, sjA, sjB, sjC]
                    refine wpAnyH_take (i := 49) (oi := ⟨some 62, .binOp .gtr 3 (.tmp 61) (.const (.int .i64 0)) 3, 4, "ref.go:95", #[⟨48, .data⟩, ⟨42, .guard⟩], some (42, true)⟩) (v := .bool false) rfl (by kernel_rfl) (by kernel_rfl) (by kernel_rfl) (fun _ _ _ h => h) (Or.inl ⟨by rfl, fun w' hw' => by (clear hw'; go_simp)⟩) hH ?_
                    simp only [Act.put, sjA, sjB, sjC]
                    refine wpAnyH_take (i := 50) (oi := ⟨some 63, .pick (.tmp 55) (.tmp 62) (.const (.bool false)), 4, "ref.go:95", #[⟨42, .data⟩, ⟨49, .data⟩, ⟨36, .guard⟩], some (36, false)⟩) (v := .bool false) rfl (by kernel_rfl) (by kernel_rfl) (by kernel_rfl) (fun _ _ _ h => h) (Or.inl ⟨by rfl, fun w' hw' => by (clear hw'; go_simp)⟩) hH ?_
                    simp only [Act.put, sjA, sjB, sjC]
                    refine wpAnyH_take (i := 51) (oi := ⟨some 64, .pick (.tmp 49) (.const (.bool true)) (.tmp 63), 4, "ref.go:95", #[⟨36, .data⟩, ⟨50, .data⟩], none⟩) (v := .bool false) rfl (by kernel_rfl) (by kernel_rfl) (by kernel_rfl) (fun _ _ _ h => h) (Or.inl ⟨by rfl, fun w' hw' => by (clear hw'; go_simp)⟩) hH ?_
                    simp only [Act.put, sjA, sjB, sjC]
                    refine wpAnyH_take (i := 52) (oi := ⟨some 65, .move (.tmp 64), 4, "ref.go:95", #[⟨51, .data⟩, ⟨42, .chain⟩], none⟩) (v := .bool false) rfl (by kernel_rfl) (by kernel_rfl) (by kernel_rfl) (fun _ _ _ h => h) (Or.inl ⟨by rfl, fun w' hw' => by (clear hw'; go_simp)⟩) hH ?_
                    simp only [Act.put, sjA, sjB, sjC]
                    refine wpAnyH_take (i := 53) (oi := ⟨some 66, .move (.tmp 0), 22, "ref.go:95", #[⟨52, .guard⟩], some (52, false)⟩) (v := .slice (some ⟨g, o, none⟩) n cap) rfl (by kernel_rfl) (by kernel_rfl) (by kernel_rfl) (fun _ _ _ h => h) (Or.inl ⟨by rfl, fun w' hw' => by (clear hw'; go_simp)⟩) hH ?_
                    simp only [Act.put, sjA, sjB, sjC]
                    refine wpAnyH_take (i := 54) (oi := ⟨some 67, .move (.tmp 3), 3, "ref.go:95", #[⟨52, .guard⟩], some (52, false)⟩) (v := .int .i64 (i : Int)) rfl (by kernel_rfl) (by kernel_rfl) (by kernel_rfl) (fun _ _ _ h => h) (Or.inl ⟨by rfl, fun w' hw' => by (clear hw'; go_simp)⟩) hH ?_
                    simp only [Act.put, sjA, sjB, sjC]
                    refine wpAnyH_take (i := 55) (oi := ⟨some 68, .indexAddr 22 (.tmp 66) (.tmp 67), 0, "ref.go:95", #[⟨53, .data⟩, ⟨54, .data⟩, ⟨52, .guard⟩], some (52, false)⟩) (v := .pointer (some ⟨g, o + i * 3, none⟩)) rfl (by kernel_rfl) (by kernel_rfl) (by kernel_rfl) (fun _ _ _ h => h) (Or.inl ⟨by rfl, fun w' hw' => by (clear hw'; go_simp)⟩) hH ?_
                    simp only [Act.put, sjA, sjB, sjC]
                    refine wpAnyH_take (i := 56) (oi := ⟨some 69, .fieldAddr 41 (.tmp 68) 2, 0, "ref.go:95", #[⟨55, .data⟩, ⟨52, .guard⟩], some (52, false)⟩) (v := .pointer (some ⟨g, o + i * 3 + 2, none⟩)) rfl (by kernel_rfl) (by kernel_rfl) (by kernel_rfl) (fun _ _ _ h => h) (Or.inl ⟨by rfl, fun w' hw' => by (clear hw'; go_simp)⟩) hH ?_
                    simp only [Act.put, sjA, sjB, sjC]
                    refine wpAnyH_take (i := 57) (oi := ⟨some 70, .load 23 (.tmp 69), 23, "ref.go:95", #[⟨56, .data⟩, ⟨52, .guard⟩], some (52, false)⟩) (v := .slice au bs.length cu) rfl (by kernel_rfl) (by kernel_rfl) (by kernel_rfl) (fun _ _ _ h => h) (Or.inl ⟨by rfl, fun w' hw' => by (have q := x2' w' hw'; clear hw'; go_simp)⟩) hH ?_
                    simp only [Act.put, sjA, sjB, sjC]
                    refine wpAnyH_take (i := 58) (oi := ⟨some 71, .call { callee := .builtin Builtin.len, args := #[.tmp 70], argTypes := #[23] }, 3, "ref.go:95", #[⟨57, .data⟩, ⟨52, .guard⟩], some (52, false)⟩) (v := .int .i64 (bs.length : Int)) rfl (by kernel_rfl) (by kernel_rfl) (by kernel_rfl) (fun _ _ _ h => h) (Or.inl ⟨by rfl, fun w' hw' => by (clear hw'; go_simp)⟩) hH ?_
                    simp only [Act.put, sjA, sjB, sjC]
                    refine wpAnyH_take (i := 59) (oi := ⟨some 72, .binOp .gtr 3 (.tmp 71) (.const (.int .i64 2000)) 3, 4, "ref.go:95", #[⟨58, .data⟩, ⟨52, .guard⟩], some (52, false)⟩) (v := .bool false) rfl (by kernel_rfl) (by kernel_rfl) (by kernel_rfl) (fun _ _ _ h => h) (Or.inl ⟨by rfl, fun w' hw' => by (clear hw'; go_simp)⟩) hH ?_
                    simp only [Act.put, sjA, sjB, sjC]
                    refine wpAnyH_take (i := 60) (oi := ⟨some 73, .pick (.tmp 65) (.const (.bool true)) (.tmp 72), 4, "ref.go:95", #[⟨52, .data⟩, ⟨59, .data⟩], none⟩) (v := .bool false) rfl (by kernel_rfl) (by kernel_rfl) (by kernel_rfl) (fun _ _ _ h => h) (Or.inl ⟨by rfl, fun w' hw' => by (clear hw'; go_simp)⟩) hH ?_
                    simp only [Act.put, sjA, sjB, sjC]
                    refine wpAnyH_done (by kernel_rfl) ?_ _
                    clear hH x0' x1' x2'
                    go_wp2_with fail
                    go_roundw
                    case rel => exact ⟨i + 1, by go_num, by omega, HNX2.out, HS.out.2.andNone HK3.out⟩
                    case measure => simp [intOf] <;> omega
              · have hf' : (f != 0) = true := by simpa using hf
                have HNO : Hid (¬ okAt t i (s, d, bs)) := fun h => by have := (HOK.out.1 h).1; rw [HWB.out, decide_eq_false hf] at this; simp at this
                clear HNXT HWB HOK
                go_wp2_with fail
                refine wp_region_held_drew (S := fun V => Kp No wr V) (by kernel_rfl) ((Kp.refl _ _).drew) (fun hH => ?_)
                refine wpAnyH_take (i := 0) (oi := ⟨some 13, .move (.tmp 0), 22, "ref.go:95", #[], none⟩) (v := .slice (some ⟨g, o, none⟩) n cap) rfl (by kernel_rfl) (by kernel_rfl) (by kernel_rfl) (fun _ _ _ h => h) (Or.inl ⟨by rfl, fun w' hw' => by (clear hw'; go_simp)⟩) hH ?_
                simp only [Act.put, sjA, sjB, sjC]
                refine wpAnyH_take (i := 1) (oi := ⟨some 14, .move (.tmp 3), 3, "ref.go:95", #[], none⟩) (v := .int .i64 (i : Int)) rfl (by kernel_rfl) (by kernel_rfl) (by kernel_rfl) (fun _ _ _ h => h) (Or.inl ⟨by rfl, fun w' hw' => by (clear hw'; go_simp)⟩) hH ?_
                simp only [Act.put, sjA, sjB, sjC]
                refine wpAnyH_take (i := 2) (oi := ⟨some 15, .indexAddr 22 (.tmp 13) (.tmp 14), 0, "ref.go:95", #[⟨0, .data⟩, ⟨1, .data⟩], none⟩) (v := .pointer (some ⟨g, o + i * 3, none⟩)) rfl (by kernel_rfl) (by kernel_rfl) (by kernel_rfl) (fun _ _ _ h => h) (Or.inl ⟨by rfl, fun w' hw' => by (clear hw'; go_simp)⟩) hH ?_
                simp only [Act.put, sjA, sjB, sjC]
                refine wpAnyH_take (i := 3) (oi := ⟨some 16, .fieldAddr 41 (.tmp 15) 0, 0, "ref.go:95", #[⟨2, .data⟩], none⟩) (v := .pointer (some ⟨g, o + i * 3, none⟩)) rfl (by kernel_rfl) (by kernel_rfl) (by kernel_rfl) (fun _ _ _ h => h) (Or.inl ⟨by rfl, fun w' hw' => by (clear hw'; go_simp)⟩) hH ?_
                simp only [Act.put, sjA, sjB, sjC]
                refine wpAnyH_take (i := 4) (oi := ⟨some 17, .load 9 (.tmp 16), 9, "ref.go:95", #[⟨3, .data⟩], none⟩) (v := .string s) rfl (by kernel_rfl) (by kernel_rfl) (by kernel_rfl) (fun _ _ _ h => h) (Or.inl ⟨by rfl, fun w' hw' => by (have q := x0' w' hw'; clear hw'; go_simp)⟩) hH ?_
                simp only [Act.put, sjA, sjB, sjC]
                refine wpAnyH_ready (rs := [5]) (by kernel_rfl) (by simp) ?_
                refine AllReadyH.cons (o := ⟨some 18, .call { callee := .value (.func 43), args := #[.tmp 17], argTypes := #[9] }, 4, "ref.go:95", #[⟨4, .data⟩], none⟩) rfl (fun K hK => ?_) AllReadyH.nil
                go_simp
                refine (HP.out _ (Kp.refl _ _).drew).mono ?_
                rintro e w1 ⟨rfl, hk⟩
                have HK1 : Hid (Kp No wr w1) := (Kp.refl _ _).drew.andNone hk
                clear hk
                go_wp2_with fail
                refine hK.out _ _ (HK1.out) (fun hh => ?_)
                clear hK K hH
                have hH := hh
                clear hh
                try simp only [Act.put, sjA, sjB, sjC]
                refine wpAnyH_take (i := 6) (oi := ⟨some 19, .unOp .not 4 (.tmp 18), 4, "ref.go:95", #[⟨5, .data⟩], none⟩) (v := .bool false) rfl (by kernel_rfl) (by kernel_rfl) (by kernel_rfl) (fun _ _ _ h => h) (Or.inl ⟨by rfl, fun w' hw' => by (clear hw'; go_simp)⟩) hH ?_
                simp only [Act.put, sjA, sjB, sjC]
                refine wpAnyH_take (i := 7) (oi := ⟨some 20, .move (.tmp 19), 4, "ref.go:95", #[⟨6, .data⟩, ⟨5, .chain⟩], none⟩) (v := .bool false) rfl (by kernel_rfl) (by kernel_rfl) (by kernel_rfl) (fun _ _ _ h => h) (Or.inl ⟨by rfl, fun w' hw' => by (clear hw'; go_simp)⟩) hH ?_
                simp only [Act.put, sjA, sjB, sjC]
                refine wpAnyH_take (i := 8) (oi := ⟨some 21, .move (.tmp 3), 3, "ref.go:95", #[⟨7, .guard⟩], some (7, false)⟩) (v := .int .i64 (i : Int)) rfl (by kernel_rfl) (by kernel_rfl) (by kernel_rfl) (fun _ _ _ h => h) (Or.inl ⟨by rfl, fun w' hw' => by (clear hw'; go_simp)⟩) hH ?_
                simp only [Act.put, sjA, sjB, sjC]
                refine wpAnyH_take (i := 9) (oi := ⟨some 22, .binOp .gtr 3 (.tmp 21) (.const (.int .i64 0)) 3, 4, "ref.go:95", #[⟨8, .data⟩, ⟨7, .guard⟩], some (7, false)⟩) (v := .bool true) rfl (by kernel_rfl) (by kernel_rfl) (by kernel_rfl) (fun _ _ _ h => h) (Or.inl ⟨by rfl, fun w' hw' => by (clear hw'; go_simp)⟩) hH ?_
                simp only [Act.put, sjA, sjB, sjC]
                refine wpAnyH_take (i := 10) (oi := ⟨some 23, .move (.tmp 22), 4, "ref.go:95", #[⟨9, .data⟩, ⟨7, .chain⟩, ⟨7, .guard⟩], some (7, false)⟩) (v := .bool true) rfl (by kernel_rfl) (by kernel_rfl) (by kernel_rfl) (fun _ _ _ h => h) (Or.inl ⟨by rfl, fun w' hw' => by (clear hw'; go_simp)⟩) hH ?_
                simp only [Act.put, sjA, sjB, sjC]
                refine wpAnyH_take (i := 11) (oi := ⟨some 24, .move (.tmp 0), 22, "ref.go:95", #[⟨10, .guard⟩], some (10, true)⟩) (v := .slice (some ⟨g, o, none⟩) n cap) rfl (by kernel_rfl) (by kernel_rfl) (by kernel_rfl) (fun _ _ _ h => h) (Or.inl ⟨by rfl, fun w' hw' => by (clear hw'; go_simp)⟩) hH ?_
                simp only [Act.put, sjA, sjB, sjC]
                refine wpAnyH_take (i := 12) (oi := ⟨some 25, .move (.tmp 3), 3, "ref.go:95", #[⟨10, .guard⟩], some (10, true)⟩) (v := .int .i64 (i : Int)) rfl (by kernel_rfl) (by kernel_rfl) (by kernel_rfl) (fun _ _ _ h => h) (Or.inl ⟨by rfl, fun w' hw' => by (clear hw'; go_simp)⟩) hH ?_
                simp only [Act.put, sjA, sjB, sjC]
                refine wpAnyH_take (i := 13) (oi := ⟨some 26, .binOp .sub 3 (.tmp 25) (.const (.int .i64 1)) 3, 3, "ref.go:95", #[⟨12, .data⟩, ⟨10, .guard⟩], some (10, true)⟩) (v := .int .i64 (i1 : Int)) rfl (by kernel_rfl) (by kernel_rfl) (by kernel_rfl) (fun _ _ _ h => h) (Or.inl ⟨by rfl, fun w' hw' => by (clear hw'; go_simp)⟩) hH ?_
                simp only [Act.put, sjA, sjB, sjC]
                refine wpAnyH_take (i := 14) (oi := ⟨some 27, .indexAddr 22 (.tmp 24) (.tmp 26), 0, "ref.go:95", #[⟨11, .data⟩, ⟨13, .data⟩, ⟨10, .guard⟩], some (10, true)⟩) (v := .pointer (some ⟨g, o + i1 * 3, none⟩)) rfl (by kernel_rfl) (by kernel_rfl) (by kernel_rfl) (fun _ _ _ h => h) (Or.inl ⟨by rfl, fun w' hw' => by (clear hw'; go_simp)⟩) hH ?_
                simp only [Act.put, sjA, sjB, sjC]
                refine wpAnyH_take (i := 15) (oi := ⟨some 28, .fieldAddr 41 (.tmp 27) 0, 0, "ref.go:95", #[⟨14, .data⟩, ⟨10, .guard⟩], some (10, true)⟩) (v := .pointer (some ⟨g, o + i1 * 3, none⟩)) rfl (by kernel_rfl) (by kernel_rfl) (by kernel_rfl) (fun _ _ _ h => h) (Or.inl ⟨by rfl, fun w' hw' => by (clear hw'; go_simp)⟩) hH ?_
                simp only [Act.put, sjA, sjB, sjC]
                refine wpAnyH_take (i := 16) (oi := ⟨some 29, .load 9 (.tmp 28), 9, "ref.go:95", #[⟨15, .data⟩, ⟨10, .guard⟩], some (10, true)⟩) (v := .string y.1) rfl (by kernel_rfl) (by kernel_rfl) (by kernel_rfl) (fun _ _ _ h => h) (Or.inl ⟨by rfl, fun w' hw' => by (have q := y0' w' hw'; clear hw'; go_simp)⟩) hH ?_
                simp only [Act.put, sjA, sjB, sjC]
                refine wpAnyH_take (i := 17) (oi := ⟨some 30, .move (.tmp 0), 22, "ref.go:95", #[⟨10, .guard⟩], some (10, true)⟩) (v := .slice (some ⟨g, o, none⟩) n cap) rfl (by kernel_rfl) (by kernel_rfl) (by kernel_rfl) (fun _ _ _ h => h) (Or.inl ⟨by rfl, fun w' hw' => by (clear hw'; go_simp)⟩) hH ?_
                simp only [Act.put, sjA, sjB, sjC]
                refine wpAnyH_take (i := 18) (oi := ⟨some 31, .move (.tmp 3), 3, "ref.go:95", #[⟨10, .guard⟩], some (10, true)⟩) (v := .int .i64 (i : Int)) rfl (by kernel_rfl) (by kernel_rfl) (by kernel_rfl) (fun _ _ _ h => h) (Or.inl ⟨by rfl, fun w' hw' => by (clear hw'; go_simp)⟩) hH ?_
                simp only [Act.put, sjA, sjB, sjC]
                refine wpAnyH_take (i := 19) (oi := ⟨some 32, .indexAddr 22 (.tmp 30) (.tmp 31), 0, "ref.go:95", #[⟨17, .data⟩, ⟨18, .data⟩, ⟨10, .guard⟩], some (10, true)⟩) (v := .pointer (some ⟨g, o + i * 3, none⟩)) rfl (by kernel_rfl) (by kernel_rfl) (by kernel_rfl) (fun _ _ _ h => h) (Or.inl ⟨by rfl, fun w' hw' => by (clear hw'; go_simp)⟩) hH ?_
                simp only [Act.put, sjA, sjB, sjC]
                refine wpAnyH_take (i := 20) (oi := ⟨some 33, .fieldAddr 41 (.tmp 32) 0, 0, "ref.go:95", #[⟨19, .data⟩, ⟨10, .guard⟩], some (10, true)⟩) (v := .pointer (some ⟨g, o + i * 3, none⟩)) rfl (by kernel_rfl) (by kernel_rfl) (by kernel_rfl) (fun _ _ _ h => h) (Or.inl ⟨by rfl, fun w' hw' => by (clear hw'; go_simp)⟩) hH ?_
                simp only [Act.put, sjA, sjB, sjC]
                refine wpAnyH_take (i := 21) (oi := ⟨some 34, .load 9 (.tmp 33), 9, "ref.go:95", #[⟨20, .data⟩, ⟨10, .guard⟩], some (10, true)⟩) (v := .string s) rfl (by kernel_rfl) (by kernel_rfl) (by kernel_rfl) (fun _ _ _ h => h) (Or.inl ⟨by rfl, fun w' hw' => by (have q := x0' w' hw'; clear hw'; go_simp)⟩) hH ?_
                simp only [Act.put, sjA, sjB, sjC]
                refine wpAnyH_ready (rs := [22]) (by kernel_rfl) (by simp) ?_
                refine AllReadyH.cons (o := ⟨some 35, .call { callee := .value (.func 61), args := #[.tmp 29, .tmp 34], argTypes := #[9, 9] }, 4, "ref.go:95", #[⟨16, .data⟩, ⟨21, .data⟩, ⟨10, .chain⟩, ⟨10, .guard⟩], some (10, true)⟩) rfl (fun K hK => ?_) AllReadyH.nil
                go_simp
                refine (HLS.out _ HK1.out).mono ?_
                rintro e w2 ⟨rfl, hk⟩
                have HK2 : Hid (Kp No wr w2) := HK1.out.andNone hk
                clear hk
                go_wp2_with fail
                refine hK.out _ _ (HK2.out) (fun hh => ?_)
                clear hK K hH
                have hH := hh
                clear hh
                try simp only [Act.put, sjA, sjB, sjC]
                refine wpAnyH_take (i := 23) (oi := ⟨some 36, .unOp .not 4 (.tmp 35), 4, "ref.go:95", #[⟨22, .data⟩, ⟨10, .guard⟩], some (10, true)⟩) (v := .bool false) rfl (by kernel_rfl) (by kernel_rfl) (by kernel_rfl) (fun _ _ _ h => h) (Or.inl ⟨by rfl, fun w' hw' => by (clear hw'; go_simp)⟩) hH ?_
                simp only [Act.put, sjA, sjB, sjC]
                refine wpAnyH_take (i := 24) (oi := ⟨some 37, .pick (.tmp 23) (.tmp 36) (.const (.bool false)), 4, "ref.go:95", #[⟨10, .data⟩, ⟨23, .data⟩, ⟨7, .guard⟩], some (7, false)⟩) (v := .bool false) rfl (by kernel_rfl) (by kernel_rfl) (by kernel_rfl) (fun _ _ _ h => h) (Or.inl ⟨by rfl, fun w' hw' => by (clear hw'; go_simp)⟩) hH ?_
                simp only [Act.put, sjA, sjB, sjC]
                refine wpAnyH_take (i := 25) (oi := ⟨some 38, .pick (.tmp 20) (.const (.bool true)) (.tmp 37), 4, "ref.go:95", #[⟨7, .data⟩, ⟨24, .data⟩], none⟩) (v := .bool false) rfl (by kernel_rfl) (by kernel_rfl) (by kernel_rfl) (fun _ _ _ h => h) (Or.inl ⟨by rfl, fun w' hw' => by (clear hw'; go_simp)⟩) hH ?_
                simp only [Act.put, sjA, sjB, sjC]
                refine wpAnyH_take (i := 26) (oi := ⟨some 39, .move (.tmp 38), 4, "ref.go:95", #[⟨25, .data⟩, ⟨22, .chain⟩], none⟩) (v := .bool false) rfl (by kernel_rfl) (by kernel_rfl) (by kernel_rfl) (fun _ _ _ h => h) (Or.inl ⟨by rfl, fun w' hw' => by (clear hw'; go_simp)⟩) hH ?_
                simp only [Act.put, sjA, sjB, sjC]
                refine wpAnyH_take (i := 27) (oi := ⟨some 40, .move (.tmp 0), 22, "ref.go:95", #[⟨26, .guard⟩], some (26, false)⟩) (v := .slice (some ⟨g, o, none⟩) n cap) rfl (by kernel_rfl) (by kernel_rfl) (by kernel_rfl) (fun _ _ _ h => h) (Or.inl ⟨by rfl, fun w' hw' => by (clear hw'; go_simp)⟩) hH ?_
                simp only [Act.put, sjA, sjB, sjC]
                refine wpAnyH_take (i := 28) (oi := ⟨some 41, .move (.tmp 0), 22, "ref.go:95", #[⟨26, .guard⟩], some (26, false)⟩) (v := .slice (some ⟨g, o, none⟩) n cap) rfl (by kernel_rfl) (by kernel_rfl) (by kernel_rfl) (fun _ _ _ h => h) (Or.inl ⟨by rfl, fun w' hw' => by (clear hw'; go_simp)⟩) hH ?_
                simp only [Act.put, sjA, sjB, sjC]
                refine wpAnyH_take (i := 29) (oi := ⟨some 42, .move (.tmp 3), 3, "ref.go:95", #[⟨26, .guard⟩], some (26, false)⟩) (v := .int .i64 (i : Int)) rfl (by kernel_rfl) (by kernel_rfl) (by kernel_rfl) (fun _ _ _ h => h) (Or.inl ⟨by rfl, fun w' hw' => by (clear hw'; go_simp)⟩) hH ?_
                simp only [Act.put, sjA, sjB, sjC]
                refine wpAnyH_take (i := 30) (oi := ⟨some 43, .indexAddr 22 (.tmp 41) (.tmp 42), 0, "ref.go:95", #[⟨28, .data⟩, ⟨29, .data⟩, ⟨26, .guard⟩], some (26, false)⟩) (v := .pointer (some ⟨g, o + i * 3, none⟩)) rfl (by kernel_rfl) (by kernel_rfl) (by kernel_rfl) (fun _ _ _ h => h) (Or.inl ⟨by rfl, fun w' hw' => by (clear hw'; go_simp)⟩) hH ?_
                simp only [Act.put, sjA, sjB, sjC]
                refine wpAnyH_take (i := 31) (oi := ⟨some 44, .fieldAddr 41 (.tmp 43) 0, 0, "ref.go:95", #[⟨30, .data⟩, ⟨26, .guard⟩], some (26, false)⟩) (v := .pointer (some ⟨g, o + i * 3, none⟩)) rfl (by kernel_rfl) (by kernel_rfl) (by kernel_rfl) (fun _ _ _ h => h) (Or.inl ⟨by rfl, fun w' hw' => by (clear hw'; go_simp)⟩) hH ?_
                simp only [Act.put, sjA, sjB, sjC]
                refine wpAnyH_take (i := 32) (oi := ⟨some 45, .load 9 (.tmp 44), 9, "ref.go:95", #[⟨31, .data⟩, ⟨26, .guard⟩], some (26, false)⟩) (v := .string s) rfl (by kernel_rfl) (by kernel_rfl) (by kernel_rfl) (fun _ _ _ h => h) (Or.inl ⟨by rfl, fun w' hw' => by (have q := x0' w' hw'; clear hw'; go_simp)⟩) hH ?_
                simp only [Act.put, sjA, sjB, sjC]
                refine wpAnyH_ready (rs := [33]) (by kernel_rfl) (by simp) ?_
                refine AllReadyH.cons (o := ⟨some 46, .call { callee := .value (.func 41), args := #[.tmp 40, .tmp 45], argTypes := #[22, 9] }, 31, "ref.go:95", #[⟨27, .data⟩, ⟨32, .data⟩, ⟨26, .chain⟩, ⟨26, .guard⟩], some (26, false)⟩) rfl (fun K hK => ?_) AllReadyH.nil
                go_simp
                refine (HDR.out _ HK2.out).mono ?_
                rintro e w3 ⟨rfl, hk⟩
                have HK3 : Hid (Kp No wr w3) := HK2.out.andNone hk
                clear hk
                go_wp2_with fail
                refine hK.out _ _ (HK3.out) (fun hh => ?_)
                clear hK K hH
                have hH := hh
                clear hh
                try simp only [Act.put, sjA, sjB, sjC]
                refine wpAnyH_take (i := 34) (oi := ⟨some 47, .binOp .neq 31 (.tmp 46) (.const (.int .i64 0)) 31, 4, "ref.go:95", #[⟨33, .data⟩, ⟨26, .guard⟩], some (26, false)⟩) (v := .bool true) rfl (by kernel_rfl) (by kernel_rfl) (by kernel_rfl) (fun _ _ _ h => h) (Or.inl ⟨by rfl, fun w' hw' => by (clear hw'; go_simp)⟩) hH ?_
                simp only [Act.put, sjA, sjB, sjC]
                refine wpAnyH_take (i := 35) (oi := ⟨some 48, .pick (.tmp 39) (.const (.bool true)) (.tmp 47), 4, "ref.go:95", #[⟨26, .data⟩, ⟨34, .data⟩], none⟩) (v := .bool true) rfl (by kernel_rfl) (by kernel_rfl) (by kernel_rfl) (fun _ _ _ h => h) (Or.inl ⟨by rfl, fun w' hw' => by (clear hw'; go_simp)⟩) hH ?_
                simp only [Act.put, sjA, sjB, sjC]
                refine wpAnyH_take (i := 36) (oi := ⟨some 49, .move (.tmp 48), 4, "ref.go:95", #[⟨35, .data⟩, ⟨33, .chain⟩], none⟩) (v := .bool true) rfl (by kernel_rfl) (by kernel_rfl) (by kernel_rfl) (fun _ _ _ h => h) (Or.inl ⟨by rfl, fun w' hw' => by (clear hw'; go_simp)⟩) hH ?_
                simp only [Act.put, sjA, sjB, sjC]
                refine wpAnyH_take (i := 37) (oi := ⟨some 50, .move (.tmp 0), 22, "ref.go:95", #[⟨36, .guard⟩], some (36, false)⟩) (v := undef) rfl (by kernel_rfl) (by kernel_rfl) (by kernel_rfl) (fun _ _ _ h => h) (Or.inr ⟨by rfl, rfl⟩) hH ?_
                simp only [Act.put, sjA, sjB, sjC]
                refine wpAnyH_take (i := 38) (oi := ⟨some 51, .move (.tmp 3), 3, "ref.go:95", #[⟨36, .guard⟩], some (36, false)⟩) (v := undef) rfl (by kernel_rfl) (by kernel_rfl) (by kernel_rfl) (fun _ _ _ h => h) (Or.inr ⟨by rfl, rfl⟩) hH ?_
                simp only [Act.put, sjA, sjB, sjC]
                refine wpAnyH_take (i := 39) (oi := ⟨some 52, .indexAddr 22 (.tmp 50) (.tmp 51), 0, "ref.go:95", #[⟨37, .data⟩, ⟨38, .data⟩, ⟨36, .guard⟩], some (36, false)⟩) (v := undef) rfl (by kernel_rfl) (by kernel_rfl) (by kernel_rfl) (fun _ _ _ h => h) (Or.inr ⟨by rfl, rfl⟩) hH ?_
                simp only [Act.put, sjA, sjB, sjC]
                refine wpAnyH_take (i := 40) (oi := ⟨some 53, .fieldAddr 41 (.tmp 52) 1, 0, "ref.go:95", #[⟨39, .data⟩, ⟨36, .guard⟩], some (36, false)⟩) (v := undef) rfl (by kernel_rfl) (by kernel_rfl) (by kernel_rfl) (fun _ _ _ h => h) (Or.inr ⟨by rfl, rfl⟩) hH ?_
                simp only [Act.put, sjA, sjB, sjC]
                refine wpAnyH_take (i := 41) (oi := ⟨some 54, .load 4 (.tmp 53), 4, "ref.go:95", #[⟨40, .data⟩, ⟨36, .guard⟩], some (36, false)⟩) (v := undef) rfl (by kernel_rfl) (by kernel_rfl) (by kernel_rfl) (fun _ _ _ h => h) (Or.inr ⟨by rfl, rfl⟩) hH ?_
                simp only [Act.put, sjA, sjB, sjC]
                refine wpAnyH_take (i := 42) (oi := ⟨some 55, .move (.tmp 54), 4, "ref.go:95", #[⟨41, .data⟩, ⟨36, .chain⟩, ⟨36, .guard⟩], some (36, false)⟩) (v := undef) rfl (by kernel_rfl) (by kernel_rfl) (by kernel_rfl) (fun _ _ _ h => h) (Or.inr ⟨by rfl, rfl⟩) hH ?_
                simp only [Act.put, sjA, sjB, sjC]
                refine wpAnyH_take (i := 43) (oi := ⟨some 56, .move (.tmp 0), 22, "ref.go:95", #[⟨42, .guard⟩], some (42, true)⟩) (v := undef) rfl (by kernel_rfl) (by kernel_rfl) (by kernel_rfl) (fun _ _ _ h => h) (Or.inr ⟨by rfl, rfl⟩) hH ?_
                simp only [Act.put, sjA, sjB, sjC]
                refine wpAnyH_take (i := 44) (oi := ⟨some 57, .move (.tmp 3), 3, "ref.go:95", #[⟨42, .guard⟩], some (42, true)⟩) (v := undef) rfl (by kernel_rfl) (by kernel_rfl) (by kernel_rfl) (fun _ _ _ h => h) (Or.inr ⟨by rfl, rfl⟩) hH ?_
                simp only [Act.put, sjA, sjB, sjC]
                refine wpAnyH_take (i := 45) (oi := ⟨some 58, .indexAddr 22 (.tmp 56) (.tmp 57), 0, "ref.go:95", #[⟨43, .data⟩, ⟨44, .data⟩, ⟨42, .guard⟩], some (42, true)⟩) (v := undef) rfl (by kernel_rfl) (by kernel_rfl) (by kernel_rfl) (fun _ _ _ h => h) (Or.inr ⟨by rfl, rfl⟩) hH ?_
                simp only [Act.put, sjA, sjB, sjC]
                refine wpAnyH_take (i := 46) (oi := ⟨some 59, .fieldAddr 41 (.tmp 58) 2, 0, "ref.go:95", #[⟨45, .data⟩, ⟨42, .guard⟩], some (42, true)⟩) (v := undef) rfl (by kernel_rfl) (by kernel_rfl) (by kernel_rfl) (fun _ _ _ h => h) (Or.inr ⟨by rfl, rfl⟩) hH ?_
                simp only [Act.put, sjA, sjB, sjC]
                refine wpAnyH_take (i := 47) (oi := ⟨some 60, .load 23 (.tmp 59), 23, "ref.go:95", #[⟨46, .data⟩, ⟨42, .guard⟩], some (42, true)⟩) (v := undef) rfl (by kernel_rfl) (by kernel_rfl) (by kernel_rfl) (fun _ _ _ h => h) (Or.inr ⟨by rfl, rfl⟩) hH ?_
                simp only [Act.put, sjA, sjB, sjC]
                refine wpAnyH_take (i := 48) (oi := ⟨some 61, .call { callee := .builtin Builtin.len, args := #[.tmp 60], argTypes := #[23] }, 3, "ref.go:95", #[⟨47, .data⟩, ⟨42, .guard⟩], some (42, true)⟩) (v := undef) rfl (by kernel_rfl) (by kernel_rfl) (by kernel_rfl) (fun _ _ _ h => h) (Or.inr ⟨by rfl, rfl⟩) hH ?_
                simp only [Act.put, sjA, sjB, sjC]
                refine wpAnyH_take (i := 49) (oi := ⟨some 62, .binOp .gtr 3 (.tmp 61) (.const (.int .i64 0)) 3, 4, "ref.go:95", #[⟨48, .data⟩, ⟨42, .guard⟩], some (42, true)⟩) (v := undef) rfl (by kernel_rfl) (by kernel_rfl) (by kernel_rfl) (fun _ _ _ h => h) (Or.inr ⟨by rfl, rfl⟩) hH ?_
                simp only [Act.put, sjA, sjB, sjC]
                refine wpAnyH_take (i := 50) (oi := ⟨some 63, .pick (.tmp 55) (.tmp 62) (.const (.bool false)), 4, "ref.go:95", #[⟨42, .data⟩, ⟨49, .data⟩, ⟨36, .guard⟩], some (36, false)⟩) (v := undef) rfl (by kernel_rfl) (by kernel_rfl) (by kernel_rfl) (fun _ _ _ h => h) (Or.inr ⟨by rfl, rfl⟩) hH ?_
                simp only [Act.put, sjA, sjB, sjC]
                refine wpAnyH_take (i := 51) (oi := ⟨some 64, .pick (.tmp 49) (.const (.bool true)) (.tmp 63), 4, "ref.go:95", #[⟨36, .data⟩, ⟨50, .data⟩], none⟩) (v := .bool true) rfl (by kernel_rfl) (by kernel_rfl) (by kernel_rfl) (fun _ _ _ h => h) (Or.inl ⟨by rfl, fun w' hw' => by (clear hw'; go_simp)⟩) hH ?_
                simp only [Act.put, sjA, sjB, sjC]
                refine wpAnyH_take (i := 52) (oi := ⟨some 65, .move (.tmp 64), 4, "ref.go:95", #[⟨51, .data⟩, ⟨42, .chain⟩], none⟩) (v := .bool true) rfl (by kernel_rfl) (by kernel_rfl) (by kernel_rfl) (fun _ _ _ h => h) (Or.inl ⟨by rfl, fun w' hw' => by (clear hw'; go_simp)⟩) hH ?_
                simp only [Act.put, sjA, sjB, sjC]
                refine wpAnyH_take (i := 53) (oi := ⟨some 66, .move (.tmp 0), 22, "ref.go:95", #[⟨52, .guard⟩], some (52, false)⟩) (v := undef) rfl (by kernel_rfl) (by kernel_rfl) (by kernel_rfl) (fun _ _ _ h => h) (Or.inr ⟨by rfl, rfl⟩) hH ?_
                simp only [Act.put, sjA, sjB, sjC]
                refine wpAnyH_take (i := 54) (oi := ⟨some 67, .move (.tmp 3), 3, "ref.go:95", #[⟨52, .guard⟩], some (52, false)⟩) (v := undef) rfl (by kernel_rfl) (by kernel_rfl) (by kernel_rfl) (fun _ _ _ h => h) (Or.inr ⟨by rfl, rfl⟩) hH ?_
                simp only [Act.put, sjA, sjB, sjC]
                refine wpAnyH_take (i := 55) (oi := ⟨some 68, .indexAddr 22 (.tmp 66) (.tmp 67), 0, "ref.go:95", #[⟨53, .data⟩, ⟨54, .data⟩, ⟨52, .guard⟩], some (52, false)⟩) (v := undef) rfl (by kernel_rfl) (by kernel_rfl) (by kernel_rfl) (fun _ _ _ h => h) (Or.inr ⟨by rfl, rfl⟩) hH ?_
                simp only [Act.put, sjA, sjB, sjC]
                refine wpAnyH_take (i := 56) (oi := ⟨some 69, .fieldAddr 41 (.tmp 68) 2, 0, "ref.go:95", #[⟨55, .data⟩, ⟨52, .guard⟩], some (52, false)⟩) (v := undef) rfl (by kernel_rfl) (by kernel_rfl) (by kernel_rfl) (fun _ _ _ h => h) (Or.inr ⟨by rfl, rfl⟩) hH ?_
                simp only [Act.put, sjA, sjB, sjC]
                refine wpAnyH_take (i := 57) (oi := ⟨some 70, .load 23 (.tmp 69), 23, "ref.go:95", #[⟨56, .data⟩, ⟨52, .guard⟩], some (52, false)⟩) (v := undef) rfl (by kernel_rfl) (by kernel_rfl) (by kernel_rfl) (fun _ _ _ h => h) (Or.inr ⟨by rfl, rfl⟩) hH ?_
                simp only [Act.put, sjA, sjB, sjC]
                refine wpAnyH_take (i := 58) (oi := ⟨some 71, .call { callee := .builtin Builtin.len, args := #[.tmp 70], argTypes := #[23] }, 3, "ref.go:95", #[⟨57, .data⟩, ⟨52, .guard⟩], some (52, false)⟩) (v := undef) rfl (by kernel_rfl) (by kernel_rfl) (by kernel_rfl) (fun _ _ _ h => h) (Or.inr ⟨by rfl, rfl⟩) hH ?_
                simp only [Act.put, sjA, sjB, sjC]
                refine wpAnyH_take (i := 59) (oi := ⟨some 72, .binOp .gtr 3 (.tmp 71) (.const (.int .i64 2000)) 3, 4, "ref.go:95", #[⟨58, .data⟩, ⟨52, .guard⟩], some (52, false)⟩) (v := undef) rfl (by kernel_rfl) (by kernel_rfl) (by kernel_rfl) (fun _ _ _ h => h) (Or.inr ⟨by rfl, rfl⟩) hH ?_
                simp only [Act.put, sjA, sjB, sjC]
                refine wpAnyH_take (i := 60) (oi := ⟨some 73, .pick (.tmp 65) (.const (.bool true)) (.tmp 72), 4, "ref.go:95", #[⟨52, .data⟩, ⟨59, .data⟩], none⟩) (v := .bool true) rfl (by kernel_rfl) (by kernel_rfl) (by kernel_rfl) (fun _ _ _ h => h) (Or.inl ⟨by rfl, fun w' hw' => by (clear hw'; go_simp)⟩) hH ?_
                simp only [Act.put, sjA, sjB, sjC]
                refine wpAnyH_done (by kernel_rfl) ?_ _
                clear hH x0' x1' x2'
                go_wp2_with fail
                go_ret
                refine ⟨?_, HS.out.2.andNone HK3.out⟩
                rw [HBAD.out HNO.out]
                rfl
          · have hi1I : ¬ (0 : Int) < (i : Int) := by omega
            have HOY : Hid (∀ z, 0 < i → t[i - 1]? = some z → bytesBefore (tx z.1) (tx s) = true) := fun z h _ => absurd h hi1
            by_cases hf : f = 0
            · subst hf
              by_cases hm : (if d then 0 else 2000) < bs.length
              · have HNO : Hid (¬ okAt t i (s, d, bs)) := fun h => by have := (HOK.out.1 h).1; rw [HWB.out, decide_eq_true hm] at this; simp at this
                cases d
                · have hmI : (2000 : Int) < (bs.length : Int) := by simp at hm; omega
                  clear hm
                  clear HNXT HWB HOK
                  go_wp2_with fail
                  refine wp_region_held_drew (S := fun V => Kp No wr V) (by kernel_rfl) ((Kp.refl _ _).drew) (fun hH => ?_)
                  refine wpAnyH_take (i := 0) (oi := ⟨some 13, .move (.tmp 0), 22, "ref.go:95", #[], none⟩) (v := .slice (some ⟨g, o, none⟩) n cap) rfl (by kernel_rfl) (by kernel_rfl) (by kernel_rfl) (fun _ _ _ h => h) (Or.inl ⟨by rfl, fun w' hw' => by (clear hw'; go_simp)⟩) hH ?_
                  simp only [Act.put, sjA, sjB, sjC]
                  refine wpAnyH_take (i := 1) (oi := ⟨some 14, .move (.tmp 3), 3, "ref.go:95", #[], none⟩) (v := .int .i64 (i : Int)) rfl (by kernel_rfl) (by kernel_rfl) (by kernel_rfl) (fun _ _ _ h => h) (Or.inl ⟨by rfl, fun w' hw' => by (clear hw'; go_simp)⟩) hH ?_
                  simp only [Act.put, sjA, sjB, sjC]
                  refine wpAnyH_take (i := 2) (oi := ⟨some 15, .indexAddr 22 (.tmp 13) (.tmp 14), 0, "ref.go:95", #[⟨0, .data⟩, ⟨1, .data⟩], none⟩) (v := .pointer (some ⟨g, o + i * 3, none⟩)) rfl (by kernel_rfl) (by kernel_rfl) (by kernel_rfl) (fun _ _ _ h => h) (Or.inl ⟨by rfl, fun w' hw' => by (clear hw'; go_simp)⟩) hH ?_
                  simp only [Act.put, sjA, sjB, sjC]
                  refine wpAnyH_take (i := 3) (oi := ⟨some 16, .fieldAddr 41 (.tmp 15) 0, 0, "ref.go:95", #[⟨2, .data⟩], none⟩) (v := .pointer (some ⟨g, o + i * 3, none⟩)) rfl (by kernel_rfl) (by kernel_rfl) (by kernel_rfl) (fun _ _ _ h => h) (Or.inl ⟨by rfl, fun w' hw' => by (clear hw'; go_simp)⟩) hH ?_
                  simp only [Act.put, sjA, sjB, sjC]
                  refine wpAnyH_take (i := 4) (oi := ⟨some 17, .load 9 (.tmp 16), 9, "ref.go:95", #[⟨3, .data⟩], none⟩) (v := .string s) rfl (by kernel_rfl) (by kernel_rfl) (by kernel_rfl) (fun _ _ _ h => h) (Or.inl ⟨by rfl, fun w' hw' => by (have q := x0' w' hw'; clear hw'; go_simp)⟩) hH ?_
                  simp only [Act.put, sjA, sjB, sjC]
                  refine wpAnyH_ready (rs := [5]) (by kernel_rfl) (by simp) ?_
                  refine AllReadyH.cons (o := ⟨some 18, .call { callee := .value (.func 43), args := #[.tmp 17], argTypes := #[9] }, 4, "ref.go:95", #[⟨4, .data⟩], none⟩) rfl (fun K hK => ?_) AllReadyH.nil
                  go_simp
                  refine (HP.out _ (Kp.refl _ _).drew).mono ?_
                  rintro e w1 ⟨rfl, hk⟩
                  have HK1 : Hid (Kp No wr w1) := (Kp.refl _ _).drew.andNone hk
                  clear hk
                  go_wp2_with fail
                  refine hK.out _ _ (HK1.out) (fun hh => ?_)
                  clear hK K hH
                  have hH := hh
                  clear hh
                  try simp only [Act.put, sjA, sjB, sjC]
                  refine wpAnyH_take (i := 6) (oi := ⟨some 19, .unOp .not 4 (.tmp 18), 4, "ref.go:95", #[⟨5, .data⟩], none⟩) (v := .bool false) rfl (by kernel_rfl) (by kernel_rfl) (by kernel_rfl) (fun _ _ _ h => h) (Or.inl ⟨by rfl, fun w' hw' => by (clear hw'; go_simp)⟩) hH ?_
                  simp only [Act.put, sjA, sjB, sjC]
                  refine wpAnyH_take (i := 7) (oi := ⟨some 20, .move (.tmp 19), 4, "ref.go:95", #[⟨6, .data⟩, ⟨5, .chain⟩], none⟩) (v := .bool false) rfl (by kernel_rfl) (by kernel_rfl) (by kernel_rfl) (fun _ _ _ h => h) (Or.inl ⟨by rfl, fun w' hw' => by (clear hw'; go_simp)⟩) hH ?_
                  simp only [Act.put, sjA, sjB, sjC]
                  refine wpAnyH_take (i := 8) (oi := ⟨some 21, .move (.tmp 3), 3, "ref.go:95", #[⟨7, .guard⟩], some (7, false)⟩) (v := .int .i64 (i : Int)) rfl (by kernel_rfl) (by kernel_rfl) (by kernel_rfl) (fun _ _ _ h => h) (Or.inl ⟨by rfl, fun w' hw' => by (clear hw'; go_simp)⟩) hH ?_
                  simp only [Act.put, sjA, sjB, sjC]
                  refine wpAnyH_take (i := 9) (oi := ⟨some 22, .binOp .gtr 3 (.tmp 21) (.const (.int .i64 0)) 3, 4, "ref.go:95", #[⟨8, .data⟩, ⟨7, .guard⟩], some (7, false)⟩) (v := .bool false) rfl (by kernel_rfl) (by kernel_rfl) (by kernel_rfl) (fun _ _ _ h => h) (Or.inl ⟨by rfl, fun w' hw' => by (clear hw'; go_simp)⟩) hH ?_
                  simp only [Act.put, sjA, sjB, sjC]
                  refine wpAnyH_take (i := 10) (oi := ⟨some 23, .move (.tmp 22), 4, "ref.go:95", #[⟨9, .data⟩, ⟨7, .chain⟩, ⟨7, .guard⟩], some (7, false)⟩) (v := .bool false) rfl (by kernel_rfl) (by kernel_rfl) (by kernel_rfl) (fun _ _ _ h => h) (Or.inl ⟨by rfl, fun w' hw' => by (clear hw'; go_simp)⟩) hH ?_
                  simp only [Act.put, sjA, sjB, sjC]
                  refine wpAnyH_take (i := 11) (oi := ⟨some 24, .move (.tmp 0), 22, "ref.go:95", #[⟨10, .guard⟩], some (10, true)⟩) (v := undef) rfl (by kernel_rfl) (by kernel_rfl) (by kernel_rfl) (fun _ _ _ h => h) (Or.inr ⟨by rfl, rfl⟩) hH ?_
                  simp only [Act.put, sjA, sjB, sjC]
                  refine wpAnyH_take (i := 12) (oi := ⟨some 25, .move (.tmp 3), 3, "ref.go:95", #[⟨10, .guard⟩], some (10, true)⟩) (v := undef) rfl (by kernel_rfl) (by kernel_rfl) (by kernel_rfl) (fun _ _ _ h => h) (Or.inr ⟨by rfl, rfl⟩) hH ?_
                  simp only [Act.put, sjA, sjB, sjC]
                  refine wpAnyH_take (i := 13) (oi := ⟨some 26, .binOp .sub 3 (.tmp 25) (.const (.int .i64 1)) 3, 3, "ref.go:95", #[⟨12, .data⟩, ⟨10, .guard⟩], some (10, true)⟩) (v := undef) rfl (by kernel_rfl) (by kernel_rfl) (by kernel_rfl) (fun _ _ _ h => h) (Or.inr ⟨by rfl, rfl⟩) hH ?_
                  simp only [Act.put, sjA, sjB, sjC]
                  refine wpAnyH_take (i := 14) (oi := ⟨some 27, .indexAddr 22 (.tmp 24) (.tmp 26), 0, "ref.go:95", #[⟨11, .data⟩, ⟨13, .data⟩, ⟨10, .guard⟩], some (10, true)⟩) (v := undef) rfl (by kernel_rfl) (by kernel_rfl) (by kernel_rfl) (fun _ _ _ h => h) (Or.inr ⟨by rfl, rfl⟩) hH ?_
                  simp only [Act.put, sjA, sjB, sjC]
                  refine wpAnyH_take (i := 15) (oi := ⟨some 28, .fieldAddr 41 (.tmp 27) 0, 0, "ref.go:95", #[⟨14, .data⟩, ⟨10, .guard⟩], some (10, true)⟩) (v := undef) rfl (by kernel_rfl) (by kernel_rfl) (by kernel_rfl) (fun _ _ _ h => h) (Or.inr ⟨by rfl, rfl⟩) hH ?_
                  simp only [Act.put, sjA, sjB, sjC]
                  refine wpAnyH_take (i := 16) (oi := ⟨some 29, .load 9 (.tmp 28), 9, "ref.go:95", #[⟨15, .data⟩, ⟨10, .guard⟩], some (10, true)⟩) (v := undef) rfl (by kernel_rfl) (by kernel_rfl) (by kernel_rfl) (fun _ _ _ h => h) (Or.inr ⟨by rfl, rfl⟩) hH ?_
                  simp only [Act.put, sjA, sjB, sjC]
                  refine wpAnyH_take (i := 17) (oi := ⟨some 30, .move (.tmp 0), 22, "ref.go:95", #[⟨10, .guard⟩], some (10, true)⟩) (v := undef) rfl (by kernel_rfl) (by kernel_rfl) (by kernel_rfl) (fun _ _ _ h => h) (Or.inr ⟨by rfl, rfl⟩) hH ?_
                  simp only [Act.put, sjA, sjB, sjC]
                  refine wpAnyH_take (i := 18) (oi := ⟨some 31, .move (.tmp 3), 3, "ref.go:95", #[⟨10, .guard⟩], some (10, true)⟩) (v := undef) rfl (by kernel_rfl) (by kernel_rfl) (by kernel_rfl) (fun _ _ _ h => h) (Or.inr ⟨by rfl, rfl⟩) hH ?_
                  simp only [Act.put, sjA, sjB, sjC]
                  refine wpAnyH_take (i := 19) (oi := ⟨some 32, .indexAddr 22 (.tmp 30) (.tmp 31), 0, "ref.go:95", #[⟨17, .data⟩, ⟨18, .data⟩, ⟨10, .guard⟩], some (10, true)⟩) (v := undef) rfl (by kernel_rfl) (by kernel_rfl) (by kernel_rfl) (fun _ _ _ h => h) (Or.inr ⟨by rfl, rfl⟩) hH ?_
                  simp only [Act.put, sjA, sjB, sjC]
                  refine wpAnyH_take (i := 20) (oi := ⟨some 33, .fieldAddr 41 (.tmp 32) 0, 0, "ref.go:95", #[⟨19, .data⟩, ⟨10, .guard⟩], some (10, true)⟩) (v := undef) rfl (by kernel_rfl) (by kernel_rfl) (by kernel_rfl) (fun _ _ _ h => h) (Or.inr ⟨by rfl, rfl⟩) hH ?_
                  simp only [Act.put, sjA, sjB, sjC]
                  refine wpAnyH_take (i := 21) (oi := ⟨some 34, .load 9 (.tmp 33), 9, "ref.go:95", #[⟨20, .data⟩, ⟨10, .guard⟩], some (10, true)⟩) (v := undef) rfl (by kernel_rfl) (by kernel_rfl) (by kernel_rfl) (fun _ _ _ h => h) (Or.inr ⟨by rfl, rfl⟩) hH ?_
                  simp only [Act.put, sjA, sjB, sjC]
                  refine wpAnyH_take (i := 22) (oi := ⟨some 35, .call { callee := .value (.func 61), args := #[.tmp 29, .tmp 34], argTypes := #[9, 9] }, 4, "ref.go:95", #[⟨16, .data⟩, ⟨21, .data⟩, ⟨10, .chain⟩, ⟨10, .guard⟩], some (10, true)⟩) (v := undef) rfl (by kernel_rfl) (by kernel_rfl) (by kernel_rfl) (fun _ _ _ h => h) (Or.inr ⟨by rfl, rfl⟩) hH ?_
                  simp only [Act.put, sjA, sjB, sjC]
                  refine wpAnyH_take (i := 23) (oi := ⟨some 36, .unOp .not 4 (.tmp 35), 4, "ref.go:95", #[⟨22, .data⟩, ⟨10, .guard⟩], some (10, true)⟩) (v := undef) rfl (by kernel_rfl) (by kernel_rfl) (by kernel_rfl) (fun _ _ _ h => h) (Or.inr ⟨by rfl, rfl⟩) hH ?_
                  simp only [Act.put, sjA, sjB, sjC]
                  refine wpAnyH_take (i := 24) (oi := ⟨some 37, .pick (.tmp 23) (.tmp 36) (.const (.bool false)), 4, "ref.go:95", #[⟨10, .data⟩, ⟨23, .data⟩, ⟨7, .guard⟩], some (7, false)⟩) (v := .bool false) rfl (by kernel_rfl) (by kernel_rfl) (by kernel_rfl) (fun _ _ _ h => h) (Or.inl ⟨by rfl, fun w' hw' => by (clear hw'; go_simp)⟩) hH ?_
                  simp only [Act.put, sjA, sjB, sjC]
                  refine wpAnyH_take (i := 25) (oi := ⟨some 38, .pick (.tmp 20) (.const (.bool true)) (.tmp 37), 4, "ref.go:95", #[⟨7, .data⟩, ⟨24, .data⟩], none⟩) (v := .bool false) rfl (by kernel_rfl) (by kernel_rfl) (by kernel_rfl) (fun _ _ _ h => h) (Or.inl ⟨by rfl, fun w' hw' => by (clear hw'; go_simp)⟩) hH ?_
                  simp only [Act.put, sjA, sjB, sjC]
                  refine wpAnyH_take (i := 26) (oi := ⟨some 39, .move (.tmp 38), 4, "ref.go:95", #[⟨25, .data⟩, ⟨22, .chain⟩], none⟩) (v := .bool false) rfl (by kernel_rfl) (by kernel_rfl) (by kernel_rfl) (fun _ _ _ h => h) (Or.inl ⟨by rfl, fun w' hw' => by (clear hw'; go_simp)⟩) hH ?_
                  simp only [Act.put, sjA, sjB, sjC]
                  refine wpAnyH_take (i := 27) (oi := ⟨some 40, .move (.tmp 0), 22, "ref.go:95", #[⟨26, .guard⟩], some (26, false)⟩) (v := .slice (some ⟨g, o, none⟩) n cap) rfl (by kernel_rfl) (by kernel_rfl) (by kernel_rfl) (fun _ _ _ h => h) (Or.inl ⟨by rfl, fun w' hw' => by (clear hw'; go_simp)⟩) hH ?_
                  simp only [Act.put, sjA, sjB, sjC]
                  refine wpAnyH_take (i := 28) (oi := ⟨some 41, .move (.tmp 0), 22, "ref.go:95", #[⟨26, .guard⟩], some (26, false)⟩) (v := .slice (some ⟨g, o, none⟩) n cap) rfl (by kernel_rfl) (by kernel_rfl) (by kernel_rfl) (fun _ _ _ h => h) (Or.inl ⟨by rfl, fun w' hw' => by (clear hw'; go_simp)⟩) hH ?_
                  simp only [Act.put, sjA, sjB, sjC]
                  refine wpAnyH_take (i := 29) (oi := ⟨some 42, .move (.tmp 3), 3, "ref.go:95", #[⟨26, .guard⟩], some (26, false)⟩) (v := .int .i64 (i : Int)) rfl (by kernel_rfl) (by kernel_rfl) (by kernel_rfl) (fun _ _ _ h => h) (Or.inl ⟨by rfl, fun w' hw' => by (clear hw'; go_simp)⟩) hH ?_
                  simp only [Act.put, sjA, sjB, sjC]
                  refine wpAnyH_take (i := 30) (oi := ⟨some 43, .indexAddr 22 (.tmp 41) (.tmp 42), 0, "ref.go:95", #[⟨28, .data⟩, ⟨29, .data⟩, ⟨26, .guard⟩], some (26, false)⟩) (v := .pointer (some ⟨g, o + i * 3, none⟩)) rfl (by kernel_rfl) (by kernel_rfl) (by kernel_rfl) (fun _ _ _ h => h) (Or.inl ⟨by rfl, fun w' hw' => by (clear hw'; go_simp)⟩) hH ?_
                  simp only [Act.put, sjA, sjB, sjC]
                  refine wpAnyH_take (i := 31) (oi := ⟨some 44, .fieldAddr 41 (.tmp 43) 0, 0, "ref.go:95", #[⟨30, .data⟩, ⟨26, .guard⟩], some (26, false)⟩) (v := .pointer (some ⟨g, o + i * 3, none⟩)) rfl (by kernel_rfl) (by kernel_rfl) (by kernel_rfl) (fun _ _ _ h => h) (Or.inl ⟨by rfl, fun w' hw' => by (clear hw'; go_simp)⟩) hH ?_
                  simp only [Act.put, sjA, sjB, sjC]
                  refine wpAnyH_take (i := 32) (oi := ⟨some 45, .load 9 (.tmp 44), 9, "ref.go:95", #[⟨31, .data⟩, ⟨26, .guard⟩], some (26, false)⟩) (v := .string s) rfl (by kernel_rfl) (by kernel_rfl) (by kernel_rfl) (fun _ _ _ h => h) (Or.inl ⟨by rfl, fun w' hw' => by (have q := x0' w' hw'; clear hw'; go_simp)⟩) hH ?_
                  simp only [Act.put, sjA, sjB, sjC]
                  refine wpAnyH_ready (rs := [33]) (by kernel_rfl) (by simp) ?_
                  refine AllReadyH.cons (o := ⟨some 46, .call { callee := .value (.func 41), args := #[.tmp 40, .tmp 45], argTypes := #[22, 9] }, 31, "ref.go:95", #[⟨27, .data⟩, ⟨32, .data⟩, ⟨26, .chain⟩, ⟨26, .guard⟩], some (26, false)⟩) rfl (fun K hK => ?_) AllReadyH.nil
                  go_simp
                  refine (HDR.out _ HK1.out).mono ?_
                  rintro e w3 ⟨rfl, hk⟩
                  have HK3 : Hid (Kp No wr w3) := HK1.out.andNone hk
                  clear hk
                  go_wp2_with fail
                  refine hK.out _ _ (HK3.out) (fun hh => ?_)
                  clear hK K hH
                  have hH := hh
                  clear hh
                  try simp only [Act.put, sjA, sjB, sjC]
                  refine wpAnyH_take (i := 34) (oi := ⟨some 47, .binOp .neq 31 (.tmp 46) (.const (.int .i64 0)) 31, 4, "ref.go:95", #[⟨33, .data⟩, ⟨26, .guard⟩], some (26, false)⟩) (v := .bool false) rfl (by kernel_rfl) (by kernel_rfl) (by kernel_rfl) (fun _ _ _ h => h) (Or.inl ⟨by rfl, fun w' hw' => by (clear hw'; go_simp)⟩) hH ?_
                  simp only [Act.put, sjA, sjB, sjC]
                  refine wpAnyH_take (i := 35) (oi := ⟨some 48, .pick (.tmp 39) (.const (.bool true)) (.tmp 47), 4, "ref.go:95", #[⟨26, .data⟩, ⟨34, .data⟩], none⟩) (v := .bool false) rfl (by kernel_rfl) (by kernel_rfl) (by kernel_rfl) (fun _ _ _ h => h) (Or.inl ⟨by rfl, fun w' hw' => by (clear hw'; go_simp)⟩) hH ?_
                  simp only [Act.put, sjA, sjB, sjC]
                  refine wpAnyH_take (i := 36) (oi := ⟨some 49, .move (.tmp 48), 4, "ref.go:95", #[⟨35, .data⟩, ⟨33, .chain⟩], none⟩) (v := .bool false) rfl (by kernel_rfl) (by kernel_rfl) (by kernel_rfl) (fun _ _ _ h => h) (Or.inl ⟨by rfl, fun w' hw' => by (clear hw'; go_simp)⟩) hH ?_
                  simp only [Act.put, sjA, sjB, sjC]
                  refine wpAnyH_take (i := 37) (oi := ⟨some 50, .move (.tmp 0), 22, "ref.go:95", #[⟨36, .guard⟩], some (36, false)⟩) (v := .slice (some ⟨g, o, none⟩) n cap) rfl (by kernel_rfl) (by kernel_rfl) (by kernel_rfl) (fun _ _ _ h => h) (Or.inl ⟨by rfl, fun w' hw' => by (clear hw'; go_simp)⟩) hH ?_
                  simp only [Act.put, sjA, sjB, sjC]
                  refine wpAnyH_take (i := 38) (oi := ⟨some 51, .move (.tmp 3), 3, "ref.go:95", #[⟨36, .guard⟩], some (36, false)⟩) (v := .int .i64 (i : Int)) rfl (by kernel_rfl) (by kernel_rfl) (by kernel_rfl) (fun _ _ _ h => h) (Or.inl ⟨by rfl, fun w' hw' => by (clear hw'; go_simp)⟩) hH ?_
                  simp only [Act.put, sjA, sjB, sjC]
                  refine wpAnyH_take (i := 39) (oi := ⟨some 52, .indexAddr 22 (.tmp 50) (.tmp 51), 0, "ref.go:95", #[⟨37, .data⟩, ⟨38, .data⟩, ⟨36, .guard⟩], some (36, false)⟩) (v := .pointer (some ⟨g, o + i * 3, none⟩)) rfl (by kernel_rfl) (by kernel_rfl) (by kernel_rfl) (fun _ _ _ h => h) (Or.inl ⟨by rfl, fun w' hw' => by (clear hw'; go_simp)⟩) hH ?_
                  simp only [Act.put, sjA, sjB, sjC]
                  refine wpAnyH_take (i := 40) (oi := ⟨some 53, .fieldAddr 41 (.tmp 52) 1, 0, "ref.go:95", #[⟨39, .data⟩, ⟨36, .guard⟩], some (36, false)⟩) (v := .pointer (some ⟨g, o + i * 3 + 1, none⟩)) rfl (by kernel_rfl) (by kernel_rfl) (by kernel_rfl) (fun _ _ _ h => h) (Or.inl ⟨by rfl, fun w' hw' => by (clear hw'; go_simp)⟩) hH ?_
                  simp only [Act.put, sjA, sjB, sjC]
                  refine wpAnyH_take (i := 41) (oi := ⟨some 54, .load 4 (.tmp 53), 4, "ref.go:95", #[⟨40, .data⟩, ⟨36, .guard⟩], some (36, false)⟩) (v := .bool false) rfl (by kernel_rfl) (by kernel_rfl) (by kernel_rfl) (fun _ _ _ h => h) (Or.inl ⟨by rfl, fun w' hw' => by (have q := x1' w' hw'; clear hw'; go_simp)⟩) hH ?_
                  simp only [Act.put, sjA, sjB, sjC]
                  refine wpAnyH_take (i := 42) (oi := ⟨some 55, .move (.tmp 54), 4, "ref.go:95", #[⟨41, .data⟩, ⟨36, .chain⟩, ⟨36, .guard⟩], some (36, false)⟩) (v := .bool false) rfl (by kernel_rfl) (by kernel_rfl) (by kernel_rfl) (fun _ _ _ h => h) (Or.inl ⟨by rfl, fun w' hw' => by (clear hw'; go_simp)⟩) hH ?_
                  simp only [Act.put, sjA, sjB, sjC]
                  refine wpAnyH_take (i := 43) (oi := ⟨some 56, .move (.tmp 0), 22, "ref.go:95", #[⟨42, .guard⟩], some (42, true)⟩) (v := undef) rfl (by kernel_rfl) (by kernel_rfl) (by kernel_rfl) (fun _ _ _ h => h) (Or.inr ⟨by rfl, rfl⟩) hH ?_
                  simp only [Act.put, sjA, sjB, sjC]
                  refine wpAnyH_take (i := 44) (oi := ⟨some 57, .move (.tmp 3), 3, "ref.go:95", #[⟨42, .guard⟩], some (42, true)⟩) (v := undef) rfl (by kernel_rfl) (by kernel_rfl) (by kernel_rfl) (fun _ _ _ h => h) (Or.inr ⟨by rfl, rfl⟩) hH ?_
                  simp only [Act.put, sjA, sjB, sjC]
                  refine wpAnyH_take (i := 45) (oi := ⟨some 58, .indexAddr 22 (.tmp 56) (.tmp 57), 0, "ref.go:95", #[⟨43, .data⟩, ⟨44, .data⟩, ⟨42, .guard⟩], some (42, true)⟩) (v := undef) rfl (by kernel_rfl) (by kernel_rfl) (by kernel_rfl) (fun _ _ _ h => h) (Or.inr ⟨by rfl, rfl⟩) hH ?_
                  simp only [Act.put, sjA, sjB, sjC]
                  refine wpAnyH_take (i := 46) (oi := ⟨some 59, .fieldAddr 41 (.tmp 58) 2, 0, "ref.go:95", #[⟨45, .data⟩, ⟨42, .guard⟩], some (42, true)⟩) (v := undef) rfl (by kernel_rfl) (by kernel_rfl) (by kernel_rfl) (fun _ _ _ h => h) (Or.inr ⟨by rfl, rfl⟩) hH ?_
                  simp only [Act.put, sjA, sjB, sjC]
                  refine wpAnyH_take (i := 47) (oi := ⟨some 60, .load 23 (.tmp 59), 23, "ref.go:95", #[⟨46, .data⟩, ⟨42, .guard⟩], some (42, true)⟩) (v := undef) rfl (by kernel_rfl) (by kernel_rfl) (by kernel_rfl) (fun _ _ _ h => h) (Or.inr ⟨by rfl, rfl⟩) hH ?_
                  simp only [Act.put, sjA, sjB, sjC]
                  refine wpAnyH_take (i := 48) (oi := ⟨some 61, .call { callee := .builtin Builtin.len, args := #[.tmp 60], argTypes := #[23] }, 3, "ref.go:95", #[⟨47, .data⟩, ⟨42, .guard⟩], some (42, true)⟩) (v := undef) rfl (by kernel_rfl) (by kernel_rfl) (by kernel_rfl) (fun _ _ _ h => h) (Or.inr ⟨by rfl, rfl⟩) hH ?_
                  simp only [Act.put, sjA, sjB, sjC]
                  refine wpAnyH_take (i := 49) (oi := ⟨some 62, .binOp .gtr 3 (.tmp 61) (.const (.int .i64 0)) 3, 4, "ref.go:95", #[⟨48, .data⟩, ⟨42, .guard⟩], some (42, true)⟩) (v := undef) rfl (by kernel_rfl) (by kernel_rfl) (by kernel_rfl) (fun _ _ _ h => h) (Or.inr ⟨by rfl, rfl⟩) hH ?_
                  simp only [Act.put, sjA, sjB, sjC]
                  refine wpAnyH_take (i := 50) (oi := ⟨some 63, .pick (.tmp 55) (.tmp 62) (.const (.bool false)), 4, "ref.go:95", #[⟨42, .data⟩, ⟨49, .data⟩, ⟨36, .guard⟩], some (36, false)⟩) (v := .bool false) rfl (by kernel_rfl) (by kernel_rfl) (by kernel_rfl) (fun _ _ _ h => h) (Or.inl ⟨by rfl, fun w' hw' => by (clear hw'; go_simp)⟩) hH ?_
                  simp only [Act.put, sjA, sjB, sjC]
                  refine wpAnyH_take (i := 51) (oi := ⟨some 64, .pick (.tmp 49) (.const (.bool true)) (.tmp 63), 4, "ref.go:95", #[⟨36, .data⟩, ⟨50, .data⟩], none⟩) (v := .bool false) rfl (by kernel_rfl) (by kernel_rfl) (by kernel_rfl) (fun _ _ _ h => h) (Or.inl ⟨by rfl, fun w' hw' => by (clear hw'; go_simp)⟩) hH ?_
                  simp only [Act.put, sjA, sjB, sjC]
                  refine wpAnyH_take (i := 52) (oi := ⟨some 65, .move (.tmp 64), 4, "ref.go:95", #[⟨51, .data⟩, ⟨42, .chain⟩], none⟩) (v := .bool false) rfl (by kernel_rfl) (by kernel_rfl) (by kernel_rfl) (fun _ _ _ h => h) (Or.inl ⟨by rfl, fun w' hw' => by (clear hw'; go_simp)⟩) hH ?_
                  simp only [Act.put, sjA, sjB, sjC]
                  refine wpAnyH_take (i := 53) (oi := ⟨some 66, .move (.tmp 0), 22, "ref.go:95", #[⟨52, .guard⟩], some (52, false)⟩) (v := .slice (some ⟨g, o, none⟩) n cap) rfl (by kernel_rfl) (by kernel_rfl) (by kernel_rfl) (fun _ _ _ h => h) (Or.inl ⟨by rfl, fun w' hw' => by (clear hw'; go_simp)⟩) hH ?_
                  simp only [Act.put, sjA, sjB, sjC]
                  refine wpAnyH_take (i := 54) (oi := ⟨some 67, .move (.tmp 3), 3, "ref.go:95", #[⟨52, .guard⟩], some (52, false)⟩) (v := .int .i64 (i : Int)) rfl (by kernel_rfl) (by kernel_rfl) (by kernel_rfl) (fun _ _ _ h => h) (Or.inl ⟨by rfl, fun w' hw' => by (clear hw'; go_simp)⟩) hH ?_
                  simp only [Act.put, sjA, sjB, sjC]
                  refine wpAnyH_take (i := 55) (oi := ⟨some 68, .indexAddr 22 (.tmp 66) (.tmp 67), 0, "ref.go:95", #[⟨53, .data⟩, ⟨54, .data⟩, ⟨52, .guard⟩], some (52, false)⟩) (v := .pointer (some ⟨g, o + i * 3, none⟩)) rfl (by kernel_rfl) (by kernel_rfl) (by kernel_rfl) (fun _ _ _ h => h) (Or.inl ⟨by rfl, fun w' hw' => by (clear hw'; go_simp)⟩) hH ?_
                  simp only [Act.put, sjA, sjB, sjC]
                  refine wpAnyH_take (i := 56) (oi := ⟨some 69, .fieldAddr 41 (.tmp 68) 2, 0, "ref.go:95", #[⟨55, .data⟩, ⟨52, .guard⟩], some (52, false)⟩) (v := .pointer (some ⟨g, o + i * 3 + 2, none⟩)) rfl (by kernel_rfl) (by kernel_rfl) (by kernel_rfl) (fun _ _ _ h => h) (Or.inl ⟨by rfl, fun w' hw' => by (clear hw'; go_simp)⟩) hH ?_
                  simp only [Act.put, sjA, sjB, sjC]
                  refine wpAnyH_take (i := 57) (oi := ⟨some 70, .load 23 (.tmp 69), 23, "ref.go:95", #[⟨56, .data⟩, ⟨52, .guard⟩], some (52, false)⟩) (v := .slice au bs.length cu) rfl (by kernel_rfl) (by kernel_rfl) (by kernel_rfl) (fun _ _ _ h => h) (Or.inl ⟨by rfl, fun w' hw' => by (have q := x2' w' hw'; clear hw'; go_simp)⟩) hH ?_
                  simp only [Act.put, sjA, sjB, sjC]
                  refine wpAnyH_take (i := 58) (oi := ⟨some 71, .call { callee := .builtin Builtin.len, args := #[.tmp 70], argTypes := #[23] }, 3, "ref.go:95", #[⟨57, .data⟩, ⟨52, .guard⟩], some (52, false)⟩) (v := .int .i64 (bs.length : Int)) rfl (by kernel_rfl) (by kernel_rfl) (by kernel_rfl) (fun _ _ _ h => h) (Or.inl ⟨by rfl, fun w' hw' => by (clear hw'; go_simp)⟩) hH ?_
                  simp only [Act.put, sjA, sjB, sjC]
                  refine wpAnyH_take (i := 59) (oi := ⟨some 72, .binOp .gtr 3 (.tmp 71) (.const (.int .i64 2000)) 3, 4, "ref.go:95", #[⟨58, .data⟩, ⟨52, .guard⟩], some (52, false)⟩) (v := .bool true) rfl (by kernel_rfl) (by kernel_rfl) (by kernel_rfl) (fun _ _ _ h => h) (Or.inl ⟨by rfl, fun w' hw' => by (clear hw'; go_simp)⟩) hH ?_
                  simp only [Act.put, sjA, sjB, sjC]
                  refine wpAnyH_take (i := 60) (oi := ⟨some 73, .pick (.tmp 65) (.const (.bool true)) (.tmp 72), 4, "ref.go:95", #[⟨52, .data⟩, ⟨59, .data⟩], none⟩) (v := .bool true) rfl (by kernel_rfl) (by kernel_rfl) (by kernel_rfl) (fun _ _ _ h => h) (Or.inl ⟨by rfl, fun w' hw' => by (clear hw'; go_simp)⟩) hH ?_
                  simp only [Act.put, sjA, sjB, sjC]
                  refine wpAnyH_done (by kernel_rfl) ?_ _
                  clear hH x0' x1' x2'
                  go_wp2_with fail
                  go_ret
                  refine ⟨?_, HS.out.2.andNone HK3.out⟩
                  rw [HBAD.out HNO.out]
                  rfl
                · have hmI : 0 < bs.length := by simp at hm; omega
                  clear hm
                  clear HNXT HWB HOK
                  go_wp2_with fail
                  refine wp_region_held_drew (S := fun V => Kp No wr V) (by kernel_rfl) ((Kp.refl _ _).drew) (fun hH => ?_)
                  refine wpAnyH_take (i := 0) (oi := ⟨some 13, .move (.tmp 0), 22, "ref.go:95", #[], none⟩) (v := .slice (some ⟨g, o, none⟩) n cap) rfl (by kernel_rfl) (by kernel_rfl) (by kernel_rfl) (fun _ _ _ h => h) (Or.inl ⟨by rfl, fun w' hw' => by (clear hw'; go_simp)⟩) hH ?_
                  simp only [Act.put, sjA, sjB, sjC]
                  refine wpAnyH_take (i := 1) (oi := ⟨some 14, .move (.tmp 3), 3, "ref.go:95", #[], none⟩) (v := .int .i64 (i : Int)) rfl (by kernel_rfl) (by kernel_rfl) (by kernel_rfl) (fun _ _ _ h => h) (Or.inl ⟨by rfl, fun w' hw' => by (clear hw'; go_simp)⟩) hH ?_
                  simp only [Act.put, sjA, sjB, sjC]
                  refine wpAnyH_take (i := 2) (oi := ⟨some 15, .indexAddr 22 (.tmp 13) (.tmp 14), 0, "ref.go:95", #[⟨0, .data⟩, ⟨1, .data⟩], none⟩) (v := .pointer (some ⟨g, o + i * 3, none⟩)) rfl (by kernel_rfl) (by kernel_rfl) (by kernel_rfl) (fun _ _ _ h => h) (Or.inl ⟨by rfl, fun w' hw' => by (clear hw'; go_simp)⟩) hH ?_
                  simp only [Act.put, sjA, sjB, sjC]
                  refine wpAnyH_take (i := 3) (oi := ⟨some 16, .fieldAddr 41 (.tmp 15) 0, 0, "ref.go:95", #[⟨2, .data⟩], none⟩) (v := .pointer (some ⟨g, o + i * 3, none⟩)) rfl (by kernel_rfl) (by kernel_rfl) (by kernel_rfl) (fun _ _ _ h => h) (Or.inl ⟨by rfl, fun w' hw' => by (clear hw'; go_simp)⟩) hH ?_
                  simp only [Act.put, sjA, sjB, sjC]
                  refine wpAnyH_take (i := 4) (oi := ⟨some 17, .load 9 (.tmp 16), 9, "ref.go:95", #[⟨3, .data⟩], none⟩) (v := .string s) rfl (by kernel_rfl) (by kernel_rfl) (by kernel_rfl) (fun _ _ _ h => h) (Or.inl ⟨by rfl, fun w' hw' => by (have q := x0' w' hw'; clear hw'; go_simp)⟩) hH ?_
                  simp only [Act.put, sjA, sjB, sjC]
                  refine wpAnyH_ready (rs := [5]) (by kernel_rfl) (by simp) ?_
                  refine AllReadyH.cons (o := ⟨some 18, .call { callee := .value (.func 43), args := #[.tmp 17], argTypes := #[9] }, 4, "ref.go:95", #[⟨4, .data⟩], none⟩) rfl (fun K hK => ?_) AllReadyH.nil
                  go_simp
                  refine (HP.out _ (Kp.refl _ _).drew).mono ?_
                  rintro e w1 ⟨rfl, hk⟩
                  have HK1 : Hid (Kp No wr w1) := (Kp.refl _ _).drew.andNone hk
                  clear hk
                  go_wp2_with fail
                  refine hK.out _ _ (HK1.out) (fun hh => ?_)
                  clear hK K hH
                  have hH := hh
                  clear hh
                  try simp only [Act.put, sjA, sjB, sjC]
                  refine wpAnyH_take (i := 6) (oi := ⟨some 19, .unOp .not 4 (.tmp 18), 4, "ref.go:95", #[⟨5, .data⟩], none⟩) (v := .bool false) rfl (by kernel_rfl) (by kernel_rfl) (by kernel_rfl) (fun _ _ _ h => h) (Or.inl ⟨by rfl, fun w' hw' => by (clear hw'; go_simp)⟩) hH ?_
                  simp only [Act.put, sjA, sjB, sjC]
                  refine wpAnyH_take (i := 7) (oi := ⟨some 20, .move (.tmp 19), 4, "ref.go:95", #[⟨6, .data⟩, ⟨5, .chain⟩], none⟩) (v := .bool false) rfl (by kernel_rfl) (by kernel_rfl) (by kernel_rfl) (fun _ _ _ h => h) (Or.inl ⟨by rfl, fun w' hw' => by (clear hw'; go_simp)⟩) hH ?_
                  simp only [Act.put, sjA, sjB, sjC]
                  refine wpAnyH_take (i := 8) (oi := ⟨some 21, .move (.tmp 3), 3, "ref.go:95", #[⟨7, .guard⟩], some (7, false)⟩) (v := .int .i64 (i : Int)) rfl (by kernel_rfl) (by kernel_rfl) (by kernel_rfl) (fun _ _ _ h => h) (Or.inl ⟨by rfl, fun w' hw' => by (clear hw'; go_simp)⟩) hH ?_
                  simp only [Act.put, sjA, sjB, sjC]
                  refine wpAnyH_take (i := 9) (oi := ⟨some 22, .binOp .gtr 3 (.tmp 21) (.const (.int .i64 0)) 3, 4, "ref.go:95", #[⟨8, .data⟩, ⟨7, .guard⟩], some (7, false)⟩) (v := .bool false) rfl (by kernel_rfl) (by kernel_rfl) (by kernel_rfl) (fun _ _ _ h => h) (Or.inl ⟨by rfl, fun w' hw' => by (clear hw'; go_simp)⟩) hH ?_
                  simp only [Act.put, sjA, sjB, sjC]
                  refine wpAnyH_take (i := 10) (oi := ⟨some 23, .move (.tmp 22), 4, "ref.go:95", #[⟨9, .data⟩, ⟨7, .chain⟩, ⟨7, .guard⟩], some (7, false)⟩) (v := .bool false) rfl (by kernel_rfl) (by kernel_rfl) (by kernel_rfl) (fun _ _ _ h => h) (Or.inl ⟨by rfl, fun w' hw' => by (clear hw'; go_simp)⟩) hH ?_
                  simp only [Act.put, sjA, sjB, sjC]
                  refine wpAnyH_take (i := 11) (oi := ⟨some 24, .move (.tmp 0), 22, "ref.go:95", #[⟨10, .guard⟩], some (10, true)⟩) (v := undef) rfl (by kernel_rfl) (by kernel_rfl) (by kernel_rfl) (fun _ _ _ h => h) (Or.inr ⟨by rfl, rfl⟩) hH ?_
                  simp only [Act.put, sjA, sjB, sjC]
                  refine wpAnyH_take (i := 12) (oi := ⟨some 25, .move (.tmp 3), 3, "ref.go:95", #[⟨10, .guard⟩], some (10, true)⟩) (v := undef) rfl (by kernel_rfl) (by kernel_rfl) (by kernel_rfl) (fun _ _ _ h => h) (Or.inr ⟨by rfl, rfl⟩) hH ?_
                  simp only [Act.put, sjA, sjB, sjC]
                  refine wpAnyH_take (i := 13) (oi := ⟨some 26, .binOp .sub 3 (.tmp 25) (.const (.int .i64 1)) 3, 3, "ref.go:95", #[⟨12, .data⟩, ⟨10, .guard⟩], some (10, true)⟩) (v := undef) rfl (by kernel_rfl) (by kernel_rfl) (by kernel_rfl) (fun _ _ _ h => h) (Or.inr ⟨by rfl, rfl⟩) hH ?_
                  simp only [Act.put, sjA, sjB, sjC]
                  refine wpAnyH_take (i := 14) (oi := ⟨some 27, .indexAddr 22 (.tmp 24) (.tmp 26), 0, "ref.go:95", #[⟨11, .data⟩, ⟨13, .data⟩, ⟨10, .guard⟩], some (10, true)⟩) (v := undef) rfl (by kernel_rfl) (by kernel_rfl) (by kernel_rfl) (fun _ _ _ h => h) (Or.inr ⟨by rfl, rfl⟩) hH ?_
                  simp only [Act.put, sjA, sjB, sjC]
                  refine wpAnyH_take (i := 15) (oi := ⟨some 28, .fieldAddr 41 (.tmp 27) 0, 0, "ref.go:95", #[⟨14, .data⟩, ⟨10, .guard⟩], some (10, true)⟩) (v := undef) rfl (by kernel_rfl) (by kernel_rfl) (by kernel_rfl) (fun _ _ _ h => h) (Or.inr ⟨by rfl, rfl⟩) hH ?_
                  simp only [Act.put, sjA, sjB, sjC]
                  refine wpAnyH_take (i := 16) (oi := ⟨some 29, .load 9 (.tmp 28), 9, "ref.go:95", #[⟨15, .data⟩, ⟨10, .guard⟩], some (10, true)⟩) (v := undef) rfl (by kernel_rfl) (by kernel_rfl) (by kernel_rfl) (fun _ _ _ h => h) (Or.inr ⟨by rfl, rfl⟩) hH ?_
                  simp only [Act.put, sjA, sjB, sjC]
                  refine wpAnyH_take (i := 17) (oi := ⟨some 30, .move (.tmp 0), 22, "ref.go:95", #[⟨10, .guard⟩], some (10, true)⟩) (v := undef) rfl (by kernel_rfl) (by kernel_rfl) (by kernel_rfl) (fun _ _ _ h => h) (Or.inr ⟨by rfl, rfl⟩) hH ?_
                  simp only [Act.put, sjA, sjB, sjC]
                  refine wpAnyH_take (i := 18) (oi := ⟨some 31, .move (.tmp 3), 3, "ref.go:95", #[⟨10, .guard⟩], some (10, true)⟩) (v := undef) rfl (by kernel_rfl) (by kernel_rfl) (by kernel_rfl) (fun _ _ _ h => h) (Or.inr ⟨by rfl, rfl⟩) hH ?_
                  simp only [Act.put, sjA, sjB, sjC]
                  refine wpAnyH_take (i := 19) (oi := ⟨some 32, .indexAddr 22 (.tmp 30) (.tmp 31), 0, "ref.go:95", #[⟨17, .data⟩, ⟨18, .data⟩, ⟨10, .guard⟩], some (10, true)⟩) (v := undef) rfl (by kernel_rfl) (by kernel_rfl) (by kernel_rfl) (fun _ _ _ h => h) (Or.inr ⟨by rfl, rfl⟩) hH ?_
                  simp only [Act.put, sjA, sjB, sjC]
                  refine wpAnyH_take (i := 20) (oi := ⟨some 33, .fieldAddr 41 (.tmp 32) 0, 0, "ref.go:95", #[⟨19, .data⟩, ⟨10, .guard⟩], some (10, true)⟩) (v := undef) rfl (by kernel_rfl) (by kernel_rfl) (by kernel_rfl) (fun _ _ _ h => h) (Or.inr ⟨by rfl, rfl⟩) hH ?_
                  simp only [Act.put, sjA, sjB, sjC]
                  refine wpAnyH_take (i := 21) (oi := ⟨some 34, .load 9 (.tmp 33), 9, "ref.go:95", #[⟨20, .data⟩, ⟨10, .guard⟩], some (10, true)⟩) (v := undef) rfl (by kernel_rfl) (by kernel_rfl) (by kernel_rfl) (fun _ _ _ h => h) (Or.inr ⟨by rfl, rfl⟩) hH ?_
                  simp only [Act.put, sjA, sjB, sjC]
                  refine wpAnyH_take (i := 22) (oi := ⟨some 35, .call { callee := .value (.func 61), args := #[.tmp 29, .tmp 34], argTypes := #[9, 9] }, 4, "ref.go:95", #[⟨16, .data⟩, ⟨21, .data⟩, ⟨10, .chain⟩, ⟨10, .guard⟩], some (10, true)⟩) (v := undef) rfl (by kernel_rfl) (by kernel_rfl) (by kernel_rfl) (fun _ _ _ h => h) (Or.inr ⟨by rfl, rfl⟩) hH ?_
                  simp only [Act.put, sjA, sjB, sjC]
                  refine wpAnyH_take (i := 23) (oi := ⟨some 36, .unOp .not 4 (.tmp 35), 4, "ref.go:95", #[⟨22, .data⟩, ⟨10, .guard⟩], some (10, true)⟩) (v := undef) rfl (by kernel_rfl) (by kernel_rfl) (by kernel_rfl) (fun _ _ _ h => h) (Or.inr ⟨by rfl, rfl⟩) hH ?_
                  simp only [Act.put, sjA, sjB, sjC]
                  refine wpAnyH_take (i := 24) (oi := ⟨some 37, .pick (.tmp 23) (.tmp 36) (.const (.bool false)), 4, "ref.go:95", #[⟨10, .data⟩, ⟨23, .data⟩, ⟨7, .guard⟩], some (7, false)⟩) (v := .bool false) rfl (by kernel_rfl) (by kernel_rfl) (by kernel_rfl) (fun _ _ _ h => h) (Or.inl ⟨by rfl, fun w' hw' => by (clear hw'; go_simp)⟩) hH ?_
                  simp only [Act.put, sjA, sjB, sjC]
                  refine wpAnyH_take (i := 25) (oi := ⟨some 38, .pick (.tmp 20) (.const (.bool true)) (.tmp 37), 4, "ref.go:95", #[⟨7, .data⟩, ⟨24, .data⟩], none⟩) (v := .bool false) rfl (by kernel_rfl) (by kernel_rfl) (by kernel_rfl) (fun _ _ _ h => h) (Or.inl ⟨by rfl, fun w' hw' => by (clear hw'; go_simp)⟩) hH ?_
                  simp only [Act.put, sjA, sjB, sjC]
                  refine wpAnyH_take (i := 26) (oi := ⟨some 39, .move (.tmp 38), 4, "ref.go:95", #[⟨25, .data⟩, ⟨22, .chain⟩], none⟩) (v := .bool false) rfl (by kernel_rfl) (by kernel_rfl) (by kernel_rfl) (fun _ _ _ h => h) (Or.inl ⟨by rfl, fun w' hw' => by (clear hw'; go_simp)⟩) hH ?_
                  simp only [Act.put, sjA, sjB, sjC]
                  refine wpAnyH_take (i := 27) (oi := ⟨some 40, .move (.tmp 0), 22, "ref.go:95", #[⟨26, .guard⟩], some (26, false)⟩) (v := .slice (some ⟨g, o, none⟩) n cap) rfl (by kernel_rfl) (by kernel_rfl) (by kernel_rfl) (fun _ _ _ h => h) (Or.inl ⟨by rfl, fun w' hw' => by (clear hw'; go_simp)⟩) hH ?_
                  simp only [Act.put, sjA, sjB, sjC]
                  refine wpAnyH_take (i := 28) (oi := ⟨some 41, .move (.tmp 0), 22, "ref.go:95", #[⟨26, .guard⟩], some (26, false)⟩) (v := .slice (some ⟨g, o, none⟩) n cap) rfl (by kernel_rfl) (by kernel_rfl) (by kernel_rfl) (fun _ _ _ h => h) (Or.inl ⟨by rfl, fun w' hw' => by (clear hw'; go_simp)⟩) hH ?_
                  simp only [Act.put, sjA, sjB, sjC]
                  refine wpAnyH_take (i := 29) (oi := ⟨some 42, .move (.tmp 3), 3, "ref.go:95", #[⟨26, .guard⟩], some (26, false)⟩) (v := .int .i64 (i : Int)) rfl (by kernel_rfl) (by kernel_rfl) (by kernel_rfl) (fun _ _ _ h => h) (Or.inl ⟨by rfl, fun w' hw' => by (clear hw'; go_simp)⟩) hH ?_
                  simp only [Act.put, sjA, sjB, sjC]
                  refine wpAnyH_take (i := 30) (oi := ⟨some 43, .indexAddr 22 (.tmp 41) (.tmp 42), 0, "ref.go:95", #[⟨28, .data⟩, ⟨29, .data⟩, ⟨26, .guard⟩], some (26, false)⟩) (v := .pointer (some ⟨g, o + i * 3, none⟩)) rfl (by kernel_rfl) (by kernel_rfl) (by kernel_rfl) (fun _ _ _ h => h) (Or.inl ⟨by rfl, fun w' hw' => by (clear hw'; go_simp)⟩) hH ?_
                  simp only [Act.put, sjA, sjB, sjC]
                  refine wpAnyH_take (i := 31) (oi := ⟨some 44, .fieldAddr 41 (.tmp 43) 0, 0, "ref.go:95", #[⟨30, .data⟩, ⟨26, .guard⟩], some (26, false)⟩) (v := .pointer (some ⟨g, o + i * 3, none⟩)) rfl (by kernel_rfl) (by kernel_rfl) (by kernel_rfl) (fun _ _ _ h => h) (Or.inl ⟨by rfl, fun w' hw' => by (clear hw'; go_simp)⟩) hH ?_
                  simp only [Act.put, sjA, sjB, sjC]
                  refine wpAnyH_take (i := 32) (oi := ⟨some 45, .load 9 (.tmp 44), 9, "ref.go:95", #[⟨31, .data⟩, ⟨26, .guard⟩], some (26, false)⟩) (v := .string s) rfl (by kernel_rfl) (by kernel_rfl) (by kernel_rfl) (fun _ _ _ h => h) (Or.inl ⟨by rfl, fun w' hw' => by (have q := x0' w' hw'; clear hw'; go_simp)⟩) hH ?_
                  simp only [Act.put, sjA, sjB, sjC]
                  refine wpAnyH_ready (rs := [33]) (by kernel_rfl) (by simp) ?_
                  refine AllReadyH.cons (o := ⟨some 46, .call { callee := .value (.func 41), args := #[.tmp 40, .tmp 45], argTypes := #[22, 9] }, 31, "ref.go:95", #[⟨27, .data⟩, ⟨32, .data⟩, ⟨26, .chain⟩, ⟨26, .guard⟩], some (26, false)⟩) rfl (fun K hK => ?_) AllReadyH.nil
                  go_simp
                  refine (HDR.out _ HK1.out).mono ?_
                  rintro e w3 ⟨rfl, hk⟩
                  have HK3 : Hid (Kp No wr w3) := HK1.out.andNone hk
                  clear hk
                  go_wp2_with fail
                  refine hK.out _ _ (HK3.out) (fun hh => ?_)
                  clear hK K hH
                  have hH := hh
                  clear hh
                  try simp only [Act.put, sjA, sjB, sjC]
                  refine wpAnyH_take (i := 34) (oi := ⟨some 47, .binOp .neq 31 (.tmp 46) (.const (.int .i64 0)) 31, 4, "ref.go:95", #[⟨33, .data⟩, ⟨26, .guard⟩], some (26, false)⟩) (v := .bool false) rfl (by kernel_rfl) (by kernel_rfl) (by kernel_rfl) (fun _ _ _ h => h) (Or.inl ⟨by rfl, fun w' hw' => by (clear hw'; go_simp)⟩) hH ?_
                  simp only [Act.put, sjA, sjB, sjC]
                  refine wpAnyH_take (i := 35) (oi := ⟨some 48, .pick (.tmp 39) (.const (.bool true)) (.tmp 47), 4, "ref.go:95", #[⟨26, .data⟩, ⟨34, .data⟩], none⟩) (v := .bool false) rfl (by kernel_rfl) (by kernel_rfl) (by kernel_rfl) (fun _ _ _ h => h) (Or.inl ⟨by rfl, fun w' hw' => by (clear hw'; go_simp)⟩) hH ?_
                  simp only [Act.put, sjA, sjB, sjC]
                  refine wpAnyH_take (i := 36) (oi := ⟨some 49, .move (.tmp 48), 4, "ref.go:95", #[⟨35, .data⟩, ⟨33, .chain⟩], none⟩) (v := .bool false) rfl (by kernel_rfl) (by kernel_rfl) (by kernel_rfl) (fun _ _ _ h => h) (Or.inl ⟨by rfl, fun w' hw' => by (clear hw'; go_simp)⟩) hH ?_
                  simp only [Act.put, sjA, sjB, sjC]
                  refine wpAnyH_take (i := 37) (oi := ⟨some 50, .move (.tmp 0), 22, "ref.go:95", #[⟨36, .guard⟩], some (36, false)⟩) (v := .slice (some ⟨g, o, none⟩) n cap) rfl (by kernel_rfl) (by kernel_rfl) (by kernel_rfl) (fun _ _ _ h => h) (Or.inl ⟨by rfl, fun w' hw' => by (clear hw'; go_simp)⟩) hH ?_
                  simp only [Act.put, sjA, sjB, sjC]
                  refine wpAnyH_take (i := 38) (oi := ⟨some 51, .move (.tmp 3), 3, "ref.go:95", #[⟨36, .guard⟩], some (36, false)⟩) (v := .int .i64 (i : Int)) rfl (by kernel_rfl) (by kernel_rfl) (by kernel_rfl) (fun _ _ _ h => h) (Or.inl ⟨by rfl, fun w' hw' => by (clear hw'; go_simp)⟩) hH ?_
                  simp only [Act.put, sjA, sjB, sjC]
                  refine wpAnyH_take (i := 39) (oi := ⟨some 52, .indexAddr 22 (.tmp 50) (.tmp 51), 0, "ref.go:95", #[⟨37, .data⟩, ⟨38, .data⟩, ⟨36, .guard⟩], some (36, false)⟩) (v := .pointer (some ⟨g, o + i * 3, none⟩)) rfl (by kernel_rfl) (by kernel_rfl) (by kernel_rfl) (fun _ _ _ h => h) (Or.inl ⟨by rfl, fun w' hw' => by (clear hw'; go_simp)⟩) hH ?_
                  simp only [Act.put, sjA, sjB, sjC]
                  refine wpAnyH_take (i := 40) (oi := ⟨some 53, .fieldAddr 41 (.tmp 52) 1, 0, "ref.go:95", #[⟨39, .data⟩, ⟨36, .guard⟩], some (36, false)⟩) (v := .pointer (some ⟨g, o + i * 3 + 1, none⟩)) rfl (by kernel_rfl) (by kernel_rfl) (by kernel_rfl) (fun _ _ _ h => h) (Or.inl ⟨by rfl, fun w' hw' => by (clear hw'; go_simp)⟩) hH ?_
                  simp only [Act.put, sjA, sjB, sjC]
                  refine wpAnyH_take (i := 41) (oi := ⟨some 54, .load 4 (.tmp 53), 4, "ref.go:95", #[⟨40, .data⟩, ⟨36, .guard⟩], some (36, false)⟩) (v := .bool true) rfl (by kernel_rfl) (by kernel_rfl) (by kernel_rfl) (fun _ _ _ h => h) (Or.inl ⟨by rfl, fun w' hw' => by (have q := x1' w' hw'; clear hw'; go_simp)⟩) hH ?_
                  simp only [Act.put, sjA, sjB, sjC]
                  refine wpAnyH_take (i := 42) (oi := ⟨some 55, .move (.tmp 54), 4, "ref.go:95", #[⟨41, .data⟩, ⟨36, .chain⟩, ⟨36, .guard⟩], some (36, false)⟩) (v := .bool true) rfl (by kernel_rfl) (by kernel_rfl) (by kernel_rfl) (fun _ _ _ h => h) (Or.inl ⟨by rfl, fun w' hw' => by (clear hw'; go_simp)⟩) hH ?_
                  simp only [Act.put, sjA, sjB, sjC]
                  refine wpAnyH_take (i := 43) (oi := ⟨some 56, .move (.tmp 0), 22, "ref.go:95", #[⟨42, .guard⟩], some (42, true)⟩) (v := .slice (some ⟨g, o, none⟩) n cap) rfl (by kernel_rfl) (by kernel_rfl) (by kernel_rfl) (fun _ _ _ h => h) (Or.inl ⟨by rfl, fun w' hw' => by (clear hw'; go_simp)⟩) hH ?_
                  simp only [Act.put, sjA, sjB, sjC]
                  refine wpAnyH_take (i := 44) (oi := ⟨some 57, .move (.tmp 3), 3, "ref.go:95", #[⟨42, .guard⟩], some (42, true)⟩) (v := .int .i64 (i : Int)) rfl (by kernel_rfl) (by kernel_rfl) (by kernel_rfl) (fun _ _ _ h => h) (Or.inl ⟨by rfl, fun w' hw' => by (clear hw'; go_simp)⟩) hH ?_
                  simp only [Act.put, sjA, sjB, sjC]
                  refine wpAnyH_take (i := 45) (oi := ⟨some 58, .indexAddr 22 (.tmp 56) (.tmp 57), 0, "ref.go:95", #[⟨43, .data⟩, ⟨44, .data⟩, ⟨42, .guard⟩], some (42, true)⟩) (v := .pointer (some ⟨g, o + i * 3, none⟩)) rfl (by kernel_rfl) (by kernel_rfl) (by kernel_rfl) (fun _ _ _ h => h) (Or.inl ⟨by rfl, fun w' hw' => by (clear hw'; go_simp)⟩) hH ?_
                  simp only [Act.put, sjA, sjB, sjC]
                  refine wpAnyH_take (i := 46) (oi := ⟨some 59, .fieldAddr 41 (.tmp 58) 2, 0, "ref.go:95", #[⟨45, .data⟩, ⟨42, .guard⟩], some (42, true)⟩) (v := .pointer (some ⟨g, o + i * 3 + 2, none⟩)) rfl (by kernel_rfl) (by kernel_rfl) (by kernel_rfl) (fun _ _ _ h => h) (Or.inl ⟨by rfl, fun w' hw' => by (clear hw'; go_simp)⟩) hH ?_
                  simp only [Act.put, sjA, sjB, sjC]
                  refine wpAnyH_take (i := 47) (oi := ⟨some 60, .load 23 (.tmp 59), 23, "ref.go:95", #[⟨46, .data⟩, ⟨42, .guard⟩], some (42, true)⟩) (v := .slice au bs.length cu) rfl (by kernel_rfl) (by kernel_rfl) (by kernel_rfl) (fun _ _ _ h => h) (Or.inl ⟨by rfl, fun w' hw' => by (have q := x2' w' hw'; clear hw'; go_simp)⟩) hH ?_
                  simp only [Act.put, sjA, sjB, sjC]
                  refine wpAnyH_take (i := 48) (oi := ⟨some 61, .call { callee := .builtin Builtin.len, args := #[.tmp 60], argTypes := #[23] }, 3, "ref.go:95", #[⟨47, .data⟩, ⟨42, .guard⟩], some (42, true)⟩) (v := .int .i64 (bs.length : Int)) rfl (by kernel_rfl) (by kernel_rfl) (by kernel_rfl) (fun _ _ _ h => h) (Or.inl ⟨by rfl, fun w' hw' => by (clear hw'; go_simp)⟩) hH ?_
                  simp only [Act.put, sjA, sjB, sjC]
                  refine wpAnyH_take (i := 49) (oi := ⟨some 62, .binOp .gtr 3 (.tmp 61) (.const (.int .i64 0)) 3, 4, "ref.go:95", #[⟨48, .data⟩, ⟨42, .guard⟩], some (42, true)⟩) (v := .bool true) rfl (by kernel_rfl) (by kernel_rfl) (by kernel_rfl) (fun _ _ _ h => h) (Or.inl ⟨by rfl, fun w' hw' => by (clear hw'; go_simp)⟩) hH ?_
                  simp only [Act.put, sjA, sjB, sjC]
                  refine wpAnyH_take (i := 50) (oi := ⟨some 63, .pick (.tmp 55) (.tmp 62) (.const (.bool false)), 4, "ref.go:95", #[⟨42, .data⟩, ⟨49, .data⟩, ⟨36, .guard⟩], some (36, false)⟩) (v := .bool true) rfl (by kernel_rfl) (by kernel_rfl) (by kernel_rfl) (fun _ _ _ h => h) (Or.inl ⟨by rfl, fun w' hw' => by (clear hw'; go_simp)⟩) hH ?_
                  simp only [Act.put, sjA, sjB, sjC]
                  refine wpAnyH_take (i := 51) (oi := ⟨some 64, .pick (.tmp 49) (.const (.bool true)) (.tmp 63), 4, "ref.go:95", #[⟨36, .data⟩, ⟨50, .data⟩], none⟩) (v := .bool true) rfl (by kernel_rfl) (by kernel_rfl) (by kernel_rfl) (fun _ _ _ h => h) (Or.inl ⟨by rfl, fun w' hw' => by (clear hw'; go_simp)⟩) hH ?_
                  simp only [Act.put, sjA, sjB, sjC]
                  refine wpAnyH_take (i := 52) (oi := ⟨some 65, .move (.tmp 64), 4, "ref.go:95", #[⟨51, .data⟩, ⟨42, .chain⟩], none⟩) (v := .bool true) rfl (by kernel_rfl) (by kernel_rfl) (by kernel_rfl) (fun _ _ _ h => h) (Or.inl ⟨by rfl, fun w' hw' => by (clear hw'; go_simp)⟩) hH ?_
                  simp only [Act.put, sjA, sjB, sjC]
                  refine wpAnyH_take (i := 53) (oi := ⟨some 66, .move (.tmp 0), 22, "ref.go:95", #[⟨52, .guard⟩], some (52, false)⟩) (v := undef) rfl (by kernel_rfl) (by kernel_rfl) (by kernel_rfl) (fun _ _ _ h => h) (Or.inr ⟨by rfl, rfl⟩) hH ?_
                  simp only [Act.put, sjA, sjB, sjC]
                  refine wpAnyH_take (i := 54) (oi := ⟨some 67, .move (.tmp 3), 3, "ref.go:95", #[⟨52, .guard⟩], some (52, false)⟩) (v := undef) rfl (by kernel_rfl) (by kernel_rfl) (by kernel_rfl) (fun _ _ _ h => h) (Or.inr ⟨by rfl, rfl⟩) hH ?_
                  simp only [Act.put, sjA, sjB, sjC]
                  refine wpAnyH_take (i := 55) (oi := ⟨some 68, .indexAddr 22 (.tmp 66) (.tmp 67), 0, "ref.go:95", #[⟨53, .data⟩, ⟨54, .data⟩, ⟨52, .guard⟩], some (52, false)⟩) (v := undef) rfl (by kernel_rfl) (by kernel_rfl) (by kernel_rfl) (fun _ _ _ h => h) (Or.inr ⟨by rfl, rfl⟩) hH ?_
                  simp only [Act.put, sjA, sjB, sjC]
                  refine wpAnyH_take (i := 56) (oi := ⟨some 69, .fieldAddr 41 (.tmp 68) 2, 0, "ref.go:95", #[⟨55, .data⟩, ⟨52, .guard⟩], some (52, false)⟩) (v := undef) rfl (by kernel_rfl) (by kernel_rfl) (by kernel_rfl) (fun _ _ _ h => h) (Or.inr ⟨by rfl, rfl⟩) hH ?_
                  simp only [Act.put, sjA, sjB, sjC]
                  refine wpAnyH_take (i := 57) (oi := ⟨some 70, .load 23 (.tmp 69), 23, "ref.go:95", #[⟨56, .data⟩, ⟨52, .guard⟩], some (52, false)⟩) (v := undef) rfl (by kernel_rfl) (by kernel_rfl) (by kernel_rfl) (fun _ _ _ h => h) (Or.inr ⟨by rfl, rfl⟩) hH ?_
                  simp only [Act.put, sjA, sjB, sjC]
                  refine wpAnyH_take (i := 58) (oi := ⟨some 71, .call { callee := .builtin Builtin.len, args := #[.tmp 70], argTypes := #[23] }, 3, "ref.go:95", #[⟨57, .data⟩, ⟨52, .guard⟩], some (52, false)⟩) (v := undef) rfl (by kernel_rfl) (by kernel_rfl) (by kernel_rfl) (fun _ _ _ h => h) (Or.inr ⟨by rfl, rfl⟩) hH ?_
                  simp only [Act.put, sjA, sjB, sjC]
                  refine wpAnyH_take (i := 59) (oi := ⟨some 72, .binOp .gtr 3 (.tmp 71) (.const (.int .i64 2000)) 3, 4, "ref.go:95", #[⟨58, .data⟩, ⟨52, .guard⟩], some (52, false)⟩) (v := undef) rfl (by kernel_rfl) (by kernel_rfl) (by kernel_rfl) (fun _ _ _ h => h) (Or.inr ⟨by rfl, rfl⟩) hH ?_
                  simp only [Act.put, sjA, sjB, sjC]
                  refine wpAnyH_take (i := 60) (oi := ⟨some 73, .pick (.tmp 65) (.const (.bool true)) (.tmp 72), 4, "ref.go:95", #[⟨52, .data⟩, ⟨59, .data⟩], none⟩) (v := .bool true) rfl (by kernel_rfl) (by kernel_rfl) (by kernel_rfl) (fun _ _ _ h => h) (Or.inl ⟨by rfl, fun w' hw' => by (clear hw'; go_simp)⟩) hH ?_
                  simp only [Act.put, sjA, sjB, sjC]
                  refine wpAnyH_done (by kernel_rfl) ?_ _
                  clear hH x0' x1' x2'
                  go_wp2_with fail
                  go_ret
                  refine ⟨?_, HS.out.2.andNone HK3.out⟩
                  rw [HBAD.out HNO.out]
                  rfl
              · have HYES : Hid (okAt t i (s, d, bs)) := HOK.out.2 ⟨by rw [HWB.out, decide_eq_false hm]; rfl, HOY.out⟩
                cases d
                · have hmI : ¬ (2000 : Int) < (bs.length : Int) := by simp at hm; omega
                  clear hm
                  have HNX2 := hid (HNXT.out HYES.out)
                  clear HNXT HWB HOK HBAD
                  go_wp2_with fail
                  refine wp_region_held_drew (S := fun V => Kp No wr V) (by kernel_rfl) ((Kp.refl _ _).drew) (fun hH => ?_)
                  refine wpAnyH_take (i := 0) (oi := ⟨some 13, .move (.tmp 0), 22, "ref.go:95", #[], none⟩) (v := .slice (some ⟨g, o, none⟩) n cap) rfl (by kernel_rfl) (by kernel_rfl) (by kernel_rfl) (fun _ _ _ h => h) (Or.inl ⟨by rfl, fun w' hw' => by (clear hw'; go_simp)⟩) hH ?_
                  simp only [Act.put, sjA, sjB, sjC]
                  refine wpAnyH_take (i := 1) (oi := ⟨some 14, .move (.tmp 3), 3, "ref.go:95", #[], none⟩) (v := .int .i64 (i : Int)) rfl (by kernel_rfl) (by kernel_rfl) (by kernel_rfl) (fun _ _ _ h => h) (Or.inl ⟨by rfl, fun w' hw' => by (clear hw'; go_simp)⟩) hH ?_
                  simp only [Act.put, sjA, sjB, sjC]
                  refine wpAnyH_take (i := 2) (oi := ⟨some 15, .indexAddr 22 (.tmp 13) (.tmp 14), 0, "ref.go:95", #[⟨0, .data⟩, ⟨1, .data⟩], none⟩) (v := .pointer (some ⟨g, o + i * 3, none⟩)) rfl (by kernel_rfl) (by kernel_rfl) (by kernel_rfl) (fun _ _ _ h => h) (Or.inl ⟨by rfl, fun w' hw' => by (clear hw'; go_simp)⟩) hH ?_
                  simp only [Act.put, sjA, sjB, sjC]
                  refine wpAnyH_take (i := 3) (oi := ⟨some 16, .fieldAddr 41 (.tmp 15) 0, 0, "ref.go:95", #[⟨2, .data⟩], none⟩) (v := .pointer (some ⟨g, o + i * 3, none⟩)) rfl (by kernel_rfl) (by kernel_rfl) (by kernel_rfl) (fun _ _ _ h => h) (Or.inl ⟨by rfl, fun w' hw' => by (clear hw'; go_simp)⟩) hH ?_
                  simp only [Act.put, sjA, sjB, sjC]
                  refine wpAnyH_take (i := 4) (oi := ⟨some 17, .load 9 (.tmp 16), 9, "ref.go:95", #[⟨3, .data⟩], none⟩) (v := .string s) rfl (by kernel_rfl) (by kernel_rfl) (by kernel_rfl) (fun _ _ _ h => h) (Or.inl ⟨by rfl, fun w' hw' => by (have q := x0' w' hw'; clear hw'; go_simp)⟩) hH ?_
                  simp only [Act.put, sjA, sjB, sjC]
                  refine wpAnyH_ready (rs := [5]) (by kernel_rfl) (by simp) ?_
                  refine AllReadyH.cons (o := ⟨some 18, .call { callee := .value (.func 43), args := #[.tmp 17], argTypes := #[9] }, 4, "ref.go:95", #[⟨4, .data⟩], none⟩) rfl (fun K hK => ?_) AllReadyH.nil
                  go_simp
                  refine (HP.out _ (Kp.refl _ _).drew).mono ?_
                  rintro e w1 ⟨rfl, hk⟩
                  have HK1 : Hid (Kp No wr w1) := (Kp.refl _ _).drew.andNone hk
                  clear hk
                  go_wp2_with fail
                  refine hK.out _ _ (HK1.out) (fun hh => ?_)
                  clear hK K hH
                  have hH := hh
                  clear hh
                  try simp only [Act.put, sjA, sjB, sjC]
                  refine wpAnyH_take (i := 6) (oi := ⟨some 19, .unOp .not 4 (.tmp 18), 4, "ref.go:95", #[⟨5, .data⟩], none⟩) (v := .bool false) rfl (by kernel_rfl) (by kernel_rfl) (by kernel_rfl) (fun _ _ _ h => h) (Or.inl ⟨by rfl, fun w' hw' => by (clear hw'; go_simp)⟩) hH ?_
                  simp only [Act.put, sjA, sjB, sjC]
                  refine wpAnyH_take (i := 7) (oi := ⟨some 20, .move (.tmp 19), 4, "ref.go:95", #[⟨6, .data⟩, ⟨5, .chain⟩], none⟩) (v := .bool false) rfl (by kernel_rfl) (by kernel_rfl) (by kernel_rfl) (fun _ _ _ h => h) (Or.inl ⟨by rfl, fun w' hw' => by (clear hw'; go_simp)⟩) hH ?_
                  simp only [Act.put, sjA, sjB, sjC]
                  refine wpAnyH_take (i := 8) (oi := ⟨some 21, .move (.tmp 3), 3, "ref.go:95", #[⟨7, .guard⟩], some (7, false)⟩) (v := .int .i64 (i : Int)) rfl (by kernel_rfl) (by kernel_rfl) (by kernel_rfl) (fun _ _ _ h => h) (Or.inl ⟨by rfl, fun w' hw' => by (clear hw'; go_simp)⟩) hH ?_
                  simp only [Act.put, sjA, sjB, sjC]
                  refine wpAnyH_take (i := 9) (oi := ⟨some 22, .binOp .gtr 3 (.tmp 21) (.const (.int .i64 0)) 3, 4, "ref.go:95", #[⟨8, .data⟩, ⟨7, .guard⟩], some (7, false)⟩) (v := .bool false) rfl (by kernel_rfl) (by kernel_rfl) (by kernel_rfl) (fun _ _ _ h => h) (Or.inl ⟨by rfl, fun w' hw' => by (clear hw'; go_simp)⟩) hH ?_
                  simp only [Act.put, sjA, sjB, sjC]
                  refine wpAnyH_take (i := 10) (oi := ⟨some 23, .move (.tmp 22), 4, "ref.go:95", #[⟨9, .data⟩, ⟨7, .chain⟩, ⟨7, .guard⟩], some (7, false)⟩) (v := .bool false) rfl (by kernel_rfl) (by kernel_rfl) (by kernel_rfl) (fun _ _ _ h => h) (Or.inl ⟨by rfl, fun w' hw' => by (clear hw'; go_simp)⟩) hH ?_
                  simp only [Act.put, sjA, sjB, sjC]
                  refine wpAnyH_take (i := 11) (oi := ⟨some 24, .move (.tmp 0), 22, "ref.go:95", #[⟨10, .guard⟩], some (10, true)⟩) (v := undef) rfl (by kernel_rfl) (by kernel_rfl) (by kernel_rfl) (fun _ _ _ h => h) (Or.inr ⟨by rfl, rfl⟩) hH ?_
                  simp only [Act.put, sjA, sjB, sjC]
                  refine wpAnyH_take (i := 12) (oi := ⟨some 25, .move (.tmp 3), 3, "ref.go:95", #[⟨10, .guard⟩], some (10, true)⟩) (v := undef) rfl (by kernel_rfl) (by kernel_rfl) (by kernel_rfl) (fun _ _ _ h => h) (Or.inr ⟨by rfl, rfl⟩) hH ?_
                  simp only [Act.put, sjA, sjB, sjC]
                  refine wpAnyH_take (i := 13) (oi := ⟨some 26, .binOp .sub 3 (.tmp 25) (.const (.int .i64 1)) 3, 3, "ref.go:95", #[⟨12, .data⟩, ⟨10, .guard⟩], some (10, true)⟩) (v := undef) rfl (by kernel_rfl) (by kernel_rfl) (by kernel_rfl) (fun _ _ _ h => h) (Or.inr ⟨by rfl, rfl⟩) hH ?_
                  simp only [Act.put, sjA, sjB, sjC]
                  refine wpAnyH_take (i := 14) (oi := ⟨some 27, .indexAddr 22 (.tmp 24) (.tmp 26), 0, "ref.go:95", #[⟨11, .data⟩, ⟨13, .data⟩, ⟨10, .guard⟩], some (10, true)⟩) (v := undef) rfl (by kernel_rfl) (by kernel_rfl) (by kernel_rfl) (fun _ _ _ h => h) (Or.inr ⟨by rfl, rfl⟩) hH ?_
                  simp only [Act.put, sjA, sjB, sjC]
                  refine wpAnyH_take (i := 15) (oi := ⟨some 28, .fieldAddr 41 (.tmp 27) 0, 0, "ref.go:95", #[⟨14, .data⟩, ⟨10, .guard⟩], some (10, true)⟩) (v := undef) rfl (by kernel_rfl) (by kernel_rfl) (by kernel_rfl) (fun _ _ _ h => h) (Or.inr ⟨by rfl, rfl⟩) hH ?_
                  simp only [Act.put, sjA, sjB, sjC]
                  refine wpAnyH_take (i := 16) (oi := ⟨some 29, .load 9 (.tmp 28), 9, "ref.go:95", #[⟨15, .data⟩, ⟨10, .guard⟩], some (10, true)⟩) (v := undef) rfl (by kernel_rfl) (by kernel_rfl) (by kernel_rfl) (fun _ _ _ h => h) (Or.inr ⟨by rfl, rfl⟩) hH ?_
                  simp only [Act.put, sjA, sjB, sjC]
                  refine wpAnyH_take (i := 17) (oi := ⟨some 30, .move (.tmp 0), 22, "ref.go:95", #[⟨10, .guard⟩], some (10, true)⟩) (v := undef) rfl (by kernel_rfl) (by kernel_rfl) (by kernel_rfl) (fun _ _ _ h => h) (Or.inr ⟨by rfl, rfl⟩) hH ?_
                  simp only [Act.put, sjA, sjB, sjC]
                  refine wpAnyH_take (i := 18) (oi := ⟨some 31, .move (.tmp 3), 3, "ref.go:95", #[⟨10, .guard⟩], some (10, true)⟩) (v := undef) rfl (by kernel_rfl) (by kernel_rfl) (by kernel_rfl) (fun _ _ _ h => h) (Or.inr ⟨by rfl, rfl⟩) hH ?_
                  simp only [Act.put, sjA, sjB, sjC]
                  refine wpAnyH_take (i := 19) (oi := ⟨some 32, .indexAddr 22 (.tmp 30) (.tmp 31), 0, "ref.go:95", #[⟨17, .data⟩, ⟨18, .data⟩, ⟨10, .guard⟩], some (10, true)⟩) (v := undef) rfl (by kernel_rfl) (by kernel_rfl) (by kernel_rfl) (fun _ _ _ h => h) (Or.inr ⟨by rfl, rfl⟩) hH ?_
                  simp only [Act.put, sjA, sjB, sjC]
                  refine wpAnyH_take (i := 20) (oi := ⟨some 33, .fieldAddr 41 (.tmp 32) 0, 0, "ref.go:95", #[⟨19, .data⟩, ⟨10, .guard⟩], some (10, true)⟩) (v := undef) rfl (by kernel_rfl) (by kernel_rfl) (by kernel_rfl) (fun _ _ _ h => h) (Or.inr ⟨by rfl, rfl⟩) hH ?_
                  simp only [Act.put, sjA, sjB, sjC]
                  refine wpAnyH_take (i := 21) (oi := ⟨some 34, .load 9 (.tmp 33), 9, "ref.go:95", #[⟨20, .data⟩, ⟨10, .guard⟩], some (10, true)⟩) (v := undef) rfl (by kernel_rfl) (by kernel_rfl) (by kernel_rfl) (fun _ _ _ h => h) (Or.inr ⟨by rfl, rfl⟩) hH ?_
                  simp only [Act.put, sjA, sjB, sjC]
                  refine wpAnyH_take (i := 22) (oi := ⟨some 35, .call { callee := .value (.func 61), args := #[.tmp 29, .tmp 34], argTypes := #[9, 9] }, 4, "ref.go:95", #[⟨16, .data⟩, ⟨21, .data⟩, ⟨10, .chain⟩, ⟨10, .guard⟩], some (10, true)⟩) (v := undef) rfl (by kernel_rfl) (by kernel_rfl) (by kernel_rfl) (fun _ _ _ h => h) (Or.inr ⟨by rfl, rfl⟩) hH ?_
                  simp only [Act.put, sjA, sjB, sjC]
                  refine wpAnyH_take (i := 23) (oi := ⟨some 36, .unOp .not 4 (.tmp 35), 4, "ref.go:95", #[⟨22, .data⟩, ⟨10, .guard⟩], some (10, true)⟩) (v := undef) rfl (by kernel_rfl) (by kernel_rfl) (by kernel_rfl) (fun _ _ _ h => h) (Or.inr ⟨by rfl, rfl⟩) hH ?_
                  simp only [Act.put, sjA, sjB, sjC]
                  refine wpAnyH_take (i := 24) (oi := ⟨some 37, .pick (.tmp 23) (.tmp 36) (.const (.bool false)), 4, "ref.go:95", #[⟨10, .data⟩, ⟨23, .data⟩, ⟨7, .guard⟩], some (7, false)⟩) (v := .bool false) rfl (by kernel_rfl) (by kernel_rfl) (by kernel_rfl) (fun _ _ _ h => h) (Or.inl ⟨by rfl, fun w' hw' => by (clear hw'; go_simp)⟩) hH ?_
                  simp only [Act.put, sjA, sjB, sjC]
                  refine wpAnyH_take (i := 25) (oi := ⟨some 38, .pick (.tmp 20) (.const (.bool true)) (.tmp 37), 4, "ref.go:95", #[⟨7, .data⟩, ⟨24, .data⟩], none⟩) (v := .bool false) rfl (by kernel_rfl) (by kernel_rfl) (by kernel_rfl) (fun _ _ _ h => h) (Or.inl ⟨by rfl, fun w' hw' => by (clear hw'; go_simp)⟩) hH ?_
                  simp only [Act.put, sjA, sjB, sjC]
                  refine wpAnyH_take (i := 26) (oi := ⟨some 39, .move (.tmp 38), 4, "ref.go:95", #[⟨25, .data⟩, ⟨22, .chain⟩], none⟩) (v := .bool false) rfl (by kernel_rfl) (by kernel_rfl) (by kernel_rfl) (fun _ _ _ h => h) (Or.inl ⟨by rfl, fun w' hw' => by (clear hw'; go_simp)⟩) hH ?_
                  simp only [Act.put, sjA, sjB, sjC]
                  refine wpAnyH_take (i := 27) (oi := ⟨some 40, .move (.tmp 0), 22, "ref.go:95", #[⟨26, .guard⟩], some (26, false)⟩) (v := .slice (some ⟨g, o, none⟩) n cap) rfl (by kernel_rfl) (by kernel_rfl) (by kernel_rfl) (fun _ _ _ h => h) (Or.inl ⟨by rfl, fun w' hw' => by (clear hw'; go_simp)⟩) hH ?_
                  simp only [Act.put, sjA, sjB, sjC]
                  refine wpAnyH_take (i := 28) (oi := ⟨some 41, .move (.tmp 0), 22, "ref.go:95", #[⟨26, .guard⟩], some (26, false)⟩) (v := .slice (some ⟨g, o, none⟩) n cap) rfl (by kernel_rfl) (by kernel_rfl) (by kernel_rfl) (fun _ _ _ h => h) (Or.inl ⟨by rfl, fun w' hw' => by (clear hw'; go_simp)⟩) hH ?_
                  simp only [Act.put, sjA, sjB, sjC]
                  refine wpAnyH_take (i := 29) (oi := ⟨some 42, .move (.tmp 3), 3, "ref.go:95", #[⟨26, .guard⟩], some (26, false)⟩) (v := .int .i64 (i : Int)) rfl (by kernel_rfl) (by kernel_rfl) (by kernel_rfl) (fun _ _ _ h => h) (Or.inl ⟨by rfl, fun w' hw' => by (clear hw'; go_simp)⟩) hH ?_
                  simp only [Act.put, sjA, sjB, sjC]
                  refine wpAnyH_take (i := 30) (oi := ⟨some 43, .indexAddr 22 (.tmp 41) (.tmp 42), 0, "ref.go:95", #[⟨28, .data⟩, ⟨29, .data⟩, ⟨26, .guard⟩], some (26, false)⟩) (v := .pointer (some ⟨g, o + i * 3, none⟩)) rfl (by kernel_rfl) (by kernel_rfl) (by kernel_rfl) (fun _ _ _ h => h) (Or.inl ⟨by rfl, fun w' hw' => by (clear hw'; go_simp)⟩) hH ?_
                  simp only [Act.put, sjA, sjB, sjC]
                  refine wpAnyH_take (i := 31) (oi := ⟨some 44, .fieldAddr 41 (.tmp 43) 0, 0, "ref.go:95", #[⟨30, .data⟩, ⟨26, .guard⟩], some (26, false)⟩) (v := .pointer (some ⟨g, o + i * 3, none⟩)) rfl (by kernel_rfl) (by kernel_rfl) (by kernel_rfl) (fun _ _ _ h => h) (Or.inl ⟨by rfl, fun w' hw' => by (clear hw'; go_simp)⟩) hH ?_
                  simp only [Act.put, sjA, sjB, sjC]
                  refine wpAnyH_take (i := 32) (oi := ⟨some 45, .load 9 (.tmp 44), 9, "ref.go:95", #[⟨31, .data⟩, ⟨26, .guard⟩], some (26, false)⟩) (v := .string s) rfl (by kernel_rfl) (by kernel_rfl) (by kernel_rfl) (fun _ _ _ h => h) (Or.inl ⟨by rfl, fun w' hw' => by (have q := x0' w' hw'; clear hw'; go_simp)⟩) hH ?_
                  simp only [Act.put, sjA, sjB, sjC]
                  refine wpAnyH_ready (rs := [33]) (by kernel_rfl) (by simp) ?_
                  refine AllReadyH.cons (o := ⟨some 46, .call { callee := .value (.func 41), args := #[.tmp 40, .tmp 45], argTypes := #[22, 9] }, 31, "ref.go:95", #[⟨27, .data⟩, ⟨32, .data⟩, ⟨26, .chain⟩, ⟨26, .guard⟩], some (26, false)⟩) rfl (fun K hK => ?_) AllReadyH.nil
                  go_simp
                  refine (HDR.out _ HK1.out).mono ?_
                  rintro e w3 ⟨rfl, hk⟩
                  have HK3 : Hid (Kp No wr w3) := HK1.out.andNone hk
                  clear hk
                  go_wp2_with fail
                  refine hK.out _ _ (HK3.out) (fun hh => ?_)
                  clear hK K hH
                  have hH := hh
                  clear hh
                  try simp only [Act.put, sjA, sjB, sjC]
                  refine wpAnyH_take (i := 34) (oi := ⟨some 47, .binOp .neq 31 (.tmp 46) (.const (.int .i64 0)) 31, 4, "ref.go:95", #[⟨33, .data⟩, ⟨26, .guard⟩], some (26, false)⟩) (v := .bool false) rfl (by kernel_rfl) (by kernel_rfl) (by kernel_rfl) (fun _ _ _ h => h) (Or.inl ⟨by rfl, fun w' hw' => by (clear hw'; go_simp)⟩) hH ?_
                  simp only [Act.put, sjA, sjB, sjC]
                  refine wpAnyH_take (i := 35) (oi := ⟨some 48, .pick (.tmp 39) (.const (.bool true)) (.tmp 47), 4, "ref.go:95", #[⟨26, .data⟩, ⟨34, .data⟩], none⟩) (v := .bool false) rfl (by kernel_rfl) (by kernel_rfl) (by kernel_rfl) (fun _ _ _ h => h) (Or.inl ⟨by rfl, fun w' hw' => by (clear hw'; go_simp)⟩) hH ?_
                  simp only [Act.put, sjA, sjB, sjC]
                  refine wpAnyH_take (i := 36) (oi := ⟨some 49, .move (.tmp 48), 4, "ref.go:95", #[⟨35, .data⟩, ⟨33, .chain⟩], none⟩) (v := .bool false) rfl (by kernel_rfl) (by kernel_rfl) (by kernel_rfl) (fun _ _ _ h => h) (Or.inl ⟨by rfl, fun w' hw' => by (clear hw'; go_simp)⟩) hH ?_
                  simp only [Act.put, sjA, sjB, sjC]
                  refine wpAnyH_take (i := 37) (oi := ⟨some 50, .move (.tmp 0), 22, "ref.go:95", #[⟨36, .guard⟩], some (36, false)⟩) (v := .slice (some ⟨g, o, none⟩) n cap) rfl (by kernel_rfl) (by kernel_rfl) (by kernel_rfl) (fun _ _ _ h => h) (Or.inl ⟨by rfl, fun w' hw' => by (clear hw'; go_simp)⟩) hH ?_
                  simp only [Act.put, sjA, sjB, sjC]
                  refine wpAnyH_take (i := 38) (oi := ⟨some 51, .move (.tmp 3), 3, "ref.go:95", #[⟨36, .guard⟩], some (36, false)⟩) (v := .int .i64 (i : Int)) rfl (by kernel_rfl) (by kernel_rfl) (by kernel_rfl) (fun _ _ _ h => h) (Or.inl ⟨by rfl, fun w' hw' => by (clear hw'; go_simp)⟩) hH ?_
                  simp only [Act.put, sjA, sjB, sjC]
                  refine wpAnyH_take (i := 39) (oi := ⟨some 52, .indexAddr 22 (.tmp 50) (.tmp 51), 0, "ref.go:95", #[⟨37, .data⟩, ⟨38, .data⟩, ⟨36, .guard⟩], some (36, false)⟩) (v := .pointer (some ⟨g, o + i * 3, none⟩)) rfl (by kernel_rfl) (by kernel_rfl) (by kernel_rfl) (fun _ _ _ h => h) (Or.inl ⟨by rfl, fun w' hw' => by (clear hw'; go_simp)⟩) hH ?_
                  simp only [Act.put, sjA, sjB, sjC]
                  refine wpAnyH_take (i := 40) (oi := ⟨some 53, .fieldAddr 41 (.tmp 52) 1, 0, "ref.go:95", #[⟨39, .data⟩, ⟨36, .guard⟩], some (36, false)⟩) (v := .pointer (some ⟨g, o + i * 3 + 1, none⟩)) rfl (by kernel_rfl) (by kernel_rfl) (by kernel_rfl) (fun _ _ _ h => h) (Or.inl ⟨by rfl, fun w' hw' => by (clear hw'; go_simp)⟩) hH ?_
                  simp only [Act.put, sjA, sjB, sjC]
                  refine wpAnyH_take (i := 41) (oi := ⟨some 54, .load 4 (.tmp 53), 4, "ref.go:95", #[⟨40, .data⟩, ⟨36, .guard⟩], some (36, false)⟩) (v := .bool false) rfl (by kernel_rfl) (by kernel_rfl) (by kernel_rfl) (fun _ _ _ h => h) (Or.inl ⟨by rfl, fun w' hw' => by (have q := x1' w' hw'; clear hw'; go_simp)⟩) hH ?_
                  simp only [Act.put, sjA, sjB, sjC]
                  refine wpAnyH_take (i := 42) (oi := ⟨some 55, .move (.tmp 54), 4, "ref.go:95", #[⟨41, .data⟩, ⟨36, .chain⟩, ⟨36, .guard⟩], some (36, false)⟩) (v := .bool false) rfl (by kernel_rfl) (by kernel_rfl) (by kernel_rfl) (fun _ _ _ h => h) (Or.inl ⟨by rfl, fun w' hw' => by (clear hw'; go_simp)⟩) hH ?_
                  simp only [Act.put, sjA, sjB, sjC]
                  refine wpAnyH_take (i := 43) (oi := ⟨some 56, .move (.tmp 0), 22, "ref.go:95", #[⟨42, .guard⟩], some (42, true)⟩) (v := undef) rfl (by kernel_rfl) (by kernel_rfl) (by kernel_rfl) (fun _ _ _ h => h) (Or.inr ⟨by rfl, rfl⟩) hH ?_
                  simp only [Act.put, sjA, sjB, sjC]
                  refine wpAnyH_take (i := 44) (oi := ⟨some 57, .move (.tmp 3), 3, "ref.go:95", #[⟨42, .guard⟩], some (42, true)⟩) (v := undef) rfl (by kernel_rfl) (by kernel_rfl) (by kernel_rfl) (fun _ _ _ h => h) (Or.inr ⟨by rfl, rfl⟩) hH ?_
                  simp only [Act.put, sjA, sjB, sjC]
                  refine wpAnyH_take (i := 45) (oi := ⟨some 58, .indexAddr 22 (.tmp 56) (.tmp 57), 0, "ref.go:95", #[⟨43, .data⟩, ⟨44, .data⟩, ⟨42, .guard⟩], some (42, true)⟩) (v := undef) rfl (by kernel_rfl) (by kernel_rfl) (by kernel_rfl) (fun _ _ _ h => h) (Or.inr ⟨by rfl, rfl⟩) hH ?_
                  simp only [Act.put, sjA, sjB, sjC]
                  refine wpAnyH_take (i := 46) (oi := ⟨some 59, .fieldAddr 41 (.tmp 58) 2, 0, "ref.go:95", #[⟨45, .data⟩, ⟨42, .guard⟩], some (42, true)⟩) (v := undef) rfl (by kernel_rfl) (by kernel_rfl) (by kernel_rfl) (fun _ _ _ h => h) (Or.inr ⟨by rfl, rfl⟩) hH ?_
                  simp only [Act.put, sjA, sjB, sjC]
                  refine wpAnyH_take (i := 47) (oi := ⟨some 60, .load 23 (.tmp 59), 23, "ref.go:95", #[⟨46, .data⟩, ⟨42, .guard⟩], some (42, true)⟩) (v := undef) rfl (by kernel_rfl) (by kernel_rfl) (by kernel_rfl) (fun _ _ _ h => h) (Or.inr ⟨by rfl, rfl⟩) hH ?_
                  simp only [Act.put, sjA, sjB, sjC]
                  refine wpAnyH_take (i := 48) (oi := ⟨some 61, .call { callee := .builtin Builtin.len, args := #[.tmp 60], argTypes := #[23] }, 3, "ref.go:95", #[⟨47, .data⟩, ⟨42, .guard⟩], some (42, true)⟩) (v := undef) rfl (by kernel_rfl) (by kernel_rfl) (by kernel_rfl) (fun _ _ _ h => h) (Or.inr ⟨by rfl, rfl⟩) hH ?_
                  simp only [Act.put, sjA, sjB, sjC]
                  refine wpAnyH_take (i := 49) (oi := ⟨some 62, .binOp .gtr 3 (.tmp 61) (.const (.int .i64 0)) 3, 4, "ref.go:95", #[⟨48, .data⟩, ⟨42, .guard⟩], some (42, true)⟩) (v := undef) rfl (by kernel_rfl) (by kernel_rfl) (by kernel_rfl) (fun _ _ _ h => h) (Or.inr ⟨by rfl, rfl⟩) hH ?_
                  simp only [Act.put, sjA, sjB, sjC]
                  refine wpAnyH_take (i := 50) (oi := ⟨some 63, .pick (.tmp 55) (.tmp 62) (.const (.bool false)), 4, "ref.go:95", #[⟨42, .data⟩, ⟨49, .data⟩, ⟨36, .guard⟩], some (36, false)⟩) (v := .bool false) rfl (by kernel_rfl) (by kernel_rfl) (by kernel_rfl) (fun _ _ _ h => h) (Or.inl ⟨by rfl, fun w' hw' => by (clear hw'; go_simp)⟩) hH ?_
                  simp only [Act.put, sjA, sjB, sjC]
                  refine wpAnyH_take (i := 51) (oi := ⟨some 64, .pick (.tmp 49) (.const (.bool true)) (.tmp 63), 4, "ref.go:95", #[⟨36, .data⟩, ⟨50, .data⟩], none⟩) (v := .bool false) rfl (by kernel_rfl) (by kernel_rfl) (by kernel_rfl) (fun _ _ _ h => h) (Or.inl ⟨by rfl, fun w' hw' => by (clear hw'; go_simp)⟩) hH ?_
                  simp only [Act.put, sjA, sjB, sjC]
                  refine wpAnyH_take (i := 52) (oi := ⟨some 65, .move (.tmp 64), 4, "ref.go:95", #[⟨51, .data⟩, ⟨42, .chain⟩], none⟩) (v := .bool false) rfl (by kernel_rfl) (by kernel_rfl) (by kernel_rfl) (fun _ _ _ h => h) (Or.inl ⟨by rfl, fun w' hw' => by (clear hw'; go_simp)⟩) hH ?_
                  simp only [Act.put, sjA, sjB, sjC]
                  refine wpAnyH_take (i := 53) (oi := ⟨some 66, .move (.tmp 0), 22, "ref.go:95", #[⟨52, .guard⟩], some (52, false)⟩) (v := .slice (some ⟨g, o, none⟩) n cap) rfl (by kernel_rfl) (by kernel_rfl) (by kernel_rfl) (fun _ _ _ h => h) (Or.inl ⟨by rfl, fun w' hw' => by (clear hw'; go_simp)⟩) hH ?_
                  simp only [Act.put, sjA, sjB, sjC]
                  refine wpAnyH_take (i := 54) (oi := ⟨some 67, .move (.tmp 3), 3, "ref.go:95", #[⟨52, .guard⟩], some (52, false)⟩) (v := .int .i64 (i : Int)) rfl (by kernel_rfl) (by kernel_rfl) (by kernel_rfl) (fun _ _ _ h => h) (Or.inl ⟨by rfl, fun w' hw' => by (clear hw'; go_simp)⟩) hH ?_
                  simp only [Act.put, sjA, sjB, sjC]
                  refine wpAnyH_take (i := 55) (oi := ⟨some 68, .indexAddr 22 (.tmp 66) (.tmp 67), 0, "ref.go:95", #[⟨53, .data⟩, ⟨54, .data⟩, ⟨52, .guard⟩], some (52, false)⟩) (v := .pointer (some ⟨g, o + i * 3, none⟩)) rfl (by kernel_rfl) (by kernel_rfl) (by kernel_rfl) (fun _ _ _ h => h) (Or.inl ⟨by rfl, fun w' hw' => by (clear hw'; go_simp)⟩) hH ?_
                  simp only [Act.put, sjA, sjB, sjC]
                  refine wpAnyH_take (i := 56) (oi := ⟨some 69, .fieldAddr 41 (.tmp 68) 2, 0, "ref.go:95", #[⟨55, .data⟩, ⟨52, .guard⟩], some (52, false)⟩) (v := .pointer (some ⟨g, o + i * 3 + 2, none⟩)) rfl (by kernel_rfl) (by kernel_rfl) (by kernel_rfl) (fun _ _ _ h => h) (Or.inl ⟨by rfl, fun w' hw' => by (clear hw'; go_simp)⟩) hH ?_
                  simp only [Act.put, sjA, sjB, sjC]
                  refine wpAnyH_take (i := 57) (oi := ⟨some 70, .load 23 (.tmp 69), 23, "ref.go:95", #[⟨56, .data⟩, ⟨52, .guard⟩], some (52, false)⟩) (v := .slice au bs.length cu) rfl (by kernel_rfl) (by kernel_rfl) (by kernel_rfl) (fun _ _ _ h => h) (Or.inl ⟨by rfl, fun w' hw' => by (have q := x2' w' hw'; clear hw'; go_simp)⟩) hH ?_
                  simp only [Act.put, sjA, sjB, sjC]
                  refine wpAnyH_take (i := 58) (oi := ⟨some 71, .call { callee := .builtin Builtin.len, args := #[.tmp 70], argTypes := #[23] }, 3, "ref.go:95", #[⟨57, .data⟩, ⟨52, .guard⟩], some (52, false)⟩) (v := .int .i64 (bs.length : Int)) rfl (by kernel_rfl) (by kernel_rfl) (by kernel_rfl) (fun _ _ _ h => h) (Or.inl ⟨by rfl, fun w' hw' => by (clear hw'; go_simp)⟩) hH ?_
                  simp only [Act.put, sjA, sjB, sjC]
                  refine wpAnyH_take (i := 59) (oi := ⟨some 72, .binOp .gtr 3 (.tmp 71) (.const (.int .i64 2000)) 3, 4, "ref.go:95", #[⟨58, .data⟩, ⟨52, .guard⟩], some (52, false)⟩) (v := .bool false) rfl (by kernel_rfl) (by kernel_rfl) (by kernel_rfl) (fun _ _ _ h => h) (Or.inl ⟨by rfl, fun w' hw' => by (clear hw'; go_simp)⟩) hH ?_
                  simp only [Act.put, sjA, sjB, sjC]
                  refine wpAnyH_take (i := 60) (oi := ⟨some 73, .pick (.tmp 65) (.const (.bool true)) (.tmp 72), 4, "ref.go:95", #[⟨52, .data⟩, ⟨59, .data⟩], none⟩) (v := .bool false) rfl (by kernel_rfl) (by kernel_rfl) (by kernel_rfl) (fun _ _ _ h => h) (Or.inl ⟨by rfl, fun w' hw' => by (clear hw'; go_simp)⟩) hH ?_
                  simp only [Act.put, sjA, sjB, sjC]
                  refine wpAnyH_done (by kernel_rfl) ?_ _
                  clear hH x0' x1' x2'
                  go_wp2_with fail
                  go_roundw
                  case rel => exact ⟨i + 1, by go_num, by omega, HNX2.out, HS.out.2.andNone HK3.out⟩
                  case measure => simp [intOf] <;> omega
                · have hm2 : ¬ 0 < bs.length := by simpa using hm
                  have hmI : bs.length = 0 := by omega
                  have hm3 : ¬ (2000 : Int) < (bs.length : Int) := by omega
                  have HM4 := hid hmI
                  clear hm hmI
                  have HNX2 := hid (HNXT.out HYES.out)
                  clear HNXT HWB HOK HBAD
                  go_wp2_with fail
                  refine wp_region_held_drew (S := fun V => Kp No wr V) (by kernel_rfl) ((Kp.refl _ _).drew) (fun hH => ?_)
                  refine wpAnyH_take (i := 0) (oi := ⟨some 13, .move (.tmp 0), 22, "ref.go:95", #[], none⟩) (v := .slice (some ⟨g, o, none⟩) n cap) rfl (by kernel_rfl) (by kernel_rfl) (by kernel_rfl) (fun _ _ _ h => h) (Or.inl ⟨by rfl, fun w' hw' => by (clear hw'; go_simp)⟩) hH ?_
                  simp only [Act.put, sjA, sjB, sjC]
                  refine wpAnyH_take (i := 1) (oi := ⟨some 14, .move (.tmp 3), 3, "ref.go:95", #[], none⟩) (v := .int .i64 (i : Int)) rfl (by kernel_rfl) (by kernel_rfl) (by kernel_rfl) (fun _ _ _ h => h) (Or.inl ⟨by rfl, fun w' hw' => by (clear hw'; go_simp)⟩) hH ?_
                  simp only [Act.put, sjA, sjB, sjC]
                  refine wpAnyH_take (i := 2) (oi := ⟨some 15, .indexAddr 22 (.tmp 13) (.tmp 14), 0, "ref.go:95", #[⟨0, .data⟩, ⟨1, .data⟩], none⟩) (v := .pointer (some ⟨g, o + i * 3, none⟩)) rfl (by kernel_rfl) (by kernel_rfl) (by kernel_rfl) (fun _ _ _ h => h) (Or.inl ⟨by rfl, fun w' hw' => by (clear hw'; go_simp)⟩) hH ?_
                  simp only [Act.put, sjA, sjB, sjC]
                  refine wpAnyH_take (i := 3) (oi := ⟨some 16, .fieldAddr 41 (.tmp 15) 0, 0, "ref.go:95", #[⟨2, .data⟩], none⟩) (v := .pointer (some ⟨g, o + i * 3, none⟩)) rfl (by kernel_rfl) (by kernel_rfl) (by kernel_rfl) (fun _ _ _ h => h) (Or.inl ⟨by rfl, fun w' hw' => by (clear hw'; go_simp)⟩) hH ?_
                  simp only [Act.put, sjA, sjB, sjC]
                  refine wpAnyH_take (i := 4) (oi := ⟨some 17, .load 9 (.tmp 16), 9, "ref.go:95", #[⟨3, .data⟩], none⟩) (v := .string s) rfl (by kernel_rfl) (by kernel_rfl) (by kernel_rfl) (fun _ _ _ h => h) (Or.inl ⟨by rfl, fun w' hw' => by (have q := x0' w' hw'; clear hw'; go_simp)⟩) hH ?_
                  simp only [Act.put, sjA, sjB, sjC]
                  refine wpAnyH_ready (rs := [5]) (by kernel_rfl) (by simp) ?_
                  refine AllReadyH.cons (o := ⟨some 18, .call { callee := .value (.func 43), args := #[.tmp 17], argTypes := #[9] }, 4, "ref.go:95", #[⟨4, .data⟩], none⟩) rfl (fun K hK => ?_) AllReadyH.nil
                  go_simp
                  refine (HP.out _ (Kp.refl _ _).drew).mono ?_
                  rintro e w1 ⟨rfl, hk⟩
                  have HK1 : Hid (Kp No wr w1) := (Kp.refl _ _).drew.andNone hk
                  clear hk
                  go_wp2_with fail
                  refine hK.out _ _ (HK1.out) (fun hh => ?_)
                  clear hK K hH
                  have hH := hh
                  clear hh
                  try simp only [Act.put, sjA, sjB, sjC]
                  refine wpAnyH_take (i := 6) (oi := ⟨some 19, .unOp .not 4 (.tmp 18), 4, "ref.go:95", #[⟨5, .data⟩], none⟩) (v := .bool false) rfl (by kernel_rfl) (by kernel_rfl) (by kernel_rfl) (fun _ _ _ h => h) (Or.inl ⟨by rfl, fun w' hw' => by (clear hw'; go_simp)⟩) hH ?_
                  simp only [Act.put, sjA, sjB, sjC]
                  refine wpAnyH_take (i := 7) (oi := ⟨some 20, .move (.tmp 19), 4, "ref.go:95", #[⟨6, .data⟩, ⟨5, .chain⟩], none⟩) (v := .bool false) rfl (by kernel_rfl) (by kernel_rfl) (by kernel_rfl) (fun _ _ _ h => h) (Or.inl ⟨by rfl, fun w' hw' => by (clear hw'; go_simp)⟩) hH ?_
                  simp only [Act.put, sjA, sjB, sjC]
                  refine wpAnyH_take (i := 8) (oi := ⟨some 21, .move (.tmp 3), 3, "ref.go:95", #[⟨7, .guard⟩], some (7, false)⟩) (v := .int .i64 (i : Int)) rfl (by kernel_rfl) (by kernel_rfl) (by kernel_rfl) (fun _ _ _ h => h) (Or.inl ⟨by rfl, fun w' hw' => by (clear hw'; go_simp)⟩) hH ?_
                  simp only [Act.put, sjA, sjB, sjC]
                  refine wpAnyH_take (i := 9) (oi := ⟨some 22, .binOp .gtr 3 (.tmp 21) (.const (.int .i64 0)) 3, 4, "ref.go:95", #[⟨8, .data⟩, ⟨7, .guard⟩], some (7, false)⟩) (v := .bool false) rfl (by kernel_rfl) (by kernel_rfl) (by kernel_rfl) (fun _ _ _ h => h) (Or.inl ⟨by rfl, fun w' hw' => by (clear hw'; go_simp)⟩) hH ?_
                  simp only [Act.put, sjA, sjB, sjC]
                  refine wpAnyH_take (i := 10) (oi := ⟨some 23, .move (.tmp 22), 4, "ref.go:95", #[⟨9, .data⟩, ⟨7, .chain⟩, ⟨7, .guard⟩], some (7, false)⟩) (v := .bool false) rfl (by kernel_rfl) (by kernel_rfl) (by kernel_rfl) (fun _ _ _ h => h) (Or.inl ⟨by rfl, fun w' hw' => by (clear hw'; go_simp)⟩) hH ?_
                  simp only [Act.put, sjA, sjB, sjC]
                  refine wpAnyH_take (i := 11) (oi := ⟨some 24, .move (.tmp 0), 22, "ref.go:95", #[⟨10, .guard⟩], some (10, true)⟩) (v := undef) rfl (by kernel_rfl) (by kernel_rfl) (by kernel_rfl) (fun _ _ _ h => h) (Or.inr ⟨by rfl, rfl⟩) hH ?_
                  simp only [Act.put, sjA, sjB, sjC]
                  refine wpAnyH_take (i := 12) (oi := ⟨some 25, .move (.tmp 3), 3, "ref.go:95", #[⟨10, .guard⟩], some (10, true)⟩) (v := undef) rfl (by kernel_rfl) (by kernel_rfl) (by kernel_rfl) (fun _ _ _ h => h) (Or.inr ⟨by rfl, rfl⟩) hH ?_
                  simp only [Act.put, sjA, sjB, sjC]
                  refine wpAnyH_take (i := 13) (oi := ⟨some 26, .binOp .sub 3 (.tmp 25) (.const (.int .i64 1)) 3, 3, "ref.go:95", #[⟨12, .data⟩, ⟨10, .guard⟩], some (10, true)⟩) (v := undef) rfl (by kernel_rfl) (by kernel_rfl) (by kernel_rfl) (fun _ _ _ h => h) (Or.inr ⟨by rfl, rfl⟩) hH ?_
                  simp only [Act.put, sjA, sjB, sjC]
                  refine wpAnyH_take (i := 14) (oi := ⟨some 27, .indexAddr 22 (.tmp 24) (.tmp 26), 0, "ref.go:95", #[⟨11, .data⟩, ⟨13, .data⟩, ⟨10, .guard⟩], some (10, true)⟩) (v := undef) rfl (by kernel_rfl) (by kernel_rfl) (by kernel_rfl) (fun _ _ _ h => h) (Or.inr ⟨by rfl, rfl⟩) hH ?_
                  simp only [Act.put, sjA, sjB, sjC]
                  refine wpAnyH_take (i := 15) (oi := ⟨some 28, .fieldAddr 41 (.tmp 27) 0, 0, "ref.go:95", #[⟨14, .data⟩, ⟨10, .guard⟩], some (10, true)⟩) (v := undef) rfl (by kernel_rfl) (by kernel_rfl) (by kernel_rfl) (fun _ _ _ h => h) (Or.inr ⟨by rfl, rfl⟩) hH ?_
                  simp only [Act.put, sjA, sjB, sjC]
                  refine wpAnyH_take (i := 16) (oi := ⟨some 29, .load 9 (.tmp 28), 9, "ref.go:95", #[⟨15, .data⟩, ⟨10, .guard⟩], some (10, true)⟩) (v := undef) rfl (by kernel_rfl) (by kernel_rfl) (by kernel_rfl) (fun _ _ _ h => h) (Or.inr ⟨by rfl, rfl⟩) hH ?_
                  simp only [Act.put, sjA, sjB, sjC]
                  refine wpAnyH_take (i := 17) (oi := ⟨some 30, .move (.tmp 0), 22, "ref.go:95", #[⟨10, .guard⟩], some (10, true)⟩) (v := undef) rfl (by kernel_rfl) (by kernel_rfl) (by kernel_rfl) (fun _ _ _ h => h) (Or.inr ⟨by rfl, rfl⟩) hH ?_
                  simp only [Act.put, sjA, sjB, sjC]
                  refine wpAnyH_take (i := 18) (oi := ⟨some 31, .move (.tmp 3), 3, "ref.go:95", #[⟨10, .guard⟩], some (10, true)⟩) (v := undef) rfl (by kernel_rfl) (by kernel_rfl) (by kernel_rfl) (fun _ _ _ h => h) (Or.inr ⟨by rfl, rfl⟩) hH ?_
                  simp only [Act.put, sjA, sjB, sjC]
                  refine wpAnyH_take (i := 19) (oi := ⟨some 32, .indexAddr 22 (.tmp 30) (.tmp 31), 0, "ref.go:95", #[⟨17, .data⟩, ⟨18, .data⟩, ⟨10, .guard⟩], some (10, true)⟩) (v := undef) rfl (by kernel_rfl) (by kernel_rfl) (by kernel_rfl) (fun _ _ _ h => h) (Or.inr ⟨by rfl, rfl⟩) hH ?_
                  simp only [Act.put, sjA, sjB, sjC]
                  refine wpAnyH_take (i := 20) (oi := ⟨some 33, .fieldAddr 41 (.tmp 32) 0, 0, "ref.go:95", #[⟨19, .data⟩, ⟨10, .guard⟩], some (10, true)⟩) (v := undef) rfl (by kernel_rfl) (by kernel_rfl) (by kernel_rfl) (fun _ _ _ h => h) (Or.inr ⟨by rfl, rfl⟩) hH ?_
                  simp only [Act.put, sjA, sjB, sjC]
                  refine wpAnyH_take (i := 21) (oi := ⟨some 34, .load 9 (.tmp 33), 9, "ref.go:95", #[⟨20, .data⟩, ⟨10, .guard⟩], some (10, true)⟩) (v := undef) rfl (by kernel_rfl) (by kernel_rfl) (by kernel_rfl) (fun _ _ _ h => h) (Or.inr ⟨by rfl, rfl⟩) hH ?_
                  simp only [Act.put, sjA, sjB, sjC]
                  refine wpAnyH_take (i := 22) (oi := ⟨some 35, .call { callee := .value (.func 61), args := #[.tmp 29, .tmp 34], argTypes := #[9, 9] }, 4, "ref.go:95", #[⟨16, .data⟩, ⟨21, .data⟩, ⟨10, .chain⟩, ⟨10, .guard⟩], some (10, true)⟩) (v := undef) rfl (by kernel_rfl) (by kernel_rfl) (by kernel_rfl) (fun _ _ _ h => h) (Or.inr ⟨by rfl, rfl⟩) hH ?_
                  simp only [Act.put, sjA, sjB, sjC]
                  refine wpAnyH_take (i := 23) (oi := ⟨some 36, .unOp .not 4 (.tmp 35), 4, "ref.go:95", #[⟨22, .data⟩, ⟨10, .guard⟩], some (10, true)⟩) (v := undef) rfl (by kernel_rfl) (by kernel_rfl) (by kernel_rfl) (fun _ _ _ h => h) (Or.inr ⟨by rfl, rfl⟩) hH ?_
                  simp only [Act.put, sjA, sjB, sjC]
                  refine wpAnyH_take (i := 24) (oi := ⟨some 37, .pick (.tmp 23) (.tmp 36) (.const (.bool false)), 4, "ref.go:95", #[⟨10, .data⟩, ⟨23, .data⟩, ⟨7, .guard⟩], some (7, false)⟩) (v := .bool false) rfl (by kernel_rfl) (by kernel_rfl) (by kernel_rfl) (fun _ _ _ h => h) (Or.inl ⟨by rfl, fun w' hw' => by (clear hw'; go_simp)⟩) hH ?_
                  simp only [Act.put, sjA, sjB, sjC]
                  refine wpAnyH_take (i := 25) (oi := ⟨some 38, .pick (.tmp 20) (.const (.bool true)) (.tmp 37), 4, "ref.go:95", #[⟨7, .data⟩, ⟨24, .data⟩], none⟩) (v := .bool false) rfl (by kernel_rfl) (by kernel_rfl) (by kernel_rfl) (fun _ _ _ h => h) (Or.inl ⟨by rfl, fun w' hw' => by (clear hw'; go_simp)⟩) hH ?_
                  simp only [Act.put, sjA, sjB, sjC]
                  refine wpAnyH_take (i := 26) (oi := ⟨some 39, .move (.tmp 38), 4, "ref.go:95", #[⟨25, .data⟩, ⟨22, .chain⟩], none⟩) (v := .bool false) rfl (by kernel_rfl) (by kernel_rfl) (by kernel_rfl) (fun _ _ _ h => h) (Or.inl ⟨by rfl, fun w' hw' => by (clear hw'; go_simp)⟩) hH ?_
                  simp only [Act.put, sjA, sjB, sjC]
                  refine wpAnyH_take (i := 27) (oi := ⟨some 40, .move (.tmp 0), 22, "ref.go:95", #[⟨26, .guard⟩], some (26, false)⟩) (v := .slice (some ⟨g, o, none⟩) n cap) rfl (by kernel_rfl) (by kernel_rfl) (by kernel_rfl) (fun _ _ _ h => h) (Or.inl ⟨by rfl, fun w' hw' => by (clear hw'; go_simp)⟩) hH ?_
                  simp only [Act.put, sjA, sjB, sjC]
                  refine wpAnyH_take (i := 28) (oi := ⟨some 41, .move (.tmp 0), 22, "ref.go:95", #[⟨26, .guard⟩], some (26, false)⟩) (v := .slice (some ⟨g, o, none⟩) n cap) rfl (by kernel_rfl) (by kernel_rfl) (by kernel_rfl) (fun _ _ _ h => h) (Or.inl ⟨by rfl, fun w' hw' => by (clear hw'; go_simp)⟩) hH ?_
                  simp only [Act.put, sjA, sjB, sjC]
                  refine wpAnyH_take (i := 29) (oi := ⟨some 42, .move (.tmp 3), 3, "ref.go:95", #[⟨26, .guard⟩], some (26, false)⟩) (v := .int .i64 (i : Int)) rfl (by kernel_rfl) (by kernel_rfl) (by kernel_rfl) (fun _ _ _ h => h) (Or.inl ⟨by rfl, fun w' hw' => by (clear hw'; go_simp)⟩) hH ?_
                  simp only [Act.put, sjA, sjB, sjC]
                  refine wpAnyH_take (i := 30) (oi := ⟨some 43, .indexAddr 22 (.tmp 41) (.tmp 42), 0, "ref.go:95", #[⟨28, .data⟩, ⟨29, .data⟩, ⟨26, .guard⟩], some (26, false)⟩) (v := .pointer (some ⟨g, o + i * 3, none⟩)) rfl (by kernel_rfl) (by kernel_rfl) (by kernel_rfl) (fun _ _ _ h => h) (Or.inl ⟨by rfl, fun w' hw' => by (clear hw'; go_simp)⟩) hH ?_
                  simp only [Act.put, sjA, sjB, sjC]
                  refine wpAnyH_take (i := 31) (oi := ⟨some 44, .fieldAddr 41 (.tmp 43) 0, 0, "ref.go:95", #[⟨30, .data⟩, ⟨26, .guard⟩], some (26, false)⟩) (v := .pointer (some ⟨g, o + i * 3, none⟩)) rfl (by kernel_rfl) (by kernel_rfl) (by kernel_rfl) (fun _ _ _ h => h) (Or.inl ⟨by rfl, fun w' hw' => by (clear hw'; go_simp)⟩) hH ?_
                  simp only [Act.put, sjA, sjB, sjC]
                  refine wpAnyH_take (i := 32) (oi := ⟨some 45, .load 9 (.tmp 44), 9, "ref.go:95", #[⟨31, .data⟩, ⟨26, .guard⟩], some (26, false)⟩) (v := .string s) rfl (by kernel_rfl) (by kernel_rfl) (by kernel_rfl) (fun _ _ _ h => h) (Or.inl ⟨by rfl, fun w' hw' => by (have q := x0' w' hw'; clear hw'; go_simp)⟩) hH ?_
                  simp only [Act.put, sjA, sjB, sjC]
                  refine wpAnyH_ready (rs := [33]) (by kernel_rfl) (by simp) ?_
                  refine AllReadyH.cons (o := ⟨some 46, .call { callee := .value (.func 41), args := #[.tmp 40, .tmp 45], argTypes := #[22, 9] }, 31, "ref.go:95", #[⟨27, .data⟩, ⟨32, .data⟩, ⟨26, .chain⟩, ⟨26, .guard⟩], some (26, false)⟩) rfl (fun K hK => ?_) AllReadyH.nil
                  go_simp
                  refine (HDR.out _ HK1.out).mono ?_
                  rintro e w3 ⟨rfl, hk⟩
                  have HK3 : Hid (Kp No wr w3) := HK1.out.andNone hk
                  clear hk
                  go_wp2_with fail
                  refine hK.out _ _ (HK3.out) (fun hh => ?_)
                  clear hK K hH
                  have hH := hh
                  clear hh
                  try simp only [Act.put, sjA, sjB, sjC]
                  refine wpAnyH_take (i := 34) (oi := ⟨some 47, .binOp .neq 31 (.tmp 46) (.const (.int .i64 0)) 31, 4, "ref.go:95", #[⟨33, .data⟩, ⟨26, .guard⟩], some (26, false)⟩) (v := .bool false) rfl (by kernel_rfl) (by kernel_rfl) (by kernel_rfl) (fun _ _ _ h => h) (Or.inl ⟨by rfl, fun w' hw' => by (clear hw'; go_simp)⟩) hH ?_
                  simp only [Act.put, sjA, sjB, sjC]
                  refine wpAnyH_take (i := 35) (oi := ⟨some 48, .pick (.tmp 39) (.const (.bool true)) (.tmp 47), 4, "ref.go:95", #[⟨26, .data⟩, ⟨34, .data⟩], none⟩) (v := .bool false) rfl (by kernel_rfl) (by kernel_rfl) (by kernel_rfl) (fun _ _ _ h => h) (Or.inl ⟨by rfl, fun w' hw' => by (clear hw'; go_simp)⟩) hH ?_
                  simp only [Act.put, sjA, sjB, sjC]
                  refine wpAnyH_take (i := 36) (oi := ⟨some 49, .move (.tmp 48), 4, "ref.go:95", #[⟨35, .data⟩, ⟨33, .chain⟩], none⟩) (v := .bool false) rfl (by kernel_rfl) (by kernel_rfl) (by kernel_rfl) (fun _ _ _ h => h) (Or.inl ⟨by rfl, fun w' hw' => by (clear hw'; go_simp)⟩) hH ?_
                  simp only [Act.put, sjA, sjB, sjC]
                  refine wpAnyH_take (i := 37) (oi := ⟨some 50, .move (.tmp 0), 22, "ref.go:95", #[⟨36, .guard⟩], some (36, false)⟩) (v := .slice (some ⟨g, o, none⟩) n cap) rfl (by kernel_rfl) (by kernel_rfl) (by kernel_rfl) (fun _ _ _ h => h) (Or.inl ⟨by rfl, fun w' hw' => by (clear hw'; go_simp)⟩) hH ?_
                  simp only [Act.put, sjA, sjB, sjC]
                  refine wpAnyH_take (i := 38) (oi := ⟨some 51, .move (.tmp 3), 3, "ref.go:95", #[⟨36, .guard⟩], some (36, false)⟩) (v := .int .i64 (i : Int)) rfl (by kernel_rfl) (by kernel_rfl) (by kernel_rfl) (fun _ _ _ h => h) (Or.inl ⟨by rfl, fun w' hw' => by (clear hw'; go_simp)⟩) hH ?_
                  simp only [Act.put, sjA, sjB, sjC]
                  refine wpAnyH_take (i := 39) (oi := ⟨some 52, .indexAddr 22 (.tmp 50) (.tmp 51), 0, "ref.go:95", #[⟨37, .data⟩, ⟨38, .data⟩, ⟨36, .guard⟩], some (36, false)⟩) (v := .pointer (some ⟨g, o + i * 3, none⟩)) rfl (by kernel_rfl) (by kernel_rfl) (by kernel_rfl) (fun _ _ _ h => h) (Or.inl ⟨by rfl, fun w' hw' => by (clear hw'; go_simp)⟩) hH ?_
                  simp only [Act.put, sjA, sjB, sjC]
                  refine wpAnyH_take (i := 40) (oi := ⟨some 53, .fieldAddr 41 (.tmp 52) 1, 0, "ref.go:95", #[⟨39, .data⟩, ⟨36, .guard⟩], some (36, false)⟩) (v := .pointer (some ⟨g, o + i * 3 + 1, none⟩)) rfl (by kernel_rfl) (by kernel_rfl) (by kernel_rfl) (fun _ _ _ h => h) (Or.inl ⟨by rfl, fun w' hw' => by (clear hw'; go_simp)⟩) hH ?_
                  simp only [Act.put, sjA, sjB, sjC]
                  refine wpAnyH_take (i := 41) (oi := ⟨some 54, .load 4 (.tmp 53), 4, "ref.go:95", #[⟨40, .data⟩, ⟨36, .guard⟩], some (36, false)⟩) (v := .bool true) rfl (by kernel_rfl) (by kernel_rfl) (by kernel_rfl) (fun _ _ _ h => h) (Or.inl ⟨by rfl, fun w' hw' => by (have q := x1' w' hw'; clear hw'; go_simp)⟩) hH ?_
                  simp only [Act.put, sjA, sjB, sjC]
                  refine wpAnyH_take (i := 42) (oi := ⟨some 55, .move (.tmp 54), 4, "ref.go:95", #[⟨41, .data⟩, ⟨36, .chain⟩, ⟨36, .guard⟩], some (36, false)⟩) (v := .bool true) rfl (by kernel_rfl) (by kernel_rfl) (by kernel_rfl) (fun _ _ _ h => h) (Or.inl ⟨by rfl, fun w' hw' => by (clear hw'; go_simp)⟩) hH ?_
                  simp only [Act.put, sjA, sjB, sjC]
                  refine wpAnyH_take (i := 43) (oi := ⟨some 56, .move (.tmp 0), 22, "ref.go:95", #[⟨42, .guard⟩], some (42, true)⟩) (v := .slice (some ⟨g, o, none⟩) n cap) rfl (by kernel_rfl) (by kernel_rfl) (by kernel_rfl) (fun _ _ _ h => h) (Or.inl ⟨by rfl, fun w' hw' => by (clear hw'; go_simp)⟩) hH ?_
                  simp only [Act.put, sjA, sjB, sjC]
                  refine wpAnyH_take (i := 44) (oi := ⟨some 57, .move (.tmp 3), 3, "ref.go:95", #[⟨42, .guard⟩], some (42, true)⟩) (v := .int .i64 (i : Int)) rfl (by kernel_rfl) (by kernel_rfl) (by kernel_rfl) (fun _ _ _ h => h) (Or.inl ⟨by rfl, fun w' hw' => by (clear hw'; go_simp)⟩) hH ?_
                  simp only [Act.put, sjA, sjB, sjC]
                  refine wpAnyH_take (i := 45) (oi := ⟨some 58, .indexAddr 22 (.tmp 56) (.tmp 57), 0, "ref.go:95", #[⟨43, .data⟩, ⟨44, .data⟩, ⟨42, .guard⟩], some (42, true)⟩) (v := .pointer (some ⟨g, o + i * 3, none⟩)) rfl (by kernel_rfl) (by kernel_rfl) (by kernel_rfl) (fun _ _ _ h => h) (Or.inl ⟨by rfl, fun w' hw' => by (clear hw'; go_simp)⟩) hH ?_
                  simp only [Act.put, sjA, sjB, sjC]
                  refine wpAnyH_take (i := 46) (oi := ⟨some 59, .fieldAddr 41 (.tmp 58) 2, 0, "ref.go:95", #[⟨45, .data⟩, ⟨42, .guard⟩], some (42, true)⟩) (v := .pointer (some ⟨g, o + i * 3 + 2, none⟩)) rfl (by kernel_rfl) (by kernel_rfl) (by kernel_rfl) (fun _ _ _ h => h) (Or.inl ⟨by rfl, fun w' hw' => by (clear hw'; go_simp)⟩) hH ?_
                  simp only [Act.put, sjA, sjB, sjC]
                  refine wpAnyH_take (i := 47) (oi := ⟨some 60, .load 23 (.tmp 59), 23, "ref.go:95", #[⟨46, .data⟩, ⟨42, .guard⟩], some (42, true)⟩) (v := .slice au bs.length cu) rfl (by kernel_rfl) (by kernel_rfl) (by kernel_rfl) (fun _ _ _ h => h) (Or.inl ⟨by rfl, fun w' hw' => by (have q := x2' w' hw'; clear hw'; go_simp)⟩) hH ?_
                  simp only [Act.put, sjA, sjB, sjC]
                  refine wpAnyH_take (i := 48) (oi := ⟨some 61, .call { callee := .builtin Builtin.len, args := #[.tmp 60], argTypes := #[23] }, 3, "ref.go:95", #[⟨47, .data⟩, ⟨42, .guard⟩], some (42, true)⟩) (v := .int .i64 (bs.length : Int)) rfl (by kernel_rfl) (by kernel_rfl) (by kernel_rfl) (fun _ _ _ h => h) (Or.inl ⟨by rfl, fun w' hw' => by (clear hw'; go_simp)⟩) hH ?_
                  simp only [Act.put, sjA, sjB, sjC]
                  refine wpAnyH_take (i := 49) (oi := ⟨some 62, .binOp .gtr 3 (.tmp 61) (.const (.int .i64 0)) 3, 4, "ref.go:95", #[⟨48, .data⟩, ⟨42, .guard⟩], some (42, true)⟩) (v := .bool false) rfl (by kernel_rfl) (by kernel_rfl) (by kernel_rfl) (fun _ _ _ h => h) (Or.inl ⟨by rfl, fun w' hw' => by (clear hw'; go_simp)⟩) hH ?_
                  simp only [Act.put, sjA, sjB, sjC]
                  refine wpAnyH_take (i := 50) (oi := ⟨some 63, .pick (.tmp 55) (.tmp 62) (.const (.bool false)), 4, "ref.go:95", #[⟨42, .data⟩, ⟨49, .data⟩, ⟨36, .guard⟩], some (36, false)⟩) (v := .bool false) rfl (by kernel_rfl) (by kernel_rfl) (by kernel_rfl) (fun _ _ _ h => h) (Or.inl ⟨by rfl, fun w' hw' => by (clear hw'; go_simp)⟩) hH ?_
                  simp only [Act.put, sjA, sjB, sjC]
                  refine wpAnyH_take (i := 51) (oi := ⟨some 64, .pick (.tmp 49) (.const (.bool true)) (.tmp 63), 4, "ref.go:95", #[⟨36, .data⟩, ⟨50, .data⟩], none⟩) (v := .bool false) rfl (by kernel_rfl) (by kernel_rfl) (by kernel_rfl) (fun _ _ _ h => h) (Or.inl ⟨by rfl, fun w' hw' => by (clear hw'; go_simp)⟩) hH ?_
                  simp only [Act.put, sjA, sjB, sjC]
                  refine wpAnyH_take (i := 52) (oi := ⟨some 65, .move (.tmp 64), 4, "ref.go:95", #[⟨51, .data⟩, ⟨42, .chain⟩], none⟩) (v := .bool false) rfl (by kernel_rfl) (by kernel_rfl) (by kernel_rfl) (fun _ _ _ h => h) (Or.inl ⟨by rfl, fun w' hw' => by (clear hw'; go_simp)⟩) hH ?_
                  simp only [Act.put, sjA, sjB, sjC]
                  refine wpAnyH_take (i := 53) (oi := ⟨some 66, .move (.tmp 0), 22, "ref.go:95", #[⟨52, .guard⟩], some (52, false)⟩) (v := .slice (some ⟨g, o, none⟩) n cap) rfl (by kernel_rfl) (by kernel_rfl) (by kernel_rfl) (fun _ _ _ h => h) (Or.inl ⟨by rfl, fun w' hw' => by (clear hw'; go_simp)⟩) hH ?_
                  simp only [Act.put, sjA, sjB, sjC]
                  refine wpAnyH_take (i := 54) (oi := ⟨some 67, .move (.tmp 3), 3, "ref.go:95", #[⟨52, .guard⟩], some (52, false)⟩) (v := .int .i64 (i : Int)) rfl (by kernel_rfl) (by kernel_rfl) (by kernel_rfl) (fun _ _ _ h => h) (Or.inl ⟨by rfl, fun w' hw' => by (clear hw'; go_simp)⟩) hH ?_
                  simp only [Act.put, sjA, sjB, sjC]
                  refine wpAnyH_take (i := 55) (oi := ⟨some 68, .indexAddr 22 (.tmp 66) (.tmp 67), 0, "ref.go:95", #[⟨53, .data⟩, ⟨54, .data⟩, ⟨52, .guard⟩], some (52, false)⟩) (v := .pointer (some ⟨g, o + i * 3, none⟩)) rfl (by kernel_rfl) (by kernel_rfl) (by kernel_rfl) (fun _ _ _ h => h) (Or.inl ⟨by rfl, fun w' hw' => by (clear hw'; go_simp)⟩) hH ?_
                  simp only [Act.put, sjA, sjB, sjC]
                  refine wpAnyH_take (i := 56) (oi := ⟨some 69, .fieldAddr 41 (.tmp 68) 2, 0, "ref.go:95", #[⟨55, .data⟩, ⟨52, .guard⟩], some (52, false)⟩) (v := .pointer (some ⟨g, o + i * 3 + 2, none⟩)) rfl (by kernel_rfl) (by kernel_rfl) (by kernel_rfl) (fun _ _ _ h => h) (Or.inl ⟨by rfl, fun w' hw' => by (clear hw'; go_simp)⟩) hH ?_
                  simp only [Act.put, sjA, sjB, sjC]
                  refine wpAnyH_take (i := 57) (oi := ⟨some 70, .load 23 (.tmp 69), 23, "ref.go:95", #[⟨56, .data⟩, ⟨52, .guard⟩], some (52, false)⟩) (v := .slice au bs.length cu) rfl (by kernel_rfl) (by kernel_rfl) (by kernel_rfl) (fun _ _ _ h => h) (Or.inl ⟨by rfl, fun w' hw' => by (have q := x2' w' hw'; clear hw'; go_simp)⟩) hH ?_
                  simp only [Act.put, sjA, sjB, sjC]
                  refine wpAnyH_take (i := 58) (oi := ⟨some 71, .call { callee := .builtin Builtin.len, args := #[.tmp 70], argTypes := #[23] }, 3, "ref.go:95", #[⟨57, .data⟩, ⟨52, .guard⟩], some (52, false)⟩) (v := .int .i64 (bs.length : Int)) rfl (by kernel_rfl) (by kernel_rfl) (by kernel_rfl) (fun _ _ _ h => h) (Or.inl ⟨by rfl, fun w' hw' => by (clear hw'; go_simp)⟩) hH ?_
                  simp only [Act.put, sjA, sjB, sjC]
                  refine wpAnyH_take (i := 59) (oi := ⟨some 72, .binOp .gtr 3 (.tmp 71) (.const (.int .i64 2000)) 3, 4, "ref.go:95", #[⟨58, .data⟩, ⟨52, .guard⟩], some (52, false)⟩) (v := .bool false) rfl (by kernel_rfl) (by kernel_rfl) (by kernel_rfl) (fun _ _ _ h => h) (Or.inl ⟨by rfl, fun w' hw' => by (clear hw'; go_simp)⟩) hH ?_
                  simp only [Act.put, sjA, sjB, sjC]
                  refine wpAnyH_take (i := 60) (oi := ⟨some 73, .pick (.tmp 65) (.const (.bool true)) (.tmp 72), 4, "ref.go:95", #[⟨52, .data⟩, ⟨59, .data⟩], none⟩) (v := .bool false) rfl (by kernel_rfl) (by kernel_rfl) (by kernel_rfl) (fun _ _ _ h => h) (Or.inl ⟨by rfl, fun w' hw' => by (clear hw'; go_simp)⟩) hH ?_
                  simp only [Act.put, sjA, sjB, sjC]
                  refine wpAnyH_done (by kernel_rfl) ?_ _
                  clear hH x0' x1' x2'
                  go_wp2_with fail
                  go_roundw
                  case rel => exact ⟨i + 1, by go_num, by omega, HNX2.out, HS.out.2.andNone HK3.out⟩
                  case measure => simp [intOf] <;> omega
            · have hf' : (f != 0) = true := by simpa using hf
              have HNO : Hid (¬ okAt t i (s, d, bs)) := fun h => by have := (HOK.out.1 h).1; rw [HWB.out, decide_eq_false hf] at this; simp at this
              clear HNXT HWB HOK
              go_wp2_with fail
              refine wp_region_held_drew (S := fun V => Kp No wr V) (by kernel_rfl) ((Kp.refl _ _).drew) (fun hH => ?_)
              refine wpAnyH_take (i := 0) (oi := ⟨some 13, .move (.tmp 0), 22, "ref.go:95", #[], none⟩) (v := .slice (some ⟨g, o, none⟩) n cap) rfl (by kernel_rfl) (by kernel_rfl) (by kernel_rfl) (fun _ _ _ h => h) (Or.inl ⟨by rfl, fun w' hw' => by (clear hw'; go_simp)⟩) hH ?_
              simp only [Act.put, sjA, sjB, sjC]
              refine wpAnyH_take (i := 1) (oi := ⟨some 14, .move (.tmp 3), 3, "ref.go:95", #[], none⟩) (v := .int .i64 (i : Int)) rfl (by kernel_rfl) (by kernel_rfl) (by kernel_rfl) (fun _ _ _ h => h) (Or.inl ⟨by rfl, fun w' hw' => by (clear hw'; go_simp)⟩) hH ?_
              simp only [Act.put, sjA, sjB, sjC]
              refine wpAnyH_take (i := 2) (oi := ⟨some 15, .indexAddr 22 (.tmp 13) (.tmp 14), 0, "ref.go:95", #[⟨0, .data⟩, ⟨1, .data⟩], none⟩) (v := .pointer (some ⟨g, o + i * 3, none⟩)) rfl (by kernel_rfl) (by kernel_rfl) (by kernel_rfl) (fun _ _ _ h => h) (Or.inl ⟨by rfl, fun w' hw' => by (clear hw'; go_simp)⟩) hH ?_
              simp only [Act.put, sjA, sjB, sjC]
              refine wpAnyH_take (i := 3) (oi := ⟨some 16, .fieldAddr 41 (.tmp 15) 0, 0, "ref.go:95", #[⟨2, .data⟩], none⟩) (v := .pointer (some ⟨g, o + i * 3, none⟩)) rfl (by kernel_rfl) (by kernel_rfl) (by kernel_rfl) (fun _ _ _ h => h) (Or.inl ⟨by rfl, fun w' hw' => by (clear hw'; go_simp)⟩) hH ?_
              simp only [Act.put, sjA, sjB, sjC]
              refine wpAnyH_take (i := 4) (oi := ⟨some 17, .load 9 (.tmp 16), 9, "ref.go:95", #[⟨3, .data⟩], none⟩) (v := .string s) rfl (by kernel_rfl) (by kernel_rfl) (by kernel_rfl) (fun _ _ _ h => h) (Or.inl ⟨by rfl, fun w' hw' => by (have q := x0' w' hw'; clear hw'; go_simp)⟩) hH ?_
              simp only [Act.put, sjA, sjB, sjC]
              refine wpAnyH_ready (rs := [5]) (by kernel_rfl) (by simp) ?_
              refine AllReadyH.cons (o := ⟨some 18, .call { callee := .value (.func 43), args := #[.tmp 17], argTypes := #[9] }, 4, "ref.go:95", #[⟨4, .data⟩], none⟩) rfl (fun K hK => ?_) AllReadyH.nil
              go_simp
              refine (HP.out _ (Kp.refl _ _).drew).mono ?_
              rintro e w1 ⟨rfl, hk⟩
              have HK1 : Hid (Kp No wr w1) := (Kp.refl _ _).drew.andNone hk
              clear hk
              go_wp2_with fail
              refine hK.out _ _ (HK1.out) (fun hh => ?_)
              clear hK K hH
              have hH := hh
              clear hh
              try simp only [Act.put, sjA, sjB, sjC]
              refine wpAnyH_take (i := 6) (oi := ⟨some 19, .unOp .not 4 (.tmp 18), 4, "ref.go:95", #[⟨5, .data⟩], none⟩) (v := .bool false) rfl (by kernel_rfl) (by kernel_rfl) (by kernel_rfl) (fun _ _ _ h => h) (Or.inl ⟨by rfl, fun w' hw' => by (clear hw'; go_simp)⟩) hH ?_
              simp only [Act.put, sjA, sjB, sjC]
              refine wpAnyH_take (i := 7) (oi := ⟨some 20, .move (.tmp 19), 4, "ref.go:95", #[⟨6, .data⟩, ⟨5, .chain⟩], none⟩) (v := .bool false) rfl (by kernel_rfl) (by kernel_rfl) (by kernel_rfl) (fun _ _ _ h => h) (Or.inl ⟨by rfl, fun w' hw' => by (clear hw'; go_simp)⟩) hH ?_
              simp only [Act.put, sjA, sjB, sjC]
              refine wpAnyH_take (i := 8) (oi := ⟨some 21, .move (.tmp 3), 3, "ref.go:95", #[⟨7, .guard⟩], some (7, false)⟩) (v := .int .i64 (i : Int)) rfl (by kernel_rfl) (by kernel_rfl) (by kernel_rfl) (fun _ _ _ h => h) (Or.inl ⟨by rfl, fun w' hw' => by (clear hw'; go_simp)⟩) hH ?_
              simp only [Act.put, sjA, sjB, sjC]
              refine wpAnyH_take (i := 9) (oi := ⟨some 22, .binOp .gtr 3 (.tmp 21) (.const (.int .i64 0)) 3, 4, "ref.go:95", #[⟨8, .data⟩, ⟨7, .guard⟩], some (7, false)⟩) (v := .bool false) rfl (by kernel_rfl) (by kernel_rfl) (by kernel_rfl) (fun _ _ _ h => h) (Or.inl ⟨by rfl, fun w' hw' => by (clear hw'; go_simp)⟩) hH ?_
              simp only [Act.put, sjA, sjB, sjC]
              refine wpAnyH_take (i := 10) (oi := ⟨some 23, .move (.tmp 22), 4, "ref.go:95", #[⟨9, .data⟩, ⟨7, .chain⟩, ⟨7, .guard⟩], some (7, false)⟩) (v := .bool false) rfl (by kernel_rfl) (by kernel_rfl) (by kernel_rfl) (fun _ _ _ h => h) (Or.inl ⟨by rfl, fun w' hw' => by (clear hw'; go_simp)⟩) hH ?_
              simp only [Act.put, sjA, sjB, sjC]
              refine wpAnyH_take (i := 11) (oi := ⟨some 24, .move (.tmp 0), 22, "ref.go:95", #[⟨10, .guard⟩], some (10, true)⟩) (v := undef) rfl (by kernel_rfl) (by kernel_rfl) (by kernel_rfl) (fun _ _ _ h => h) (Or.inr ⟨by rfl, rfl⟩) hH ?_
              simp only [Act.put, sjA, sjB, sjC]
              refine wpAnyH_take (i := 12) (oi := ⟨some 25, .move (.tmp 3), 3, "ref.go:95", #[⟨10, .guard⟩], some (10, true)⟩) (v := undef) rfl (by kernel_rfl) (by kernel_rfl) (by kernel_rfl) (fun _ _ _ h => h) (Or.inr ⟨by rfl, rfl⟩) hH ?_
              simp only [Act.put, sjA, sjB, sjC]
              refine wpAnyH_take (i := 13) (oi := ⟨some 26, .binOp .sub 3 (.tmp 25) (.const (.int .i64 1)) 3, 3, "ref.go:95", #[⟨12, .data⟩, ⟨10, .guard⟩], some (10, true)⟩) (v := undef) rfl (by kernel_rfl) (by kernel_rfl) (by kernel_rfl) (fun _ _ _ h => h) (Or.inr ⟨by rfl, rfl⟩) hH ?_
              simp only [Act.put, sjA, sjB, sjC]
              refine wpAnyH_take (i := 14) (oi := ⟨some 27, .indexAddr 22 (.tmp 24) (.tmp 26), 0, "ref.go:95", #[⟨11, .data⟩, ⟨13, .data⟩, ⟨10, .guard⟩], some (10, true)⟩) (v := undef) rfl (by kernel_rfl) (by kernel_rfl) (by kernel_rfl) (fun _ _ _ h => h) (Or.inr ⟨by rfl, rfl⟩) hH ?_
              simp only [Act.put, sjA, sjB, sjC]
              refine wpAnyH_take (i := 15) (oi := ⟨some 28, .fieldAddr 41 (.tmp 27) 0, 0, "ref.go:95", #[⟨14, .data⟩, ⟨10, .guard⟩], some (10, true)⟩) (v := undef) rfl (by kernel_rfl) (by kernel_rfl) (by kernel_rfl) (fun _ _ _ h => h) (Or.inr ⟨by rfl, rfl⟩) hH ?_
              simp only [Act.put, sjA, sjB, sjC]
              refine wpAnyH_take (i := 16) (oi := ⟨some 29, .load 9 (.tmp 28), 9, "ref.go:95", #[⟨15, .data⟩, ⟨10, .guard⟩], some (10, true)⟩) (v := undef) rfl (by kernel_rfl) (by kernel_rfl) (by kernel_rfl) (fun _ _ _ h => h) (Or.inr ⟨by rfl, rfl⟩) hH ?_
              simp only [Act.put, sjA, sjB, sjC]
              refine wpAnyH_take (i := 17) (oi := ⟨some 30, .move (.tmp 0), 22, "ref.go:95", #[⟨10, .guard⟩], some (10, true)⟩) (v := undef) rfl (by kernel_rfl) (by kernel_rfl) (by kernel_rfl) (fun _ _ _ h => h) (Or.inr ⟨by rfl, rfl⟩) hH ?_
              simp only [Act.put, sjA, sjB, sjC]
              refine wpAnyH_take (i := 18) (oi := ⟨some 31, .move (.tmp 3), 3, "ref.go:95", #[⟨10, .guard⟩], some (10, true)⟩) (v := undef) rfl (by kernel_rfl) (by kernel_rfl) (by kernel_rfl) (fun _ _ _ h => h) (Or.inr ⟨by rfl, rfl⟩) hH ?_
              simp only [Act.put, sjA, sjB, sjC]
              refine wpAnyH_take (i := 19) (oi := ⟨some 32, .indexAddr 22 (.tmp 30) (.tmp 31), 0, "ref.go:95", #[⟨17, .data⟩, ⟨18, .data⟩, ⟨10, .guard⟩], some (10, true)⟩) (v := undef) rfl (by kernel_rfl) (by kernel_rfl) (by kernel_rfl) (fun _ _ _ h => h) (Or.inr ⟨by rfl, rfl⟩) hH ?_
              simp only [Act.put, sjA, sjB, sjC]
              refine wpAnyH_take (i := 20) (oi := ⟨some 33, .fieldAddr 41 (.tmp 32) 0, 0, "ref.go:95", #[⟨19, .data⟩, ⟨10, .guard⟩], some (10, true)⟩) (v := undef) rfl (by kernel_rfl) (by kernel_rfl) (by kernel_rfl) (fun _ _ _ h => h) (Or.inr ⟨by rfl, rfl⟩) hH ?_
              simp only [Act.put, sjA, sjB, sjC]
              refine wpAnyH_take (i := 21) (oi := ⟨some 34, .load 9 (.tmp 33), 9, "ref.go:95", #[⟨20, .data⟩, ⟨10, .guard⟩], some (10, true)⟩) (v := undef) rfl (by kernel_rfl) (by kernel_rfl) (by kernel_rfl) (fun _ _ _ h => h) (Or.inr ⟨by rfl, rfl⟩) hH ?_
              simp only [Act.put, sjA, sjB, sjC]
              refine wpAnyH_take (i := 22) (oi := ⟨some 35, .call { callee := .value (.func 61), args := #[.tmp 29, .tmp 34], argTypes := #[9, 9] }, 4, "ref.go:95", #[⟨16, .data⟩, ⟨21, .data⟩, ⟨10, .chain⟩, ⟨10, .guard⟩], some (10, true)⟩) (v := undef) rfl (by kernel_rfl) (by kernel_rfl) (by kernel_rfl) (fun _ _ _ h => h) (Or.inr ⟨by rfl, rfl⟩) hH ?_
              simp only [Act.put, sjA, sjB, sjC]
              refine wpAnyH_take (i := 23) (oi := ⟨some 36, .unOp .not 4 (.tmp 35), 4, "ref.go:95", #[⟨22, .data⟩, ⟨10, .guard⟩], some (10, true)⟩) (v := undef) rfl (by kernel_rfl) (by kernel_rfl) (by kernel_rfl) (fun _ _ _ h => h) (Or.inr ⟨by rfl, rfl⟩) hH ?_
              simp only [Act.put, sjA, sjB, sjC]
              refine wpAnyH_take (i := 24) (oi := ⟨some 37, .pick (.tmp 23) (.tmp 36) (.const (.bool false)), 4, "ref.go:95", #[⟨10, .data⟩, ⟨23, .data⟩, ⟨7, .guard⟩], some (7, false)⟩) (v := .bool false) rfl (by kernel_rfl) (by kernel_rfl) (by kernel_rfl) (fun _ _ _ h => h) (Or.inl ⟨by rfl, fun w' hw' => by (clear hw'; go_simp)⟩) hH ?_
              simp only [Act.put, sjA, sjB, sjC]
              refine wpAnyH_take (i := 25) (oi := ⟨some 38, .pick (.tmp 20) (.const (.bool true)) (.tmp 37), 4, "ref.go:95", #[⟨7, .data⟩, ⟨24, .data⟩], none⟩) (v := .bool false) rfl (by kernel_rfl) (by kernel_rfl) (by kernel_rfl) (fun _ _ _ h => h) (Or.inl ⟨by rfl, fun w' hw' => by (clear hw'; go_simp)⟩) hH ?_
              simp only [Act.put, sjA, sjB, sjC]
              refine wpAnyH_take (i := 26) (oi := ⟨some 39, .move (.tmp 38), 4, "ref.go:95", #[⟨25, .data⟩, ⟨22, .chain⟩], none⟩) (v := .bool false) rfl (by kernel_rfl) (by kernel_rfl) (by kernel_rfl) (fun _ _ _ h => h) (Or.inl ⟨by rfl, fun w' hw' => by (clear hw'; go_simp)⟩) hH ?_
              simp only [Act.put, sjA, sjB, sjC]
              refine wpAnyH_take (i := 27) (oi := ⟨some 40, .move (.tmp 0), 22, "ref.go:95", #[⟨26, .guard⟩], some (26, false)⟩) (v := .slice (some ⟨g, o, none⟩) n cap) rfl (by kernel_rfl) (by kernel_rfl) (by kernel_rfl) (fun _ _ _ h => h) (Or.inl ⟨by rfl, fun w' hw' => by (clear hw'; go_simp)⟩) hH ?_
              simp only [Act.put, sjA, sjB, sjC]
              refine wpAnyH_take (i := 28) (oi := ⟨some 41, .move (.tmp 0), 22, "ref.go:95", #[⟨26, .guard⟩], some (26, false)⟩) (v := .slice (some ⟨g, o, none⟩) n cap) rfl (by kernel_rfl) (by kernel_rfl) (by kernel_rfl) (fun _ _ _ h => h) (Or.inl ⟨by rfl, fun w' hw' => by (clear hw'; go_simp)⟩) hH ?_
              simp only [Act.put, sjA, sjB, sjC]
              refine wpAnyH_take (i := 29) (oi := ⟨some 42, .move (.tmp 3), 3, "ref.go:95", #[⟨26, .guard⟩], some (26, false)⟩) (v := .int .i64 (i : Int)) rfl (by kernel_rfl) (by kernel_rfl) (by kernel_rfl) (fun _ _ _ h => h) (Or.inl ⟨by rfl, fun w' hw' => by (clear hw'; go_simp)⟩) hH ?_
              simp only [Act.put, sjA, sjB, sjC]
              refine wpAnyH_take (i := 30) (oi := ⟨some 43, .indexAddr 22 (.tmp 41) (.tmp 42), 0, "ref.go:95", #[⟨28, .data⟩, ⟨29, .data⟩, ⟨26, .guard⟩], some (26, false)⟩) (v := .pointer (some ⟨g, o + i * 3, none⟩)) rfl (by kernel_rfl) (by kernel_rfl) (by kernel_rfl) (fun _ _ _ h => h) (Or.inl ⟨by rfl, fun w' hw' => by (clear hw'; go_simp)⟩) hH ?_
              simp only [Act.put, sjA, sjB, sjC]
              refine wpAnyH_take (i := 31) (oi := ⟨some 44, .fieldAddr 41 (.tmp 43) 0, 0, "ref.go:95", #[⟨30, .data⟩, ⟨26, .guard⟩], some (26, false)⟩) (v := .pointer (some ⟨g, o + i * 3, none⟩)) rfl (by kernel_rfl) (by kernel_rfl) (by kernel_rfl) (fun _ _ _ h => h) (Or.inl ⟨by rfl, fun w' hw' => by (clear hw'; go_simp)⟩) hH ?_
              simp only [Act.put, sjA, sjB, sjC]
              refine wpAnyH_take (i := 32) (oi := ⟨some 45, .load 9 (.tmp 44), 9, "ref.go:95", #[⟨31, .data⟩, ⟨26, .guard⟩], some (26, false)⟩) (v := .string s) rfl (by kernel_rfl) (by kernel_rfl) (by kernel_rfl) (fun _ _ _ h => h) (Or.inl ⟨by rfl, fun w' hw' => by (have q := x0' w' hw'; clear hw'; go_simp)⟩) hH ?_
              simp only [Act.put, sjA, sjB, sjC]
              refine wpAnyH_ready (rs := [33]) (by kernel_rfl) (by simp) ?_
              refine AllReadyH.cons (o := ⟨some 46, .call { callee := .value (.func 41), args := #[.tmp 40, .tmp 45], argTypes := #[22, 9] }, 31, "ref.go:95", #[⟨27, .data⟩, ⟨32, .data⟩, ⟨26, .chain⟩, ⟨26, .guard⟩], some (26, false)⟩) rfl (fun K hK => ?_) AllReadyH.nil
              go_simp
              refine (HDR.out _ HK1.out).mono ?_
              rintro e w3 ⟨rfl, hk⟩
              have HK3 : Hid (Kp No wr w3) := HK1.out.andNone hk
              clear hk
              go_wp2_with fail
              refine hK.out _ _ (HK3.out) (fun hh => ?_)
              clear hK K hH
              have hH := hh
              clear hh
              try simp only [Act.put, sjA, sjB, sjC]
              refine wpAnyH_take (i := 34) (oi := ⟨some 47, .binOp .neq 31 (.tmp 46) (.const (.int .i64 0)) 31, 4, "ref.go:95", #[⟨33, .data⟩, ⟨26, .guard⟩], some (26, false)⟩) (v := .bool true) rfl (by kernel_rfl) (by kernel_rfl) (by kernel_rfl) (fun _ _ _ h => h) (Or.inl ⟨by rfl, fun w' hw' => by (clear hw'; go_simp)⟩) hH ?_
              simp only [Act.put, sjA, sjB, sjC]
              refine wpAnyH_take (i := 35) (oi := ⟨some 48, .pick (.tmp 39) (.const (.bool true)) (.tmp 47), 4, "ref.go:95", #[⟨26, .data⟩, ⟨34, .data⟩], none⟩) (v := .bool true) rfl (by kernel_rfl) (by kernel_rfl) (by kernel_rfl) (fun _ _ _ h => h) (Or.inl ⟨by rfl, fun w' hw' => by (clear hw'; go_simp)⟩) hH ?_
              simp only [Act.put, sjA, sjB, sjC]
              refine wpAnyH_take (i := 36) (oi := ⟨some 49, .move (.tmp 48), 4, "ref.go:95", #[⟨35, .data⟩, ⟨33, .chain⟩], none⟩) (v := .bool true) rfl (by kernel_rfl) (by kernel_rfl) (by kernel_rfl) (fun _ _ _ h => h) (Or.inl ⟨by rfl, fun w' hw' => by (clear hw'; go_simp)⟩) hH ?_
              simp only [Act.put, sjA, sjB, sjC]
              refine wpAnyH_take (i := 37) (oi := ⟨some 50, .move (.tmp 0), 22, "ref.go:95", #[⟨36, .guard⟩], some (36, false)⟩) (v := undef) rfl (by kernel_rfl) (by kernel_rfl) (by kernel_rfl) (fun _ _ _ h => h) (Or.inr ⟨by rfl, rfl⟩) hH ?_
              simp only [Act.put, sjA, sjB, sjC]
              refine wpAnyH_take (i := 38) (oi := ⟨some 51, .move (.tmp 3), 3, "ref.go:95", #[⟨36, .guard⟩], some (36, false)⟩) (v := undef) rfl (by kernel_rfl) (by kernel_rfl) (by kernel_rfl) (fun _ _ _ h => h) (Or.inr ⟨by rfl, rfl⟩) hH ?_
              simp only [Act.put, sjA, sjB, sjC]
              refine wpAnyH_take (i := 39) (oi := ⟨some 52, .indexAddr 22 (.tmp 50) (.tmp 51), 0, "ref.go:95", #[⟨37, .data⟩, ⟨38, .data⟩, ⟨36, .guard⟩], some (36, false)⟩) (v := undef) rfl (by kernel_rfl) (by kernel_rfl) (by kernel_rfl) (fun _ _ _ h => h) (Or.inr ⟨by rfl, rfl⟩) hH ?_
              simp only [Act.put, sjA, sjB, sjC]
              refine wpAnyH_take (i := 40) (oi := ⟨some 53, .fieldAddr 41 (.tmp 52) 1, 0, "ref.go:95", #[⟨39, .data⟩, ⟨36, .guard⟩], some (36, false)⟩) (v := undef) rfl (by kernel_rfl) (by kernel_rfl) (by kernel_rfl) (fun _ _ _ h => h) (Or.inr ⟨by rfl, rfl⟩) hH ?_
              simp only [Act.put, sjA, sjB, sjC]
              refine wpAnyH_take (i := 41) (oi := ⟨some 54, .load 4 (.tmp 53), 4, "ref.go:95", #[⟨40, .data⟩, ⟨36, .guard⟩], some (36, false)⟩) (v := undef) rfl (by kernel_rfl) (by kernel_rfl) (by kernel_rfl) (fun _ _ _ h => h) (Or.inr ⟨by rfl, rfl⟩) hH ?_
              simp only [Act.put, sjA, sjB, sjC]
              refine wpAnyH_take (i := 42) (oi := ⟨some 55, .move (.tmp 54), 4, "ref.go:95", #[⟨41, .data⟩, ⟨36, .chain⟩, ⟨36, .guard⟩], some (36, false)⟩) (v := undef) rfl (by kernel_rfl) (by kernel_rfl) (by kernel_rfl) (fun _ _ _ h => h) (Or.inr ⟨by rfl, rfl⟩) hH ?_
              simp only [Act.put, sjA, sjB, sjC]
              refine wpAnyH_take (i := 43) (oi := ⟨some 56, .move (.tmp 0), 22, "ref.go:95", #[⟨42, .guard⟩], some (42, true)⟩) (v := undef) rfl (by kernel_rfl) (by kernel_rfl) (by kernel_rfl) (fun _ _ _ h => h) (Or.inr ⟨by rfl, rfl⟩) hH ?_
              simp only [Act.put, sjA, sjB, sjC]
              refine wpAnyH_take (i := 44) (oi := ⟨some 57, .move (.tmp 3), 3, "ref.go:95", #[⟨42, .guard⟩], some (42, true)⟩) (v := undef) rfl (by kernel_rfl) (by kernel_rfl) (by kernel_rfl) (fun _ _ _ h => h) (Or.inr ⟨by rfl, rfl⟩) hH ?_
              simp only [Act.put, sjA, sjB, sjC]
              refine wpAnyH_take (i := 45) (oi := ⟨some 58, .indexAddr 22 (.tmp 56) (.tmp 57), 0, "ref.go:95", #[⟨43, .data⟩, ⟨44, .data⟩, ⟨42, .guard⟩], some (42, true)⟩) (v := undef) rfl (by kernel_rfl) (by kernel_rfl) (by kernel_rfl) (fun _ _ _ h => h) (Or.inr ⟨by rfl, rfl⟩) hH ?_
              simp only [Act.put, sjA, sjB, sjC]
              refine wpAnyH_take (i := 46) (oi := ⟨some 59, .fieldAddr 41 (.tmp 58) 2, 0, "ref.go:95", #[⟨45, .data⟩, ⟨42, .guard⟩], some (42, true)⟩) (v := undef) rfl (by kernel_rfl) (by kernel_rfl) (by kernel_rfl) (fun _ _ _ h => h) (Or.inr ⟨by rfl, rfl⟩) hH ?_
              simp only [Act.put, sjA, sjB, sjC]
              refine wpAnyH_take (i := 47) (oi := ⟨some 60, .load 23 (.tmp 59), 23, "ref.go:95", #[⟨46, .data⟩, ⟨42, .guard⟩], some (42, true)⟩) (v := undef) rfl (by kernel_rfl) (by kernel_rfl) (by kernel_rfl) (fun _ _ _ h => h) (Or.inr ⟨by rfl, rfl⟩) hH ?_
              simp only [Act.put, sjA, sjB, sjC]
              refine wpAnyH_take (i := 48) (oi := ⟨some 61, .call { callee := .builtin Builtin.len, args := #[.tmp 60], argTypes := #[23] }, 3, "ref.go:95", #[⟨47, .data⟩, ⟨42, .guard⟩], some (42, true)⟩) (v := undef) rfl (by kernel_rfl) (by kernel_rfl) (by kernel_rfl) (fun _ _ _ h => h) (Or.inr ⟨by rfl, rfl⟩) hH ?_
              simp only [Act.put, sjA, sjB, sjC]
              refine wpAnyH_take (i := 49) (oi := ⟨some 62, .binOp .gtr 3 (.tmp 61) (.const (.int .i64 0)) 3, 4, "ref.go:95", #[⟨48, .data⟩, ⟨42, .guard⟩], some (42, true)⟩) (v := undef) rfl (by kernel_rfl) (by kernel_rfl) (by kernel_rfl) (fun _ _ _ h => h) (Or.inr ⟨by rfl, rfl⟩) hH ?_
              simp only [Act.put, sjA, sjB, sjC]
              refine wpAnyH_take (i := 50) (oi := ⟨some 63, .pick (.tmp 55) (.tmp 62) (.const (.bool false)), 4, "ref.go:95", #[⟨42, .data⟩, ⟨49, .data⟩, ⟨36, .guard⟩], some (36, false)⟩) (v := undef) rfl (by kernel_rfl) (by kernel_rfl) (by kernel_rfl) (fun _ _ _ h => h) (Or.inr ⟨by rfl, rfl⟩) hH ?_
              simp only [Act.put, sjA, sjB, sjC]
              refine wpAnyH_take (i := 51) (oi := ⟨some 64, .pick (.tmp 49) (.const (.bool true)) (.tmp 63), 4, "ref.go:95", #[⟨36, .data⟩, ⟨50, .data⟩], none⟩) (v := .bool true) rfl (by kernel_rfl) (by kernel_rfl) (by kernel_rfl) (fun _ _ _ h => h) (Or.inl ⟨by rfl, fun w' hw' => by (clear hw'; go_simp)⟩) hH ?_
              simp only [Act.put, sjA, sjB, sjC]
              refine wpAnyH_take (i := 52) (oi := ⟨some 65, .move (.tmp 64), 4, "ref.go:95", #[⟨51, .data⟩, ⟨42, .chain⟩], none⟩) (v := .bool true) rfl (by kernel_rfl) (by kernel_rfl) (by kernel_rfl) (fun _ _ _ h => h) (Or.inl ⟨by rfl, fun w' hw' => by (clear hw'; go_simp)⟩) hH ?_
              simp only [Act.put, sjA, sjB, sjC]
              refine wpAnyH_take (i := 53) (oi := ⟨some 66, .move (.tmp 0), 22, "ref.go:95", #[⟨52, .guard⟩], some (52, false)⟩) (v := undef) rfl (by kernel_rfl) (by kernel_rfl) (by kernel_rfl) (fun _ _ _ h => h) (Or.inr ⟨by rfl, rfl⟩) hH ?_
              simp only [Act.put, sjA, sjB, sjC]
              refine wpAnyH_take (i := 54) (oi := ⟨some 67, .move (.tmp 3), 3, "ref.go:95", #[⟨52, .guard⟩], some (52, false)⟩) (v := undef) rfl (by kernel_rfl) (by kernel_rfl) (by kernel_rfl) (fun _ _ _ h => h) (Or.inr ⟨by rfl, rfl⟩) hH ?_
              simp only [Act.put, sjA, sjB, sjC]
              refine wpAnyH_take (i := 55) (oi := ⟨some 68, .indexAddr 22 (.tmp 66) (.tmp 67), 0, "ref.go:95", #[⟨53, .data⟩, ⟨54, .data⟩, ⟨52, .guard⟩], some (52, false)⟩) (v := undef) rfl (by kernel_rfl) (by kernel_rfl) (by kernel_rfl) (fun _ _ _ h => h) (Or.inr ⟨by rfl, rfl⟩) hH ?_
              simp only [Act.put, sjA, sjB, sjC]
              refine wpAnyH_take (i := 56) (oi := ⟨some 69, .fieldAddr 41 (.tmp 68) 2, 0, "ref.go:95", #[⟨55, .data⟩, ⟨52, .guard⟩], some (52, false)⟩) (v := undef) rfl (by kernel_rfl) (by kernel_rfl) (by kernel_rfl) (fun _ _ _ h => h) (Or.inr ⟨by rfl, rfl⟩) hH ?_
              simp only [Act.put, sjA, sjB, sjC]
              refine wpAnyH_take (i := 57) (oi := ⟨some 70, .load 23 (.tmp 69), 23, "ref.go:95", #[⟨56, .data⟩, ⟨52, .guard⟩], some (52, false)⟩) (v := undef) rfl (by kernel_rfl) (by kernel_rfl) (by kernel_rfl) (fun _ _ _ h => h) (Or.inr ⟨by rfl, rfl⟩) hH ?_
              simp only [Act.put, sjA, sjB, sjC]
              refine wpAnyH_take (i := 58) (oi := ⟨some 71, .call { callee := .builtin Builtin.len, args := #[.tmp 70], argTypes := #[23] }, 3, "ref.go:95", #[⟨57, .data⟩, ⟨52, .guard⟩], some (52, false)⟩) (v := undef) rfl (by kernel_rfl) (by kernel_rfl) (by kernel_rfl) (fun _ _ _ h => h) (Or.inr ⟨by rfl, rfl⟩) hH ?_
              simp only [Act.put, sjA, sjB, sjC]
              refine wpAnyH_take (i := 59) (oi := ⟨some 72, .binOp .gtr 3 (.tmp 71) (.const (.int .i64 2000)) 3, 4, "ref.go:95", #[⟨58, .data⟩, ⟨52, .guard⟩], some (52, false)⟩) (v := undef) rfl (by kernel_rfl) (by kernel_rfl) (by kernel_rfl) (fun _ _ _ h => h) (Or.inr ⟨by rfl, rfl⟩) hH ?_
              simp only [Act.put, sjA, sjB, sjC]
              refine wpAnyH_take (i := 60) (oi := ⟨some 73, .pick (.tmp 65) (.const (.bool true)) (.tmp 72), 4, "ref.go:95", #[⟨52, .data⟩, ⟨59, .data⟩], none⟩) (v := .bool true) rfl (by kernel_rfl) (by kernel_rfl) (by kernel_rfl) (fun _ _ _ h => h) (Or.inl ⟨by rfl, fun w' hw' => by (clear hw'; go_simp)⟩) hH ?_
              simp only [Act.put, sjA, sjB, sjC]
              refine wpAnyH_done (by kernel_rfl) ?_ _
              clear hH x0' x1' x2'
              go_wp2_with fail
              go_ret
              refine ⟨?_, HS.out.2.andNone HK3.out⟩
              rw [HBAD.out HNO.out]
              rfl
      · have hltI : ¬ (i : Int) < (n : Int) := by omega
        have e : q = true := HALL.out (by omega) (fun j x hx => HS.out.1 j x (by have := (List.getElem?_eq_some_iff.1 hx).1; have := HN.out; omega) hx)
        go_wp2
        go_ret
        refine ⟨?_, HS.out.2⟩
        first | rfl | (rw [e]; rfl)

end Go.Proofs.YtdooiflmjeibdaaGreatDoor.Tr
end
