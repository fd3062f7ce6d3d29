/-
  ChunkerStreams, walked: a right rule.
-/
import Derived.Test.YtinijgkkmfdfiaaDoorStream
import Derived.Test.YtinijgkkmfdfiaaDoorStep
import Derived.Test.YtinijgkkmfdfiaaDoorAlive
import Derived.Test.YtinijgkkmfdfiaaDoorRefSplit
import Derived.Deep.DeepCutAuto
namespace Go.Proofs.YtinijgkkmfdfiaaDoor
open Go.RowKit

/-- Parts that came in. -/
def InRows (w : World) (a : Option Addr) (K : Nat) : Prop :=
  ∀ r, r < K → ∃ b o, a = some ⟨b, o, none⟩ ∧ b < w.heap.size ∧ ∃ a' l' c', w.cell? ⟨b, o + r, none⟩ = some (.slice a' l' c') ∧ l' ≤ 9223372036854775807 ∧ (l' ≤ 100 → ∃ bs, bs.length = l' ∧ ByP (fun _ => True) w (.slice a' l' c') bs)

theorem own_ge {v v' : Value} {B sz : Nat} (h : v'.ownBlock = v.ownBlock ∨ v'.ownBlock = some sz) (h1 : ∀ x, v.ownBlock = some x → B ≤ x) (h2 : B ≤ sz) : ∀ x, v'.ownBlock = some x → B ≤ x := fun x hx => by
  rcases h with e | e
  · exact h1 x (by rw [← e]; exact hx)
  · rw [e] at hx
    have := Option.some.inj hx
    omega
theorem own_ne {v : Value} {B b : Nat} (h : ∀ x, v.ownBlock = some x → B ≤ x) (hb : b < B) : some b ≠ v.ownBlock := fun e => by
  have := h b e.symm
  omega

/-- Where the law's loop stands. -/
def SI (W wr : World) (B sb gb s mn av mx M : Nat) (E : List Nat → Bool) (a7 : Option Addr) (n7 c7 : Nat) (wt : List Nat) : Prop :=
  ∃ v, StX wr sb gb s mn av mx M (hashOf s wt) wt v false ∧ (∀ x ∈ fp sb gb v, B ≤ x) ∧ ByP (· ∉ fp sb gb v) wr (.slice a7 n7 c7) wt ∧ wt.length = n7 ∧ NoEnd E wt wt.length ∧ Below B W wr

set_option maxHeartbeats 4000000 in
set_option maxRecDepth 100000 in
theorem streams_yes (w : World) (s mn k mx : Nat) (hs : s < M64) (hk : k ≤ 12) (hr : rightB mn (2 ^ k : Nat) mx = true) (a : Option Addr) (K cap : Nat) (hT : Tab w) (hK : K ≤ 30) (hin : InRows w a K) :
    Calls Tryd.prog 4 #[ruleV s mn (2 ^ k : Nat) mx, .slice a K cap] w fun e w' => e = .returned (.bool true) ∧ Below w.heap.size w w' := by
  have h2 := hT.lt
  have HT := hid hT
  have HIN := hid hin
  have HO := hid (open_yes s mn k mx hs hk hr)
  have HSU := hid (fun (b : Value) (bs : List Nat) (P : Nat → Prop) (V : World) (hb : ByP P V b bs) => sure_yes s mn k mx hs hk hr b bs V hb)
  have HR := hid hr
  have HB1 : Hid (Below w.heap.size w (w.alloc (.cells #[.int .u64 (s : Int), .int .i64 (mn : Int), .int .i64 ((2 ^ k : Nat) : Int), .int .i64 (mx : Int)] 24))) := (Below.refl _ _).alloc (Nat.le_refl _) _
  have HQ : Hid (∀ j, (w.alloc (.cells #[.int .u64 (s : Int), .int .i64 (mn : Int), .int .i64 ((2 ^ k : Nat) : Int), .int .i64 (mx : Int)] 24)).cell? ⟨w.heap.size, j, none⟩ = (#[.int .u64 (s : Int), .int .i64 (mn : Int), .int .i64 ((2 ^ k : Nat) : Int), .int .i64 (mx : Int)] : Array Value)[j]?) := fun j => World.cell?_alloc_at _ _ _ _ rfl
  have hz1 : w.heap.size < (w.alloc (.cells #[.int .u64 (s : Int), .int .i64 (mn : Int), .int .i64 ((2 ^ k : Nat) : Int), .int .i64 (mx : Int)] 24)).heap.size := by simp
  have hnot : ∀ (x : Bool) (w : World), (Op.unary .not (.bool x)).run Tryd.prog w = .ok (.bool (!x)) w := fun _ _ => rfl
  clear hT hin hr
  generalize maskAt k = M at *
  generalize 2 ^ k = A at *
  go_enter Tryd.func4, Tryd.ntmps4
  go_upto_region 3 with fail
  generalize w.alloc (.cells #[.int .u64 (s : Int), .int .i64 (mn : Int), .int .i64 (A : Int), .int .i64 (mx : Int)] 24) = W at *
  have r0 : ∀ w', Below W.heap.size W w' → w'.cell? ⟨w.heap.size, 0, none⟩ = some (.int .u64 (s : Int)) := fun w' h => (h.cell (p := ⟨w.heap.size, 0, none⟩) hz1).trans (HQ.out 0)
  have r1 : ∀ w', Below W.heap.size W w' → w'.cell? ⟨w.heap.size, 1, none⟩ = some (.int .i64 (mn : Int)) := fun w' h => (h.cell (p := ⟨w.heap.size, 1, none⟩) hz1).trans (HQ.out 1)
  have r2 : ∀ w', Below W.heap.size W w' → w'.cell? ⟨w.heap.size, 2, none⟩ = some (.int .i64 (A : Int)) := fun w' h => (h.cell (p := ⟨w.heap.size, 2, none⟩) hz1).trans (HQ.out 2)
  have r3 : ∀ w', Below W.heap.size W w' → w'.cell? ⟨w.heap.size, 3, none⟩ = some (.int .i64 (mx : Int)) := fun w' h => (h.cell (p := ⟨w.heap.size, 3, none⟩) hz1).trans (HQ.out 3)
  have b0 : Below W.heap.size W W := Below.refl _ _
  have HTB : Hid (∀ V, Below W.heap.size W V → Tab V) := fun V h => HT.out.below (HB1.out.trans (h.mono (by omega))) h2
  go_wp2_with fail
  refine (own9_any (s : Int) mn A mx W).mono ?_
  rintro e w2 ⟨rfl, b2⟩
  go_wp2_with fail
  refine (HO.out w2 (HTB.out w2 b2)).mono ?_
  rintro e w3 ⟨sb, gb, rfl, S3, hsb, hgb, b3'⟩
  have b3 : Below W.heap.size W w3 := b2.trans (b3'.mono b2.size)
  have HS3 := hid S3
  have hsb' : W.heap.size ≤ sb := Nat.le_trans b2.size hsb
  have hgb' : W.heap.size ≤ gb := Nat.le_trans b2.size hgb
  clear S3 b3' hsb hgb b2
  go_wp2_with fail
  refine (right13_any (s : Int) mn A mx w3).mono ?_
  rintro e w4 ⟨rfl, b4'⟩
  rw [HR.out]
  have b4 : Below W.heap.size W w4 := b3.trans (b4'.mono b3.size)
  have HS4 := hid (HS3.out.below b4')
  clear b4' HS3 b3
  generalize hE : endB s mn mx M = E at *
  have HE := hid hE
  clear hE
  have HI0 : Hid (SI W w4 W.heap.size sb gb s mn A mx M E none 0 0 []) := by
    refine ⟨_, by rw [hashOf, hashFrom_nil]; exact HS4.out, fun x hx => ?_, ByP.nil _ _, rfl, fun j h1 h2 => by simp at h2; omega, b4⟩
    rcases mem_fp.1 hx with rfl | rfl | h
    · exact hsb'
    · exact hgb'
    · simp [Value.ownBlock] at h
  go_wp2_with fail
  go_loopw [7, 8, 9, 10, 11, 12] (fun x7 x8 _ _ _ _ wr => ∃ (i : Nat) (a7 : Option Addr) (n7 c7 : Nat) (wt : List Nat), i ≤ K ∧ x8 = .int .i64 i ∧ x7 = .slice a7 n7 c7 ∧ n7 ≤ 100 * i ∧ Hid (SI W wr W.heap.size sb gb s mn A mx M E a7 n7 c7 wt)) (fun _ x8 _ _ _ _ _ => K - (intOf x8).toNat)
  case atStart => exact ⟨0, none, 0, 0, [], Nat.zero_le _, rfl, rfl, by omega, HI0.out⟩
  case round =>
    clear HI0 HS4
    obtain ⟨i, a7, n7, c7, wt, hi, rfl, rfl, hn7, HI⟩ := hrel
    by_cases hlt : i < K
    · obtain ⟨lb, lo, rfl, hlb, a', l', c', hcl, hl', hbs⟩ := HIN.out i hlt
      have hiI : (i : Int) < (K : Int) := by omega
      obtain ⟨v, Sv, hfv, hby, hwl, hne, hbw⟩ := HI.out
      have hcw : Hid (Below w.heap.size w wr) := HB1.out.trans (hbw.mono (by omega))
      have cl0 : wr.cell? ⟨lb, lo + i, none⟩ = some (.slice a' l' c') := (hcw.out.cell (p := ⟨lb, lo + i, none⟩) hlb).trans hcl
      have HSV := hid (And.intro Sv (And.intro hfv (And.intro hby (And.intro hwl (And.intro hne hbw)))))
      clear Sv hfv hby hwl hne hbw HI
      by_cases hbig : 100 < l'
      · go_wp2_with fail
        refine (alive_any wr (HTB.out wr HSV.out.2.2.2.2.2)).mono ?_
        rintro e w5 ⟨rfl, b5⟩
        have HB5 := hid (hcw.out.trans (b5.mono hcw.out.size))
        clear b5
        go_wp2
        go_ret
        exact ⟨rfl, HB5.out⟩
      · obtain ⟨bs, hbl, hbb⟩ := hbs (by omega)
        have HBB := hid (hbb.mono (Q := fun x => x < w.heap.size) (fun x hx _ => hx))
        have HBL := hid hbl
        clear hbs hbb hbl
        go_wp2_with fail
        have hrow0 : Hid (Row (wr.drew.alloc (.cells #[] 5)) 5 (.slice (some ⟨wr.heap.size, 0, none⟩) 0 0) []) := World.ownsRow_made wr.drew #[] 0 (Nat.zero_le _) (Nat.zero_le _) rfl
        have hka : Hid (Kp [] wr (wr.drew.alloc (.cells #[] 5))) := (Kp.refl _ _).drew.alloc _
        have hsz0 : (wr.drew.alloc (.cells #[] 5)).heap.size = wr.heap.size + 1 := by simp
        have hsrc0 : Hid (Src (wr.drew.alloc (.cells #[] 5)) (.slice a7 n7 c7) (cl wt)) := (HSV.out.2.2.1.kp hka.out (by simp)).src
        have hbel0 : Hid (Below w.heap.size w (wr.drew.alloc (.cells #[] 5))) := hcw.out.trans ⟨hka.out.os, hka.out.tape, hka.out.output, hka.out.size, fun x hx => hka.out.block x (by have := hcw.out.size; omega) (by simp)⟩
        have hwl : Hid ((cl wt).length = n7) := by rw [Hid, cl_length]; exact HSV.out.2.2.2.1
        have hbl2 : Hid ((cl bs).length = l') := by rw [Hid, cl_length]; exact HBL.out
        have hlbw : lb < wr.heap.size := by have := hcw.out.size; omega
        have HSZ := hid hsz0
        have hcA : (wr.drew.alloc (.cells #[] 5)).cell? ⟨lb, lo + i, none⟩ = some (.slice a' l' c') := (hbel0.out.cell (p := ⟨lb, lo + i, none⟩) hlb).trans hcl
        clear hsz0
        go_cut [7] (fun x7 wx => ∃ aB cB, x7 = .slice aB (n7 + l') cB ∧ Hid (Row wx 5 (.slice aB (n7 + l') cB) (cl (wt ++ bs)) ∧ (∀ x, (Value.slice aB (n7 + l') cB).ownBlock = some x → wr.heap.size ≤ x) ∧ Kp [] wr wx))
        case first =>
          go_region_held3 (fun w' => w'.cell? ⟨lb, lo + i, none⟩ = some (.slice a' l' c')) (first | (with_reducible assumption) | go_keep)
            (first
              | (refine step_app (wr.drew.alloc (.cells #[] 5)) (by rfl) (.tmp 60) (.tmp 61) 25 5 (.int .u8 0) 1 (by rfl) Tryd.underlying25 Tryd.info5 rfl (.slice (some ⟨wr.heap.size, 0, none⟩) 0 0) (.slice a7 n7 c7) [] (cl wt) n7 (by rw [hwl.out]; simp) (by simp [Act.eval]) (by simp [Act.eval]) hrow0.out hsrc0.out (by omega) (by decide) ?_; intro aA cA wA hrA hgA hvA; have hcB : wA.cell? ⟨lb, lo + i, none⟩ = some (.slice a' l' c') := hgA.cell hcA (by simp [Value.ownBlock]; omega); have hoA : ∀ x, (Value.slice aA n7 cA).ownBlock = some x → wr.heap.size ≤ x := own_ge hvA (fun x hx => (by simp [Value.ownBlock] at hx; omega)) (by rw [HSZ.out]; omega); have HOA := hid hoA; have HRA := hid hrA; have HGA := hid hgA; have HBA : Hid (Below w.heap.size w wA) := hbel0.out.grown hgA hbel0.out.size (fun x hx => by simp [Value.ownBlock] at hx; have := hcw.out.size; omega); have hsrc1 : Hid (Src wA (.slice a' l' c') (cl bs)) := (HBB.out.below HBA.out).src; clear hrA hgA hvA hoA)
              | (refine step_app wA (by rfl) (.tmp 62) (.tmp 66) 25 5 (.int .u8 0) 1 (by rfl) Tryd.underlying25 Tryd.info5 rfl (.slice aA n7 cA) (.slice a' l' c') ([] ++ cl wt) (cl bs) (n7 + l') (by rw [List.nil_append, hwl.out, hbl2.out]) (by simp [Act.eval]) (by simp [Act.eval]) HRA.out hsrc1.out (by omega) (by decide) ?_; intro aB cB wB hrB hgB hvB; have hcC : wB.cell? ⟨lb, lo + i, none⟩ = some (.slice a' l' c') := hgB.cell hcB (own_ne HOA.out hlbw); have HRB := hid hrB; have HGB := hid hgB; have HVB := hid hvB; have HSA := hid HGA.out.size; clear hrB hgB hvB))
          all_goals go_wp2_with fail
          all_goals go_meet
          all_goals
            refine ⟨aB, cB, rfl, ?_, own_ge HVB.out HOA.out (by have := HSA.out; rw [HSZ.out] at this; omega), ((hka.out.grown HGA.out (fun x hx => by simp [Value.ownBlock] at hx; exact .inr (by omega))).grown HGB.out (fun x hx => .inr (HOA.out x hx)))⟩
            have h := HRB.out
            rwa [List.nil_append, ← cl_append] at h
        case rest =>
          obtain ⟨aB, cB, rfl, HX⟩ := hcut
          have hkX := HX.out.2.2
          have bx : Below W.heap.size W wc := HSV.out.2.2.2.2.2.trans ⟨hkX.os, hkX.tape, hkX.output, hkX.size, fun x hx => hkX.block x (by have := HSV.out.2.2.2.2.2.size; omega) (by simp)⟩
          have HSX := hid (HSV.out.1.kp hkX (by simp))
          have hszX := hkX.size
          have hbts : Hid (∀ x ∈ wt ++ bs, x < 256) := by
            intro x hx
            rcases List.mem_append.1 hx with h | h
            · exact HSV.out.1.bts x h
            · obtain ⟨_, _, _, _, _, _, _, h6, _⟩ := HBB.out
              exact h6 x h
          have hlen : Hid ((wt ++ bs).length = n7 + l') := by rw [Hid, List.length_append, HSV.out.2.2.2.1, HBL.out]
          have HBX : Hid (ByP (fun x => wr.heap.size ≤ x) wc (.slice aB (n7 + l') cB) (wt ++ bs)) := OwnB.byP (xs := wt ++ bs) HX.out.1 HX.out.2.1 (by rw [hlen.out]; omega) hbts.out
          have clx : wc.cell? ⟨lb, lo + i, none⟩ = some (.slice a' l' c') := (hkX.cell (p := ⟨lb, lo + i, none⟩) hlbw (by simp)).trans cl0
          have HBBX := hid ((HBB.out.below hcw.out).kp (m := []) hkX (by simp))
          have hfw : Hid (feed E [] [] (wt ++ bs) = feed E [] wt bs) := feed_wait HSV.out.2.2.2.2.1 [] bs
          have hSU := hid (HSU.out (.slice aB (n7 + l') cB) (wt ++ bs) _ wc HBX.out (by rw [hlen.out]; omega))
          have HNE : Hid (NoEnd E (feed E [] wt bs).2 (feed E [] wt bs).2.length) := feed_left bs [] wt HSV.out.2.2.2.2.1
          have hwl2 : Hid ((feed E [] wt bs).2.length ≤ n7 + l') := by rw [Hid]; have := (feed_count (E := E) bs [] wt).2; have := HSV.out.2.2.2.1; have := HBL.out; omega
          rw [hfw.out] at hSU
          clear hkX HX hrow0 hka hsrc0 hbel0 hwl hbl2 hcA hcl cl0
          go_wp2_with fail
          refine hSU.out.mono ?_
          rintro e w5 ⟨a9, c9, a10, c10, rfl, hW, hRst, b5'⟩
          have b5 : Below W.heap.size W w5 := bx.trans (b5'.mono bx.size)
          have clx5 := (b5'.cell (p := ⟨lb, lo + i, none⟩) (show lb < wc.heap.size by omega)).trans clx
          have HS5 := hid (HSX.out.below b5')
          have HW5 := hid hW
          have HR5 := hid (hRst.mono (Q := fun x => wr.heap.size ≤ x ∧ x < w5.heap.size) (fun x hx hp => ⟨hp, hx⟩))
          have HB5 := hid (HBBX.out.below b5')
          have hsz5 := b5'.size
          clear hW hRst b5' hSU HSX HBX HBBX clx bx
          go_wp2_with fail
          refine (write_any w5 sb gb s mn A mx M wt v _ bs HS5.out (HB5.out.mono (fun x _ hx hf => by have := HSV.out.2.1 x hf; omega)) (by have := HSV.out.2.2.2.1; have := HBL.out; omega)).mono ?_
          rw [HE.out]
          rintro e w6 ⟨a11, c11, v6, rfl, hS6, hG6, hK6, hF6⟩
          have HS6 := hid hS6
          have hfl5 := hid HS5.out.fplt
          have HG6 := hid (hG6.ls (by have h0 := (feed_count (E := E) bs [] wt).1; have h1 := HBL.out; rw [List.length_nil] at h0; omega))
          have hfx : Hid (∀ x ∈ fp sb gb v, x < wr.heap.size) := HSV.out.1.fplt
          have HW6 := hid ((HW5.out.mono (Q := fun x => wr.heap.size ≤ x) (fun x _ hx => by rcases hx with h | h <;> omega)).kp hK6 (fun x hx _ hp => by have := hfx.out x hx; omega))
          have HW6' := hid (HW6.out.ls (by have h0 := (feed_count (E := E) bs [] wt).1; have h1 := HBL.out; rw [List.length_nil] at h0; omega))
          have HR6 := hid (HR5.out.kp hK6 (fun x hx _ hp => by have := hfx.out x hx; omega))
          have b6 : Below W.heap.size W w6 := Kp.under b5 hK6 (fun x hx => HSV.out.2.1 x hx) b5.size
          have HF6 := hid hF6
          have hsz6 := hK6.size
          clear hS6 hG6 hK6 hF6 HS5 HW5 HR5 HB5 clx5 HW6
          generalize feed E [] wt bs = p at *
          obtain ⟨a6', c6', e6', _⟩ := HS6.out.own.slice
          have c67 := HS6.out.c7
          go_wp2_with (first
            | (go_at_call 16; refine (lists_any _ _ p.1 p.1 w6 HG6.out HW6'.out).mono ?_; rintro e w7 ⟨rfl, q, rfl⟩; rw [decide_eq_true rfl]; rw [e6'] at c67)
            | (go_at_call 22; refine (left_any _ sb a6' p.2.length c6' (by go_simp)).mono ?_; rintro e w8 ⟨rfl, h8⟩; subst w8))
          refine ⟨⟨i + 1, a10, p.2.length, c10, p.2, by omega, by go_num, rfl, by have := hwl2.out; omega, v6, HS6.out.kp (l := []) ((Kp.refl _ _).drewN q) (by simp), fun x hx => ?_, (HR6.out.mono (fun x _ hp hf => ?_)).kp (m := []) ((Kp.refl _ _).drewN q) (by simp), rfl, HNE.out, ?_⟩, by simp [intOf]; omega⟩
          · rcases HF6.out x hx with h | h
            · exact HSV.out.2.1 x h
            · have := b5.size
              omega
          · rcases HF6.out x hf with h | h
            · have := hfx.out x h
              omega
            · omega
          · exact b6.trans (below_drewN (Below.refl _ _) q)
    · obtain ⟨v, Sv, hfv, hby, hwl, hne, hbw⟩ := HI.out
      have hcw : Hid (Below w.heap.size w wr) := HB1.out.trans (hbw.mono (by omega))
      have HSV := hid Sv
      have HFV := hid hfv
      have HBY := hid hby
      have HBW := hid hbw
      have HWL := hid hwl
      clear Sv hfv hby hne hbw HI
      subst hwl
      go_wp2_with fail
      refine (close_any wr sb gb s mn A mx M wt v HSV.out (by omega)).mono ?_
      rintro e w5 ⟨ab, cb, rfl, hbb, hs5, d8, d7, hk5⟩
      have HBB5 := hid hbb
      have HBY5 := hid (HBY.out.kp hk5 (fun x hx _ hp => hp hx))
      have b5 : Hid (Below W.heap.size W w5) := Kp.under HBW.out hk5 HFV.out HBW.out.size
      clear hbb hk5
      have ea : (w5.alloc (.cells #[.int .u8 1] 5)).cell? ⟨sb, 8, none⟩ = some (.bool true) := (World.cell?_alloc_past _ _ _ hs5).trans d8
      have eb : (w5.alloc (.cells #[.int .u8 1] 5)).cell? ⟨sb, 7, none⟩ = some (.slice none 0 0) := (World.cell?_alloc_past _ _ _ hs5).trans d7
      have ba : Hid (Below w5.heap.size w5 (w5.alloc (.cells #[.int .u8 1] 5))) := (Below.refl _ _).alloc (Nat.le_refl _) _
      have HBB6 := hid (HBB5.out.below ba.out)
      have HBY6 := hid (HBY5.out.below ba.out)
      have b6 : Hid (Below W.heap.size W (w5.alloc (.cells #[.int .u8 1] 5))) := b5.out.trans (ba.out.mono b5.out.size)
      go_wp2_with fail
      clear HBB5 HBY5 b5 d8 d7
      generalize w5.alloc (.cells #[.int .u8 1] 5) = w6 at *
      refine (write_closed _ w6 sb ea).mono ?_
      rintro e w7 ⟨rfl, h7⟩
      subst w7
      go_wp2_with fail
      refine (close_closed w6 sb ea).mono ?_
      rintro e w7 ⟨rfl, h7⟩
      subst w7
      go_wp2_with fail
      refine (write_nil _ w6).mono ?_
      rintro e w7 ⟨rfl, h7⟩
      subst w7
      go_wp2_with fail
      refine (close_nil w6).mono ?_
      rintro e w7 ⟨rfl, h7⟩
      subst w7
      go_wp2_with fail
      refine (bytes_any _ _ wt wt w6 HBB6.out HBY6.out).mono ?_
      rintro e w7 ⟨rfl, q, hq⟩
      rw [decide_eq_true rfl]
      have b7 : Hid (Below W.heap.size W w7) := by rw [hq]; exact b6.out.trans (below_drewN (Below.refl _ _) q)
      have eb7 : w7.cell? ⟨sb, 7, none⟩ = some (.slice none 0 0) := by rw [hq]; exact eb
      clear hq ea eb HBB6 HBY6 b6 ba
      go_wp2_with fail
      refine (left_any w7 sb none 0 0 eb7).mono ?_
      rintro e w8 ⟨rfl, h8⟩
      subst w8
      go_wp2_with fail
      refine (left_nil w7).mono ?_
      rintro e w8 ⟨rfl, h8⟩
      subst w8
      go_wp2_with fail
      refine (alive_any w7 (HTB.out w7 b7.out)).mono ?_
      rintro e w8 ⟨rfl, b8⟩
      have HB8 := hid b8
      clear b8
      go_wp2
      go_ret
      exact ⟨rfl, HB1.out.trans ((b7.out.trans (HB8.out.mono b7.out.size)).mono (by omega))⟩

end Go.Proofs.YtinijgkkmfdfiaaDoor
