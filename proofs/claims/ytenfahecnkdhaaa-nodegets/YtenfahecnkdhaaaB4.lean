/- Of the proof: the texts TlvBase, TlvSmall, NdConv, NdObj, NdHash, NdRFile, TlvKids, TlvClone, TlvMany, one behind the other. -/
import Derived.Test.YtenfahecnkdhaaaRows
import Derived.Test.YtenfahecnkdhaaaB3
import Derived.WalkKit
import Derived.WalkSpells
import Derived.WalkLawsBesides
import Derived.Laws.AppendOwnNone
import Derived.Deep.QuietTactic
import Derived.BigQuiet
import Derived.Laws.IdiomStrings
import Derived.Deep.DeepCutAuto
import Derived.Deep.AppendLies
import Derived.Deep.RegionHeld3
import Derived.Deep.DrawnRows
import Derived.Deep.LoopGhost
section
/-
  How values of tlv lie in memory, and what the small functions of the program do: math/bits.Len64, numberSize, othersEmpty, bytes.Clone, Number, Bytes, the reference's Bytes.
-/
namespace Go.Proofs.Ytenfahecnkdhaaa.Tlv
open Go.RowKit

theorem Try.info5 : (Try.prog.info? 5).map (fun i => (i.zero, i.size, i.bytes)) = some (some (.int .u8 0), 1, 1) := by kernel_rfl
theorem Try.info95 : (Try.prog.info? 95).map (fun i => (i.zero, i.size, i.bytes)) = some (some (.agg #[.int .i64 0, .int .u64 0, .slice none 0 0, .slice none 0 0]), 4, 64) := by kernel_rfl

theorem hid {p : Prop} (h : p) : Hid p := h

/-- Of the blocks from L on, below B, w' holds what w held. -/
def Agree (L B : Nat) (w w' : World) : Prop := ∀ k, L ≤ k → k < B → w'.heap[k]? = w.heap[k]?

theorem Agree.refl (L B : Nat) (w : World) : Agree L B w w := fun _ _ _ => rfl
theorem Agree.trans {L B : Nat} {a b c : World} (h : Agree L B a b) (k : Agree L B b c) : Agree L B a c := fun i h1 h2 => (k i h1 h2).trans (h i h1 h2)
theorem Agree.mono {L L' B B' : Nat} {w w' : World} (h : Agree L B w w') (hL : L ≤ L') (hB : B' ≤ B) : Agree L' B' w w' := fun k h1 h2 => h k (by omega) (by omega)
theorem Agree.below {L B : Nat} {w w' : World} (h : Below B w w') : Agree L B w w' := fun k _ h2 => h.block k h2
theorem Agree.alloc {L B : Nat} {a w : World} (h : Agree L B a w) (hB : B ≤ w.heap.size) (o : Obj) : Agree L B a (w.alloc o) := h.trans fun k _ h2 => Below.heap_alloc _ _ _ (by omega)
theorem Agree.setCell {L B : Nat} {a w : World} (h : Agree L B a w) {p : Addr} (hp : p.block < L ∨ B ≤ p.block) (u : Value) : Agree L B a (w.setCell p u) := h.trans fun k h1 h2 => Below.heap_setCell _ _ _ _ (by omega)
theorem Agree.drew {L B : Nat} {a w : World} (h : Agree L B a w) : Agree L B a w.drew := h
theorem Agree.cell {L B : Nat} {w w' : World} (h : Agree L B w w') {p : Addr} (h1 : L ≤ p.block) (h2 : p.block < B) : w'.cell? p = w.cell? p := World.cell?_of_block (w := w) (h p.block h1 h2)

/-- v is a slice of the bytes bs, in blocks from L on, below B. -/
def BySl (L B : Nat) (w : World) (v : Value) (bs : List Int) : Prop :=
  ∃ a cap, v = .slice a bs.length cap ∧ bs.length ≤ cap ∧ cap ≤ maxLen ∧ (a = none → bs = [] ∧ cap = 0) ∧ bs.length ≤ 140737488355328 ∧ (∀ x ∈ bs, 0 ≤ x ∧ x ≤ 255) ∧
    (bs ≠ [] → ∃ b o, a = some ⟨b, o, none⟩ ∧ L ≤ b ∧ b < B ∧ ∀ i, i < bs.length → w.cell? ⟨b, o + i, none⟩ = some (.int .u8 (bs.getD i 0)))

/-- v is a slice of the values ks, each as R says, in blocks from L on, below B. -/
def KSl {n : Nat} (L B : Nat) (w : World) (R : Tr n → Value → Value → Prop) (v : Value) (ks : List (Tr n)) : Prop :=
  ∃ a cap, v = .slice a ks.length cap ∧ ks.length ≤ cap ∧ cap ≤ maxLen ∧ (a = none → ks = [] ∧ cap = 0) ∧ ks.length ≤ 2199023255552 ∧
    (ks ≠ [] → ∃ b o, a = some ⟨b, o, none⟩ ∧ L ≤ b ∧ b < B ∧ ∀ j t, ks[j]? = some t → ∃ sb sk, w.cell? ⟨b, o + j * 4, none⟩ = some (.int .i64 t.hd.1) ∧ w.cell? ⟨b, o + j * 4 + 1, none⟩ = some (.int .u64 t.hd.2.1) ∧
      w.cell? ⟨b, o + j * 4 + 2, none⟩ = some sb ∧ w.cell? ⟨b, o + j * 4 + 3, none⟩ = some sk ∧ R t sb sk)

/-- The tree t lies in w, in blocks from L on, below B, its bytes behind sb, its values behind sk. -/
def Rep (L B : Nat) (w : World) : (n : Nat) → Tr n → Value → Value → Prop
  | 0, t, _, _ => by cases t
  | n + 1, t, sb, sk => 0 ≤ t.hd.2.1 ∧ t.hd.2.1 ≤ 18446744073709551615 ∧ BySl L B w sb t.hd.2.2 ∧ KSl L B w (Rep L B w n) sk t.kd

theorem BySl.agree {L B L' B' : Nat} {w w' : World} {v : Value} {bs : List Int} (h : BySl L B w v bs) (hb : Agree L B w w') (hL : L' ≤ L) (hB : B ≤ B') : BySl L' B' w' v bs := by
  obtain ⟨a, cap, h1, h2, h3, h4, h5, h6, h7⟩ := h
  refine ⟨a, cap, h1, h2, h3, h4, h5, h6, fun hne => ?_⟩
  obtain ⟨b, o, e, hL', hbB, hc⟩ := h7 hne
  exact ⟨b, o, e, by omega, by omega, fun i hi => (hb.cell (p := ⟨b, o + i, none⟩) hL' hbB).trans (hc i hi)⟩

theorem KSl.agree {n L B L' B' : Nat} {w w' : World} {R R' : Tr n → Value → Value → Prop} {v : Value} {ks : List (Tr n)} (h : KSl L B w R v ks) (hR : ∀ t sb sk, R t sb sk → R' t sb sk) (hb : Agree L B w w') (hL : L' ≤ L) (hB : B ≤ B') : KSl L' B' w' R' v ks := by
  obtain ⟨a, cap, h1, h2, h3, h4, h5, h7⟩ := h
  refine ⟨a, cap, h1, h2, h3, h4, h5, fun hne => ?_⟩
  obtain ⟨b, o, e, hLb, hbB, hc⟩ := h7 hne
  refine ⟨b, o, e, by omega, by omega, fun j t hj => ?_⟩
  obtain ⟨sb, sk, c0, c1, c2, c3, r⟩ := hc j t hj
  exact ⟨sb, sk, (hb.cell (p := ⟨b, _, none⟩) hLb hbB).trans c0, (hb.cell (p := ⟨b, _, none⟩) hLb hbB).trans c1, (hb.cell (p := ⟨b, _, none⟩) hLb hbB).trans c2, (hb.cell (p := ⟨b, _, none⟩) hLb hbB).trans c3, hR _ _ _ r⟩

theorem Rep.agree {L B L' B' : Nat} {w w' : World} (hb : Agree L B w w') (hL : L' ≤ L) (hB : B ≤ B') : ∀ {n : Nat} {t : Tr n} {sb sk : Value}, Rep L B w n t sb sk → Rep L' B' w' n t sb sk
  | 0, t, _, _, _ => by cases t
  | _ + 1, _, _, _, h => ⟨h.1, h.2.1, h.2.2.1.agree hb hL hB, h.2.2.2.agree (fun _ _ _ r => Rep.agree hb hL hB r) hb hL hB⟩

theorem Rep.sl {L B : Nat} {w : World} : ∀ {n : Nat} {t : Tr n} {sb sk : Value}, Rep L B w n t sb sk → ∃ a l c a' l' c', sb = .slice a l c ∧ sk = .slice a' l' c'
  | 0, t, _, _, _ => by cases t
  | _ + 1, _, _, _, h => by
    obtain ⟨_, _, ⟨_, _, rfl, _⟩, ⟨_, _, rfl, _⟩⟩ := h
    exact ⟨_, _, _, _, _, _, rfl, rfl⟩

/-- Out of a row of the call's own. -/
theorem BySl.own {base : Nat} {w : World} {v : Value} {bs : List Int} (h : w.ownsRow base 5 1 v bs.length (bs.map (Value.int .u8))) (hl : bs.length ≤ 140737488355328) (hx : ∀ x ∈ bs, 0 ≤ x ∧ x ≤ 255) : BySl base w.heap.size w v bs := by
  rcases h.2 with ⟨rfl, h0⟩ | ⟨g, cap, cur, rfl, hb, hg, hn, hc, hs, ht⟩
  · have : bs = [] := List.length_eq_zero_iff.1 h0
    subst this
    exact ⟨none, 0, rfl, Nat.le_refl _, Nat.zero_le _, fun _ => ⟨rfl, rfl⟩, by simp, by simp, fun h => absurd rfl h⟩
  · refine ⟨_, cap, rfl, hn, hc, by simp, hl, hx, fun _ => ⟨g, 0, rfl, hb, (Array.getElem?_eq_some_iff.1 hg).1, fun i hi => ?_⟩⟩
    rw [Nat.zero_add, h.cellAt i (by omega)]
    simp [List.getElem?_eq_getElem hi]

theorem BySl.none (L B : Nat) (w : World) : BySl L B w (.slice none 0 0) [] := ⟨_, 0, rfl, Nat.le_refl _, Nat.zero_le _, fun _ => ⟨rfl, rfl⟩, by simp, by simp, fun h => absurd rfl h⟩

theorem KSl.none {n : Nat} (L B : Nat) (w : World) (R : Tr n → Value → Value → Prop) : KSl L B w R (.slice none 0 0) [] := ⟨_, 0, rfl, Nat.le_refl _, Nat.zero_le _, fun _ => ⟨rfl, rfl⟩, by simp, fun h => absurd rfl h⟩

theorem bcell {W w1 : World} (hb : Below W.heap.size W w1) : (∀ b o, b < W.heap.size → w1.cell? ⟨b, o, none⟩ = W.cell? ⟨b, o, none⟩) ∧ (∀ b o, b < W.heap.size → w1.frozen? ⟨b, o, none⟩ = W.frozen? ⟨b, o, none⟩) :=
  ⟨fun b o h => hb.cell (p := ⟨b, o, none⟩) h, fun b o h => hb.frozen (p := ⟨b, o, none⟩) h⟩

theorem tab_size : Lib.len8tab.size = 256 := by decide +kernel
theorem tab_all : ∀ n : Fin 256, (Lib.len8tab[n.val]'(by rw [tab_size]; exact n.2)).toNat = Lib.bitLen n.val := by decide +kernel
theorem tab_at (n : Nat) (h : n < Lib.len8tab.size) : Lib.len8tab[n].toNat = Lib.bitLen n := tab_all ⟨n, by rw [tab_size] at h; exact h⟩
theorem tab_le (n : Nat) (h : n < 256) : Lib.bitLen n ≤ 8 := Lib.bitLen_le8 ⟨n, h⟩

/-- The last row of Len64: what the table holds, and the bits cut off ahead of it. -/
theorem len_close (x k i : Nat) (hk : 2 ^ k ≤ x ∨ k = 0) (hx : x < 2 ^ 64) (hi : i = x / 2 ^ k) (hl : i < 256) (h : i < Lib.len8tab.size) (hk2 : k ≤ 56) :
    wrap64 (k + wrap64 (Lib.len8tab[i].toNat : Nat)) = (Lib.bitLen x : Int) := by
  have l := tab_le i hl
  rw [tab_at i h]
  have e : Lib.bitLen x = k + Lib.bitLen i := by
    subst hi
    rcases hk with hk | rfl
    · exact Lib.bitLen_shift k x hk hx
    · simp
  rw [show wrap64 ((Lib.bitLen i : Nat) : Int) = (Lib.bitLen i : Int) from IntWalk.wrap64_in _ ⟨by omega, by omega⟩, IntWalk.wrap64_in _ ⟨by omega, by omega⟩, e]
  omega

set_option maxHeartbeats 4000000 in
set_option maxRecDepth 100000 in
theorem len64_any (x : Int) (w : World) (h0 : 0 ≤ x) (h1 : x ≤ 18446744073709551615) :
    Calls Try.prog 100 #[.int .u64 x] w fun e w' => e = .returned (.int .i64 (Lib.bitLen x.toNat)) ∧ w' = w := by
  have hts : (Lib.len8tab.size : Int) = 256 := by rw [tab_size]; rfl
  go_enter Try.func100, Try.ntmps100
  go_wp2
  all_goals (go_ret; refine ⟨congrArg Ending.returned (congrArg (Value.int IntKind.i64) ?_), rfl⟩)
  · exact len_close x.toNat 56 _ (.inl (by simp only [Nat.reducePow]; omega)) (by simp only [Nat.reducePow]; omega) (by simp only [Nat.reducePow]; omega) (by omega) _ (by omega)
  · exact len_close x.toNat 48 _ (.inl (by simp only [Nat.reducePow]; omega)) (by simp only [Nat.reducePow]; omega) (by simp only [Nat.reducePow]; omega) (by omega) _ (by omega)
  · exact len_close x.toNat 40 _ (.inl (by simp only [Nat.reducePow]; omega)) (by simp only [Nat.reducePow]; omega) (by simp only [Nat.reducePow]; omega) (by omega) _ (by omega)
  · exact len_close x.toNat 32 _ (.inl (by simp only [Nat.reducePow]; omega)) (by simp only [Nat.reducePow]; omega) (by simp only [Nat.reducePow]; omega) (by omega) _ (by omega)
  · exact len_close x.toNat 24 _ (.inl (by simp only [Nat.reducePow]; omega)) (by simp only [Nat.reducePow]; omega) (by simp only [Nat.reducePow]; omega) (by omega) _ (by omega)
  · exact len_close x.toNat 16 _ (.inl (by simp only [Nat.reducePow]; omega)) (by simp only [Nat.reducePow]; omega) (by simp only [Nat.reducePow]; omega) (by omega) _ (by omega)
  · exact len_close x.toNat 8 _ (.inl (by simp only [Nat.reducePow]; omega)) (by simp only [Nat.reducePow]; omega) (by simp only [Nat.reducePow]; omega) (by omega) _ (by omega)
  · have h := len_close x.toNat 0 x.toNat (.inr rfl) (by simp only [Nat.reducePow]; omega) (by simp) (by omega) (by rw [tab_size]; omega) (by omega)
    simpa using h

set_option maxHeartbeats 400000 in
theorem numberSize_any (x : Int) (w : World) (h0 : 0 ≤ x) (h1 : x ≤ 18446744073709551615) :
    Calls Try.prog 95 #[.int .u64 x] w fun e w' => e = .returned (.int .i64 (nsz x)) ∧ w' = w := by
  have hb := bitLen_le64 x.toNat
  go_enter Try.func95, Try.ntmps95
  go_wp2_with (go_at_call 100; refine (len64_any _ _ h0 h1).mono ?_; rintro e w' ⟨rfl, rfl⟩)
  go_ret
  exact ⟨rfl, rfl⟩

set_option maxHeartbeats 1000000 in
theorem othersEmpty_any (tag num : Int) (a a' : Option Addr) (lb cb lk ck : Nat) (w : World) :
    Calls Try.prog 94 #[.agg #[.int .i64 tag, .int .u64 num, .slice a lb cb, .slice a' lk ck]] w fun e w' => e = .returned (.bool (oeB tag num lb lk)) ∧ Below w.heap.size w w' := by
  go_enter Try.func94, Try.ntmps94
  go_wp2
  all_goals (go_ret; refine ⟨?_, (Below.refl _ _).alloc (Nat.le_refl _) _⟩; simp [oeB, *])

theorem Try.nilEq (w : World) (a : Option Addr) (n c n' c' : Nat) : (binOp .eql 26 (.slice a n c) (.slice none n' c')).run Try.prog w = .ok (.bool a.isNone) w :=
  Lib.run_eql_slice_nil w _ _ a n c n' c' Try.underlying26

set_option maxHeartbeats 1000000 in
theorem clone_bytes (v : Value) (bs : List Int) (w : World) (h : BySl 0 w.heap.size w v bs) :
    Calls Try.prog 47 #[v] w fun e w' => ∃ v', e = .returned v' ∧ BySl w.heap.size w'.heap.size w' v' bs ∧ Below w.heap.size w w' := by
  have q22 := Try.nilEq
  obtain ⟨a, cap, rfl, h2, h3, h4, h5, h6, h7⟩ := h
  cases a with
  | none =>
    obtain ⟨rfl, rfl⟩ := h4 rfl
    clear h7
    go_enter Try.func47, Try.ntmps47
    go_wp2
    go_ret
    exact ⟨_, rfl, BySl.none _ _ _, Below.refl _ _⟩
  | some ad =>
    obtain ⟨i0, hi, hz0, hz1, hz2⟩ := info_parts Try.info5
    have A : Hid (bs ≠ [] → ∃ b o, some ad = some ⟨b, o, none⟩ ∧ 0 ≤ b ∧ b < w.heap.size ∧ ∀ i, i < bs.length → w.cell? ⟨b, o + i, none⟩ = some (.int .u8 (bs.getD i 0))) := h7
    have A6 : Hid (∀ x ∈ bs, 0 ≤ x ∧ x ≤ 255) := h6
    clear h7 h6 h4
    go_enter Try.func47, Try.ntmps47
    go_wp2_with (at_builtin; refine wpList_append_own _ rfl _ _ 26 rfl w.heap.size 5 i0 (.int .u8 0) 1 1 Try.underlying26 hi hz0 hz1 hz2 rfl (by decide) _ _ _ rfl (World.ownsRow_made w #[] 0 (Nat.le_refl _) (Nat.zero_le _) rfl) ad bs.length cap (bs.map (Value.int .u8)) rfl ?qc1 ?qc2 ?qc3 ?qc4 ?qc5 ?qc6 ?_)
    case qc1 => simp
    case qc2 =>
      intro j u hj
      have hjn : j < bs.length := by
        have := (List.getElem?_eq_some_iff.1 hj).1
        simpa using this
      obtain ⟨b, o, e, _, hb, hc⟩ := A.out (by intro e; subst e; simp at hjn)
      simp only [Option.some.injEq] at e
      subst e
      have e2 : (⟨b, o, none⟩ : Addr).add j = ⟨b, o + j, none⟩ := by unfold Addr.add; split <;> simp_all
      rw [e2, World.cell?_alloc_lt _ _ _ hb, hc j hjn]
      simp only [List.getElem?_map, List.getElem?_eq_getElem hjn, Option.map_some, Option.some.injEq] at hj
      simp [List.getElem?_eq_getElem hjn, hj]
    case qc3 => intro u hu; obtain ⟨x, _, rfl⟩ := List.mem_map.1 hu; rfl
    case qc4 => unfold maxLen; omega
    case qc5 => omega
    case qc6 => simp
    intro v' w1 hown hgrow hnil
    go_wp2
    go_ret
    refine ⟨v', rfl, BySl.own (by simpa using hown) h5 A6.out, ?_⟩
    exact ((Below.refl _ w).alloc (Nat.le_refl _) _).grown hgrow (by simp) (by intro k hk; simp [Value.ownBlock] at hk; omega)

set_option maxHeartbeats 400000 in
theorem number_any (n : Int) (w : World) :
    Calls Try.prog 67 #[.int .u64 n] w fun e w' => e = .returned (.agg #[.int .i64 1, .int .u64 n, .slice none 0 0, .slice none 0 0]) ∧ Below w.heap.size w w' := by
  go_enter Try.func67, Try.ntmps67
  go_wp2
  exact bodyPost_ret (v := .agg #[.int .i64 1, .int .u64 n, .slice none 0 0, .slice none 0 0]) (by simp [results, Try.results67, go_sem]) rfl ⟨rfl, (Below.refl _ _).alloc (Nat.le_refl _) _⟩

end Go.Proofs.Ytenfahecnkdhaaa.Tlv
end

section
/-
  What the small functions of tlv that make values do, and the reference's Bytes.
-/
namespace Go.Proofs.Ytenfahecnkdhaaa.Tlv
open Go.RowKit

theorem Agree.set4 {L B b : Nat} (w : World) (hp : b < L ∨ B ≤ b) (u0 u1 u2 u3 : Value) {o0 o1 o2 o3 : Nat} : Agree L B w ((((w.setCell ⟨b, o0, none⟩ u0).setCell ⟨b, o1, none⟩ u1).setCell ⟨b, o2, none⟩ u2).setCell ⟨b, o3, none⟩ u3) :=
  ((((Agree.refl L B w).setCell hp _).setCell hp _).setCell hp _).setCell hp _

theorem bset4 {B b : Nat} {w : World} (hp : B ≤ b) (u0 u1 u2 u3 : Value) {o0 o1 o2 o3 : Nat} : Below B w ((((w.setCell ⟨b, o0, none⟩ u0).setCell ⟨b, o1, none⟩ u1).setCell ⟨b, o2, none⟩ u2).setCell ⟨b, o3, none⟩ u3) :=
  ((((Below.refl B w).setCell hp _).setCell hp _).setCell hp _).setCell hp _

set_option maxHeartbeats 400000 in
theorem bytes_any (v : Value) (bs : List Int) (w : World) (h : BySl 0 w.heap.size w v bs) :
    Calls Try.prog 66 #[v] w fun e w' => ∃ v', e = .returned (.agg #[.int .i64 2, .int .u64 0, v', .slice none 0 0]) ∧ BySl w.heap.size w'.heap.size w' v' bs ∧ Below w.heap.size w w' := by
  obtain ⟨a, cap, rfl, hr⟩ := id h
  clear hr
  have H : Hid (BySl 0 w.heap.size w (.slice a bs.length cap) bs) := h
  clear h
  go_enter Try.func66, Try.ntmps66
  go_wp2_with fail
  refine (clone_bytes _ bs _ (H.out.agree ((Agree.refl _ _ _).alloc (Nat.le_refl _) _) (Nat.le_refl _) (by simp))).mono ?_
  rintro e w1 ⟨v', rfl, hv, hb⟩
  obtain ⟨a', cap', rfl, hr'⟩ := id hv
  clear hr'
  have hz : w.heap.size < w1.heap.size := by have := hb.size; simp at this; omega
  have Hv := hid hv
  have Hb := hid hb
  obtain ⟨hc, hf⟩ := bcell hb
  clear hv hb
  go_wp2_with fail
  refine bodyPost_ret (v := .agg #[.int .i64 2, .int .u64 0, .slice a' bs.length cap', .slice none 0 0]) (by simp [results, Try.results66, go_sem, hc]) rfl ⟨_, rfl, ?_, ?_⟩
  · exact Hv.out.agree (Agree.set4 _ (.inl (by simp)) _ _ _ _) (by simp) (by simp)
  · exact (((Below.refl _ w).alloc (Nat.le_refl _) _).trans (Hb.out.mono (by simp))).trans (bset4 (Nat.le_refl _) _ _ _ _)

set_option maxHeartbeats 400000 in
theorem refBytes_any (v v' : Value) (xs ys : List Int) (w : World) (h : BySl 0 w.heap.size w v xs) (h' : BySl 0 w.heap.size w v' ys) :
    Calls Try.prog 34 #[v, v'] w fun e w' => e = .returned (.bool (decide (xs = ys))) ∧ Below w.heap.size w w' := by
  obtain ⟨a, cap, rfl, h2, h3, h4, h5, h6, h7⟩ := h
  obtain ⟨a', cap', rfl, h2', h3', h4', h5', h6', h7'⟩ := h'
  have A := hid h7
  have A' := hid h7'
  clear h7 h7' h4 h4' h6 h6'
  by_cases hl : xs.length = ys.length
  · have hlb : ((xs.length : Int) != (ys.length : Int)) = false := by simp [hl]
    have HL := hid hl
    clear hl
    go_enter Try.func34, Try.ntmps34
    go_wp2
    go_loopw [5] (fun i wr => ∃ k : Nat, k ≤ xs.length ∧ i = .int .i64 k ∧ Hid (xs.take k = ys.take k) ∧ ∃ q, wr = w.drewN q) (fun i _ => xs.length - (intOf i).toNat)
    case atStart => exact ⟨0, Nat.zero_le _, rfl, by simp [Hid], 0, rfl⟩
    case round =>
      obtain ⟨k, hk, rfl, ht, q, rfl⟩ := hrel
      by_cases hlt : k < xs.length
      · have hlt' : k < ys.length := by have := HL.out; omega
        obtain ⟨b, o, rfl, _, _, hc⟩ := A.out (by intro e; subst e; simp at hlt)
        obtain ⟨b', o', rfl, _, _, hc'⟩ := A'.out (by intro e; subst e; simp at hlt')
        have c1 := hc k hlt
        have c2 := hc' k hlt'
        clear hc hc'
        have e1 : Hid (xs.take (k + 1) = xs.take k ++ [xs.getD k 0]) := by rw [List.take_succ_eq_append_getElem hlt]; simp [Hid, List.getElem?_eq_getElem hlt]
        have e2 : Hid (ys.take (k + 1) = ys.take k ++ [ys.getD k 0]) := by rw [List.take_succ_eq_append_getElem hlt']; simp [Hid, List.getElem?_eq_getElem hlt']
        generalize xs.getD k 0 = x at c1 e1
        generalize ys.getD k 0 = y at c2 e2
        by_cases hxy : x = y
        · subst hxy
          go_wp2_with fail
          go_quiet (fail)
          go_wp2
          go_roundw
          case rel => exact ⟨k + 1, by omega, by go_num, by rw [Hid, e1.out, e2.out, ht.out], _, rfl⟩
          case measure => simp [intOf]; omega
        · have hb : (x != y) = true := by simpa using hxy
          go_wp2_with fail
          go_quiet (fail)
          go_wp2
          go_ret
          refine ⟨?_, ?_⟩
          · rw [decide_eq_false (by intro e; apply hxy; have h1 := e1.out; rw [e, e2.out] at h1; have := (List.append_inj' h1 rfl).2; simpa using this.symm)]
            rfl
          · exact below_drewN (below_drewN (Below.refl _ _) _) _
      · go_wp2
        go_ret
        refine ⟨?_, ?_⟩
        · rw [decide_eq_true (by have := ht.out; have hL := HL.out; rwa [List.take_of_length_le (by omega), List.take_of_length_le (by omega)] at this)]
          rfl
        · exact below_drewN (Below.refl _ _) _
  · have hlb : ((xs.length : Int) != (ys.length : Int)) = true := by simp; omega
    go_enter Try.func34, Try.ntmps34
    go_wp2
    go_ret
    refine ⟨?_, Below.refl _ _⟩
    rw [decide_eq_false (by intro e; exact hl (by rw [e]))]
    rfl

end Go.Proofs.Ytenfahecnkdhaaa.Tlv
end

section
/-
  A text turned into bytes: []byte(s).
-/
namespace Go.Proofs.Ytenfahecnkdhaaa.Nd
open Go.RowKit

theorem bytesOf_get (nm : List Int) (i : Nat) (h : i < nm.length) (hr : ∀ x ∈ nm, 0 ≤ x ∧ x ≤ 255) : (Lib.bytesOf nm)[i]? = some (UInt8.ofNat (nm.getD i 0).toNat) ∧ ((UInt8.ofNat (nm.getD i 0).toNat).toNat : Int) = nm.getD i 0 := by
  have e : nm.getD i 0 = nm[i] := by rw [List.getD_eq_getElem?_getD, List.getElem?_eq_getElem h, Option.getD_some]
  have hx := hr nm[i] (List.getElem_mem h)
  rw [e]
  refine ⟨?_, ?_⟩
  · unfold Lib.bytesOf
    simp [List.getElem?_map, List.getElem?_eq_getElem h]
  · simp
    omega

/-- What []byte(s) makes of a text. -/
theorem conv_txt (nm : List Int) (hr : ∀ x ∈ nm, 0 ≤ x ∧ x ≤ 255) (hl : nm.length ≤ 1000000) (w : World) :
    ∃ cap W, (convert 9 26 (.string (txt nm))).run Try.prog w = .ok (.slice (some ⟨w.heap.size, 0, none⟩) nm.length cap) W ∧ Tlv.BySl w.heap.size W.heap.size W (.slice (some ⟨w.heap.size, 0, none⟩) nm.length cap) nm ∧ Below w.heap.size w W := by
  have h := run_bytes_of_string (P := Try.prog) w 9 26 5 (txt nm) Try.underlying9 Try.underlying26 Try.underlying5
  have hs := txt_size nm
  rw [hs] at h
  refine ⟨_, _, h, ?_, ?_⟩
  · have hg := grownCap_ge w nm.length 0 5
    have hm := grownCap_le_maxLen w nm.length 0 5 (by unfold maxLen; omega)
    generalize grownCap w nm.length 0 5 = C at *
    refine ⟨_, C, rfl, hg, hm, by simp, by omega, hr, fun _ => ⟨w.heap.size, 0, rfl, Nat.le_refl _, by simp, fun i hi => ?_⟩⟩
    obtain ⟨h1, h2⟩ := bytesOf_get nm i hi hr
    have hcell : (w.drew.alloc (.cells (bytesRow (txt nm) C) 5 ((bytesRow (txt nm) C).size, (bytesRow (txt nm) C).size + 1))).cell? ⟨w.heap.size, 0 + i, none⟩ = (bytesRow (txt nm) C)[i]? := by
      rw [Nat.zero_add]
      generalize bytesRow (txt nm) C = R
      have hh : (w.drew.alloc (.cells R 5 (R.size, R.size + 1))).heap[w.heap.size]? = some (.cells R 5 (R.size, R.size + 1)) := by
        show (w.heap.push _)[w.heap.size]? = _
        simp
      unfold World.cell?
      simp only [hh]
      rfl
    rw [hcell]
    unfold bytesRow
    have hsz : i < ((txt nm).data.map (fun b => Value.int .u8 (b.toNat : Int))).size := by
      rw [Array.size_map]
      have : (txt nm).data.size = nm.length := hs
      omega
    rw [Array.getElem?_append_left hsz, Array.getElem?_map]
    have e : (txt nm).data[i]? = some (UInt8.ofNat (nm.getD i 0).toNat) := by
      show ((Lib.bytesOf nm).toArray)[i]? = _
      rw [List.getElem?_toArray]
      exact h1
    rw [e, Option.map_some, h2]
  · exact ((Below.refl _ _).drew).alloc (by simp) _

end Go.Proofs.Ytenfahecnkdhaaa.Nd
end

section
/-
  Same, of the document's objects; Own and Back of them.
-/
namespace Go.Proofs.Ytenfahecnkdhaaa.Nd
open Go.RowKit
open Sim (hid Kp No)
set_option maxHeartbeats 1000000 in
theorem ownObj_any (w : World) (k : Int) (x : Option Addr) (n c : Nat) :
    Calls Try.prog 19 #[.agg #[.int .i64 k, .slice x n c]] w fun e w' => e = .returned (.agg #[.int .i64 k, .slice x n c]) ∧ Kp No w w' := by
  go_enter Try.func19, Try.ntmps19
  go_wp2
  refine bodyPost_ret (v := .agg #[.int .i64 k, .slice x n c]) (by simp [results, Try.results19, go_sem]) rfl ⟨rfl, ((Kp.refl No w).alloc _).alloc _⟩
end Go.Proofs.Ytenfahecnkdhaaa.Nd
end

section
/-
  Hashes, of the document: are two lists of names the same?
-/
namespace Go.Proofs.Ytenfahecnkdhaaa.Nd
open Go.RowKit
open Sim (hid Kp No)

/-- A hash's bytes. -/
def HOk (h : List Int) : Prop := h.length = 32 ∧ ∀ x ∈ h, 0 ≤ x ∧ x ≤ 255
/-- Block g holds the hashes d from o on, to be read. -/
def HRow (w : World) (g o : Nat) (d : List (List Int)) : Prop := g < w.heap.size ∧ ∀ i h, d[i]? = some h → HOk h ∧ w.rangeAt g (o + i * 32) (b8 h)
theorem HRow.kp {L : Nat → Prop} {w w' : World} {g o : Nat} {d : List (List Int)} (h : HRow w g o d) (k : Kp L w w') (hg : ¬ L g) : HRow w' g o d :=
  ⟨Nat.lt_of_lt_of_le h.1 k.size, fun i e hi => ⟨(h.2 i e hi).1, fun j v hv => (k.cell (p := ⟨g, _, none⟩) h.1 hg).trans ((h.2 i e hi).2 j v hv)⟩⟩
/-- v is a slice of the hashes d, in a block of which P. -/
def HV (P : Nat → Prop) (w : World) (v : Value) (d : List (List Int)) : Prop :=
  ∃ a c, v = .slice a d.length c ∧ d.length ≤ c ∧ c ≤ maxLen ∧ (a = none → d = [] ∧ c = 0) ∧ (∀ h ∈ d, HOk h) ∧ (d ≠ [] → ∃ g o, a = some ⟨g, o, none⟩ ∧ P g ∧ HRow w g o d)
theorem HV.nil (P : Nat → Prop) (w : World) : HV P w (.slice none 0 0) [] := ⟨none, 0, rfl, Nat.le_refl _, Nat.zero_le _, fun _ => ⟨rfl, rfl⟩, by simp, by simp⟩
theorem HV.kept {P : Nat → Prop} {w w' : World} {v : Value} {d : List (List Int)} (h : HV P w v d) (k : Kp No w w') : HV P w' v d := by
  obtain ⟨a, c, e, h2, h3, h4, h5, h6⟩ := h
  refine ⟨a, c, e, h2, h3, h4, h5, fun hne => ?_⟩
  obtain ⟨g, o, e1, hp, hr⟩ := h6 hne
  exact ⟨g, o, e1, hp, hr.kp k (fun x => x)⟩
theorem hv_row {P : Nat → Prop} {w : World} {a : Option Addr} {n c : Nat} {d : List (List Int)} (h : HV P w (.slice a n c) d) (hd : d ≠ []) : ∃ g o, a = some ⟨g, o, none⟩ ∧ P g ∧ HRow w g o d := by
  obtain ⟨a', c', e, _, _, _, _, h6⟩ := h
  simp only [Value.slice.injEq] at e
  rw [e.1]
  exact h6 hd

set_option maxHeartbeats 2000000 in
set_option maxRecDepth 100000 in
theorem hashes_any (w : World) (v v' : Value) (a b : List (List Int)) (P P' : Nat → Prop) (hv : HV P w v a) (hv' : HV P' w v' b) (hl : a.length ≤ 1000000) :
    Calls Try.prog 29 #[v, v'] w fun e w' => e = .returned (.bool (decide (a = b))) ∧ Kp No w w' := by
  have HV := hid hv
  have HV' := hid hv'
  obtain ⟨x1, c1, e1, _⟩ := hv
  obtain ⟨x2, c2, e2, _⟩ := hv'
  subst e1
  subst e2
  obtain ⟨n, hn⟩ : ∃ n, a.length = n := ⟨_, rfl⟩
  obtain ⟨m, hm⟩ : ∃ m, b.length = m := ⟨_, rfl⟩
  have HN := hid hn
  have HM := hid hm
  rw [hn] at HV hl ⊢
  rw [hm] at HV' ⊢
  clear hn hm
  obtain ⟨z, hz⟩ : ∃ z, decide (a = b) = z := ⟨_, rfl⟩
  rw [hz]
  have HZ := hid hz
  clear hz
  by_cases hnm : n = m
  · subst hnm
    go_enter Try.func29, Try.ntmps29
    go_wp2_with fail
    go_loopw [5] (fun v5 wr => ∃ (k : Nat), v5 = .int .i64 (k : Int) ∧ k ≤ n ∧ Hid (a.take k = b.take k) ∧ Hid (Kp No w wr)) (fun v5 _ => n - (intOf v5).toNat)
    case atStart => exact ⟨0, rfl, Nat.zero_le _, rfl, Kp.refl _ _⟩
    case round =>
      obtain ⟨k, rfl, hkn, HS, HK⟩ := hrel
      by_cases hlt : k < n
      · have hltI : (k : Int) < (n : Int) := by omega
        have hwk : IntKind.i64.wrap ((k : Int) + 1) = ((k + 1 : Nat) : Int) := by rw [IntKind.wrap_i64]; omega
        obtain ⟨x, hx⟩ : ∃ x, a[k]? = some x := ⟨_, List.getElem?_eq_getElem (by rw [HN.out]; exact hlt)⟩
        obtain ⟨y, hy⟩ : ∃ y, b[k]? = some y := ⟨_, List.getElem?_eq_getElem (by rw [HM.out]; exact hlt)⟩
        obtain ⟨g, o, rfl, _, hr⟩ := hv_row (HV.out.kept HK.out) (by intro e; have := HN.out; rw [e] at this; simp at this; omega)
        obtain ⟨g', o', rfl, _, hr'⟩ := hv_row (HV'.out.kept HK.out) (by intro e; have := HM.out; rw [e] at this; simp at this; omega)
        obtain ⟨hxo, hxr⟩ := hr.2 k x hx
        obtain ⟨hyo, hyr⟩ := hr'.2 k y hy
        have HQ := hid (fun W => eqHashAt 9998 x y hxo.1 hyo.1 hxo.2 hyo.2 W)
        have hq := HQ.out
        have HX := hid hxr
        have HY := hid hyr
        have HI1 : Hid ((Try.prog.info? 68).map (·.size) = some (b8 x).length) := by rw [Hid, b8_length, hxo.1]; kernel_rfl
        have HI2 : Hid ((Try.prog.info? 68).map (·.size) = some (b8 y).length) := by rw [Hid, b8_length, hyo.1]; kernel_rfl
        have HGW := hid hr.1
        have HGW' := hid hr'.1
        have HGX := hid hx
        have HGY := hid hy
        clear hr hr' hxo hyo hxr hyr hx hy HQ
        obtain ⟨zz, hzz⟩ : ∃ zz, decide (x = y) = zz := ⟨_, rfl⟩
        rw [hzz] at hq
        have HZZ := hid hzz
        clear hzz
        generalize b8 x = X at *
        generalize b8 y = Y at *
        have HLX : Hid (∀ V, Kp No wr V → V.rangeAt g (o + k * 32) X) := fun V hV j u hj => (hV.cell (p := ⟨g, _, none⟩) HGW.out (fun x => x)).trans (HX.out j u hj)
        have HLY : Hid (∀ V, Kp No wr V → V.rangeAt g' (o' + k * 32) Y) := fun V hV j u hj => (hV.cell (p := ⟨g', _, none⟩) HGW'.out (fun x => x)).trans (HY.out j u hj)
        cases zz with
        | true =>
          have HN2 : Hid (a.take (k + 1) = b.take (k + 1)) := by
            rw [Hid, List.take_add_one, List.take_add_one, HS.out, HGX.out, HGY.out, of_decide_eq_true HZZ.out]
          go_wp2_with fail
          refine wp_region_held_drew (S := fun V => Kp No wr V) (by kernel_rfl) ((Kp.refl _ _).drew) (fun hHeld => ?_)
          refine wpAnyH_take (i := 0) (oi := { dst := some 17, op := Op.move (Operand.tmp 0), type := 22, pos := "ref.go:225", after := #[], guard := none }) (v := .slice (some ⟨g, o, none⟩) n c1) rfl (by kernel_rfl) (by kernel_rfl) (by kernel_rfl) (fun _ _ _ h => h) (Or.inl ⟨by rfl, fun w' hw' => by (clear hw'; go_simp)⟩) hHeld ?_
          simp only [Act.put, List.setIfInBounds_toArray, List.set_cons_zero, List.set_cons_succ]
          refine wpAnyH_take (i := 1) (oi := { dst := some 18, op := Op.move (Operand.tmp 5), type := 3, pos := "ref.go:225", after := #[], guard := none }) (v := .int .i64 (k : Int)) rfl (by kernel_rfl) (by kernel_rfl) (by kernel_rfl) (fun _ _ _ h => h) (Or.inl ⟨by rfl, fun w' hw' => by (clear hw'; go_simp)⟩) hHeld ?_
          simp only [Act.put, List.setIfInBounds_toArray, List.set_cons_zero, List.set_cons_succ]
          refine wpAnyH_take (i := 2) (oi := { dst := some 19, op := Op.indexAddr 22 (Operand.tmp 17) (Operand.tmp 18), type := 0, pos := "ref.go:225", after := #[{ on := 0, ground := Ground.data }, { on := 1, ground := Ground.data }], guard := none }) (v := .pointer (some ⟨g, o + k * 32, none⟩)) rfl (by kernel_rfl) (by kernel_rfl) (by kernel_rfl) (fun _ _ _ h => h) (Or.inl ⟨by rfl, fun w' hw' => by (clear hw'; go_simp)⟩) hHeld ?_
          simp only [Act.put, List.setIfInBounds_toArray, List.set_cons_zero, List.set_cons_succ]
          refine wpAnyH_take (i := 3) (oi := { dst := some 20, op := Op.load 68 (Operand.tmp 19), type := 68, pos := "ref.go:225", after := #[{ on := 2, ground := Ground.data }], guard := none }) (v := .agg X.toArray) rfl (by kernel_rfl) (by kernel_rfl) (by kernel_rfl) (fun _ _ _ h => h) (yieldsIf_load_mid (by rfl) _ _ rfl g (o + k * 32) rfl X _ (HLX.out) Try.underlying68 rfl HI1.out) hHeld ?_
          simp only [Act.put, List.setIfInBounds_toArray, List.set_cons_zero, List.set_cons_succ]
          refine wpAnyH_take (i := 4) (oi := { dst := some 21, op := Op.move (Operand.tmp 1), type := 22, pos := "ref.go:225", after := #[], guard := none }) (v := .slice (some ⟨g', o', none⟩) n c2) rfl (by kernel_rfl) (by kernel_rfl) (by kernel_rfl) (fun _ _ _ h => h) (Or.inl ⟨by rfl, fun w' hw' => by (clear hw'; go_simp)⟩) hHeld ?_
          simp only [Act.put, List.setIfInBounds_toArray, List.set_cons_zero, List.set_cons_succ]
          refine wpAnyH_take (i := 5) (oi := { dst := some 22, op := Op.move (Operand.tmp 5), type := 3, pos := "ref.go:225", after := #[], guard := none }) (v := .int .i64 (k : Int)) rfl (by kernel_rfl) (by kernel_rfl) (by kernel_rfl) (fun _ _ _ h => h) (Or.inl ⟨by rfl, fun w' hw' => by (clear hw'; go_simp)⟩) hHeld ?_
          simp only [Act.put, List.setIfInBounds_toArray, List.set_cons_zero, List.set_cons_succ]
          refine wpAnyH_take (i := 6) (oi := { dst := some 23, op := Op.indexAddr 22 (Operand.tmp 21) (Operand.tmp 22), type := 0, pos := "ref.go:225", after := #[{ on := 4, ground := Ground.data }, { on := 5, ground := Ground.data }], guard := none }) (v := .pointer (some ⟨g', o' + k * 32, none⟩)) rfl (by kernel_rfl) (by kernel_rfl) (by kernel_rfl) (fun _ _ _ h => h) (Or.inl ⟨by rfl, fun w' hw' => by (clear hw'; go_simp)⟩) hHeld ?_
          simp only [Act.put, List.setIfInBounds_toArray, List.set_cons_zero, List.set_cons_succ]
          refine wpAnyH_take (i := 7) (oi := { dst := some 24, op := Op.load 68 (Operand.tmp 23), type := 68, pos := "ref.go:225", after := #[{ on := 6, ground := Ground.data }], guard := none }) (v := .agg Y.toArray) rfl (by kernel_rfl) (by kernel_rfl) (by kernel_rfl) (fun _ _ _ h => h) (yieldsIf_load_mid (by rfl) _ _ rfl g' (o' + k * 32) rfl Y _ (HLY.out) Try.underlying68 rfl HI2.out) hHeld ?_
          simp only [Act.put, List.setIfInBounds_toArray, List.set_cons_zero, List.set_cons_succ]
          refine wpAnyH_take (i := 8) (oi := { dst := some 25, op := Op.binOp BinOp.neq 68 (Operand.tmp 20) (Operand.tmp 24) 68, type := 4, pos := "ref.go:225", after := #[{ on := 3, ground := Ground.data }, { on := 7, ground := Ground.data }], guard := none }) (v := .bool false) rfl (by kernel_rfl) (by kernel_rfl) (by kernel_rfl) (fun _ _ _ h => h) (Or.inl ⟨by rfl, fun w' hw' => by (clear hw'; go_simp)⟩) hHeld ?_
          simp only [Act.put, List.setIfInBounds_toArray, List.set_cons_zero, List.set_cons_succ]
          refine wpAnyH_done (by kernel_rfl) ?_ _
          clear hHeld
          go_wp2_with fail
          go_round
          case rel => exact ⟨k + 1, by first | rfl | go_num, by omega, HN2.out, HK.out.drew⟩
          case measure => simp [intOf]; omega
        | false =>
          have HNO : Hid (z = false) := by
            rw [Hid, ← HZ.out, decide_eq_false_iff_not]
            intro e
            have h1 := HGX.out
            rw [e, HGY.out] at h1
            cases h1
            have h2 := HZZ.out
            simp at h2
          go_wp2_with fail
          refine wp_region_held_drew (S := fun V => Kp No wr V) (by kernel_rfl) ((Kp.refl _ _).drew) (fun hHeld => ?_)
          refine wpAnyH_take (i := 0) (oi := { dst := some 17, op := Op.move (Operand.tmp 0), type := 22, pos := "ref.go:225", after := #[], guard := none }) (v := .slice (some ⟨g, o, none⟩) n c1) rfl (by kernel_rfl) (by kernel_rfl) (by kernel_rfl) (fun _ _ _ h => h) (Or.inl ⟨by rfl, fun w' hw' => by (clear hw'; go_simp)⟩) hHeld ?_
          simp only [Act.put, List.setIfInBounds_toArray, List.set_cons_zero, List.set_cons_succ]
          refine wpAnyH_take (i := 1) (oi := { dst := some 18, op := Op.move (Operand.tmp 5), type := 3, pos := "ref.go:225", after := #[], guard := none }) (v := .int .i64 (k : Int)) rfl (by kernel_rfl) (by kernel_rfl) (by kernel_rfl) (fun _ _ _ h => h) (Or.inl ⟨by rfl, fun w' hw' => by (clear hw'; go_simp)⟩) hHeld ?_
          simp only [Act.put, List.setIfInBounds_toArray, List.set_cons_zero, List.set_cons_succ]
          refine wpAnyH_take (i := 2) (oi := { dst := some 19, op := Op.indexAddr 22 (Operand.tmp 17) (Operand.tmp 18), type := 0, pos := "ref.go:225", after := #[{ on := 0, ground := Ground.data }, { on := 1, ground := Ground.data }], guard := none }) (v := .pointer (some ⟨g, o + k * 32, none⟩)) rfl (by kernel_rfl) (by kernel_rfl) (by kernel_rfl) (fun _ _ _ h => h) (Or.inl ⟨by rfl, fun w' hw' => by (clear hw'; go_simp)⟩) hHeld ?_
          simp only [Act.put, List.setIfInBounds_toArray, List.set_cons_zero, List.set_cons_succ]
          refine wpAnyH_take (i := 3) (oi := { dst := some 20, op := Op.load 68 (Operand.tmp 19), type := 68, pos := "ref.go:225", after := #[{ on := 2, ground := Ground.data }], guard := none }) (v := .agg X.toArray) rfl (by kernel_rfl) (by kernel_rfl) (by kernel_rfl) (fun _ _ _ h => h) (yieldsIf_load_mid (by rfl) _ _ rfl g (o + k * 32) rfl X _ (HLX.out) Try.underlying68 rfl HI1.out) hHeld ?_
          simp only [Act.put, List.setIfInBounds_toArray, List.set_cons_zero, List.set_cons_succ]
          refine wpAnyH_take (i := 4) (oi := { dst := some 21, op := Op.move (Operand.tmp 1), type := 22, pos := "ref.go:225", after := #[], guard := none }) (v := .slice (some ⟨g', o', none⟩) n c2) rfl (by kernel_rfl) (by kernel_rfl) (by kernel_rfl) (fun _ _ _ h => h) (Or.inl ⟨by rfl, fun w' hw' => by (clear hw'; go_simp)⟩) hHeld ?_
          simp only [Act.put, List.setIfInBounds_toArray, List.set_cons_zero, List.set_cons_succ]
          refine wpAnyH_take (i := 5) (oi := { dst := some 22, op := Op.move (Operand.tmp 5), type := 3, pos := "ref.go:225", after := #[], guard := none }) (v := .int .i64 (k : Int)) rfl (by kernel_rfl) (by kernel_rfl) (by kernel_rfl) (fun _ _ _ h => h) (Or.inl ⟨by rfl, fun w' hw' => by (clear hw'; go_simp)⟩) hHeld ?_
          simp only [Act.put, List.setIfInBounds_toArray, List.set_cons_zero, List.set_cons_succ]
          refine wpAnyH_take (i := 6) (oi := { dst := some 23, op := Op.indexAddr 22 (Operand.tmp 21) (Operand.tmp 22), type := 0, pos := "ref.go:225", after := #[{ on := 4, ground := Ground.data }, { on := 5, ground := Ground.data }], guard := none }) (v := .pointer (some ⟨g', o' + k * 32, none⟩)) rfl (by kernel_rfl) (by kernel_rfl) (by kernel_rfl) (fun _ _ _ h => h) (Or.inl ⟨by rfl, fun w' hw' => by (clear hw'; go_simp)⟩) hHeld ?_
          simp only [Act.put, List.setIfInBounds_toArray, List.set_cons_zero, List.set_cons_succ]
          refine wpAnyH_take (i := 7) (oi := { dst := some 24, op := Op.load 68 (Operand.tmp 23), type := 68, pos := "ref.go:225", after := #[{ on := 6, ground := Ground.data }], guard := none }) (v := .agg Y.toArray) rfl (by kernel_rfl) (by kernel_rfl) (by kernel_rfl) (fun _ _ _ h => h) (yieldsIf_load_mid (by rfl) _ _ rfl g' (o' + k * 32) rfl Y _ (HLY.out) Try.underlying68 rfl HI2.out) hHeld ?_
          simp only [Act.put, List.setIfInBounds_toArray, List.set_cons_zero, List.set_cons_succ]
          refine wpAnyH_take (i := 8) (oi := { dst := some 25, op := Op.binOp BinOp.neq 68 (Operand.tmp 20) (Operand.tmp 24) 68, type := 4, pos := "ref.go:225", after := #[{ on := 3, ground := Ground.data }, { on := 7, ground := Ground.data }], guard := none }) (v := .bool true) rfl (by kernel_rfl) (by kernel_rfl) (by kernel_rfl) (fun _ _ _ h => h) (Or.inl ⟨by rfl, fun w' hw' => by (clear hw'; go_simp)⟩) hHeld ?_
          simp only [Act.put, List.setIfInBounds_toArray, List.set_cons_zero, List.set_cons_succ]
          refine wpAnyH_done (by kernel_rfl) ?_ _
          clear hHeld
          go_wp2_with fail
          go_ret
          exact ⟨by rw [HNO.out]; rfl, HK.out.drew⟩
      · have hltI : ¬ (k : Int) < (n : Int) := by omega
        have HYE : Hid (z = true) := by
          rw [Hid, ← HZ.out, decide_eq_true_eq]
          have h := HS.out
          rwa [List.take_of_length_le (by rw [HN.out]; omega), List.take_of_length_le (by rw [HM.out]; omega)] at h
        go_wp2_with fail
        go_ret
        exact ⟨by rw [HYE.out]; rfl, HK.out⟩
  · have hne : ((n : Int) != (m : Int)) = true := by simp; omega
    have HNO : Hid (z = false) := by
      rw [Hid, ← HZ.out, decide_eq_false_iff_not]
      intro e
      exact hnm (by rw [← HN.out, ← HM.out, e])
    go_enter Try.func29, Try.ntmps29
    go_wp2_with fail
    go_ret
    exact ⟨by rw [HNO.out]; rfl, Kp.refl _ _⟩
end Go.Proofs.Ytenfahecnkdhaaa.Nd
end

section
/-
  RightFile, of the document, and Chunk of it.
-/
namespace Go.Proofs.Ytenfahecnkdhaaa.Nd
open Go.RowKit
open Sim (hid Kp No)

/-- A file of that size and so many chunks may be. -/
def fileB (s : Int) (n : Nat) : Bool := decide (0 ≤ s ∧ s ≤ 2000 ∧ (n : Int) ≤ s ∧ (s = 0 ∨ 0 < n))

set_option maxHeartbeats 2000000 in
theorem rightFile_any (w : World) (s : Int) (x : Option Addr) (n c : Nat) :
    Calls Try.prog 40 #[.agg #[.int .i64 s, .slice x n c]] w fun e w' => e = .returned (.bool (fileB s n)) ∧ Kp No w w' := by
  have HK : Hid (Kp No w (w.alloc (.cells #[.int .i64 s, .slice x n c] 24))) := (Kp.refl No w).alloc _
  have fin : ∀ b, (b = true ↔ (0 ≤ s ∧ s ≤ 2000 ∧ (n : Int) ≤ s ∧ (s = 0 ∨ 0 < n))) → fileB s n = b := fun b h => by
    unfold fileB
    rw [Bool.eq_iff_iff, decide_eq_true_eq]
    exact h.symm
  have HF := hid fin
  clear fin
  by_cases h1 : 0 ≤ s
  · by_cases h2 : s ≤ 2000
    · by_cases h3 : (n : Int) ≤ s
      · by_cases h4 : s = 0
        · have e := HF.out true ⟨fun _ => ⟨h1, h2, h3, .inl h4⟩, fun _ => rfl⟩
          rw [e]
          have h4b : (s == 0) = true := by simpa using h4
          clear h4 e
          go_enter Try.func40, Try.ntmps40
          go_wp2
          go_ret
          exact ⟨rfl, HK.out⟩
        · have h4b : (s == 0) = false := by simpa using h4
          by_cases h5 : 0 < n
          · have e := HF.out true ⟨fun _ => ⟨h1, h2, h3, .inr h5⟩, fun _ => rfl⟩
            rw [e]
            have h5I : (0 : Int) < (n : Int) := by omega
            clear e h4
            go_enter Try.func40, Try.ntmps40
            go_wp2
            go_ret
            exact ⟨rfl, HK.out⟩
          · have e := HF.out false ⟨fun h => (by cases h), fun h => (by rcases h.2.2.2 with h | h; exact absurd h h4; exact absurd h h5)⟩
            rw [e]
            have h5I : ¬ (0 : Int) < (n : Int) := by omega
            clear e h4
            go_enter Try.func40, Try.ntmps40
            go_wp2
            go_ret
            exact ⟨rfl, HK.out⟩
      · have e := HF.out false ⟨fun h => (by cases h), fun h => absurd h.2.2.1 h3⟩
        rw [e]
        clear e
        go_enter Try.func40, Try.ntmps40
        go_wp2
        go_ret
        exact ⟨rfl, HK.out⟩
    · have e := HF.out false ⟨fun h => (by cases h), fun h => absurd h.2.1 h2⟩
      rw [e]
      clear e
      go_enter Try.func40, Try.ntmps40
      go_wp2
      go_ret
      exact ⟨rfl, HK.out⟩
  · have e := HF.out false ⟨fun h => (by cases h), fun h => absurd h.1 h1⟩
    rw [e]
    clear e
    go_enter Try.func40, Try.ntmps40
    go_wp2
    go_ret
    exact ⟨rfl, HK.out⟩

end Go.Proofs.Ytenfahecnkdhaaa.Nd
end

section
/-
  A slice of values that a call builds by append, one behind the other: how it lies in memory.
-/
namespace Go.Proofs.Ytenfahecnkdhaaa.Tlv
open Go.RowKit

def cell4 {n : Nat} (t : Tr n) (p : Value × Value) : List Value := [.int .i64 t.hd.1, .int .u64 t.hd.2.1, p.1, p.2]

def cellsK {n : Nat} : List (Tr n) → List (Value × Value) → List Value
  | t :: ts, p :: ps => cell4 t p ++ cellsK ts ps
  | _, _ => []

theorem cellsK_snoc {n : Nat} (t : Tr n) (p : Value × Value) : ∀ (ts : List (Tr n)) (ps : List (Value × Value)), ps.length = ts.length → cellsK (ts ++ [t]) (ps ++ [p]) = cellsK ts ps ++ cell4 t p
  | [], [], _ => by simp [cellsK]
  | [], _ :: _, h => by simp at h
  | _ :: _, [], h => by simp at h
  | t' :: ts, p' :: ps, h => by
    simp only [List.cons_append, cellsK, List.append_assoc]
    rw [cellsK_snoc t p ts ps (by simpa using h)]

theorem cellsK_at {n : Nat} : ∀ (ts : List (Tr n)) (ps : List (Value × Value)) (j : Nat) (t : Tr n) (p : Value × Value) (r : Nat), ts[j]? = some t → ps[j]? = some p → r < 4 → (cellsK ts ps)[j * 4 + r]? = (cell4 t p)[r]?
  | [], _, _, _, _, _, h, _, _ => by simp at h
  | _ :: _, [], _, _, _, _, _, h, _ => by simp at h
  | t' :: ts, p' :: ps, 0, t, p, r, h1, h2, h3 => by
    simp only [List.getElem?_cons_zero, Option.some.injEq] at h1 h2
    subst h1 h2
    simp only [cellsK, Nat.zero_mul, Nat.zero_add]
    rw [List.getElem?_append_left (by simpa [cell4] using h3)]
  | t' :: ts, p' :: ps, j + 1, t, p, r, h1, h2, h3 => by
    simp only [List.getElem?_cons_succ] at h1 h2
    simp only [cellsK]
    rw [List.getElem?_append_right (by simp [cell4]; omega), ← cellsK_at ts ps j t p r h1 h2 h3]
    congr 1
    simp [cell4]
    omega

/-- v is a slice of the values ts that the call itself has built, in blocks from base on: its row, and where each value lies, which is none of the row. -/
def CInv {n : Nat} (base : Nat) (ts : List (Tr n)) (v : Value) (w : World) : Prop :=
  ∃ ps : List (Value × Value), ps.length = ts.length ∧ w.ownsRow base 95 4 v ts.length (cellsK ts ps) ∧
    ∀ (j : Nat) (t : Tr n) (p : Value × Value), ts[j]? = some t → ps[j]? = some p → ∃ L B, Rep L B w n t p.1 p.2 ∧ base ≤ L ∧ B ≤ w.heap.size ∧ (∀ r, v.ownBlock = some r → r < L ∨ B ≤ r)

theorem CInv.nil {n : Nat} (base : Nat) (w : World) : CInv base ([] : List (Tr n)) (.slice none 0 0) w := ⟨[], rfl, World.ownsRow_nil _ _ _ _, by simp⟩

theorem ownsRow_agree {w w' : World} {base e size n : Nat} {v : Value} {xs : List Value} (h : w.ownsRow base e size v n xs) (hA : Agree base w.heap.size w w') : w'.ownsRow base e size v n xs := by
  obtain ⟨h1, h2⟩ := h
  refine ⟨h1, ?_⟩
  rcases h2 with h2 | ⟨g, cap, cur, hv, hg, hh, r⟩
  · exact Or.inl h2
  · exact Or.inr ⟨g, cap, cur, hv, hg, by rw [hA g hg (Array.getElem?_eq_some_iff.1 hh).1]; exact hh, r⟩

theorem CInv.agree {n base : Nat} {ts : List (Tr n)} {v : Value} {w w' : World} (h : CInv base ts v w) (hA : Agree base w.heap.size w w') (hs : w.heap.size ≤ w'.heap.size) : CInv base ts v w' := by
  obtain ⟨ps, hl, hown, hk⟩ := h
  refine ⟨ps, hl, ownsRow_agree hown hA, fun j t p hj hp => ?_⟩
  obtain ⟨L, B, hr, hL, hB, hd⟩ := hk j t p hj hp
  exact ⟨L, B, hr.agree (hA.mono hL hB) (Nat.le_refl _) (Nat.le_refl _), hL, by omega, hd⟩

theorem CInv.lt {n base : Nat} {ts : List (Tr n)} {v : Value} {w : World} (h : CInv base ts v w) : ∀ r, v.ownBlock = some r → base ≤ r ∧ r < w.heap.size := by
  obtain ⟨ps, hl, hown, _⟩ := h
  exact hown.lt

theorem CInv.form {n base : Nat} {ts : List (Tr n)} {v : Value} {w : World} (h : CInv base ts v w) : ∃ a c, v = .slice a ts.length c := by
  obtain ⟨ps, hl, hown, _⟩ := h
  rcases hown.2 with ⟨rfl, h0⟩ | ⟨g, cap, cur, rfl, _⟩
  · exact ⟨_, _, by rw [h0]⟩
  · exact ⟨_, _, rfl⟩

/-- One value more, behind the append that lays it. -/
theorem CInv.push {n base g cap L B : Nat} {ts : List (Tr n)} {t : Tr n} {v sb sk : Value} {ps : List (Value × Value)} {w w' : World} (hl : ps.length = ts.length)
    (hk : ∀ (j : Nat) (t : Tr n) (p : Value × Value), ts[j]? = some t → ps[j]? = some p → ∃ L B, Rep L B w n t p.1 p.2 ∧ base ≤ L ∧ B ≤ w.heap.size ∧ (∀ r, v.ownBlock = some r → r < L ∨ B ≤ r))
    (hr : Rep L B w n t sb sk) (hL : base ≤ L) (hB : B ≤ w.heap.size) (hd : ∀ r, v.ownBlock = some r → r < L ∨ B ≤ r)
    (hown : w'.ownsRow base 95 4 (.slice (some ⟨g, 0, none⟩) (ts.length + 1) cap) (ts.length + 1) (cellsK ts ps ++ cell4 t (sb, sk))) (hgrow : w.grownBy w' v.ownBlock) (hat : v.ownBlock = some g ∨ g = w.heap.size) :
    CInv base (ts ++ [t]) (.slice (some ⟨g, 0, none⟩) (ts.length + 1) cap) w' := by
  have old : ∀ {L B : Nat} {t : Tr n} {sb sk : Value}, Rep L B w n t sb sk → base ≤ L → B ≤ w.heap.size → (∀ r, v.ownBlock = some r → r < L ∨ B ≤ r) →
      Rep L B w' n t sb sk ∧ base ≤ L ∧ B ≤ w'.heap.size ∧ (∀ r, (Value.slice (some ⟨g, 0, none⟩) (ts.length + 1) cap).ownBlock = some r → r < L ∨ B ≤ r) := by
    intro L B t sb sk hr hL hB hd
    refine ⟨hr.agree (fun k h1 h2 => hgrow.block k (by omega) (fun e => by have := hd k e.symm; omega)) (Nat.le_refl _) (Nat.le_refl _), hL, by have := hgrow.size; omega, ?_⟩
    intro r e
    simp only [Value.ownBlock, Option.some.injEq] at e
    subst e
    rcases hat with hat | hat
    · exact hd _ hat
    · omega
  refine ⟨ps ++ [(sb, sk)], by simp [hl], ?_, ?_⟩
  · rw [cellsK_snoc _ _ _ _ hl]
    simpa using hown
  · intro j t' p hj hp
    by_cases hlt : j < ts.length
    · rw [List.getElem?_append_left hlt] at hj
      rw [List.getElem?_append_left (by omega)] at hp
      obtain ⟨L', B', q⟩ := hk j t' p hj hp
      exact ⟨L', B', old q.1 q.2.1 q.2.2.1 q.2.2.2⟩
    · have : j = ts.length := by
        have := (List.getElem?_eq_some_iff.1 hj).1
        simp at this
        omega
      subst this
      rw [List.getElem?_append_right (Nat.le_refl _)] at hj
      rw [List.getElem?_append_right (by omega)] at hp
      simp [hl] at hj hp
      subst hj hp
      exact ⟨L, B, old hr hL hB hd⟩

theorem CInv.done {n base : Nat} {ts : List (Tr n)} {v : Value} {w : World} (h : CInv base ts v w) (hlen : ts.length ≤ 2199023255552) : KSl base w.heap.size w (Rep base w.heap.size w n) v ts := by
  obtain ⟨ps, hl, hown, hk⟩ := h
  rcases hown.2 with ⟨rfl, h0⟩ | ⟨g, cap, cur, rfl, hb, hg, hn, hc, hs, ht⟩
  · have : ts = [] := List.length_eq_zero_iff.1 h0
    subst this
    exact KSl.none _ _ _ _
  · refine ⟨_, cap, rfl, hn, hc, by simp, hlen, fun _ => ⟨g, 0, rfl, hb, (Array.getElem?_eq_some_iff.1 hg).1, fun j t hj => ?_⟩⟩
    have hjl := (List.getElem?_eq_some_iff.1 hj).1
    obtain ⟨p, hp⟩ : ∃ p, ps[j]? = some p := ⟨ps[j]'(by omega), List.getElem?_eq_getElem (by omega)⟩
    obtain ⟨L, B, hr, hL, hB, _⟩ := hk j t p hj hp
    have cc : ∀ r, r < 4 → w.cell? ⟨g, 0 + j * 4 + r, none⟩ = (cell4 t p)[r]? := fun r hr4 => by
      rw [Nat.zero_add, hown.cellAt (j * 4 + r) (by omega), cellsK_at ts ps j t p r hj hp hr4]
    exact ⟨p.1, p.2, cc 0 (by omega), cc 1 (by omega), cc 2 (by omega), cc 3 (by omega), hr.agree (Agree.refl _ _ _) hL hB⟩

end Go.Proofs.Ytenfahecnkdhaaa.Tlv
end

section
/-
  What clone and Many of tlv make: the tree that came in, in new memory.
-/
namespace Go.Proofs.Ytenfahecnkdhaaa.Tlv
open Go.RowKit
attribute [local go_sem ↓] Go.wp_at_zero Go.wp_at_succ

theorem cell_far {w : World} {p : Addr} {u : Value} {q : Addr} (h : q.block ≠ p.block) : (w.setCell p u).cell? q = w.cell? q := World.cell?_of_block (w := w) (Below.heap_setCell _ _ _ _ h)

theorem cell_far4 {w : World} {b o0 o1 o2 o3 : Nat} {u0 u1 u2 u3 : Value} {q : Addr} (h : q.block ≠ b) : ((((w.setCell ⟨b, o0, none⟩ u0).setCell ⟨b, o1, none⟩ u1).setCell ⟨b, o2, none⟩ u2).setCell ⟨b, o3, none⟩ u3).cell? q = w.cell? q := by
  rw [cell_far h, cell_far h, cell_far h, cell_far h]

theorem cell_set_ne {w : World} {b i j : Nat} {u : Value} (h : i ≠ j) : (w.setCell ⟨b, i, none⟩ u).cell? ⟨b, j, none⟩ = w.cell? ⟨b, j, none⟩ := World.cell?_setCell_other _ _ _ _ (fun e => h (congrArg Addr.off e))

theorem set4_read {w : World} {b : Nat} {u0 u1 u2 u3 x0 x1 x2 x3 : Value} (h0 : w.cell? ⟨b, 0, none⟩ = some x0) (h1 : w.cell? ⟨b, 1, none⟩ = some x1) (h2 : w.cell? ⟨b, 2, none⟩ = some x2) (h3 : w.cell? ⟨b, 3, none⟩ = some x3) :
    ((((w.setCell ⟨b, 0, none⟩ u0).setCell ⟨b, 1, none⟩ u1).setCell ⟨b, 2, none⟩ u2).setCell ⟨b, 3, none⟩ u3).cell? ⟨b, 0, none⟩ = some u0 ∧
    ((((w.setCell ⟨b, 0, none⟩ u0).setCell ⟨b, 1, none⟩ u1).setCell ⟨b, 2, none⟩ u2).setCell ⟨b, 3, none⟩ u3).cell? ⟨b, 1, none⟩ = some u1 ∧
    ((((w.setCell ⟨b, 0, none⟩ u0).setCell ⟨b, 1, none⟩ u1).setCell ⟨b, 2, none⟩ u2).setCell ⟨b, 3, none⟩ u3).cell? ⟨b, 2, none⟩ = some u2 ∧
    ((((w.setCell ⟨b, 0, none⟩ u0).setCell ⟨b, 1, none⟩ u1).setCell ⟨b, 2, none⟩ u2).setCell ⟨b, 3, none⟩ u3).cell? ⟨b, 3, none⟩ = some u3 := by
  have o : ∀ (w : World) (i j : Nat) (u : Value), i ≠ j → (w.setCell ⟨b, i, none⟩ u).cell? ⟨b, j, none⟩ = w.cell? ⟨b, j, none⟩ := fun w i j u h => World.cell?_setCell_other _ _ _ _ (fun e => h (congrArg Addr.off e))
  refine ⟨?_, ?_, ?_, ?_⟩
  · rw [o _ _ _ _ (by omega), o _ _ _ _ (by omega), o _ _ _ _ (by omega)]
    exact World.cell?_setCell_same _ _ _ h0
  · rw [o _ _ _ _ (by omega), o _ _ _ _ (by omega)]
    exact World.cell?_setCell_same _ _ _ ((o _ _ _ _ (by omega)).trans h1)
  · rw [o _ _ _ _ (by omega)]
    exact World.cell?_setCell_same _ _ _ ((o _ _ _ _ (by omega)).trans ((o _ _ _ _ (by omega)).trans h2))
  · exact World.cell?_setCell_same _ _ _ ((o _ _ _ _ (by omega)).trans ((o _ _ _ _ (by omega)).trans ((o _ _ _ _ (by omega)).trans h3)))

/-- What clone does with a tree that is nested at most n deep. -/
def CloneOk (n : Nat) : Prop := ∀ (t : Tr n) (sb sk : Value) (deep : Int) (w : World), Rep 0 w.heap.size w n t sb sk → (n : Int) ≤ deep → deep ≤ 131072 →
  Calls Try.prog 80 #[.agg #[.int .i64 t.hd.1, .int .u64 t.hd.2.1, sb, sk], .int .i64 deep] w fun e w' =>
    ∃ sb' sk', e = .returned (.tuple #[.agg #[.int .i64 t.hd.1, .int .u64 t.hd.2.1, sb', sk'], .bool true]) ∧ Rep w.heap.size w'.heap.size w' n t sb' sk' ∧ Below w.heap.size w w'

set_option maxHeartbeats 2000000 in
set_option maxRecDepth 100000 in
theorem clone_any : ∀ n, CloneOk n
  | 0 => fun t => by cases t
  | n + 1 => by
    intro t sb sk deep w hrep hd0 hd1
    have ih := clone_any n
    obtain ⟨hn0, hn1, hby, hks⟩ := hrep
    have HB := hid hby
    have HK := hid hks
    obtain ⟨ab, cb, rfl, hrb⟩ := hby
    obtain ⟨ak, ck, rfl, hrk⟩ := hks
    clear hrb hrk
    have hdb : (deep == 0) = false := by simp; omega
    generalize hT1 : t.kd = ks at *
    generalize hT2 : t.hd.2.2 = bs at *
    generalize hT3 : t.hd.2.1 = num at *
    generalize t.hd.1 = tag at *
    have HT1 := hid hT1
    have HT2 := hid hT2
    have HT3 := hid hT3
    clear hT1 hT2 hT3
    go_enter Try.func80, Try.ntmps80
    go_upto_region 3 with fail
    obtain ⟨W0, hW0⟩ : ∃ W0, W0 = (w.alloc (Obj.cells #[Value.int IntKind.i64 tag, Value.int IntKind.u64 num, Value.slice ab bs.length cb, Value.slice ak ks.length ck] 95)).alloc (Obj.cells #[Value.int IntKind.i64 0, Value.int IntKind.u64 0, Value.slice none 0 0, Value.slice none 0 0] 95) := ⟨_, rfl⟩
    have HW0 := hid hW0
    clear hW0
    go_cut [6] (fun s wx => ∃ (g c' L1 B1 : Nat) (a' : Option Addr), s = .pointer (some ⟨g, 0, none⟩) ∧ w.heap.size + 2 ≤ g ∧ g < wx.heap.size ∧ wx.cell? ⟨g, 0, none⟩ = some (.int .i64 tag) ∧ wx.cell? ⟨g, 1, none⟩ = some (.int .u64 num) ∧
      wx.cell? ⟨g, 2, none⟩ = some (.slice a' bs.length c') ∧ wx.cell? ⟨g, 3, none⟩ = some (.slice none 0 0) ∧ (∀ o, wx.frozen? ⟨g, o, none⟩ = false) ∧ Hid (BySl L1 B1 wx (.slice a' bs.length c') bs ∧ w.heap.size + 2 ≤ L1 ∧ B1 ≤ wx.heap.size ∧ (g < L1 ∨ B1 ≤ g) ∧ Below (w.heap.size + 2) W0 wx))
    case first =>
      go_region_held3 (fun w' => w'.cell? ⟨w.heap.size, 0, none⟩ = some (.int .i64 tag) ∧ w'.cell? ⟨w.heap.size, 1, none⟩ = some (.int .u64 num) ∧ w'.cell? ⟨w.heap.size, 2, none⟩ = some (.slice ab bs.length cb)) (first | go_keep | (refine ⟨?_, ?_, ?_⟩ <;> (rw [cell_far4 (by simp; omega)]; assumption)))
        ((go_at_call 47; refine (clone_bytes _ bs _ (HB.out.agree (by repeat' first | exact Agree.refl _ _ _ | apply Agree.drew | refine Agree.alloc ?_ ?_ _ | (simp; done) | (simp; omega)) (Nat.le_refl _) (by simp; omega))).mono ?_; rintro e w1 ⟨v', rfl, hv, hb⟩; obtain ⟨a', c', rfl, hr'⟩ := id hv; clear hr'; have Hv := hid hv; have Hb := hid hb; obtain ⟨hc, hf⟩ := bcell hb; have hz := hb.size; clear hv hb; have q0 : w1.cell? ⟨w.heap.size, 0, none⟩ = some (.int .i64 tag) := (hc _ _ (by simp; try omega)).trans (by simp [go_sem]); have q1 : w1.cell? ⟨w.heap.size, 1, none⟩ = some (.int .u64 num) := (hc _ _ (by simp; try omega)).trans (by simp [go_sem]); have q2 : w1.cell? ⟨w.heap.size, 2, none⟩ = some (.slice ab bs.length cb) := (hc _ _ (by simp; try omega)).trans (by simp [go_sem])))
      · go_wp2_with fail
        go_meet
        simp at hz
        refine ⟨w1.heap.size, c', w.heap.size + 2, w1.heap.size, a', rfl, by omega, by simp, by simp, by simp, by simp, by simp, by simp, Hv.out.agree ((Agree.refl _ _ _).alloc (Nat.le_refl _) _) (by simp) (Nat.le_refl _), by omega, by simp, by omega, ?_⟩
        rw [HW0.out]
        exact (((Below.refl _ _).drew).trans (Hb.out.mono (by simp))).alloc (by omega) _
      · go_wp2_with fail
        go_meet
        simp at hz
        obtain ⟨r0, r1, r2, r3⟩ := set4_read (w := w1) (b := w.heap.size + 1 + 1) (u0 := .int .i64 tag) (u1 := .int .u64 num) (u2 := .slice a' bs.length c') (u3 := .slice none 0 0) (x0 := .int .i64 0) (x1 := .int .u64 0) (x2 := .slice none 0 0) (x3 := .slice none 0 0) ((hc _ _ (by simp)).trans (by simp [go_sem])) ((hc _ _ (by simp)).trans (by simp [go_sem])) ((hc _ _ (by simp)).trans (by simp [go_sem])) ((hc _ _ (by simp)).trans (by simp [go_sem]))
        refine ⟨w.heap.size + 1 + 1, c', w.heap.size + 3, w1.heap.size, a', rfl, by omega, by simp; omega, r0, r1, r2, r3, ?_, Hv.out.agree (Agree.set4 _ (.inl (by simp)) _ _ _ _) (by simp) (Nat.le_refl _), by omega, by simp, by omega, ?_⟩
        · intro o
          simp only [World.frozen?_setCell]
          rw [hf _ _ (by simp)]
          simp [go_sem]
        · rw [HW0.out]
          exact ((((Below.refl _ _).alloc (by simp) _).drew).trans (Hb.out.mono (by simp))).trans (bset4 (by omega) _ _ _ _)
    case rest =>
      obtain ⟨g, c', L1, B1, a', rfl, hg0, hg1, e0, e1, e2, e3, hfr, HX⟩ := hcut
      have xb : ∀ o, wc.cell? ⟨w.heap.size, o, none⟩ = W0.cell? ⟨w.heap.size, o, none⟩ := fun o => HX.out.2.2.2.2.cell (p := ⟨w.heap.size, o, none⟩) (by simp)
      have b3 : wc.cell? ⟨w.heap.size, 3, none⟩ = some (.slice ak ks.length ck) := by rw [xb, HW0.out]; simp [go_sem]
      clear xb
      have hB0 : Hid (Below w.heap.size w W0) := by rw [Hid, HW0.out]; exact ((Below.refl _ _).alloc (Nat.le_refl _) _).alloc (by simp) _
      have hkl : ks.length ≤ 2199023255552 := by obtain ⟨_, _, _, _, _, _, h, _⟩ := HK.out; exact h
      obtain ⟨i0, hi, hz0, hz1, hz2⟩ := info_parts Try.info95
      go_wp2_with fail
      go_loopw [25] (fun i wr => ∃ (k : Nat) (v : Value), k ≤ ks.length ∧ i = .int .i64 k ∧ wr.cell? ⟨g, 0, none⟩ = some (.int .i64 tag) ∧ wr.cell? ⟨g, 1, none⟩ = some (.int .u64 num) ∧
        wr.cell? ⟨g, 2, none⟩ = some (.slice a' bs.length c') ∧ wr.cell? ⟨g, 3, none⟩ = some v ∧ (∀ o, wr.frozen? ⟨g, o, none⟩ = false) ∧ g < wr.heap.size ∧
        Hid (CInv wc.heap.size (ks.take k) v wr ∧ BySl L1 B1 wr (.slice a' bs.length c') bs ∧ Below (w.heap.size + 2) W0 wr ∧ wc.heap.size ≤ wr.heap.size)) (fun i _ => ks.length - (intOf i).toNat)
      case atStart => exact ⟨0, _, Nat.zero_le _, rfl, e0, e1, e2, e3, hfr, hg1, CInv.nil _ _, HX.out.1, HX.out.2.2.2.2, Nat.le_refl _⟩
      case round =>
        obtain ⟨k, v, hk, rfl, f0, f1, f2, f3, hfr', hgs, HI⟩ := hrel
        clear e0 e1 e2 e3 hfr b3
        by_cases hlt : k < ks.length
        · obtain ⟨_, _, ea, _, _, _, _, h7⟩ := HK.out
          simp only [Value.slice.injEq, true_and] at ea
          obtain ⟨rfl, rfl⟩ := ea
          obtain ⟨b, o, rfl, _, hbs, hc⟩ := h7 (by intro e; subst e; simp at hlt)
          clear h7
          obtain ⟨sb, sk, c0, c1, c2, c3, hrep⟩ := hc k ks[k] (List.getElem?_eq_getElem hlt)
          clear hc
          obtain ⟨a1, l1, p1, a2, l2, p2, rfl, rfl⟩ := hrep.sl
          have hR := hid hrep
          clear hrep
          have hbel : Hid (Below w.heap.size w wr) := hB0.out.trans (HI.out.2.2.1.mono (by omega))
          have d0 := (hbel.out.cell (p := ⟨b, o + k * 4, none⟩) hbs).trans c0
          have d1 := (hbel.out.cell (p := ⟨b, o + k * 4 + 1, none⟩) hbs).trans c1
          have d2 := (hbel.out.cell (p := ⟨b, o + k * 4 + 2, none⟩) hbs).trans c2
          have d3 := (hbel.out.cell (p := ⟨b, o + k * 4 + 3, none⟩) hbs).trans c3
          clear c0 c1 c2 c3
          have htake : Hid (ks.take (k + 1) = ks.take k ++ [ks[k]]) := List.take_succ_eq_append_getElem hlt
          generalize ks[k] = t1 at *
          have hlk : Hid ((ks.take k).length = k) := List.length_take_of_le (by omega)
          have hbz := hbel.out.size
          have hbw : b < wr.heap.size := by omega
          obtain ⟨av, cv, hv⟩ := HI.out.1.form
          rw [hlk.out] at hv
          subst hv
          go_wp2_with fail
          refine (ih t1 _ _ _ _ (hR.out.agree ((Agree.below hbel.out).alloc hbz _) (Nat.le_refl _) (by simp; omega)) (by omega) (by omega)).mono ?_
          rintro e w1 ⟨sb', sk', rfl, hr1, hb1⟩
          obtain ⟨a3, l3, p3, a4, l4, p4, rfl, rfl⟩ := hr1.sl
          have Hr1 := hid hr1
          have Hb1 := hid hb1
          obtain ⟨hc, hf⟩ := bcell hb1
          have hz := hb1.size
          simp at hz
          have hgw : g < w1.heap.size := by omega
          have g0 : w1.cell? ⟨g, 0, none⟩ = some (.int .i64 tag) := by rw [hc _ _ (by simp; omega), World.cell?_alloc_past _ _ _ hgs]; exact f0
          have g1 : w1.cell? ⟨g, 1, none⟩ = some (.int .u64 num) := by rw [hc _ _ (by simp; omega), World.cell?_alloc_past _ _ _ hgs]; exact f1
          have g2 : w1.cell? ⟨g, 2, none⟩ = some (.slice a' bs.length c') := by rw [hc _ _ (by simp; omega), World.cell?_alloc_past _ _ _ hgs]; exact f2
          have g3 : w1.cell? ⟨g, 3, none⟩ = some (.slice av k cv) := by rw [hc _ _ (by simp; omega), World.cell?_alloc_past _ _ _ hgs]; exact f3
          have gf : ∀ o, w1.frozen? ⟨g, o, none⟩ = false := fun o => by rw [hf _ _ (by simp; omega), World.frozen?_alloc_past _ _ _ hgs]; exact hfr' o
          clear hr1 hb1 hc hf f0 f1 f2 f3 hfr' d0 d1 d2 d3
          have inv1 : CInv wc.heap.size (ks.take k) (.slice av k cv) ((w1.alloc (Obj.cells #[Value.int .i64 t1.hd.1, Value.int .u64 t1.hd.2.1, Value.slice a3 l3 p3, Value.slice a4 l4 p4] 95)).alloc (Obj.cells #[Value.int .i64 t1.hd.1, Value.int .u64 t1.hd.2.1, Value.slice a3 l3 p3, Value.slice a4 l4 p4] 95)) :=
            HI.out.1.agree (((((Agree.refl _ _ _).alloc (Nat.le_refl _) _).trans (Agree.below (Hb1.out.mono (by simp)))).alloc (by omega) _).alloc (by simp; omega) _) (by simp; omega)
          have hr2 : Hid (Rep (wr.heap.size + 1) w1.heap.size ((w1.alloc (Obj.cells #[Value.int .i64 t1.hd.1, Value.int .u64 t1.hd.2.1, Value.slice a3 l3 p3, Value.slice a4 l4 p4] 95)).alloc (Obj.cells #[Value.int .i64 t1.hd.1, Value.int .u64 t1.hd.2.1, Value.slice a3 l3 p3, Value.slice a4 l4 p4] 95)) n t1 (.slice a3 l3 p3) (.slice a4 l4 p4)) :=
            Hr1.out.agree (((Agree.refl _ _ _).alloc (Nat.le_refl _) _).alloc (by simp) _) (by simp) (Nat.le_refl _)
          have hlt0 := hid HI.out.1.lt
          obtain ⟨ps, hl, hown, hkid⟩ := inv1
          rw [hlk.out] at hown
          have HO := hid hown
          have HKid := hid hkid
          have HL := hid hl
          clear hown hkid hl
          have hws := HI.out.2.2.2
          go_wp2_with (at_builtin; go_must (refine wpList_append_lies _ rfl _ _ 93 rfl wc.heap.size 95 i0 _ 4 64 Try.underlying93 hi hz0 hz1 hz2 rfl (by decide) _ k (cellsK (ks.take k) ps) rfl HO.out ⟨w1.heap.size + 1, 0, none⟩ 1 1 (cell4 t1 (.slice a3 l3 p3, .slice a4 l4 p4)) rfl rfl ?_ ?_ (by omega) (by unfold maxLen; omega) (by omega) (by simp; omega) (w1.heap.size + 1 + 1) (by simp) ?_))
          · exact World.news_of_block (cs := #[Value.int .i64 t1.hd.1, Value.int .u64 t1.hd.2.1, Value.slice a3 l3 p3, Value.slice a4 l4 p4]) (t := 95) (fr := (0, 0)) (by have h := heap_alloc_new (w1.alloc (Obj.cells #[Value.int .i64 t1.hd.1, Value.int .u64 t1.hd.2.1, Value.slice a3 l3 p3, Value.slice a4 l4 p4] 95)) (Obj.cells #[Value.int .i64 t1.hd.1, Value.int .u64 t1.hd.2.1, Value.slice a3 l3 p3, Value.slice a4 l4 p4] 95); simpa using h)
          · intro u hu
            simp only [cell4, List.mem_cons, List.not_mem_nil, or_false] at hu
            rcases hu with rfl | rfl | rfl | rfl <;> rfl
          intro g' cap' w2 hown2 hgrow2 hat2 hlt2
          have hne : some g ≠ (Value.slice av k cv).ownBlock := fun e => by have := (hlt0.out g e.symm).1; omega
          have j0 : w2.cell? ⟨g, 0, none⟩ = some (.int .i64 tag) := by rw [hgrow2.cell_far ⟨g, 0, none⟩ (by simp; omega) hne, World.cell?_alloc_past _ _ _ (by simp; omega), World.cell?_alloc_past _ _ _ hgw]; exact g0
          have j1 : w2.cell? ⟨g, 1, none⟩ = some (.int .u64 num) := by rw [hgrow2.cell_far ⟨g, 1, none⟩ (by simp; omega) hne, World.cell?_alloc_past _ _ _ (by simp; omega), World.cell?_alloc_past _ _ _ hgw]; exact g1
          have j2 : w2.cell? ⟨g, 2, none⟩ = some (.slice a' bs.length c') := by rw [hgrow2.cell_far ⟨g, 2, none⟩ (by simp; omega) hne, World.cell?_alloc_past _ _ _ (by simp; omega), World.cell?_alloc_past _ _ _ hgw]; exact g2
          have j3 : w2.cell? ⟨g, 3, none⟩ = some (.slice av k cv) := by rw [hgrow2.cell_far ⟨g, 3, none⟩ (by simp; omega) hne, World.cell?_alloc_past _ _ _ (by simp; omega), World.cell?_alloc_past _ _ _ hgw]; exact g3
          have jf : ∀ o, w2.frozen? ⟨g, o, none⟩ = false := fun o => by rw [hgrow2.frozen_far ⟨g, o, none⟩ (by simp; omega) hne, World.frozen?_alloc_past _ _ _ (by simp; omega), World.frozen?_alloc_past _ _ _ hgw]; exact gf o
          have hz2 := hgrow2.size
          simp at hz2
          have inv2 : Hid (CInv wc.heap.size (ks.take (k + 1)) (.slice (some ⟨g', 0, none⟩) (k + 1) cap') w2) := by
            have P := CInv.push (g := g') (cap := cap') HL.out HKid.out hr2.out (by omega) (by simp; omega) (fun r e => .inl (by have := (hlt0.out r e).2; omega)) (by rw [hlk.out]; exact hown2) hgrow2 (by simpa using hat2)
            rw [hlk.out, ← htake.out] at P
            exact P
          have bel2 : Hid (Below (w.heap.size + 2) W0 w2) := (((HI.out.2.2.1.alloc (by omega) _).trans (Hb1.out.mono (by simp; omega))).alloc (by omega) _ |>.alloc (by simp; omega) _).grown hgrow2 (by simp; omega) (fun r e => by have := (hlt0.out r e).1; omega)
          have hB1 := HX.out.2.2.1
          have hgB := HX.out.2.2.2.1
          have hL1 := HX.out.2.1
          have byl2 : Hid (BySl L1 B1 w2 (.slice a' bs.length c') bs) := by
            have hA : Agree L1 B1 _ w2 := fun r h1 h2 => hgrow2.block r (by simp; omega) (fun e => by have := (hlt0.out r e.symm).1; omega)
            exact HI.out.2.1.agree (((((Agree.refl _ _ _).alloc (by omega) _).trans (Agree.below (Hb1.out.mono (by simp; omega)))).alloc (by omega) _ |>.alloc (by simp; omega) _).trans hA) (Nat.le_refl _) (Nat.le_refl _)
          clear hown2 hgrow2 hat2 g0 g1 g2 g3 gf
          go_wp2_with fail
          go_roundw
          case rel =>
            refine ⟨k + 1, .slice (some ⟨g', 0, none⟩) (k + 1) cap', by omega, by go_num, (cell_set_ne (by omega)).trans j0, (cell_set_ne (by omega)).trans j1, (cell_set_ne (by omega)).trans j2, World.cell?_setCell_same _ _ _ j3, fun o => by rw [World.frozen?_setCell]; exact jf o, by simp; omega, ?_⟩
            exact ⟨inv2.out.agree ((Agree.refl _ _ _).setCell (.inl (by simpa using hg1)) _) (by simp), byl2.out.agree ((Agree.refl _ _ _).setCell hgB _) (Nat.le_refl _) (Nat.le_refl _), bel2.out.setCell (by simpa using hg0) _, by simp; omega⟩
          case measure => simp [intOf]; omega
        · have xb : ∀ o, wr.cell? ⟨w.heap.size + 1, o, none⟩ = W0.cell? ⟨w.heap.size + 1, o, none⟩ := fun o => HI.out.2.2.1.cell (p := ⟨w.heap.size + 1, o, none⟩) (by simp)
          have xf : ∀ o, wr.frozen? ⟨w.heap.size + 1, o, none⟩ = W0.frozen? ⟨w.heap.size + 1, o, none⟩ := fun o => HI.out.2.2.1.frozen (p := ⟨w.heap.size + 1, o, none⟩) (by simp)
          have r0 : wr.cell? ⟨w.heap.size + 1, 0, none⟩ = some (.int .i64 0) := by rw [xb, HW0.out]; simp [go_sem]
          have r1 : wr.cell? ⟨w.heap.size + 1, 1, none⟩ = some (.int .u64 0) := by rw [xb, HW0.out]; simp [go_sem]
          have r2 : wr.cell? ⟨w.heap.size + 1, 2, none⟩ = some (.slice none 0 0) := by rw [xb, HW0.out]; simp [go_sem]
          have r3 : wr.cell? ⟨w.heap.size + 1, 3, none⟩ = some (.slice none 0 0) := by rw [xb, HW0.out]; simp [go_sem]
          have rf : ∀ o, wr.frozen? ⟨w.heap.size + 1, o, none⟩ = false := fun o => by rw [xf, HW0.out]; simp [go_sem]
          clear xb xf
          obtain ⟨av, cv, hv⟩ := HI.out.1.form
          subst hv
          go_wp2_with fail
          have hgB := HX.out.2.2.2.1
          have hL1 := HX.out.2.1
          have hB1 := HX.out.2.2.1
          have hws := HI.out.2.2.2
          obtain ⟨q0, q1, q2, q3⟩ := set4_read (u0 := .int .i64 tag) (u1 := .int .u64 num) (u2 := .slice a' bs.length c') (u3 := .slice av k cv) r0 r1 r2 r3
          refine bodyPost_ret (v := .tuple #[.agg #[.int .i64 tag, .int .u64 num, .slice a' bs.length c', .slice av k cv], .bool true]) (by simp [results, Try.results80, go_sem, q0, q1, q2, q3]) rfl ⟨_, _, rfl, ⟨by rw [HT3.out]; exact hn0, by rw [HT3.out]; exact hn1, ?_, ?_⟩, ?_⟩
          · rw [HT2.out]
            exact HI.out.2.1.agree (Agree.set4 _ (.inl (by omega)) _ _ _ _) (by omega) (by simp; omega)
          · rw [HT1.out]
            have K := HI.out.1.done (by simp; omega)
            rw [List.take_of_length_le (by omega), show ks.length = k by omega] at K
            have A4 := Agree.set4 (L := wc.heap.size) (B := wr.heap.size) wr (b := w.heap.size + 1) (o0 := 0) (o1 := 1) (o2 := 2) (o3 := 3) (.inl (by omega)) (.int .i64 tag) (.int .u64 num) (.slice a' bs.length c') (.slice av k cv)
            have hsz : wr.heap.size ≤ ((((wr.setCell ⟨w.heap.size + 1, 0, none⟩ (.int .i64 tag)).setCell ⟨w.heap.size + 1, 1, none⟩ (.int .u64 num)).setCell ⟨w.heap.size + 1, 2, none⟩ (.slice a' bs.length c')).setCell ⟨w.heap.size + 1, 3, none⟩ (.slice av k cv)).heap.size := by simp
            exact K.agree (L' := w.heap.size) (fun _ _ _ r => Rep.agree (L' := w.heap.size) A4 (by omega) hsz r) A4 (by omega) hsz
          · exact (hB0.out.trans (HI.out.2.2.1.mono (by omega))).trans (bset4 (by omega) _ _ _ _)

end Go.Proofs.Ytenfahecnkdhaaa.Tlv
end

section
/-
  What Many of tlv makes.
-/
namespace Go.Proofs.Ytenfahecnkdhaaa.Tlv
open Go.RowKit

set_option maxHeartbeats 400000 in
theorem many_any {n : Nat} (ks : List (Tr n)) (v : Value) (w : World) (h : KSl 0 w.heap.size w (Rep 0 w.heap.size w n) v ks) (hn : n < 131072) :
    Calls Try.prog 65 #[v] w fun e w' => ∃ sb' sk', e = .returned (.agg #[.int .i64 3, .int .u64 0, sb', sk']) ∧ Rep w.heap.size w'.heap.size w' (n + 1) (Tr.mk 3 0 [] ks) sb' sk' ∧ Below w.heap.size w w' := by
  obtain ⟨ak, ck, rfl, hr⟩ := id h
  clear hr
  have H := hid h
  clear h
  go_enter Try.func65, Try.ntmps65
  go_wp2_with fail
  have hA : Agree 0 w.heap.size w (w.alloc (Obj.cells #[Value.int IntKind.i64 0, Value.int IntKind.u64 0, Value.slice none 0 0, Value.slice none 0 0] 95)) := (Agree.refl _ _ _).alloc (Nat.le_refl _) _
  have hS : w.heap.size ≤ (w.alloc (Obj.cells #[Value.int IntKind.i64 0, Value.int IntKind.u64 0, Value.slice none 0 0, Value.slice none 0 0] 95)).heap.size := by simp
  refine (clone_any (n + 1) (Tr.mk 3 0 [] ks) _ _ _ _ ⟨by simp [Tr.mk, Tr.hd], by simp [Tr.mk, Tr.hd], BySl.none _ _ _, H.out.agree (fun _ _ _ r => r.agree hA (Nat.le_refl _) hS) hA (Nat.le_refl _) hS⟩ (by omega) (by omega)).mono ?_
  rintro e w1 ⟨sb', sk', rfl, hr1, hb1⟩
  obtain ⟨a3, l3, p3, a4, l4, p4, rfl, rfl⟩ := hr1.sl
  simp only [show (Tr.mk 3 0 [] ks).hd.1 = 3 from rfl, show (Tr.mk 3 0 [] ks).hd.2.1 = 0 from rfl]
  have Hr1 := hid hr1
  have Hb1 := hid hb1
  obtain ⟨hc, hf⟩ := bcell hb1
  have hz := hb1.size
  simp at hz
  have hgw : w.heap.size < w1.heap.size := by omega
  have g0 : w1.cell? ⟨w.heap.size, 0, none⟩ = some (.int .i64 0) := by rw [hc _ _ (by simp)]; simp [go_sem]
  have g1 : w1.cell? ⟨w.heap.size, 1, none⟩ = some (.int .u64 0) := by rw [hc _ _ (by simp)]; simp [go_sem]
  have g2 : w1.cell? ⟨w.heap.size, 2, none⟩ = some (.slice none 0 0) := by rw [hc _ _ (by simp)]; simp [go_sem]
  have g3 : w1.cell? ⟨w.heap.size, 3, none⟩ = some (.slice none 0 0) := by rw [hc _ _ (by simp)]; simp [go_sem]
  have gf : ∀ o, w1.frozen? ⟨w.heap.size, o, none⟩ = false := fun o => by rw [hf _ _ (by simp)]; simp [go_sem]
  clear hc hf hr1 hb1
  go_wp2_with fail
  obtain ⟨q0, q1, q2, q3⟩ := set4_read (u0 := .int .i64 3) (u1 := .int .u64 0) (u2 := .slice a3 l3 p3) (u3 := .slice a4 l4 p4) g0 g1 g2 g3
  refine bodyPost_ret (v := .agg #[.int .i64 3, .int .u64 0, .slice a3 l3 p3, .slice a4 l4 p4]) (by simp [results, Try.results65, go_sem, q0, q1, q2, q3, hgw]) rfl ⟨_, _, rfl, ?_, ?_⟩
  · exact Rep.agree (L' := w.heap.size) ((Agree.set4 w1 (.inl (by simp)) _ _ _ _).alloc (by simp) _) (by simp) (by simp) Hr1.out
  · exact (((((Below.refl _ w).alloc (Nat.le_refl _) _).trans (Hb1.out.mono (by simp))).trans (bset4 (Nat.le_refl _) _ _ _ _)).alloc (by simp; omega) _)

end Go.Proofs.Ytenfahecnkdhaaa.Tlv
end
