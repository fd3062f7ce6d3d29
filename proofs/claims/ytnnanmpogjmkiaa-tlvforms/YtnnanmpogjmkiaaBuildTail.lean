/-
  The end of the statements' build: both values are read and laid into the results, whatever the order.
-/
import Derived.Test.YtnnanmpogjmkiaaBuildMem
namespace Go.Proofs.Ytnnanmpogjmkiaa
open Go.RowKit
attribute [local go_sem ↓] Go.wp_at_zero Go.wp_at_succ

set_option maxHeartbeats 1000000 in
set_option maxRecDepth 100000 in
theorem tail14 {z : Nat} {wr : World} {p k M cb cva cvb : Nat} {ab ava avb : Option Addr} {tag num : Int} {s0 s1 s2 s3 s6 s10 s11 s12 s13 s14 s15 s16 s17 s18 s19 s20 s21 s22 s23 s24 s25 s26 s27 s28 s29 s30 s31 s32 s33 s34 s35 s36 s37 s38 s39 s40 s41 s42 s43 s44 s45 s46 s47 s48 s49 s50 s51 s52 s53 s54 s55 s56 s57 s58 s59 s60 s61 s62 s63 s64 s65 s66 s67 s68 s69 s70 s71 s72 s73 s74 s75 s76 s77 s78 s79 s80 s81 s82 s83 s84 s85 s86 s87 s88 s89 s90 s91 s92 : Value} {K : Act → World → Prop} {Post : Ending → World → Prop}
    (f0 : wr.cell? ⟨z + 1 + 1, 0, none⟩ = some (.int .i64 tag)) (f1 : wr.cell? ⟨z + 1 + 1, 1, none⟩ = some (.int .u64 num)) (f2 : wr.cell? ⟨z + 1 + 1, 2, none⟩ = some (.slice ab M cb)) (f3 : wr.cell? ⟨z + 1 + 1, 3, none⟩ = some (.slice ava k cva))
    (g0 : wr.cell? ⟨z + 1 + 1 + 1, 0, none⟩ = some (.int .i64 tag)) (g1 : wr.cell? ⟨z + 1 + 1 + 1, 1, none⟩ = some (.int .u64 num)) (g2 : wr.cell? ⟨z + 1 + 1 + 1, 2, none⟩ = some (.slice ab M cb)) (g3 : wr.cell? ⟨z + 1 + 1 + 1, 3, none⟩ = some (.slice avb k cvb))
    (r0 : wr.cell? ⟨z, 0, none⟩ = some (.int .i64 0)) (r1 : wr.cell? ⟨z, 1, none⟩ = some (.int .u64 0)) (r2 : wr.cell? ⟨z, 2, none⟩ = some (.slice none 0 0)) (r3 : wr.cell? ⟨z, 3, none⟩ = some (.slice none 0 0))
    (v0 : wr.cell? ⟨z + 1, 0, none⟩ = some (.int .i64 0)) (v1 : wr.cell? ⟨z + 1, 1, none⟩ = some (.int .u64 0)) (v2 : wr.cell? ⟨z + 1, 2, none⟩ = some (.slice none 0 0)) (v3 : wr.cell? ⟨z + 1, 3, none⟩ = some (.slice none 0 0))
    (rf : ∀ (o : Nat), wr.frozen? ⟨z, o, none⟩ = false) (uf : ∀ (o : Nat), wr.frozen? ⟨z + 1, o, none⟩ = false)
    (hK : ∀ (a : Act) (w : World), Code.wp Try.prog Code.ret (bodyPost Try.prog Try.f10 Post) a w → K a w)
    (hpost : Post (.returned (.tuple #[.agg #[.int .i64 tag, .int .u64 num, .slice ab M cb, .slice ava k cva], .agg #[.int .i64 tag, .int .u64 num, .slice ab M cb, .slice avb k cvb], .int .i64 p])) (((((((((wr.setCell ⟨z, 0, none⟩ (.int .i64 tag)).setCell ⟨z, 1, none⟩ (.int .u64 num)).setCell ⟨z, 2, none⟩ (.slice ab M cb)).setCell ⟨z, 3, none⟩ (.slice ava k cva)).setCell ⟨z + 1, 0, none⟩ (.int .i64 tag)).setCell ⟨z + 1, 1, none⟩ (.int .u64 num)).setCell ⟨z + 1, 2, none⟩ (.slice ab M cb)).setCell ⟨z + 1, 3, none⟩ (.slice avb k cvb)).drew)) :
    Code.wp Try.prog
    (Code.region 14
      #[{ dst := some 90, op := Op.load 29 (Operand.tmp 7), type := 29, pos := "law.go:34", after := #[],
          guard := none },
        { dst := some 91, op := Op.load 32 (Operand.tmp 8), type := 32, pos := "law.go:34",
          after := #[{ on := 3, ground := Ground.gcOnly Departure.lateStores }], guard := none },
        { dst := some 92, op := Op.move (Operand.tmp 9), type := 3, pos := "law.go:34",
          after := #[{ on := 4, ground := Ground.gcOnly Departure.lateStores }], guard := none },
        { dst := none, op := Op.store 29 (Operand.tmp 4) (Operand.tmp 90), type := 0, pos := "law.go:34",
          after :=
            #[{ on := 0, ground := Ground.data }, { on := 0, ground := Ground.phase },
              { on := 1, ground := Ground.textOnly Departure.lateStores },
              { on := 2, ground := Ground.textOnly Departure.lateStores }],
          guard := none },
        { dst := none, op := Op.store 32 (Operand.tmp 5) (Operand.tmp 91), type := 0, pos := "law.go:34",
          after :=
            #[{ on := 1, ground := Ground.data }, { on := 3, ground := Ground.chain },
              { on := 0, ground := Ground.phase }, { on := 1, ground := Ground.phase },
              { on := 2, ground := Ground.textOnly Departure.lateStores }, { on := 3, ground := Ground.phase }],
          guard := none },
        { dst := some 6, op := Op.assign (Operand.tmp 92), type := 3, pos := "law.go:34",
          after :=
            #[{ on := 2, ground := Ground.data }, { on := 4, ground := Ground.chain },
              { on := 0, ground := Ground.phase }, { on := 1, ground := Ground.phase },
              { on := 2, ground := Ground.phase }, { on := 3, ground := Ground.phase },
              { on := 4, ground := Ground.phase }],
          guard := none }]
      true)
    (Exit.then K (bodyPost Try.prog Try.f10 Post)) { tmps := #[s0, s1, s2, s3, Value.pointer (some ⟨z, 0, none⟩), Value.pointer (some ⟨z + 1, 0, none⟩), s6, Value.pointer (some ⟨z + 1 + 1, 0, none⟩), Value.pointer (some ⟨z + 1 + 1 + 1, 0, none⟩), Value.int IntKind.i64 p, s10, s11, s12, s13, s14, s15, s16, s17, s18, s19, s20, s21, s22, s23, s24, s25, s26, s27, s28, s29, s30, s31, s32, s33, s34, s35, s36, s37, s38, s39, s40, s41, s42, s43, s44, s45, s46, s47, s48, s49, s50, s51, s52, s53, s54, s55, s56, s57, s58, s59, s60, s61, s62, s63, s64, s65, s66, s67, s68, s69, s70, s71, s72, s73, s74, s75, s76, s77, s78, s79, s80, s81, s82, s83, s84, s85, s86, s87, s88, s89, s90, s91, s92], defers := [] } wr := by
  have x1 : ∀ (W : World) (i j : Nat) (u : Value), (W.setCell ⟨z, i, none⟩ u).cell? ⟨z + 1, j, none⟩ = W.cell? ⟨z + 1, j, none⟩ := fun W i j u => cell_far (by simp)
  have x2 : ∀ (W : World) (i j : Nat) (u : Value), (W.setCell ⟨z, i, none⟩ u).cell? ⟨z + 1 + 1, j, none⟩ = W.cell? ⟨z + 1 + 1, j, none⟩ := fun W i j u => cell_far (by simp; omega)
  have x3 : ∀ (W : World) (i j : Nat) (u : Value), (W.setCell ⟨z, i, none⟩ u).cell? ⟨z + 1 + 1 + 1, j, none⟩ = W.cell? ⟨z + 1 + 1 + 1, j, none⟩ := fun W i j u => cell_far (by simp; omega)
  have x4 : ∀ (W : World) (i j : Nat) (u : Value), (W.setCell ⟨z + 1, i, none⟩ u).cell? ⟨z + 1 + 1, j, none⟩ = W.cell? ⟨z + 1 + 1, j, none⟩ := fun W i j u => cell_far (by simp)
  have x5 : ∀ (W : World) (i j : Nat) (u : Value), (W.setCell ⟨z + 1, i, none⟩ u).cell? ⟨z + 1 + 1 + 1, j, none⟩ = W.cell? ⟨z + 1 + 1 + 1, j, none⟩ := fun W i j u => cell_far (by simp; omega)
  have HP := hid hpost
  have HK := hid hK
  clear hpost hK
  go_region
  all_goals
    refine HK.out _ _ ?_
    obtain ⟨q0, q1, q2, q3⟩ := set4_read (u0 := .int .i64 tag) (u1 := .int .u64 num) (u2 := .slice ab M cb) (u3 := .slice ava k cva) r0 r1 r2 r3
    obtain ⟨p0, p1, p2, p3⟩ := set4_read (w := (((wr.setCell ⟨z, 0, none⟩ (.int .i64 tag)).setCell ⟨z, 1, none⟩ (.int .u64 num)).setCell ⟨z, 2, none⟩ (.slice ab M cb)).setCell ⟨z, 3, none⟩ (.slice ava k cva)) (u0 := .int .i64 tag) (u1 := .int .u64 num) (u2 := .slice ab M cb) (u3 := .slice avb k cvb) ((cell_far4 (by simp)).trans v0) ((cell_far4 (by simp)).trans v1) ((cell_far4 (by simp)).trans v2) ((cell_far4 (by simp)).trans v3)
    have x6 : ∀ (W : World) (i j : Nat) (u : Value), (W.setCell ⟨z + 1, i, none⟩ u).cell? ⟨z, j, none⟩ = W.cell? ⟨z, j, none⟩ := fun W i j u => cell_far (by simp)
    clear x1 x2 x3 x4 x5
    go_wp2_with fail
    refine bodyPost_ret (v := .tuple #[.agg #[.int .i64 tag, .int .u64 num, .slice ab M cb, .slice ava k cva], .agg #[.int .i64 tag, .int .u64 num, .slice ab M cb, .slice avb k cvb], .int .i64 p]) (by simp [results, Try.results10, go_sem, q0, q1, q2, q3, p0, p1, p2, p3, x6]) rfl HP.out

theorem set8_far {z b : Nat} {w : World} {x0 x1 x2 x3 x4 x5 x6 x7 : Value} (h : b ≠ z) (h' : b ≠ z + 1) :
    ((((((((w.setCell ⟨z, 0, none⟩ x0).setCell ⟨z, 1, none⟩ x1).setCell ⟨z, 2, none⟩ x2).setCell ⟨z, 3, none⟩ x3).setCell ⟨z + 1, 0, none⟩ x4).setCell ⟨z + 1, 1, none⟩ x5).setCell ⟨z + 1, 2, none⟩ x6).setCell ⟨z + 1, 3, none⟩ x7).drew.heap[b]? = w.heap[b]? := by
  have e : ∀ W : World, W.drew.heap = W.heap := fun _ => rfl
  rw [e, Below.heap_setCell _ _ _ _ h', Below.heap_setCell _ _ _ _ h', Below.heap_setCell _ _ _ _ h', Below.heap_setCell _ _ _ _ h', Below.heap_setCell _ _ _ _ h, Below.heap_setCell _ _ _ _ h, Below.heap_setCell _ _ _ _ h, Below.heap_setCell _ _ _ _ h]

theorem set8_size {z : Nat} {w : World} {x0 x1 x2 x3 x4 x5 x6 x7 : Value} :
    ((((((((w.setCell ⟨z, 0, none⟩ x0).setCell ⟨z, 1, none⟩ x1).setCell ⟨z, 2, none⟩ x2).setCell ⟨z, 3, none⟩ x3).setCell ⟨z + 1, 0, none⟩ x4).setCell ⟨z + 1, 1, none⟩ x5).setCell ⟨z + 1, 2, none⟩ x6).setCell ⟨z + 1, 3, none⟩ x7).drew.heap.size = w.heap.size := by simp

theorem set8_below {z : Nat} {w : World} {x0 x1 x2 x3 x4 x5 x6 x7 : Value} :
    Below z w ((((((((w.setCell ⟨z, 0, none⟩ x0).setCell ⟨z, 1, none⟩ x1).setCell ⟨z, 2, none⟩ x2).setCell ⟨z, 3, none⟩ x3).setCell ⟨z + 1, 0, none⟩ x4).setCell ⟨z + 1, 1, none⟩ x5).setCell ⟨z + 1, 2, none⟩ x6).setCell ⟨z + 1, 3, none⟩ x7).drew :=
  ((bset4 (Nat.le_refl _) _ _ _ _).trans (bset4 (Nat.le_succ _) _ _ _ _)).drew

end Go.Proofs.Ytnnanmpogjmkiaa
