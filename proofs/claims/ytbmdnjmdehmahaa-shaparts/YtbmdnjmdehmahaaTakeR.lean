/-
  A full block of a stream goes through its engine's round, whatever the order: one statement of take.
-/
import Derived.Test.YtbmdnjmdehmahaaStream
namespace Go.Proofs.Ytbmdnjmdehmahaa
open Go.RowKit

set_option maxHeartbeats 1000000 in
set_option maxRecDepth 100000 in
theorem take_region {g b : Nat} {W : World} {s0 s1 s2 s3 s4 s5 s6 s7 t0 t1 t2 t3 t4 t5 t6 t7 : Nat} {u1 u2 u3 u4 u5 u6 u7 u8 u9 u10 u11 u12 u13 u14 u15 u16 u17 u18 u19 u20 u21 u22 u23 u24 u25 u26 u27 u28 u29 u30 u31 u32 u33 u34 u35 u36 u37 u38 u39 u40 u41 u42 u43 u44 u45 u46 u47 u48 u49 u50 : Value} {Q : Exit → Act → World → Prop} {Post : World → Prop}
    (c0 : W.cell? ⟨g, 0, none⟩ = some (.func (.func 28) #[.pointer (some ⟨b, 0, none⟩)] #[])) (c1 : W.cell? ⟨g, 1, none⟩ = some (.int .u32 (s0 : Int))) (c2 : W.cell? ⟨g, 2, none⟩ = some (.int .u32 (s1 : Int))) (c3 : W.cell? ⟨g, 3, none⟩ = some (.int .u32 (s2 : Int))) (c4 : W.cell? ⟨g, 4, none⟩ = some (.int .u32 (s3 : Int))) (c5 : W.cell? ⟨g, 5, none⟩ = some (.int .u32 (s4 : Int))) (c6 : W.cell? ⟨g, 6, none⟩ = some (.int .u32 (s5 : Int))) (c7 : W.cell? ⟨g, 7, none⟩ = some (.int .u32 (s6 : Int))) (c8 : W.cell? ⟨g, 8, none⟩ = some (.int .u32 (s7 : Int)))
    (hcall : Calls Try.prog 28 #[.pointer (some ⟨b, 0, none⟩), .agg #[.int .u32 (s0 : Int), .int .u32 (s1 : Int), .int .u32 (s2 : Int), .int .u32 (s3 : Int), .int .u32 (s4 : Int), .int .u32 (s5 : Int), .int .u32 (s6 : Int), .int .u32 (s7 : Int)], .pointer (some ⟨g, 9, none⟩)] W.drew fun e w' => e = .returned (.agg #[.int .u32 (t0 : Int), .int .u32 (t1 : Int), .int .u32 (t2 : Int), .int .u32 (t3 : Int), .int .u32 (t4 : Int), .int .u32 (t5 : Int), .int .u32 (t6 : Int), .int .u32 (t7 : Int)]) ∧ Post w')
    (hpost : ∀ w', Post w' → w'.cell? ⟨g, 1, none⟩ = some (.int .u32 (s0 : Int)) ∧ w'.cell? ⟨g, 2, none⟩ = some (.int .u32 (s1 : Int)) ∧ w'.cell? ⟨g, 3, none⟩ = some (.int .u32 (s2 : Int)) ∧ w'.cell? ⟨g, 4, none⟩ = some (.int .u32 (s3 : Int)) ∧ w'.cell? ⟨g, 5, none⟩ = some (.int .u32 (s4 : Int)) ∧ w'.cell? ⟨g, 6, none⟩ = some (.int .u32 (s5 : Int)) ∧ w'.cell? ⟨g, 7, none⟩ = some (.int .u32 (s6 : Int)) ∧ w'.cell? ⟨g, 8, none⟩ = some (.int .u32 (s7 : Int)) ∧ ∀ j, w'.frozen? ⟨g, j, none⟩ = false)
    (hQ : ∀ (v36 v37 v38 v39 v40 v41 v42 v43 v44 v45 v46 v47 v48 v49 v50 : Value) (w1 : World), Post w1 → Q .normal ⟨#[.pointer (some ⟨g, 0, none⟩), u1, u2, u3, u4, u5, u6, u7, u8, u9, u10, u11, u12, u13, u14, u15, u16, u17, u18, u19, u20, u21, u22, u23, u24, u25, u26, u27, u28, u29, u30, u31, u32, u33, u34, u35, v36, v37, v38, v39, v40, v41, v42, v43, v44, v45, v46, v47, v48, v49, v50], []⟩ ((((((((w1.setCell ⟨g, 1, none⟩ (.int .u32 (t0 : Int))).setCell ⟨g, 2, none⟩ (.int .u32 (t1 : Int))).setCell ⟨g, 3, none⟩ (.int .u32 (t2 : Int))).setCell ⟨g, 4, none⟩ (.int .u32 (t3 : Int))).setCell ⟨g, 5, none⟩ (.int .u32 (t4 : Int))).setCell ⟨g, 6, none⟩ (.int .u32 (t5 : Int))).setCell ⟨g, 7, none⟩ (.int .u32 (t6 : Int))).setCell ⟨g, 8, none⟩ (.int .u32 (t7 : Int)))) :
    Code.wp Try.prog
    (Code.region 6
      #[{ dst := some 36, op := Op.move (Operand.tmp 0), type := 34, pos := "stream.go:57", after := #[],
          guard := none },
        { dst := some 37, op := Op.move (Operand.tmp 0), type := 34, pos := "stream.go:57", after := #[],
          guard := none },
        { dst := some 38, op := Op.nilCheck (Operand.tmp 37), type := 0, pos := "stream.go:57",
          after := #[{ on := 1, ground := Ground.data }], guard := none },
        { dst := some 39, op := Op.fieldAddr 83 (Operand.tmp 38) 0, type := 0, pos := "stream.go:57",
          after := #[{ on := 2, ground := Ground.data }], guard := none },
        { dst := some 40, op := Op.load 77 (Operand.tmp 39), type := 77, pos := "stream.go:57",
          after := #[{ on := 3, ground := Ground.data }], guard := none },
        { dst := some 41, op := Op.move (Operand.tmp 0), type := 34, pos := "stream.go:57", after := #[],
          guard := none },
        { dst := some 42, op := Op.nilCheck (Operand.tmp 41), type := 0, pos := "stream.go:57",
          after := #[{ on := 5, ground := Ground.data }], guard := none },
        { dst := some 43, op := Op.fieldAddr 83 (Operand.tmp 42) 1, type := 0, pos := "stream.go:57",
          after := #[{ on := 6, ground := Ground.data }], guard := none },
        { dst := some 44, op := Op.load 63 (Operand.tmp 43), type := 63, pos := "stream.go:57",
          after := #[{ on := 7, ground := Ground.data }], guard := none },
        { dst := some 45, op := Op.move (Operand.tmp 0), type := 34, pos := "stream.go:57", after := #[],
          guard := none },
        { dst := some 46, op := Op.nilCheck (Operand.tmp 45), type := 0, pos := "stream.go:57",
          after := #[{ on := 9, ground := Ground.data }], guard := none },
        { dst := some 47, op := Op.fieldAddr 83 (Operand.tmp 46) 2, type := 0, pos := "stream.go:57",
          after := #[{ on := 10, ground := Ground.data }], guard := none },
        { dst := some 48,
          op :=
            Op.call
              { callee := Callee.value (Operand.tmp 40), args := #[Operand.tmp 44, Operand.tmp 47],
                argTypes := #[63, 98] },
          type := 63, pos := "stream.go:57",
          after :=
            #[{ on := 4, ground := Ground.data }, { on := 8, ground := Ground.data },
              { on := 11, ground := Ground.data }],
          guard := none },
        { dst := some 49, op := Op.nilCheck (Operand.tmp 36), type := 0, pos := "stream.go:57",
          after :=
            #[{ on := 0, ground := Ground.data }, { on := 0, ground := Ground.phase },
              { on := 1, ground := Ground.phase }, { on := 2, ground := Ground.phase },
              { on := 3, ground := Ground.phase }, { on := 4, ground := Ground.phase },
              { on := 5, ground := Ground.phase }, { on := 6, ground := Ground.phase },
              { on := 7, ground := Ground.phase }, { on := 8, ground := Ground.phase },
              { on := 9, ground := Ground.phase }, { on := 10, ground := Ground.phase },
              { on := 11, ground := Ground.phase }, { on := 12, ground := Ground.phase }],
          guard := none },
        { dst := some 50, op := Op.fieldAddr 83 (Operand.tmp 49) 1, type := 0, pos := "stream.go:57",
          after :=
            #[{ on := 13, ground := Ground.data }, { on := 0, ground := Ground.phase },
              { on := 1, ground := Ground.phase }, { on := 2, ground := Ground.phase },
              { on := 3, ground := Ground.phase }, { on := 4, ground := Ground.phase },
              { on := 5, ground := Ground.phase }, { on := 6, ground := Ground.phase },
              { on := 7, ground := Ground.phase }, { on := 8, ground := Ground.phase },
              { on := 9, ground := Ground.phase }, { on := 10, ground := Ground.phase },
              { on := 11, ground := Ground.phase }, { on := 12, ground := Ground.phase }],
          guard := none },
        { dst := none, op := Op.store 63 (Operand.tmp 50) (Operand.tmp 48), type := 0, pos := "stream.go:57",
          after :=
            #[{ on := 14, ground := Ground.data }, { on := 12, ground := Ground.data },
              { on := 12, ground := Ground.chain }, { on := 0, ground := Ground.phase },
              { on := 1, ground := Ground.phase }, { on := 2, ground := Ground.phase },
              { on := 3, ground := Ground.phase }, { on := 4, ground := Ground.phase },
              { on := 5, ground := Ground.phase }, { on := 6, ground := Ground.phase },
              { on := 7, ground := Ground.phase }, { on := 8, ground := Ground.phase },
              { on := 9, ground := Ground.phase }, { on := 10, ground := Ground.phase },
              { on := 11, ground := Ground.phase }, { on := 12, ground := Ground.phase }],
          guard := none }]
      true)
    Q ⟨#[.pointer (some ⟨g, 0, none⟩), u1, u2, u3, u4, u5, u6, u7, u8, u9, u10, u11, u12, u13, u14, u15, u16, u17, u18, u19, u20, u21, u22, u23, u24, u25, u26, u27, u28, u29, u30, u31, u32, u33, u34, u35, u36, u37, u38, u39, u40, u41, u42, u43, u44, u45, u46, u47, u48, u49, u50], []⟩ W := by
  have HC := hid hcall
  have HP := hid hpost
  have HQ := hid hQ
  clear hcall hpost hQ
  refine wp_region_noPanic ?_
  go_region_with (go_at_call 28; refine HC.out.mono ?_; rintro e w1 ⟨rfl, hp⟩; obtain ⟨y1, y2, y3, y4, y5, y6, y7, y8, yf⟩ := HP.out w1 hp; have HPW := hid hp; clear hp)
  all_goals
    refine NoPanic.normal ?_
    exact HQ.out _ _ _ _ _ _ _ _ _ _ _ _ _ _ _ w1 HPW.out
end Go.Proofs.Ytbmdnjmdehmahaa
