/-
  One statement of the reference's Parse, whatever the order.
-/
import Derived.Test.YtbmdnjmdehmahaaParse
import Derived.Deep.RegionWith
namespace Go.Proofs.Ytbmdnjmdehmahaa
open Go.RowKit

set_option maxHeartbeats 1000000 in
set_option maxRecDepth 100000 in
theorem rparse_region {g i J x c d : Nat} {s : ByteArray} {W : World} {u1 u2 u3 u6 u7 u8 u9 u10 u11 u12 u13 u14 u15 u16 u17 u18 u19 u20 u21 u22 u23 u24 u25 u26 u27 u28 u29 u30 u31 u32 u33 u34 : Value} {Q : Exit → Act → World → Prop}
    (c1 : W.cell? ⟨g, J, none⟩ = some (.int .u8 (x : Int))) (f1 : W.frozen? ⟨g, J, none⟩ = false) (h0 : (0 : Int) ≤ (i : Int)) (hJi : (i : Int) / 2 = (J : Int)) (hJl : J < 32)
    (hix : ∀ (w : World), (Instr.index 9 (.string s) (.int .i64 (i : Int))).run Try.prog w = .ok (.int .u8 (c : Int)) w)
    (hcall : ∀ w, Calls Try.prog 36 #[.int .u8 (c : Int)] w fun e w' => e = .returned (.int .i64 (d : Nat)) ∧ w' = w)
    (hQ : ∀ (v20 v21 v22 v23 v24 v25 v26 v27 v28 v29 v30 v31 v32 v33 : Value), Q .normal ⟨#[.string s, u1, u2, u3, .pointer (some ⟨g, 0, none⟩), .int .i64 (i : Int), u6, u7, u8, u9, u10, u11, u12, u13, u14, u15, u16, u17, u18, u19, v20, v21, v22, v23, v24, v25, v26, v27, v28, v29, v30, v31, v32, v33, u34], []⟩ (W.setCell ⟨g, J, none⟩ (.int .u8 (((x * 16 + d) % 256 : Nat) : Int))).drew) :
    Code.wp Try.prog
    (Code.region 9
      #[{ dst := some 20, op := Op.move (Operand.tmp 5), type := 3, pos := "ref.go:107", after := #[], guard := none },
        { dst := some 21, op := Op.binOp BinOp.quo 3 (Operand.tmp 20) (Operand.const (Value.int IntKind.i64 2)) 3,
          type := 3, pos := "ref.go:107", after := #[{ on := 0, ground := Ground.data }], guard := none },
        { dst := some 22, op := Op.move (Operand.tmp 5), type := 3, pos := "ref.go:107", after := #[], guard := none },
        { dst := some 23, op := Op.binOp BinOp.quo 3 (Operand.tmp 22) (Operand.const (Value.int IntKind.i64 2)) 3,
          type := 3, pos := "ref.go:107", after := #[{ on := 2, ground := Ground.data }], guard := none },
        { dst := some 24, op := Op.indexAddr 30 (Operand.tmp 4) (Operand.tmp 23), type := 0, pos := "ref.go:107",
          after := #[{ on := 3, ground := Ground.data }], guard := none },
        { dst := some 25, op := Op.load 5 (Operand.tmp 24), type := 5, pos := "ref.go:107",
          after := #[{ on := 4, ground := Ground.data }], guard := none },
        { dst := some 26, op := Op.binOp BinOp.mul 5 (Operand.tmp 25) (Operand.const (Value.int IntKind.u8 16)) 5,
          type := 5, pos := "ref.go:107", after := #[{ on := 5, ground := Ground.data }], guard := none },
        { dst := some 27, op := Op.move (Operand.tmp 0), type := 9, pos := "ref.go:107", after := #[], guard := none },
        { dst := some 28, op := Op.move (Operand.tmp 5), type := 3, pos := "ref.go:107", after := #[], guard := none },
        { dst := some 29, op := Op.index 9 (Operand.tmp 27) (Operand.tmp 28), type := 5, pos := "ref.go:107",
          after := #[{ on := 7, ground := Ground.data }, { on := 8, ground := Ground.data }], guard := none },
        { dst := some 30,
          op := Op.call { callee := Callee.value (Operand.func 36), args := #[Operand.tmp 29], argTypes := #[5] },
          type := 3, pos := "ref.go:107", after := #[{ on := 9, ground := Ground.data }], guard := none },
        { dst := some 31, op := Op.convert 3 5 (Operand.tmp 30), type := 5, pos := "ref.go:107",
          after := #[{ on := 10, ground := Ground.data }], guard := none },
        { dst := some 32, op := Op.binOp BinOp.add 5 (Operand.tmp 26) (Operand.tmp 31) 5, type := 5,
          pos := "ref.go:107", after := #[{ on := 6, ground := Ground.data }, { on := 11, ground := Ground.data }],
          guard := none },
        { dst := some 33, op := Op.indexAddr 30 (Operand.tmp 4) (Operand.tmp 21), type := 0, pos := "ref.go:107",
          after :=
            #[{ on := 1, ground := Ground.data }, { on := 0, ground := Ground.phase },
              { on := 1, ground := Ground.phase }, { on := 2, ground := Ground.phase },
              { on := 3, ground := Ground.phase }, { on := 4, ground := Ground.phase },
              { on := 5, ground := Ground.phase }, { on := 6, ground := Ground.phase },
              { on := 7, ground := Ground.phase }, { on := 8, ground := Ground.phase },
              { on := 9, ground := Ground.phase }, { on := 10, ground := Ground.phase },
              { on := 11, ground := Ground.phase }, { on := 12, ground := Ground.phase }],
          guard := none },
        { dst := none, op := Op.store 5 (Operand.tmp 33) (Operand.tmp 32), type := 0, pos := "ref.go:107",
          after :=
            #[{ on := 13, ground := Ground.data }, { on := 12, ground := Ground.data },
              { on := 10, ground := Ground.chain }, { on := 0, ground := Ground.phase },
              { on := 1, ground := Ground.phase }, { on := 2, ground := Ground.phase },
              { on := 3, ground := Ground.phase }, { on := 4, ground := Ground.phase },
              { on := 5, ground := Ground.phase }, { on := 6, ground := Ground.phase },
              { on := 7, ground := Ground.phase }, { on := 8, ground := Ground.phase },
              { on := 9, ground := Ground.phase }, { on := 10, ground := Ground.phase },
              { on := 11, ground := Ground.phase }, { on := 12, ground := Ground.phase }],
          guard := none }]
      true)
    Q ⟨#[.string s, u1, u2, u3, .pointer (some ⟨g, 0, none⟩), .int .i64 (i : Int), u6, u7, u8, u9, u10, u11, u12, u13, u14, u15, u16, u17, u18, u19, u20, u21, u22, u23, u24, u25, u26, u27, u28, u29, u30, u31, u32, u33, u34], []⟩ W := by
  have HC := hid hcall
  have HQ := hid hQ
  clear hcall hQ
  have hJlI : (J : Int) < 32 := by omega
  have hJ0 : (0 : Int) ≤ (J : Int) := by omega
  have hq : (i : Int).tdiv 2 = (J : Int) := by rw [Int.tdiv_eq_ediv_of_nonneg h0]; exact hJi
  have hw : IntKind.i64.wrap (J : Int) = (J : Int) := by rw [IntKind.wrap_i64]; omega
  have HV : Hid (IntKind.u8.wrap (IntKind.u8.wrap ((x : Int) * 16) + IntKind.u8.wrap (d : Int)) = (((x * 16 + d) % 256 : Nat) : Int)) := by rw [Hid, IntKind.wrap_u8, IntKind.wrap_u8, IntKind.wrap_u8]; omega
  refine wp_region_noPanic ?_
  go_region_with (go_at_call 36; refine (HC.out _).mono ?_; rintro e w3 ⟨rfl, hw3⟩; subst w3)
  all_goals
    refine NoPanic.normal ?_
    rw [HV.out]
    exact HQ.out _ _ _ _ _ _ _ _ _ _ _ _ _ _
end Go.Proofs.Ytbmdnjmdehmahaa
