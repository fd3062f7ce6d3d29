/-
  Memory that a call leaves alone, told by blocks.
-/
import Derived.Test.YthbhdbjjobfchaaTlvRefs
import Derived.Deep.RegionHeld3
import Derived.Deep.DeepCutAuto
import Derived.Deep.DrawnRows
namespace Go.Proofs.Ythbhdbjjobfchaa.Tlv
open Go.RowKit
attribute [local go_sem ↓] Go.wp_at_zero Go.wp_at_succ

theorem AgreeS.below {S : Nat → Prop} {B : Nat} {w w' : World} (h : Below B w w') (hS : ∀ b, S b → b < B) : AgreeS S w w' := fun b hb => h.block b (hS b hb)

end Go.Proofs.Ythbhdbjjobfchaa.Tlv
