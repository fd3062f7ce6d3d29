/-
  No cell of these rows narrows 'for every input' (looked for: loops, veiled, ifaces, maps, wideKeys, modest, calm, conditions, laid).
  DERIVED. THE GIVEN ROWS OF THIS SEAT. 5 by the template 'for every input the law returns true; each argument reads behind the call as it read before'; 0 by the template 'total and deterministic' (their statements: YtnnanmpogjmkiaaTotals.lean).
  GIVEN WITH THE SEED: the statements are not yours to turn. If you find one false, say at which input.
  Laid BY PROGRAM, IN A SANDBOX (cutbox-rows.mjs): the forced cells as the released guide's own fill.sh prints them over the translation 992dd2dfedcca19a… (all of the seat's roots in one cut). By AI agents, Wed Nov 11 2026. No macro, syntax, notation, axiom, sorry.
-/
import Derived.Test.YtnnanmpogjmkiaaChecked
import GoSem.Claim
import GoSem.ClaimJoined
import GoSem.ClaimMapViews
import Derived.JoinedTies
import Derived.KernelRfl
namespace Go.Proofs.Ytnnanmpogjmkiaa
/- THE CELL 'sum', in the pinned program and in every row, IS THE sha256 OF THE DUMP (.gsa) THAT YtnnanmpogjmkiaaProg.lean LOADS. Nothing in Lean hashes anything: it is a label: what it is worth is what the hold of that sum in a sandbox is worth. -/
noncomputable def Try.pinned : Pinned := { name := "ytnnanmpogjmkiaa", sum := "992dd2dfedcca19a4648e8c238a5d729adee5c2aa398a556ee42fbc70c096500", checked := Try.checked }
namespace Rows
def none {H : Type} : Left H := { results := [], args := [] }

/-- 'hayloftlaw01.TlvForms': WHATEVER THE INPUT: true; the input reads as it did. -/
def tlvFormsSpec : ChangeSpec := { name := "tlvForms", fn := fun _ => fun
  | [d1, d2] => { results := [.lit (.bool true)], args := [d1, d2] }
  | _ => none }
def tlvFormsRow : OpenClaim := { program := "ytnnanmpogjmkiaa", sum := "992dd2dfedcca19a4648e8c238a5d729adee5c2aa398a556ee42fbc70c096500", func := "hayloft/hayloftlaw01.TlvForms", spec := "tlvForms", unfollowed := true, recurses := true, apart := false }
def TlvFormsSaid : Prop := tlvFormsRow.holds Try.pinned (OpenSpec.ofChange tlvFormsSpec)

/-- ITS FALSE NEIGHBOUR: 'it returns false'. Refute it at one input. -/
def tlvFormsWrong : ChangeSpec := { name := "tlvForms", fn := fun _ => fun
  | [d1, d2] => { results := [.lit (.bool false)], args := [d1, d2] }
  | _ => none }
def TlvFormsWrongFalsely : Prop := tlvFormsRow.holds Try.pinned (OpenSpec.ofChange tlvFormsWrong)

/-- 'hayloftlaw01.TlvReads': WHATEVER THE INPUT: true; the input reads as it did. -/
def tlvReadsSpec : ChangeSpec := { name := "tlvReads", fn := fun _ => fun
  | [d] => { results := [.lit (.bool true)], args := [d] }
  | _ => none }
def tlvReadsRow : OpenClaim := { program := "ytnnanmpogjmkiaa", sum := "992dd2dfedcca19a4648e8c238a5d729adee5c2aa398a556ee42fbc70c096500", func := "hayloft/hayloftlaw01.TlvReads", spec := "tlvReads", unfollowed := true, recurses := true, apart := false }
def TlvReadsSaid : Prop := tlvReadsRow.holds Try.pinned (OpenSpec.ofChange tlvReadsSpec)

/-- ITS FALSE NEIGHBOUR: 'it returns false'. Refute it at one input. -/
def tlvReadsWrong : ChangeSpec := { name := "tlvReads", fn := fun _ => fun
  | [d] => { results := [.lit (.bool false)], args := [d] }
  | _ => none }
def TlvReadsWrongFalsely : Prop := tlvReadsRow.holds Try.pinned (OpenSpec.ofChange tlvReadsWrong)

/-- 'hayloftlaw01.TlvBack': WHATEVER THE INPUT: true; the input reads as it did. -/
def tlvBackSpec : ChangeSpec := { name := "tlvBack", fn := fun _ => fun
  | [d1, d2, d3] => { results := [.lit (.bool true)], args := [d1, d2, d3] }
  | _ => none }
def tlvBackRow : OpenClaim := { program := "ytnnanmpogjmkiaa", sum := "992dd2dfedcca19a4648e8c238a5d729adee5c2aa398a556ee42fbc70c096500", func := "hayloft/hayloftlaw01.TlvBack", spec := "tlvBack", unfollowed := true, recurses := true, apart := false }
def TlvBackSaid : Prop := tlvBackRow.holds Try.pinned (OpenSpec.ofChange tlvBackSpec)

/-- ITS FALSE NEIGHBOUR: 'it returns false'. Refute it at one input. -/
def tlvBackWrong : ChangeSpec := { name := "tlvBack", fn := fun _ => fun
  | [d1, d2, d3] => { results := [.lit (.bool false)], args := [d1, d2, d3] }
  | _ => none }
def TlvBackWrongFalsely : Prop := tlvBackRow.holds Try.pinned (OpenSpec.ofChange tlvBackWrong)

/-- 'hayloftlaw01.TlvCuts': WHATEVER THE INPUT: true; the input reads as it did. -/
def tlvCutsSpec : ChangeSpec := { name := "tlvCuts", fn := fun _ => fun
  | [d1, d2, d3] => { results := [.lit (.bool true)], args := [d1, d2, d3] }
  | _ => none }
def tlvCutsRow : OpenClaim := { program := "ytnnanmpogjmkiaa", sum := "992dd2dfedcca19a4648e8c238a5d729adee5c2aa398a556ee42fbc70c096500", func := "hayloft/hayloftlaw01.TlvCuts", spec := "tlvCuts", unfollowed := true, recurses := true, apart := false }
def TlvCutsSaid : Prop := tlvCutsRow.holds Try.pinned (OpenSpec.ofChange tlvCutsSpec)

/-- ITS FALSE NEIGHBOUR: 'it returns false'. Refute it at one input. -/
def tlvCutsWrong : ChangeSpec := { name := "tlvCuts", fn := fun _ => fun
  | [d1, d2, d3] => { results := [.lit (.bool false)], args := [d1, d2, d3] }
  | _ => none }
def TlvCutsWrongFalsely : Prop := tlvCutsRow.holds Try.pinned (OpenSpec.ofChange tlvCutsWrong)

/-- 'hayloftlaw01.TlvMakes': WHATEVER THE INPUT: true; the input reads as it did. -/
def tlvMakesSpec : ChangeSpec := { name := "tlvMakes", fn := fun _ => fun
  | [d1, d2, d3] => { results := [.lit (.bool true)], args := [d1, d2, d3] }
  | _ => none }
def tlvMakesRow : OpenClaim := { program := "ytnnanmpogjmkiaa", sum := "992dd2dfedcca19a4648e8c238a5d729adee5c2aa398a556ee42fbc70c096500", func := "hayloft/hayloftlaw01.TlvMakes", spec := "tlvMakes", unfollowed := true, recurses := true, apart := false }
def TlvMakesSaid : Prop := tlvMakesRow.holds Try.pinned (OpenSpec.ofChange tlvMakesSpec)

/-- ITS FALSE NEIGHBOUR: 'it returns false'. Refute it at one input. -/
def tlvMakesWrong : ChangeSpec := { name := "tlvMakes", fn := fun _ => fun
  | [d1, d2, d3] => { results := [.lit (.bool false)], args := [d1, d2, d3] }
  | _ => none }
def TlvMakesWrongFalsely : Prop := tlvMakesRow.holds Try.pinned (OpenSpec.ofChange tlvMakesWrong)

/- THE SECOND FORM. 'bulk': how many values and letters a reading holds, each counted each time it is reached (what is shared counts as often as it is met; a slice's spare places count too). A statement '..UptoSaid' is the law's where the arguments, and the package variables that the reading takes, are together of bulk at most 1048576: NARROWER than '..Said'. Prove '..Said' where nothing that the law and all that it calls make is longer than what came in: it says more and counts as full. Else prove '..UptoSaid'. A law counts once. -/
mutual
def uptoBulk {H : Type} : DataW H → Nat
  | .lit (.string bytes) => bytes.length + 1
  | .lit _ => 1
  | .nil => 1
  | .ptr d => uptoBulk d + 1
  | .slice elems spare => uptoBulkAll elems + uptoBulkAll spare + 1
  | .agg parts => uptoBulkAll parts + 1
  | .iface _ d => uptoBulk d + 1
  | .map entries => uptoBulkEntries entries + 1
  | .held _ => 1
def uptoBulkAll {H : Type} : List (DataW H) → Nat
  | [] => 0
  | d :: r => uptoBulk d + uptoBulkAll r
def uptoBulkEntries {H : Type} : List (Lit × DataW H) → Nat
  | [] => 0
  | x :: r => uptoBulkEntry x + uptoBulkEntries r
def uptoBulkEntry {H : Type} : Lit × DataW H → Nat
  | (.string bytes, d) => bytes.length + uptoBulk d + 1
  | (_, d) => uptoBulk d + 1
 end
def uptoSmall : (H : Type) → List (DataW H) → Bool := fun _ ds => decide (uptoBulkAll ds ≤ 1048576)
def OpenSpec.upto (s : _root_.Go.ChangeSpec) : _root_.Go.OpenSpec := { _root_.Go.OpenSpec.ofChange s with cond := some uptoSmall }

/-- 'hayloftlaw01.TlvForms', WHERE WHAT IT READS IS OF BULK AT MOST 1048576: true; the input reads as it did. -/
def tlvFormsUptoRow : OpenClaim := { program := "ytnnanmpogjmkiaa", sum := "992dd2dfedcca19a4648e8c238a5d729adee5c2aa398a556ee42fbc70c096500", func := "hayloft/hayloftlaw01.TlvForms", spec := "tlvForms", unfollowed := true, recurses := true, apart := false, narrowed := true }
def TlvFormsUptoSaid : Prop := tlvFormsUptoRow.holds Try.pinned (OpenSpec.upto tlvFormsSpec)

/-- 'hayloftlaw01.TlvReads', WHERE WHAT IT READS IS OF BULK AT MOST 1048576: true; the input reads as it did. -/
def tlvReadsUptoRow : OpenClaim := { program := "ytnnanmpogjmkiaa", sum := "992dd2dfedcca19a4648e8c238a5d729adee5c2aa398a556ee42fbc70c096500", func := "hayloft/hayloftlaw01.TlvReads", spec := "tlvReads", unfollowed := true, recurses := true, apart := false, narrowed := true }
def TlvReadsUptoSaid : Prop := tlvReadsUptoRow.holds Try.pinned (OpenSpec.upto tlvReadsSpec)

/-- 'hayloftlaw01.TlvBack', WHERE WHAT IT READS IS OF BULK AT MOST 1048576: true; the input reads as it did. -/
def tlvBackUptoRow : OpenClaim := { program := "ytnnanmpogjmkiaa", sum := "992dd2dfedcca19a4648e8c238a5d729adee5c2aa398a556ee42fbc70c096500", func := "hayloft/hayloftlaw01.TlvBack", spec := "tlvBack", unfollowed := true, recurses := true, apart := false, narrowed := true }
def TlvBackUptoSaid : Prop := tlvBackUptoRow.holds Try.pinned (OpenSpec.upto tlvBackSpec)

/-- 'hayloftlaw01.TlvCuts', WHERE WHAT IT READS IS OF BULK AT MOST 1048576: true; the input reads as it did. -/
def tlvCutsUptoRow : OpenClaim := { program := "ytnnanmpogjmkiaa", sum := "992dd2dfedcca19a4648e8c238a5d729adee5c2aa398a556ee42fbc70c096500", func := "hayloft/hayloftlaw01.TlvCuts", spec := "tlvCuts", unfollowed := true, recurses := true, apart := false, narrowed := true }
def TlvCutsUptoSaid : Prop := tlvCutsUptoRow.holds Try.pinned (OpenSpec.upto tlvCutsSpec)

/-- 'hayloftlaw01.TlvMakes', WHERE WHAT IT READS IS OF BULK AT MOST 1048576: true; the input reads as it did. -/
def tlvMakesUptoRow : OpenClaim := { program := "ytnnanmpogjmkiaa", sum := "992dd2dfedcca19a4648e8c238a5d729adee5c2aa398a556ee42fbc70c096500", func := "hayloft/hayloftlaw01.TlvMakes", spec := "tlvMakes", unfollowed := true, recurses := true, apart := false, narrowed := true }
def TlvMakesUptoSaid : Prop := tlvMakesUptoRow.holds Try.pinned (OpenSpec.upto tlvMakesSpec)

end Rows
end Go.Proofs.Ytnnanmpogjmkiaa
