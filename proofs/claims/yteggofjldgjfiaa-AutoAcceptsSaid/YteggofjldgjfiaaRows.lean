/-
  No cell of these rows narrows 'for every input' (looked for: loops, veiled, ifaces, maps, wideKeys, modest, calm, conditions, laid).
  DERIVED. THE GIVEN ROWS OF THIS SEAT. 5 by the template 'for every input the law returns true; each argument reads behind the call as it read before'; 0 by the template 'total and deterministic' (their statements: YteggofjldgjfiaaTotals.lean).
  GIVEN WITH THE SEED: the statements are not yours to turn. If you find one false, say at which input.
  Laid BY PROGRAM, IN A SANDBOX (cutbox-rows.mjs): the forced cells as the released guide's own fill.sh prints them over the translation cb446bc98792b38f… (all of the seat's roots in one cut). By AI agents, Wed Nov 11 2026. No macro, syntax, notation, axiom, sorry.
-/
import Derived.Test.YteggofjldgjfiaaChecked
import GoSem.Claim
import GoSem.ClaimJoined
import GoSem.ClaimMapViews
import Derived.JoinedTies
import Derived.KernelRfl
namespace Go.Proofs.Yteggofjldgjfiaa
/- THE CELL 'sum', in the pinned program and in every row, IS THE sha256 OF THE DUMP (.gsa) THAT YteggofjldgjfiaaProg.lean LOADS. Nothing in Lean hashes anything: it is a label: what it is worth is what the hold of that sum in a sandbox is worth. -/
noncomputable def Try.pinned : Pinned := { name := "yteggofjldgjfiaa", sum := "cb446bc98792b38f9521193bc66745a157e5c8a00b1ae17b4fbd358b15206b84", checked := Try.checked }
namespace Rows
def none {H : Type} : Left H := { results := [], args := [] }

/-- 'ablautlaw02.AutoValidates': WHATEVER THE INPUT: true; the input reads as it did. -/
def autoValidatesSpec : ChangeSpec := { name := "autoValidates", fn := fun _ => fun
  | [d] => { results := [.lit (.bool true)], args := [d] }
  | _ => none }
def autoValidatesRow : OpenClaim := { program := "yteggofjldgjfiaa", sum := "cb446bc98792b38f9521193bc66745a157e5c8a00b1ae17b4fbd358b15206b84", func := "ablaut/ablautlaw02.AutoValidates", spec := "autoValidates", unfollowed := true, recurses := true, apart := false }
def AutoValidatesSaid : Prop := autoValidatesRow.holds Try.pinned (OpenSpec.ofChange autoValidatesSpec)

/-- ITS FALSE NEIGHBOUR: 'it returns false'. Refute it at one input. -/
def autoValidatesWrong : ChangeSpec := { name := "autoValidates", fn := fun _ => fun
  | [d] => { results := [.lit (.bool false)], args := [d] }
  | _ => none }
def AutoValidatesWrongFalsely : Prop := autoValidatesRow.holds Try.pinned (OpenSpec.ofChange autoValidatesWrong)

/-- 'ablautlaw02.AutoAccepts': WHATEVER THE INPUT: true; the input reads as it did. -/
def autoAcceptsSpec : ChangeSpec := { name := "autoAccepts", fn := fun _ => fun
  | [d1, d2] => { results := [.lit (.bool true)], args := [d1, d2] }
  | _ => none }
def autoAcceptsRow : OpenClaim := { program := "yteggofjldgjfiaa", sum := "cb446bc98792b38f9521193bc66745a157e5c8a00b1ae17b4fbd358b15206b84", func := "ablaut/ablautlaw02.AutoAccepts", spec := "autoAccepts", unfollowed := true, recurses := true, apart := false }
def AutoAcceptsSaid : Prop := autoAcceptsRow.holds Try.pinned (OpenSpec.ofChange autoAcceptsSpec)

/-- ITS FALSE NEIGHBOUR: 'it returns false'. Refute it at one input. -/
def autoAcceptsWrong : ChangeSpec := { name := "autoAccepts", fn := fun _ => fun
  | [d1, d2] => { results := [.lit (.bool false)], args := [d1, d2] }
  | _ => none }
def AutoAcceptsWrongFalsely : Prop := autoAcceptsRow.holds Try.pinned (OpenSpec.ofChange autoAcceptsWrong)

/-- 'ablautlaw02.AutoReverses': WHATEVER THE INPUT: true; the input reads as it did. -/
def autoReversesSpec : ChangeSpec := { name := "autoReverses", fn := fun _ => fun
  | [d1, d2] => { results := [.lit (.bool true)], args := [d1, d2] }
  | _ => none }
def autoReversesRow : OpenClaim := { program := "yteggofjldgjfiaa", sum := "cb446bc98792b38f9521193bc66745a157e5c8a00b1ae17b4fbd358b15206b84", func := "ablaut/ablautlaw02.AutoReverses", spec := "autoReverses", unfollowed := true, recurses := true, apart := false }
def AutoReversesSaid : Prop := autoReversesRow.holds Try.pinned (OpenSpec.ofChange autoReversesSpec)

/-- ITS FALSE NEIGHBOUR: 'it returns false'. Refute it at one input. -/
def autoReversesWrong : ChangeSpec := { name := "autoReverses", fn := fun _ => fun
  | [d1, d2] => { results := [.lit (.bool false)], args := [d1, d2] }
  | _ => none }
def AutoReversesWrongFalsely : Prop := autoReversesRow.holds Try.pinned (OpenSpec.ofChange autoReversesWrong)

/-- 'ablautlaw02.AutoTells': WHATEVER THE INPUT: true; the input reads as it did. -/
def autoTellsSpec : ChangeSpec := { name := "autoTells", fn := fun _ => fun
  | [d1, d2, d3] => { results := [.lit (.bool true)], args := [d1, d2, d3] }
  | _ => none }
def autoTellsRow : OpenClaim := { program := "yteggofjldgjfiaa", sum := "cb446bc98792b38f9521193bc66745a157e5c8a00b1ae17b4fbd358b15206b84", func := "ablaut/ablautlaw02.AutoTells", spec := "autoTells", unfollowed := true, recurses := true, apart := false }
def AutoTellsSaid : Prop := autoTellsRow.holds Try.pinned (OpenSpec.ofChange autoTellsSpec)

/-- ITS FALSE NEIGHBOUR: 'it returns false'. Refute it at one input. -/
def autoTellsWrong : ChangeSpec := { name := "autoTells", fn := fun _ => fun
  | [d1, d2, d3] => { results := [.lit (.bool false)], args := [d1, d2, d3] }
  | _ => none }
def AutoTellsWrongFalsely : Prop := autoTellsRow.holds Try.pinned (OpenSpec.ofChange autoTellsWrong)

/-- 'ablautlaw02.AutoAgrees': WHATEVER THE INPUT: true; the input reads as it did. -/
def autoAgreesSpec : ChangeSpec := { name := "autoAgrees", fn := fun _ => fun
  | [d] => { results := [.lit (.bool true)], args := [d] }
  | _ => none }
def autoAgreesRow : OpenClaim := { program := "yteggofjldgjfiaa", sum := "cb446bc98792b38f9521193bc66745a157e5c8a00b1ae17b4fbd358b15206b84", func := "ablaut/ablautlaw02.AutoAgrees", spec := "autoAgrees", unfollowed := true, recurses := true, apart := false }
def AutoAgreesSaid : Prop := autoAgreesRow.holds Try.pinned (OpenSpec.ofChange autoAgreesSpec)

/-- ITS FALSE NEIGHBOUR: 'it returns false'. Refute it at one input. -/
def autoAgreesWrong : ChangeSpec := { name := "autoAgrees", fn := fun _ => fun
  | [d] => { results := [.lit (.bool false)], args := [d] }
  | _ => none }
def AutoAgreesWrongFalsely : Prop := autoAgreesRow.holds Try.pinned (OpenSpec.ofChange autoAgreesWrong)

/- THE SECOND FORM. 'bulk': how many values and letters a reading holds, each counted each time it is reached (what is shared counts as often as it is met; a slice's spare places count too). A statement '..UptoSaid' is the law's where the arguments, and the package variables that the reading takes, are together of bulk at most 1048576: NARROWER than '..Said'. Prove '..Said' where nothing that the law and all that it calls make is longer than what came in: it says more and counts as full. Else prove '..UptoSaid'. A law counts once. -/
mutual
def uptoBulk {H : Type} : DataW H → Nat
  | .lit (.string bytes) => bytes.length + 1
  | .lit _ => 1
  | .nil => 1
  | .ptr d => uptoBulk d + 1
  | .slice elems spare => uptoBulkAll elems + uptoBulkAll spare + 1
  | .agg parts => uptoBulkAll parts + 1
  | .iface _ d => uptoBulk d + 1
  | .map entries => uptoBulkEntries entries + 1
  | .held _ => 1
def uptoBulkAll {H : Type} : List (DataW H) → Nat
  | [] => 0
  | d :: r => uptoBulk d + uptoBulkAll r
def uptoBulkEntries {H : Type} : List (Lit × DataW H) → Nat
  | [] => 0
  | x :: r => uptoBulkEntry x + uptoBulkEntries r
def uptoBulkEntry {H : Type} : Lit × DataW H → Nat
  | (.string bytes, d) => bytes.length + uptoBulk d + 1
  | (_, d) => uptoBulk d + 1
 end
def uptoSmall : (H : Type) → List (DataW H) → Bool := fun _ ds => decide (uptoBulkAll ds ≤ 1048576)
def OpenSpec.upto (s : _root_.Go.ChangeSpec) : _root_.Go.OpenSpec := { _root_.Go.OpenSpec.ofChange s with cond := some uptoSmall }

/-- 'ablautlaw02.AutoValidates', WHERE WHAT IT READS IS OF BULK AT MOST 1048576: true; the input reads as it did. -/
def autoValidatesUptoRow : OpenClaim := { program := "yteggofjldgjfiaa", sum := "cb446bc98792b38f9521193bc66745a157e5c8a00b1ae17b4fbd358b15206b84", func := "ablaut/ablautlaw02.AutoValidates", spec := "autoValidates", unfollowed := true, recurses := true, apart := false, narrowed := true }
def AutoValidatesUptoSaid : Prop := autoValidatesUptoRow.holds Try.pinned (OpenSpec.upto autoValidatesSpec)

/-- 'ablautlaw02.AutoAccepts', WHERE WHAT IT READS IS OF BULK AT MOST 1048576: true; the input reads as it did. -/
def autoAcceptsUptoRow : OpenClaim := { program := "yteggofjldgjfiaa", sum := "cb446bc98792b38f9521193bc66745a157e5c8a00b1ae17b4fbd358b15206b84", func := "ablaut/ablautlaw02.AutoAccepts", spec := "autoAccepts", unfollowed := true, recurses := true, apart := false, narrowed := true }
def AutoAcceptsUptoSaid : Prop := autoAcceptsUptoRow.holds Try.pinned (OpenSpec.upto autoAcceptsSpec)

/-- 'ablautlaw02.AutoReverses', WHERE WHAT IT READS IS OF BULK AT MOST 1048576: true; the input reads as it did. -/
def autoReversesUptoRow : OpenClaim := { program := "yteggofjldgjfiaa", sum := "cb446bc98792b38f9521193bc66745a157e5c8a00b1ae17b4fbd358b15206b84", func := "ablaut/ablautlaw02.AutoReverses", spec := "autoReverses", unfollowed := true, recurses := true, apart := false, narrowed := true }
def AutoReversesUptoSaid : Prop := autoReversesUptoRow.holds Try.pinned (OpenSpec.upto autoReversesSpec)

/-- 'ablautlaw02.AutoTells', WHERE WHAT IT READS IS OF BULK AT MOST 1048576: true; the input reads as it did. -/
def autoTellsUptoRow : OpenClaim := { program := "yteggofjldgjfiaa", sum := "cb446bc98792b38f9521193bc66745a157e5c8a00b1ae17b4fbd358b15206b84", func := "ablaut/ablautlaw02.AutoTells", spec := "autoTells", unfollowed := true, recurses := true, apart := false, narrowed := true }
def AutoTellsUptoSaid : Prop := autoTellsUptoRow.holds Try.pinned (OpenSpec.upto autoTellsSpec)

/-- 'ablautlaw02.AutoAgrees', WHERE WHAT IT READS IS OF BULK AT MOST 1048576: true; the input reads as it did. -/
def autoAgreesUptoRow : OpenClaim := { program := "yteggofjldgjfiaa", sum := "cb446bc98792b38f9521193bc66745a157e5c8a00b1ae17b4fbd358b15206b84", func := "ablaut/ablautlaw02.AutoAgrees", spec := "autoAgrees", unfollowed := true, recurses := true, apart := false, narrowed := true }
def AutoAgreesUptoSaid : Prop := autoAgreesUptoRow.holds Try.pinned (OpenSpec.upto autoAgreesSpec)

end Rows
end Go.Proofs.Yteggofjldgjfiaa
