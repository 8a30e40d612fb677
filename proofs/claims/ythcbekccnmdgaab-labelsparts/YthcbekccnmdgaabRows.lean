/-
  No cell of these rows narrows 'for every input' (looked for: loops, veiled, ifaces, maps, wideKeys, modest, calm, conditions, laid).
  DERIVED. THE GIVEN ROWS OF THIS SEAT. 3 by the template 'for every input the law returns true; each argument reads behind the call as it read before'; 0 by the template 'total and deterministic' (their statements: YthcbekccnmdgaabTotals.lean).
  GIVEN WITH THE SEED: the statements are not yours to turn. If you find one false, say at which input.
  Laid BY PROGRAM, IN A SANDBOX (cutbox-rows.mjs): the forced cells as the released guide's own fill.sh prints them over the translation 3a4ecd3d9831a8e4… (all of the seat's roots in one cut). By AI agents, Wed Nov 11 2026. No macro, syntax, notation, axiom, sorry.
-/
import Derived.Test.YthcbekccnmdgaabChecked
import GoSem.Claim
import GoSem.ClaimJoined
import GoSem.ClaimMapViews
import Derived.JoinedTies
import Derived.KernelRfl
namespace Go.Proofs.Ythcbekccnmdgaab
/- THE CELL 'sum', in the pinned program and in every row, IS THE sha256 OF THE DUMP (.gsa) THAT YthcbekccnmdgaabProg.lean LOADS. Nothing in Lean hashes anything: it is a label: what it is worth is what the hold of that sum in a sandbox is worth. -/
noncomputable def Try.pinned : Pinned := { name := "ythcbekccnmdgaab", sum := "3a4ecd3d9831a8e4cdabc8d4d44e60773f4fc514d4fe35944c5604aa57b386d2", checked := Try.checked }
namespace Rows
def none {H : Type} : Left H := { results := [], args := [] }

/-- 'tocsinlaw07.LabelsQuote': WHATEVER THE INPUT: true; the input reads as it did. -/
def labelsQuoteSpec : ChangeSpec := { name := "labelsQuote", fn := fun _ => fun
  | [d1, d2] => { results := [.lit (.bool true)], args := [d1, d2] }
  | _ => none }
def labelsQuoteRow : OpenClaim := { program := "ythcbekccnmdgaab", sum := "3a4ecd3d9831a8e4cdabc8d4d44e60773f4fc514d4fe35944c5604aa57b386d2", func := "tocsin/tocsinlaw07.LabelsQuote", spec := "labelsQuote", inPlace := ["internal/bytealg.IndexByteString", "internal/bytealg.IndexString", "internal/bytealg.abigen_runtime_cmpstring"], unfollowed := true, recurses := true, named := ["internal/bytealg.MaxLen"], apart := false }
def LabelsQuoteSaid : Prop := labelsQuoteRow.holds Try.pinned (OpenSpec.ofChange labelsQuoteSpec)

/-- ITS FALSE NEIGHBOUR: 'it returns false'. Refute it at one input. -/
def labelsQuoteWrong : ChangeSpec := { name := "labelsQuote", fn := fun _ => fun
  | [d1, d2] => { results := [.lit (.bool false)], args := [d1, d2] }
  | _ => none }
def LabelsQuoteWrongFalsely : Prop := labelsQuoteRow.holds Try.pinned (OpenSpec.ofChange labelsQuoteWrong)

/-- 'tocsinlaw07.LabelsLess1': WHATEVER THE INPUT: true; the input reads as it did. -/
def labelsLess1Spec : ChangeSpec := { name := "labelsLess1", fn := fun _ => fun
  | [d] => { results := [.lit (.bool true)], args := [d] }
  | _ => none }
def labelsLess1Row : OpenClaim := { program := "ythcbekccnmdgaab", sum := "3a4ecd3d9831a8e4cdabc8d4d44e60773f4fc514d4fe35944c5604aa57b386d2", func := "tocsin/tocsinlaw07.LabelsLess1", spec := "labelsLess1", inPlace := ["internal/bytealg.IndexByteString", "internal/bytealg.IndexString", "internal/bytealg.abigen_runtime_cmpstring"], unfollowed := true, recurses := true, named := ["internal/bytealg.MaxLen"], apart := false }
def LabelsLess1Said : Prop := labelsLess1Row.holds Try.pinned (OpenSpec.ofChange labelsLess1Spec)

/-- ITS FALSE NEIGHBOUR: 'it returns false'. Refute it at one input. -/
def labelsLess1Wrong : ChangeSpec := { name := "labelsLess1", fn := fun _ => fun
  | [d] => { results := [.lit (.bool false)], args := [d] }
  | _ => none }
def LabelsLess1WrongFalsely : Prop := labelsLess1Row.holds Try.pinned (OpenSpec.ofChange labelsLess1Wrong)

/-- 'tocsinlaw07.LabelsParts': WHATEVER THE INPUT: true; the input reads as it did. -/
def labelsPartsSpec : ChangeSpec := { name := "labelsParts", fn := fun _ => fun
  | [d1, d2, d3] => { results := [.lit (.bool true)], args := [d1, d2, d3] }
  | _ => none }
def labelsPartsRow : OpenClaim := { program := "ythcbekccnmdgaab", sum := "3a4ecd3d9831a8e4cdabc8d4d44e60773f4fc514d4fe35944c5604aa57b386d2", func := "tocsin/tocsinlaw07.LabelsParts", spec := "labelsParts", inPlace := ["internal/bytealg.IndexByteString", "internal/bytealg.IndexString", "internal/bytealg.abigen_runtime_cmpstring"], unfollowed := true, recurses := true, named := ["internal/bytealg.MaxLen"], apart := false }
def LabelsPartsSaid : Prop := labelsPartsRow.holds Try.pinned (OpenSpec.ofChange labelsPartsSpec)

/-- ITS FALSE NEIGHBOUR: 'it returns false'. Refute it at one input. -/
def labelsPartsWrong : ChangeSpec := { name := "labelsParts", fn := fun _ => fun
  | [d1, d2, d3] => { results := [.lit (.bool false)], args := [d1, d2, d3] }
  | _ => none }
def LabelsPartsWrongFalsely : Prop := labelsPartsRow.holds Try.pinned (OpenSpec.ofChange labelsPartsWrong)

/- THE SECOND FORM. 'bulk': how many values and letters a reading holds, each counted each time it is reached (what is shared counts as often as it is met; a slice's spare places count too). A statement '..UptoSaid' is the law's where the arguments, and the package variables that the reading takes, are together of bulk at most 1048576: NARROWER than '..Said'. Prove '..Said' where nothing that the law and all that it calls make is longer than what came in: it says more and counts as full. Else prove '..UptoSaid'. A law counts once. -/
mutual
def uptoBulk {H : Type} : DataW H → Nat
  | .lit (.string bytes) => bytes.length + 1
  | .lit _ => 1
  | .nil => 1
  | .ptr d => uptoBulk d + 1
  | .slice elems spare => uptoBulkAll elems + uptoBulkAll spare + 1
  | .agg parts => uptoBulkAll parts + 1
  | .iface _ d => uptoBulk d + 1
  | .map entries => uptoBulkEntries entries + 1
  | .held _ => 1
def uptoBulkAll {H : Type} : List (DataW H) → Nat
  | [] => 0
  | d :: r => uptoBulk d + uptoBulkAll r
def uptoBulkEntries {H : Type} : List (Lit × DataW H) → Nat
  | [] => 0
  | x :: r => uptoBulkEntry x + uptoBulkEntries r
def uptoBulkEntry {H : Type} : Lit × DataW H → Nat
  | (.string bytes, d) => bytes.length + uptoBulk d + 1
  | (_, d) => uptoBulk d + 1
 end
def uptoSmall : (H : Type) → List (DataW H) → Bool := fun _ ds => decide (uptoBulkAll ds ≤ 1048576)
def OpenSpec.upto (s : _root_.Go.ChangeSpec) : _root_.Go.OpenSpec := { _root_.Go.OpenSpec.ofChange s with cond := some uptoSmall }

/-- 'tocsinlaw07.LabelsQuote', WHERE WHAT IT READS IS OF BULK AT MOST 1048576: true; the input reads as it did. -/
def labelsQuoteUptoRow : OpenClaim := { program := "ythcbekccnmdgaab", sum := "3a4ecd3d9831a8e4cdabc8d4d44e60773f4fc514d4fe35944c5604aa57b386d2", func := "tocsin/tocsinlaw07.LabelsQuote", spec := "labelsQuote", inPlace := ["internal/bytealg.IndexByteString", "internal/bytealg.IndexString", "internal/bytealg.abigen_runtime_cmpstring"], unfollowed := true, recurses := true, named := ["internal/bytealg.MaxLen"], apart := false, narrowed := true }
def LabelsQuoteUptoSaid : Prop := labelsQuoteUptoRow.holds Try.pinned (OpenSpec.upto labelsQuoteSpec)

/-- 'tocsinlaw07.LabelsLess1', WHERE WHAT IT READS IS OF BULK AT MOST 1048576: true; the input reads as it did. -/
def labelsLess1UptoRow : OpenClaim := { program := "ythcbekccnmdgaab", sum := "3a4ecd3d9831a8e4cdabc8d4d44e60773f4fc514d4fe35944c5604aa57b386d2", func := "tocsin/tocsinlaw07.LabelsLess1", spec := "labelsLess1", inPlace := ["internal/bytealg.IndexByteString", "internal/bytealg.IndexString", "internal/bytealg.abigen_runtime_cmpstring"], unfollowed := true, recurses := true, named := ["internal/bytealg.MaxLen"], apart := false, narrowed := true }
def LabelsLess1UptoSaid : Prop := labelsLess1UptoRow.holds Try.pinned (OpenSpec.upto labelsLess1Spec)

/-- 'tocsinlaw07.LabelsParts', WHERE WHAT IT READS IS OF BULK AT MOST 1048576: true; the input reads as it did. -/
def labelsPartsUptoRow : OpenClaim := { program := "ythcbekccnmdgaab", sum := "3a4ecd3d9831a8e4cdabc8d4d44e60773f4fc514d4fe35944c5604aa57b386d2", func := "tocsin/tocsinlaw07.LabelsParts", spec := "labelsParts", inPlace := ["internal/bytealg.IndexByteString", "internal/bytealg.IndexString", "internal/bytealg.abigen_runtime_cmpstring"], unfollowed := true, recurses := true, named := ["internal/bytealg.MaxLen"], apart := false, narrowed := true }
def LabelsPartsUptoSaid : Prop := labelsPartsUptoRow.holds Try.pinned (OpenSpec.upto labelsPartsSpec)

end Rows
end Go.Proofs.Ythcbekccnmdgaab
