/-
  No cell of these rows narrows 'for every input' (looked for: loops, veiled, ifaces, maps, wideKeys, modest, calm, conditions, laid).
  DERIVED. THE GIVEN ROWS OF THIS SEAT. 6 by the template 'for every input the law returns true; each argument reads behind the call as it read before'; 0 by the template 'total and deterministic' (their statements: YthcbekccnmdgaaaTotals.lean).
  GIVEN WITH THE SEED: the statements are not yours to turn. If you find one false, say at which input.
  Laid BY PROGRAM, IN A SANDBOX (cutbox-rows.mjs): the forced cells as the released guide's own fill.sh prints them over the translation 9a2856824679e2a8… (all of the seat's roots in one cut). By AI agents, Wed Nov 11 2026. No macro, syntax, notation, axiom, sorry.
-/
import Derived.Test.YthcbekccnmdgaaaChecked
import GoSem.Claim
import GoSem.ClaimJoined
import GoSem.ClaimMapViews
import Derived.JoinedTies
import Derived.KernelRfl
namespace Go.Proofs.Ythcbekccnmdgaaa
/- THE CELL 'sum', in the pinned program and in every row, IS THE sha256 OF THE DUMP (.gsa) THAT YthcbekccnmdgaaaProg.lean LOADS. Nothing in Lean hashes anything: it is a label: what it is worth is what the hold of that sum in a sandbox is worth. -/
noncomputable def Try.pinned : Pinned := { name := "ythcbekccnmdgaaa", sum := "9a2856824679e2a8eb1d0c66d99b0adc1e2ea74ef00477e63e9abc80d94d9bda", checked := Try.checked }
namespace Rows
def none {H : Type} : Left H := { results := [], args := [] }

/-- 'tocsinlaw07.LabelsTell': WHATEVER THE INPUT: true; the input reads as it did. -/
def labelsTellSpec : ChangeSpec := { name := "labelsTell", fn := fun _ => fun
  | [d1, d2, d3] => { results := [.lit (.bool true)], args := [d1, d2, d3] }
  | _ => none }
def labelsTellRow : OpenClaim := { program := "ythcbekccnmdgaaa", sum := "9a2856824679e2a8eb1d0c66d99b0adc1e2ea74ef00477e63e9abc80d94d9bda", func := "tocsin/tocsinlaw07.LabelsTell", spec := "labelsTell", inPlace := ["internal/abi.NoEscape", "internal/bytealg.MakeNoZero"], unfollowed := true, recurses := true, apart := false }
def LabelsTellSaid : Prop := labelsTellRow.holds Try.pinned (OpenSpec.ofChange labelsTellSpec)

/-- ITS FALSE NEIGHBOUR: 'it returns false'. Refute it at one input. -/
def labelsTellWrong : ChangeSpec := { name := "labelsTell", fn := fun _ => fun
  | [d1, d2, d3] => { results := [.lit (.bool false)], args := [d1, d2, d3] }
  | _ => none }
def LabelsTellWrongFalsely : Prop := labelsTellRow.holds Try.pinned (OpenSpec.ofChange labelsTellWrong)

/-- 'tocsinlaw07.LabelsRead': WHATEVER THE INPUT: true; the input reads as it did. -/
def labelsReadSpec : ChangeSpec := { name := "labelsRead", fn := fun _ => fun
  | [d] => { results := [.lit (.bool true)], args := [d] }
  | _ => none }
def labelsReadRow : OpenClaim := { program := "ythcbekccnmdgaaa", sum := "9a2856824679e2a8eb1d0c66d99b0adc1e2ea74ef00477e63e9abc80d94d9bda", func := "tocsin/tocsinlaw07.LabelsRead", spec := "labelsRead", inPlace := ["internal/bytealg.IndexByteString", "internal/bytealg.IndexString"], unfollowed := true, recurses := true, named := ["internal/bytealg.MaxLen"], apart := false }
def LabelsReadSaid : Prop := labelsReadRow.holds Try.pinned (OpenSpec.ofChange labelsReadSpec)

/-- ITS FALSE NEIGHBOUR: 'it returns false'. Refute it at one input. -/
def labelsReadWrong : ChangeSpec := { name := "labelsRead", fn := fun _ => fun
  | [d] => { results := [.lit (.bool false)], args := [d] }
  | _ => none }
def LabelsReadWrongFalsely : Prop := labelsReadRow.holds Try.pinned (OpenSpec.ofChange labelsReadWrong)

/-- 'tocsinlaw07.LabelsLess': WHATEVER THE INPUT: true; the input reads as it did. -/
def labelsLessSpec : ChangeSpec := { name := "labelsLess", fn := fun _ => fun
  | [d1, d2] => { results := [.lit (.bool true)], args := [d1, d2] }
  | _ => none }
def labelsLessRow : OpenClaim := { program := "ythcbekccnmdgaaa", sum := "9a2856824679e2a8eb1d0c66d99b0adc1e2ea74ef00477e63e9abc80d94d9bda", func := "tocsin/tocsinlaw07.LabelsLess", spec := "labelsLess", inPlace := ["internal/bytealg.abigen_runtime_cmpstring"], unfollowed := true, recurses := true, apart := false }
def LabelsLessSaid : Prop := labelsLessRow.holds Try.pinned (OpenSpec.ofChange labelsLessSpec)

/-- ITS FALSE NEIGHBOUR: 'it returns false'. Refute it at one input. -/
def labelsLessWrong : ChangeSpec := { name := "labelsLess", fn := fun _ => fun
  | [d1, d2] => { results := [.lit (.bool false)], args := [d1, d2] }
  | _ => none }
def LabelsLessWrongFalsely : Prop := labelsLessRow.holds Try.pinned (OpenSpec.ofChange labelsLessWrong)

/-- 'tocsinlaw07.LabelsBack': WHATEVER THE INPUT: true; the input reads as it did. -/
def labelsBackSpec : ChangeSpec := { name := "labelsBack", fn := fun _ => fun
  | [d1, d2, d3] => { results := [.lit (.bool true)], args := [d1, d2, d3] }
  | _ => none }
def labelsBackRow : OpenClaim := { program := "ythcbekccnmdgaaa", sum := "9a2856824679e2a8eb1d0c66d99b0adc1e2ea74ef00477e63e9abc80d94d9bda", func := "tocsin/tocsinlaw07.LabelsBack", spec := "labelsBack", inPlace := ["internal/bytealg.IndexByteString", "internal/bytealg.IndexString", "internal/bytealg.abigen_runtime_cmpstring", "internal/abi.NoEscape", "internal/bytealg.MakeNoZero"], unfollowed := true, recurses := true, named := ["internal/bytealg.MaxLen"], apart := false }
def LabelsBackSaid : Prop := labelsBackRow.holds Try.pinned (OpenSpec.ofChange labelsBackSpec)

/-- ITS FALSE NEIGHBOUR: 'it returns false'. Refute it at one input. -/
def labelsBackWrong : ChangeSpec := { name := "labelsBack", fn := fun _ => fun
  | [d1, d2, d3] => { results := [.lit (.bool false)], args := [d1, d2, d3] }
  | _ => none }
def LabelsBackWrongFalsely : Prop := labelsBackRow.holds Try.pinned (OpenSpec.ofChange labelsBackWrong)

/-- 'tocsinlaw07.LabelsOrder': WHATEVER THE INPUT: true; the input reads as it did. -/
def labelsOrderSpec : ChangeSpec := { name := "labelsOrder", fn := fun _ => fun
  | [d1, d2, d3] => { results := [.lit (.bool true)], args := [d1, d2, d3] }
  | _ => none }
def labelsOrderRow : OpenClaim := { program := "ythcbekccnmdgaaa", sum := "9a2856824679e2a8eb1d0c66d99b0adc1e2ea74ef00477e63e9abc80d94d9bda", func := "tocsin/tocsinlaw07.LabelsOrder", spec := "labelsOrder", inPlace := ["internal/bytealg.IndexByteString", "internal/bytealg.IndexString", "internal/bytealg.abigen_runtime_cmpstring", "internal/abi.NoEscape", "internal/bytealg.MakeNoZero"], unfollowed := true, recurses := true, named := ["internal/bytealg.MaxLen"], apart := false }
def LabelsOrderSaid : Prop := labelsOrderRow.holds Try.pinned (OpenSpec.ofChange labelsOrderSpec)

/-- ITS FALSE NEIGHBOUR: 'it returns false'. Refute it at one input. -/
def labelsOrderWrong : ChangeSpec := { name := "labelsOrder", fn := fun _ => fun
  | [d1, d2, d3] => { results := [.lit (.bool false)], args := [d1, d2, d3] }
  | _ => none }
def LabelsOrderWrongFalsely : Prop := labelsOrderRow.holds Try.pinned (OpenSpec.ofChange labelsOrderWrong)

/-- 'tocsinlaw07.LabelsValue': WHATEVER THE INPUT: true; the input reads as it did. -/
def labelsValueSpec : ChangeSpec := { name := "labelsValue", fn := fun _ => fun
  | [d1, d2] => { results := [.lit (.bool true)], args := [d1, d2] }
  | _ => none }
def labelsValueRow : OpenClaim := { program := "ythcbekccnmdgaaa", sum := "9a2856824679e2a8eb1d0c66d99b0adc1e2ea74ef00477e63e9abc80d94d9bda", func := "tocsin/tocsinlaw07.LabelsValue", spec := "labelsValue", inPlace := ["internal/bytealg.IndexByteString", "internal/bytealg.IndexString", "internal/bytealg.abigen_runtime_cmpstring"], unfollowed := true, recurses := true, named := ["internal/bytealg.MaxLen"], apart := false }
def LabelsValueSaid : Prop := labelsValueRow.holds Try.pinned (OpenSpec.ofChange labelsValueSpec)

/-- ITS FALSE NEIGHBOUR: 'it returns false'. Refute it at one input. -/
def labelsValueWrong : ChangeSpec := { name := "labelsValue", fn := fun _ => fun
  | [d1, d2] => { results := [.lit (.bool false)], args := [d1, d2] }
  | _ => none }
def LabelsValueWrongFalsely : Prop := labelsValueRow.holds Try.pinned (OpenSpec.ofChange labelsValueWrong)

/- THE SECOND FORM. 'bulk': how many values and letters a reading holds, each counted each time it is reached (what is shared counts as often as it is met; a slice's spare places count too). A statement '..UptoSaid' is the law's where the arguments, and the package variables that the reading takes, are together of bulk at most 1048576: NARROWER than '..Said'. Prove '..Said' where nothing that the law and all that it calls make is longer than what came in: it says more and counts as full. Else prove '..UptoSaid'. A law counts once. -/
mutual
def uptoBulk {H : Type} : DataW H → Nat
  | .lit (.string bytes) => bytes.length + 1
  | .lit _ => 1
  | .nil => 1
  | .ptr d => uptoBulk d + 1
  | .slice elems spare => uptoBulkAll elems + uptoBulkAll spare + 1
  | .agg parts => uptoBulkAll parts + 1
  | .iface _ d => uptoBulk d + 1
  | .map entries => uptoBulkEntries entries + 1
  | .held _ => 1
def uptoBulkAll {H : Type} : List (DataW H) → Nat
  | [] => 0
  | d :: r => uptoBulk d + uptoBulkAll r
def uptoBulkEntries {H : Type} : List (Lit × DataW H) → Nat
  | [] => 0
  | x :: r => uptoBulkEntry x + uptoBulkEntries r
def uptoBulkEntry {H : Type} : Lit × DataW H → Nat
  | (.string bytes, d) => bytes.length + uptoBulk d + 1
  | (_, d) => uptoBulk d + 1
 end
def uptoSmall : (H : Type) → List (DataW H) → Bool := fun _ ds => decide (uptoBulkAll ds ≤ 1048576)
def OpenSpec.upto (s : _root_.Go.ChangeSpec) : _root_.Go.OpenSpec := { _root_.Go.OpenSpec.ofChange s with cond := some uptoSmall }

/-- 'tocsinlaw07.LabelsTell', WHERE WHAT IT READS IS OF BULK AT MOST 1048576: true; the input reads as it did. -/
def labelsTellUptoRow : OpenClaim := { program := "ythcbekccnmdgaaa", sum := "9a2856824679e2a8eb1d0c66d99b0adc1e2ea74ef00477e63e9abc80d94d9bda", func := "tocsin/tocsinlaw07.LabelsTell", spec := "labelsTell", inPlace := ["internal/abi.NoEscape", "internal/bytealg.MakeNoZero"], unfollowed := true, recurses := true, apart := false, narrowed := true }
def LabelsTellUptoSaid : Prop := labelsTellUptoRow.holds Try.pinned (OpenSpec.upto labelsTellSpec)

/-- 'tocsinlaw07.LabelsRead', WHERE WHAT IT READS IS OF BULK AT MOST 1048576: true; the input reads as it did. -/
def labelsReadUptoRow : OpenClaim := { program := "ythcbekccnmdgaaa", sum := "9a2856824679e2a8eb1d0c66d99b0adc1e2ea74ef00477e63e9abc80d94d9bda", func := "tocsin/tocsinlaw07.LabelsRead", spec := "labelsRead", inPlace := ["internal/bytealg.IndexByteString", "internal/bytealg.IndexString"], unfollowed := true, recurses := true, named := ["internal/bytealg.MaxLen"], apart := false, narrowed := true }
def LabelsReadUptoSaid : Prop := labelsReadUptoRow.holds Try.pinned (OpenSpec.upto labelsReadSpec)

/-- 'tocsinlaw07.LabelsLess', WHERE WHAT IT READS IS OF BULK AT MOST 1048576: true; the input reads as it did. -/
def labelsLessUptoRow : OpenClaim := { program := "ythcbekccnmdgaaa", sum := "9a2856824679e2a8eb1d0c66d99b0adc1e2ea74ef00477e63e9abc80d94d9bda", func := "tocsin/tocsinlaw07.LabelsLess", spec := "labelsLess", inPlace := ["internal/bytealg.abigen_runtime_cmpstring"], unfollowed := true, recurses := true, apart := false, narrowed := true }
def LabelsLessUptoSaid : Prop := labelsLessUptoRow.holds Try.pinned (OpenSpec.upto labelsLessSpec)

/-- 'tocsinlaw07.LabelsBack', WHERE WHAT IT READS IS OF BULK AT MOST 1048576: true; the input reads as it did. -/
def labelsBackUptoRow : OpenClaim := { program := "ythcbekccnmdgaaa", sum := "9a2856824679e2a8eb1d0c66d99b0adc1e2ea74ef00477e63e9abc80d94d9bda", func := "tocsin/tocsinlaw07.LabelsBack", spec := "labelsBack", inPlace := ["internal/bytealg.IndexByteString", "internal/bytealg.IndexString", "internal/bytealg.abigen_runtime_cmpstring", "internal/abi.NoEscape", "internal/bytealg.MakeNoZero"], unfollowed := true, recurses := true, named := ["internal/bytealg.MaxLen"], apart := false, narrowed := true }
def LabelsBackUptoSaid : Prop := labelsBackUptoRow.holds Try.pinned (OpenSpec.upto labelsBackSpec)

/-- 'tocsinlaw07.LabelsOrder', WHERE WHAT IT READS IS OF BULK AT MOST 1048576: true; the input reads as it did. -/
def labelsOrderUptoRow : OpenClaim := { program := "ythcbekccnmdgaaa", sum := "9a2856824679e2a8eb1d0c66d99b0adc1e2ea74ef00477e63e9abc80d94d9bda", func := "tocsin/tocsinlaw07.LabelsOrder", spec := "labelsOrder", inPlace := ["internal/bytealg.IndexByteString", "internal/bytealg.IndexString", "internal/bytealg.abigen_runtime_cmpstring", "internal/abi.NoEscape", "internal/bytealg.MakeNoZero"], unfollowed := true, recurses := true, named := ["internal/bytealg.MaxLen"], apart := false, narrowed := true }
def LabelsOrderUptoSaid : Prop := labelsOrderUptoRow.holds Try.pinned (OpenSpec.upto labelsOrderSpec)

/-- 'tocsinlaw07.LabelsValue', WHERE WHAT IT READS IS OF BULK AT MOST 1048576: true; the input reads as it did. -/
def labelsValueUptoRow : OpenClaim := { program := "ythcbekccnmdgaaa", sum := "9a2856824679e2a8eb1d0c66d99b0adc1e2ea74ef00477e63e9abc80d94d9bda", func := "tocsin/tocsinlaw07.LabelsValue", spec := "labelsValue", inPlace := ["internal/bytealg.IndexByteString", "internal/bytealg.IndexString", "internal/bytealg.abigen_runtime_cmpstring"], unfollowed := true, recurses := true, named := ["internal/bytealg.MaxLen"], apart := false, narrowed := true }
def LabelsValueUptoSaid : Prop := labelsValueUptoRow.holds Try.pinned (OpenSpec.upto labelsValueSpec)

end Rows
end Go.Proofs.Ythcbekccnmdgaaa
