/-
  No cell of these rows narrows 'for every input' (looked for: loops, veiled, ifaces, maps, wideKeys, modest, calm, conditions, laid).
  DERIVED. THE GIVEN ROWS OF THIS SEAT. 6 by the template 'for every input the law returns true; each argument reads behind the call as it read before'; 0 by the template 'total and deterministic' (their statements: YtlhhcchncobmhaaTotals.lean).
  GIVEN WITH THE SEED: the statements are not yours to turn. If you find one false, say at which input.
  Laid BY PROGRAM, IN A SANDBOX (cutbox-rows.mjs): the forced cells as the released guide's own fill.sh prints them over the translation 94a171badefda43c… (all of the seat's roots in one cut). By AI agents, Wed Nov 11 2026. No macro, syntax, notation, axiom, sorry.
-/
import Derived.Test.YtlhhcchncobmhaaChecked
import GoSem.Claim
import GoSem.ClaimJoined
import GoSem.ClaimMapViews
import Derived.JoinedTies
import Derived.KernelRfl
namespace Go.Proofs.Ytlhhcchncobmhaa
/- THE CELL 'sum', in the pinned program and in every row, IS THE sha256 OF THE DUMP (.gsa) THAT YtlhhcchncobmhaaProg.lean LOADS. Nothing in Lean hashes anything: it is a label: what it is worth is what the hold of that sum in a sandbox is worth. -/
noncomputable def Try.pinned : Pinned := { name := "ytlhhcchncobmhaa", sum := "94a171badefda43c2d412ab43b139d5384646f518c5ad9337989215c5ba16cc1", checked := Try.checked }
namespace Rows
def none {H : Type} : Left H := { results := [], args := [] }

/-- 'laws.FnReciprocal': WHATEVER THE INPUT: true; the input reads as it did. -/
def fnReciprocalSpec : ChangeSpec := { name := "fnReciprocal", fn := fun _ => fun
  | [d] => { results := [.lit (.bool true)], args := [d] }
  | _ => none }
def fnReciprocalRow : OpenClaim := { program := "ytlhhcchncobmhaa", sum := "94a171badefda43c2d412ab43b139d5384646f518c5ad9337989215c5ba16cc1", func := "loop.example/g03222/laws.FnReciprocal", spec := "fnReciprocal", inPlace := ["math.Float64bits", "math.Float64frombits"], apart := false }
def FnReciprocalSaid : Prop := fnReciprocalRow.holds Try.pinned (OpenSpec.ofChange fnReciprocalSpec)

/-- ITS FALSE NEIGHBOUR: 'it returns false'. Refute it at one input. -/
def fnReciprocalWrong : ChangeSpec := { name := "fnReciprocal", fn := fun _ => fun
  | [d] => { results := [.lit (.bool false)], args := [d] }
  | _ => none }
def FnReciprocalWrongFalsely : Prop := fnReciprocalRow.holds Try.pinned (OpenSpec.ofChange fnReciprocalWrong)

/-- 'laws.FnSpectrum': WHATEVER THE INPUT: true; the input reads as it did. -/
def fnSpectrumSpec : ChangeSpec := { name := "fnSpectrum", fn := fun _ => fun
  | [d] => { results := [.lit (.bool true)], args := [d] }
  | _ => none }
def fnSpectrumRow : OpenClaim := { program := "ytlhhcchncobmhaa", sum := "94a171badefda43c2d412ab43b139d5384646f518c5ad9337989215c5ba16cc1", func := "loop.example/g03222/laws.FnSpectrum", spec := "fnSpectrum", apart := false }
def FnSpectrumSaid : Prop := fnSpectrumRow.holds Try.pinned (OpenSpec.ofChange fnSpectrumSpec)

/-- ITS FALSE NEIGHBOUR: 'it returns false'. Refute it at one input. -/
def fnSpectrumWrong : ChangeSpec := { name := "fnSpectrum", fn := fun _ => fun
  | [d] => { results := [.lit (.bool false)], args := [d] }
  | _ => none }
def FnSpectrumWrongFalsely : Prop := fnSpectrumRow.holds Try.pinned (OpenSpec.ofChange fnSpectrumWrong)

/-- 'laws.FnPair': WHATEVER THE INPUT: true; the input reads as it did. -/
def fnPairSpec : ChangeSpec := { name := "fnPair", fn := fun _ => fun
  | [d] => { results := [.lit (.bool true)], args := [d] }
  | _ => none }
def fnPairRow : OpenClaim := { program := "ytlhhcchncobmhaa", sum := "94a171badefda43c2d412ab43b139d5384646f518c5ad9337989215c5ba16cc1", func := "loop.example/g03222/laws.FnPair", spec := "fnPair", inPlace := ["math.Float64bits", "math.Float64frombits"], apart := false }
def FnPairSaid : Prop := fnPairRow.holds Try.pinned (OpenSpec.ofChange fnPairSpec)

/-- ITS FALSE NEIGHBOUR: 'it returns false'. Refute it at one input. -/
def fnPairWrong : ChangeSpec := { name := "fnPair", fn := fun _ => fun
  | [d] => { results := [.lit (.bool false)], args := [d] }
  | _ => none }
def FnPairWrongFalsely : Prop := fnPairRow.holds Try.pinned (OpenSpec.ofChange fnPairWrong)

/-- 'laws.FnFitted': WHATEVER THE INPUT: true; the input reads as it did. -/
def fnFittedSpec : ChangeSpec := { name := "fnFitted", fn := fun _ => fun
  | [d] => { results := [.lit (.bool true)], args := [d] }
  | _ => none }
def fnFittedRow : OpenClaim := { program := "ytlhhcchncobmhaa", sum := "94a171badefda43c2d412ab43b139d5384646f518c5ad9337989215c5ba16cc1", func := "loop.example/g03222/laws.FnFitted", spec := "fnFitted", inPlace := ["math.Float64bits", "math.Float64frombits"], unfollowed := true, recurses := true, apart := false }
def FnFittedSaid : Prop := fnFittedRow.holds Try.pinned (OpenSpec.ofChange fnFittedSpec)

/-- ITS FALSE NEIGHBOUR: 'it returns false'. Refute it at one input. -/
def fnFittedWrong : ChangeSpec := { name := "fnFitted", fn := fun _ => fun
  | [d] => { results := [.lit (.bool false)], args := [d] }
  | _ => none }
def FnFittedWrongFalsely : Prop := fnFittedRow.holds Try.pinned (OpenSpec.ofChange fnFittedWrong)

/-- 'laws.FnMeasured': WHATEVER THE INPUT: true; the input reads as it did. -/
def fnMeasuredSpec : ChangeSpec := { name := "fnMeasured", fn := fun _ => fun
  | [d] => { results := [.lit (.bool true)], args := [d] }
  | _ => none }
def fnMeasuredRow : OpenClaim := { program := "ytlhhcchncobmhaa", sum := "94a171badefda43c2d412ab43b139d5384646f518c5ad9337989215c5ba16cc1", func := "loop.example/g03222/laws.FnMeasured", spec := "fnMeasured", inPlace := ["math.Float64bits", "math.Float64frombits"], apart := false }
def FnMeasuredSaid : Prop := fnMeasuredRow.holds Try.pinned (OpenSpec.ofChange fnMeasuredSpec)

/-- ITS FALSE NEIGHBOUR: 'it returns false'. Refute it at one input. -/
def fnMeasuredWrong : ChangeSpec := { name := "fnMeasured", fn := fun _ => fun
  | [d] => { results := [.lit (.bool false)], args := [d] }
  | _ => none }
def FnMeasuredWrongFalsely : Prop := fnMeasuredRow.holds Try.pinned (OpenSpec.ofChange fnMeasuredWrong)

/-- 'laws.FnWidened': WHATEVER THE INPUT: true; the input reads as it did. -/
def fnWidenedSpec : ChangeSpec := { name := "fnWidened", fn := fun _ => fun
  | [d] => { results := [.lit (.bool true)], args := [d] }
  | _ => none }
def fnWidenedRow : OpenClaim := { program := "ytlhhcchncobmhaa", sum := "94a171badefda43c2d412ab43b139d5384646f518c5ad9337989215c5ba16cc1", func := "loop.example/g03222/laws.FnWidened", spec := "fnWidened", inPlace := ["math.Float64bits", "math.Float64frombits"], apart := false }
def FnWidenedSaid : Prop := fnWidenedRow.holds Try.pinned (OpenSpec.ofChange fnWidenedSpec)

/-- ITS FALSE NEIGHBOUR: 'it returns false'. Refute it at one input. -/
def fnWidenedWrong : ChangeSpec := { name := "fnWidened", fn := fun _ => fun
  | [d] => { results := [.lit (.bool false)], args := [d] }
  | _ => none }
def FnWidenedWrongFalsely : Prop := fnWidenedRow.holds Try.pinned (OpenSpec.ofChange fnWidenedWrong)

/- THE SECOND FORM. 'bulk': how many values and letters a reading holds, each counted each time it is reached (what is shared counts as often as it is met; a slice's spare places count too). A statement '..UptoSaid' is the law's where the arguments, and the package variables that the reading takes, are together of bulk at most 1048576: NARROWER than '..Said'. Prove '..Said' where nothing that the law and all that it calls make is longer than what came in: it says more and counts as full. Else prove '..UptoSaid'. A law counts once. -/
mutual
def uptoBulk {H : Type} : DataW H → Nat
  | .lit (.string bytes) => bytes.length + 1
  | .lit _ => 1
  | .nil => 1
  | .ptr d => uptoBulk d + 1
  | .slice elems spare => uptoBulkAll elems + uptoBulkAll spare + 1
  | .agg parts => uptoBulkAll parts + 1
  | .iface _ d => uptoBulk d + 1
  | .map entries => uptoBulkEntries entries + 1
  | .held _ => 1
def uptoBulkAll {H : Type} : List (DataW H) → Nat
  | [] => 0
  | d :: r => uptoBulk d + uptoBulkAll r
def uptoBulkEntries {H : Type} : List (Lit × DataW H) → Nat
  | [] => 0
  | x :: r => uptoBulkEntry x + uptoBulkEntries r
def uptoBulkEntry {H : Type} : Lit × DataW H → Nat
  | (.string bytes, d) => bytes.length + uptoBulk d + 1
  | (_, d) => uptoBulk d + 1
 end
def uptoSmall : (H : Type) → List (DataW H) → Bool := fun _ ds => decide (uptoBulkAll ds ≤ 1048576)
def OpenSpec.upto (s : _root_.Go.ChangeSpec) : _root_.Go.OpenSpec := { _root_.Go.OpenSpec.ofChange s with cond := some uptoSmall }

/-- 'laws.FnReciprocal', WHERE WHAT IT READS IS OF BULK AT MOST 1048576: true; the input reads as it did. -/
def fnReciprocalUptoRow : OpenClaim := { program := "ytlhhcchncobmhaa", sum := "94a171badefda43c2d412ab43b139d5384646f518c5ad9337989215c5ba16cc1", func := "loop.example/g03222/laws.FnReciprocal", spec := "fnReciprocal", inPlace := ["math.Float64bits", "math.Float64frombits"], apart := false, narrowed := true }
def FnReciprocalUptoSaid : Prop := fnReciprocalUptoRow.holds Try.pinned (OpenSpec.upto fnReciprocalSpec)

/-- 'laws.FnSpectrum', WHERE WHAT IT READS IS OF BULK AT MOST 1048576: true; the input reads as it did. -/
def fnSpectrumUptoRow : OpenClaim := { program := "ytlhhcchncobmhaa", sum := "94a171badefda43c2d412ab43b139d5384646f518c5ad9337989215c5ba16cc1", func := "loop.example/g03222/laws.FnSpectrum", spec := "fnSpectrum", apart := false, narrowed := true }
def FnSpectrumUptoSaid : Prop := fnSpectrumUptoRow.holds Try.pinned (OpenSpec.upto fnSpectrumSpec)

/-- 'laws.FnPair', WHERE WHAT IT READS IS OF BULK AT MOST 1048576: true; the input reads as it did. -/
def fnPairUptoRow : OpenClaim := { program := "ytlhhcchncobmhaa", sum := "94a171badefda43c2d412ab43b139d5384646f518c5ad9337989215c5ba16cc1", func := "loop.example/g03222/laws.FnPair", spec := "fnPair", inPlace := ["math.Float64bits", "math.Float64frombits"], apart := false, narrowed := true }
def FnPairUptoSaid : Prop := fnPairUptoRow.holds Try.pinned (OpenSpec.upto fnPairSpec)

/-- 'laws.FnFitted', WHERE WHAT IT READS IS OF BULK AT MOST 1048576: true; the input reads as it did. -/
def fnFittedUptoRow : OpenClaim := { program := "ytlhhcchncobmhaa", sum := "94a171badefda43c2d412ab43b139d5384646f518c5ad9337989215c5ba16cc1", func := "loop.example/g03222/laws.FnFitted", spec := "fnFitted", inPlace := ["math.Float64bits", "math.Float64frombits"], unfollowed := true, recurses := true, apart := false, narrowed := true }
def FnFittedUptoSaid : Prop := fnFittedUptoRow.holds Try.pinned (OpenSpec.upto fnFittedSpec)

/-- 'laws.FnMeasured', WHERE WHAT IT READS IS OF BULK AT MOST 1048576: true; the input reads as it did. -/
def fnMeasuredUptoRow : OpenClaim := { program := "ytlhhcchncobmhaa", sum := "94a171badefda43c2d412ab43b139d5384646f518c5ad9337989215c5ba16cc1", func := "loop.example/g03222/laws.FnMeasured", spec := "fnMeasured", inPlace := ["math.Float64bits", "math.Float64frombits"], apart := false, narrowed := true }
def FnMeasuredUptoSaid : Prop := fnMeasuredUptoRow.holds Try.pinned (OpenSpec.upto fnMeasuredSpec)

/-- 'laws.FnWidened', WHERE WHAT IT READS IS OF BULK AT MOST 1048576: true; the input reads as it did. -/
def fnWidenedUptoRow : OpenClaim := { program := "ytlhhcchncobmhaa", sum := "94a171badefda43c2d412ab43b139d5384646f518c5ad9337989215c5ba16cc1", func := "loop.example/g03222/laws.FnWidened", spec := "fnWidened", inPlace := ["math.Float64bits", "math.Float64frombits"], apart := false, narrowed := true }
def FnWidenedUptoSaid : Prop := fnWidenedUptoRow.holds Try.pinned (OpenSpec.upto fnWidenedSpec)

end Rows
end Go.Proofs.Ytlhhcchncobmhaa
