/-
  No cell of these rows narrows 'for every input' (looked for: loops, veiled, ifaces, maps, wideKeys, modest, calm, conditions, laid).
  DERIVED. THE GIVEN ROWS OF THIS SEAT. 12 by the template 'for every input the law returns true; each argument reads behind the call as it read before'; 0 by the template 'total and deterministic' (their statements: YtcodiiajmffdoaaTotals.lean).
  GIVEN WITH THE SEED: the statements are not yours to turn. If you find one false, say at which input.
  Laid BY PROGRAM, IN A SANDBOX (cutbox-rows.mjs): the forced cells as the released guide's own fill.sh prints them over the translation d87e1fb1c8b5710e… (all of the seat's roots in one cut). By AI agents, Wed Nov 11 2026. No macro, syntax, notation, axiom, sorry.
-/
import Derived.Test.YtcodiiajmffdoaaChecked
import GoSem.Claim
import GoSem.ClaimJoined
import GoSem.ClaimMapViews
import Derived.JoinedTies
import Derived.KernelRfl
namespace Go.Proofs.Ytcodiiajmffdoaa
/- THE CELL 'sum', in the pinned program and in every row, IS THE sha256 OF THE DUMP (.gsa) THAT YtcodiiajmffdoaaProg.lean LOADS. Nothing in Lean hashes anything: it is a label: what it is worth is what the hold of that sum in a sandbox is worth. -/
noncomputable def Try.pinned : Pinned := { name := "ytcodiiajmffdoaa", sum := "d87e1fb1c8b5710ea6172222e81ace10bf6fe2db11c493ff0adce6a15ace9c42", checked := Try.checked }
namespace Rows
def none {H : Type} : Left H := { results := [], args := [] }

/-- 'laws.FnLevels': WHATEVER THE INPUT: true; the input reads as it did. -/
def fnLevelsSpec : ChangeSpec := { name := "fnLevels", fn := fun _ => fun
  | [d] => { results := [.lit (.bool true)], args := [d] }
  | _ => none }
def fnLevelsRow : OpenClaim := { program := "ytcodiiajmffdoaa", sum := "d87e1fb1c8b5710ea6172222e81ace10bf6fe2db11c493ff0adce6a15ace9c42", func := "loop.example/g03222/laws.FnLevels", spec := "fnLevels", inPlace := ["math.Float64bits", "math.Float64frombits"], apart := false }
def FnLevelsSaid : Prop := fnLevelsRow.holds Try.pinned (OpenSpec.ofChange fnLevelsSpec)

/-- ITS FALSE NEIGHBOUR: 'it returns false'. Refute it at one input. -/
def fnLevelsWrong : ChangeSpec := { name := "fnLevels", fn := fun _ => fun
  | [d] => { results := [.lit (.bool false)], args := [d] }
  | _ => none }
def FnLevelsWrongFalsely : Prop := fnLevelsRow.holds Try.pinned (OpenSpec.ofChange fnLevelsWrong)

/-- 'laws.FnUnits': WHATEVER THE INPUT: true; the input reads as it did. -/
def fnUnitsSpec : ChangeSpec := { name := "fnUnits", fn := fun _ => fun
  | [d] => { results := [.lit (.bool true)], args := [d] }
  | _ => none }
def fnUnitsRow : OpenClaim := { program := "ytcodiiajmffdoaa", sum := "d87e1fb1c8b5710ea6172222e81ace10bf6fe2db11c493ff0adce6a15ace9c42", func := "loop.example/g03222/laws.FnUnits", spec := "fnUnits", inPlace := ["math.Float64bits", "math.Float64frombits"], apart := false }
def FnUnitsSaid : Prop := fnUnitsRow.holds Try.pinned (OpenSpec.ofChange fnUnitsSpec)

/-- ITS FALSE NEIGHBOUR: 'it returns false'. Refute it at one input. -/
def fnUnitsWrong : ChangeSpec := { name := "fnUnits", fn := fun _ => fun
  | [d] => { results := [.lit (.bool false)], args := [d] }
  | _ => none }
def FnUnitsWrongFalsely : Prop := fnUnitsRow.holds Try.pinned (OpenSpec.ofChange fnUnitsWrong)

/-- 'laws.FnHalved': WHATEVER THE INPUT: true; the input reads as it did. -/
def fnHalvedSpec : ChangeSpec := { name := "fnHalved", fn := fun _ => fun
  | [d] => { results := [.lit (.bool true)], args := [d] }
  | _ => none }
def fnHalvedRow : OpenClaim := { program := "ytcodiiajmffdoaa", sum := "d87e1fb1c8b5710ea6172222e81ace10bf6fe2db11c493ff0adce6a15ace9c42", func := "loop.example/g03222/laws.FnHalved", spec := "fnHalved", inPlace := ["math.Float64bits", "math.Float64frombits"], apart := false }
def FnHalvedSaid : Prop := fnHalvedRow.holds Try.pinned (OpenSpec.ofChange fnHalvedSpec)

/-- ITS FALSE NEIGHBOUR: 'it returns false'. Refute it at one input. -/
def fnHalvedWrong : ChangeSpec := { name := "fnHalved", fn := fun _ => fun
  | [d] => { results := [.lit (.bool false)], args := [d] }
  | _ => none }
def FnHalvedWrongFalsely : Prop := fnHalvedRow.holds Try.pinned (OpenSpec.ofChange fnHalvedWrong)

/-- 'laws.FnLimited': WHATEVER THE INPUT: true; the input reads as it did. -/
def fnLimitedSpec : ChangeSpec := { name := "fnLimited", fn := fun _ => fun
  | [d] => { results := [.lit (.bool true)], args := [d] }
  | _ => none }
def fnLimitedRow : OpenClaim := { program := "ytcodiiajmffdoaa", sum := "d87e1fb1c8b5710ea6172222e81ace10bf6fe2db11c493ff0adce6a15ace9c42", func := "loop.example/g03222/laws.FnLimited", spec := "fnLimited", inPlace := ["math.Float64bits", "math.Float64frombits"], apart := false }
def FnLimitedSaid : Prop := fnLimitedRow.holds Try.pinned (OpenSpec.ofChange fnLimitedSpec)

/-- ITS FALSE NEIGHBOUR: 'it returns false'. Refute it at one input. -/
def fnLimitedWrong : ChangeSpec := { name := "fnLimited", fn := fun _ => fun
  | [d] => { results := [.lit (.bool false)], args := [d] }
  | _ => none }
def FnLimitedWrongFalsely : Prop := fnLimitedRow.holds Try.pinned (OpenSpec.ofChange fnLimitedWrong)

/-- 'laws.FnOrdered': WHATEVER THE INPUT: true; the input reads as it did. -/
def fnOrderedSpec : ChangeSpec := { name := "fnOrdered", fn := fun _ => fun
  | [d] => { results := [.lit (.bool true)], args := [d] }
  | _ => none }
def fnOrderedRow : OpenClaim := { program := "ytcodiiajmffdoaa", sum := "d87e1fb1c8b5710ea6172222e81ace10bf6fe2db11c493ff0adce6a15ace9c42", func := "loop.example/g03222/laws.FnOrdered", spec := "fnOrdered", inPlace := ["math.Float64bits", "math.Float64frombits"], unfollowed := true, recurses := true, apart := false }
def FnOrderedSaid : Prop := fnOrderedRow.holds Try.pinned (OpenSpec.ofChange fnOrderedSpec)

/-- ITS FALSE NEIGHBOUR: 'it returns false'. Refute it at one input. -/
def fnOrderedWrong : ChangeSpec := { name := "fnOrdered", fn := fun _ => fun
  | [d] => { results := [.lit (.bool false)], args := [d] }
  | _ => none }
def FnOrderedWrongFalsely : Prop := fnOrderedRow.holds Try.pinned (OpenSpec.ofChange fnOrderedWrong)

/-- 'laws.FnExactCrossingsOf': WHATEVER THE INPUT: true; the input reads as it did. -/
def fnExactCrossingsOfSpec : ChangeSpec := { name := "fnExactCrossingsOf", fn := fun _ => fun
  | [d] => { results := [.lit (.bool true)], args := [d] }
  | _ => none }
def fnExactCrossingsOfRow : OpenClaim := { program := "ytcodiiajmffdoaa", sum := "d87e1fb1c8b5710ea6172222e81ace10bf6fe2db11c493ff0adce6a15ace9c42", func := "loop.example/g03222/laws.FnExactCrossingsOf", spec := "fnExactCrossingsOf", apart := false }
def FnExactCrossingsOfSaid : Prop := fnExactCrossingsOfRow.holds Try.pinned (OpenSpec.ofChange fnExactCrossingsOfSpec)

/-- ITS FALSE NEIGHBOUR: 'it returns false'. Refute it at one input. -/
def fnExactCrossingsOfWrong : ChangeSpec := { name := "fnExactCrossingsOf", fn := fun _ => fun
  | [d] => { results := [.lit (.bool false)], args := [d] }
  | _ => none }
def FnExactCrossingsOfWrongFalsely : Prop := fnExactCrossingsOfRow.holds Try.pinned (OpenSpec.ofChange fnExactCrossingsOfWrong)

/-- 'laws.FnExactPitchOf': WHATEVER THE INPUT: true; the input reads as it did. -/
def fnExactPitchOfSpec : ChangeSpec := { name := "fnExactPitchOf", fn := fun _ => fun
  | [d1, d2] => { results := [.lit (.bool true)], args := [d1, d2] }
  | _ => none }
def fnExactPitchOfRow : OpenClaim := { program := "ytcodiiajmffdoaa", sum := "d87e1fb1c8b5710ea6172222e81ace10bf6fe2db11c493ff0adce6a15ace9c42", func := "loop.example/g03222/laws.FnExactPitchOf", spec := "fnExactPitchOf", apart := false }
def FnExactPitchOfSaid : Prop := fnExactPitchOfRow.holds Try.pinned (OpenSpec.ofChange fnExactPitchOfSpec)

/-- ITS FALSE NEIGHBOUR: 'it returns false'. Refute it at one input. -/
def fnExactPitchOfWrong : ChangeSpec := { name := "fnExactPitchOf", fn := fun _ => fun
  | [d1, d2] => { results := [.lit (.bool false)], args := [d1, d2] }
  | _ => none }
def FnExactPitchOfWrongFalsely : Prop := fnExactPitchOfRow.holds Try.pinned (OpenSpec.ofChange fnExactPitchOfWrong)

/-- 'laws.FnExactFirstDifference': WHATEVER THE INPUT: true; the input reads as it did. -/
def fnExactFirstDifferenceSpec : ChangeSpec := { name := "fnExactFirstDifference", fn := fun _ => fun
  | [d1, d2] => { results := [.lit (.bool true)], args := [d1, d2] }
  | _ => none }
def fnExactFirstDifferenceRow : OpenClaim := { program := "ytcodiiajmffdoaa", sum := "d87e1fb1c8b5710ea6172222e81ace10bf6fe2db11c493ff0adce6a15ace9c42", func := "loop.example/g03222/laws.FnExactFirstDifference", spec := "fnExactFirstDifference", inPlace := ["math.Float32bits"], apart := false }
def FnExactFirstDifferenceSaid : Prop := fnExactFirstDifferenceRow.holds Try.pinned (OpenSpec.ofChange fnExactFirstDifferenceSpec)

/-- ITS FALSE NEIGHBOUR: 'it returns false'. Refute it at one input. -/
def fnExactFirstDifferenceWrong : ChangeSpec := { name := "fnExactFirstDifference", fn := fun _ => fun
  | [d1, d2] => { results := [.lit (.bool false)], args := [d1, d2] }
  | _ => none }
def FnExactFirstDifferenceWrongFalsely : Prop := fnExactFirstDifferenceRow.holds Try.pinned (OpenSpec.ofChange fnExactFirstDifferenceWrong)

/-- 'laws.FnExactLimitNext': WHATEVER THE INPUT: true; the input reads as it did. -/
def fnExactLimitNextSpec : ChangeSpec := { name := "fnExactLimitNext", fn := fun _ => fun
  | [d1, d2, d3, d4] => { results := [.lit (.bool true)], args := [d1, d2, d3, d4] }
  | _ => none }
def fnExactLimitNextRow : OpenClaim := { program := "ytcodiiajmffdoaa", sum := "d87e1fb1c8b5710ea6172222e81ace10bf6fe2db11c493ff0adce6a15ace9c42", func := "loop.example/g03222/laws.FnExactLimitNext", spec := "fnExactLimitNext", inPlace := ["math.Float64bits", "math.Float64frombits"], apart := false }
def FnExactLimitNextSaid : Prop := fnExactLimitNextRow.holds Try.pinned (OpenSpec.ofChange fnExactLimitNextSpec)

/-- ITS FALSE NEIGHBOUR: 'it returns false'. Refute it at one input. -/
def fnExactLimitNextWrong : ChangeSpec := { name := "fnExactLimitNext", fn := fun _ => fun
  | [d1, d2, d3, d4] => { results := [.lit (.bool false)], args := [d1, d2, d3, d4] }
  | _ => none }
def FnExactLimitNextWrongFalsely : Prop := fnExactLimitNextRow.holds Try.pinned (OpenSpec.ofChange fnExactLimitNextWrong)

/-- 'laws.FnExactLimitSamples': WHATEVER THE INPUT: true; the input reads as it did. -/
def fnExactLimitSamplesSpec : ChangeSpec := { name := "fnExactLimitSamples", fn := fun _ => fun
  | [d1, d2, d3] => { results := [.lit (.bool true)], args := [d1, d2, d3] }
  | _ => none }
def fnExactLimitSamplesRow : OpenClaim := { program := "ytcodiiajmffdoaa", sum := "d87e1fb1c8b5710ea6172222e81ace10bf6fe2db11c493ff0adce6a15ace9c42", func := "loop.example/g03222/laws.FnExactLimitSamples", spec := "fnExactLimitSamples", inPlace := ["math.Float64bits", "math.Float64frombits"], recurses := true, apart := false }
def FnExactLimitSamplesSaid : Prop := fnExactLimitSamplesRow.holds Try.pinned (OpenSpec.ofChange fnExactLimitSamplesSpec)

/-- ITS FALSE NEIGHBOUR: 'it returns false'. Refute it at one input. -/
def fnExactLimitSamplesWrong : ChangeSpec := { name := "fnExactLimitSamples", fn := fun _ => fun
  | [d1, d2, d3] => { results := [.lit (.bool false)], args := [d1, d2, d3] }
  | _ => none }
def FnExactLimitSamplesWrongFalsely : Prop := fnExactLimitSamplesRow.holds Try.pinned (OpenSpec.ofChange fnExactLimitSamplesWrong)

/-- 'laws.FnExactMixTracks': WHATEVER THE INPUT: true; the input reads as it did. -/
def fnExactMixTracksSpec : ChangeSpec := { name := "fnExactMixTracks", fn := fun _ => fun
  | [d1, d2, d3] => { results := [.lit (.bool true)], args := [d1, d2, d3] }
  | _ => none }
def fnExactMixTracksRow : OpenClaim := { program := "ytcodiiajmffdoaa", sum := "d87e1fb1c8b5710ea6172222e81ace10bf6fe2db11c493ff0adce6a15ace9c42", func := "loop.example/g03222/laws.FnExactMixTracks", spec := "fnExactMixTracks", inPlace := ["math.Float64bits", "math.Float64frombits"], recurses := true, apart := false }
def FnExactMixTracksSaid : Prop := fnExactMixTracksRow.holds Try.pinned (OpenSpec.ofChange fnExactMixTracksSpec)

/-- ITS FALSE NEIGHBOUR: 'it returns false'. Refute it at one input. -/
def fnExactMixTracksWrong : ChangeSpec := { name := "fnExactMixTracks", fn := fun _ => fun
  | [d1, d2, d3] => { results := [.lit (.bool false)], args := [d1, d2, d3] }
  | _ => none }
def FnExactMixTracksWrongFalsely : Prop := fnExactMixTracksRow.holds Try.pinned (OpenSpec.ofChange fnExactMixTracksWrong)

/-- 'laws.FnExactFitReal': WHATEVER THE INPUT: true; the input reads as it did. -/
def fnExactFitRealSpec : ChangeSpec := { name := "fnExactFitReal", fn := fun _ => fun
  | [d] => { results := [.lit (.bool true)], args := [d] }
  | _ => none }
def fnExactFitRealRow : OpenClaim := { program := "ytcodiiajmffdoaa", sum := "d87e1fb1c8b5710ea6172222e81ace10bf6fe2db11c493ff0adce6a15ace9c42", func := "loop.example/g03222/laws.FnExactFitReal", spec := "fnExactFitReal", inPlace := ["math.Float64bits", "math.Float64frombits"], apart := false }
def FnExactFitRealSaid : Prop := fnExactFitRealRow.holds Try.pinned (OpenSpec.ofChange fnExactFitRealSpec)

/-- ITS FALSE NEIGHBOUR: 'it returns false'. Refute it at one input. -/
def fnExactFitRealWrong : ChangeSpec := { name := "fnExactFitReal", fn := fun _ => fun
  | [d] => { results := [.lit (.bool false)], args := [d] }
  | _ => none }
def FnExactFitRealWrongFalsely : Prop := fnExactFitRealRow.holds Try.pinned (OpenSpec.ofChange fnExactFitRealWrong)

/- THE SECOND FORM. 'bulk': how many values and letters a reading holds, each counted each time it is reached (what is shared counts as often as it is met; a slice's spare places count too). A statement '..UptoSaid' is the law's where the arguments, and the package variables that the reading takes, are together of bulk at most 1048576: NARROWER than '..Said'. Prove '..Said' where nothing that the law and all that it calls make is longer than what came in: it says more and counts as full. Else prove '..UptoSaid'. A law counts once. -/
mutual
def uptoBulk {H : Type} : DataW H → Nat
  | .lit (.string bytes) => bytes.length + 1
  | .lit _ => 1
  | .nil => 1
  | .ptr d => uptoBulk d + 1
  | .slice elems spare => uptoBulkAll elems + uptoBulkAll spare + 1
  | .agg parts => uptoBulkAll parts + 1
  | .iface _ d => uptoBulk d + 1
  | .map entries => uptoBulkEntries entries + 1
  | .held _ => 1
def uptoBulkAll {H : Type} : List (DataW H) → Nat
  | [] => 0
  | d :: r => uptoBulk d + uptoBulkAll r
def uptoBulkEntries {H : Type} : List (Lit × DataW H) → Nat
  | [] => 0
  | x :: r => uptoBulkEntry x + uptoBulkEntries r
def uptoBulkEntry {H : Type} : Lit × DataW H → Nat
  | (.string bytes, d) => bytes.length + uptoBulk d + 1
  | (_, d) => uptoBulk d + 1
 end
def uptoSmall : (H : Type) → List (DataW H) → Bool := fun _ ds => decide (uptoBulkAll ds ≤ 1048576)
def OpenSpec.upto (s : _root_.Go.ChangeSpec) : _root_.Go.OpenSpec := { _root_.Go.OpenSpec.ofChange s with cond := some uptoSmall }

/-- 'laws.FnLevels', WHERE WHAT IT READS IS OF BULK AT MOST 1048576: true; the input reads as it did. -/
def fnLevelsUptoRow : OpenClaim := { program := "ytcodiiajmffdoaa", sum := "d87e1fb1c8b5710ea6172222e81ace10bf6fe2db11c493ff0adce6a15ace9c42", func := "loop.example/g03222/laws.FnLevels", spec := "fnLevels", inPlace := ["math.Float64bits", "math.Float64frombits"], apart := false, narrowed := true }
def FnLevelsUptoSaid : Prop := fnLevelsUptoRow.holds Try.pinned (OpenSpec.upto fnLevelsSpec)

/-- 'laws.FnUnits', WHERE WHAT IT READS IS OF BULK AT MOST 1048576: true; the input reads as it did. -/
def fnUnitsUptoRow : OpenClaim := { program := "ytcodiiajmffdoaa", sum := "d87e1fb1c8b5710ea6172222e81ace10bf6fe2db11c493ff0adce6a15ace9c42", func := "loop.example/g03222/laws.FnUnits", spec := "fnUnits", inPlace := ["math.Float64bits", "math.Float64frombits"], apart := false, narrowed := true }
def FnUnitsUptoSaid : Prop := fnUnitsUptoRow.holds Try.pinned (OpenSpec.upto fnUnitsSpec)

/-- 'laws.FnHalved', WHERE WHAT IT READS IS OF BULK AT MOST 1048576: true; the input reads as it did. -/
def fnHalvedUptoRow : OpenClaim := { program := "ytcodiiajmffdoaa", sum := "d87e1fb1c8b5710ea6172222e81ace10bf6fe2db11c493ff0adce6a15ace9c42", func := "loop.example/g03222/laws.FnHalved", spec := "fnHalved", inPlace := ["math.Float64bits", "math.Float64frombits"], apart := false, narrowed := true }
def FnHalvedUptoSaid : Prop := fnHalvedUptoRow.holds Try.pinned (OpenSpec.upto fnHalvedSpec)

/-- 'laws.FnLimited', WHERE WHAT IT READS IS OF BULK AT MOST 1048576: true; the input reads as it did. -/
def fnLimitedUptoRow : OpenClaim := { program := "ytcodiiajmffdoaa", sum := "d87e1fb1c8b5710ea6172222e81ace10bf6fe2db11c493ff0adce6a15ace9c42", func := "loop.example/g03222/laws.FnLimited", spec := "fnLimited", inPlace := ["math.Float64bits", "math.Float64frombits"], apart := false, narrowed := true }
def FnLimitedUptoSaid : Prop := fnLimitedUptoRow.holds Try.pinned (OpenSpec.upto fnLimitedSpec)

/-- 'laws.FnOrdered', WHERE WHAT IT READS IS OF BULK AT MOST 1048576: true; the input reads as it did. -/
def fnOrderedUptoRow : OpenClaim := { program := "ytcodiiajmffdoaa", sum := "d87e1fb1c8b5710ea6172222e81ace10bf6fe2db11c493ff0adce6a15ace9c42", func := "loop.example/g03222/laws.FnOrdered", spec := "fnOrdered", inPlace := ["math.Float64bits", "math.Float64frombits"], unfollowed := true, recurses := true, apart := false, narrowed := true }
def FnOrderedUptoSaid : Prop := fnOrderedUptoRow.holds Try.pinned (OpenSpec.upto fnOrderedSpec)

/-- 'laws.FnExactCrossingsOf', WHERE WHAT IT READS IS OF BULK AT MOST 1048576: true; the input reads as it did. -/
def fnExactCrossingsOfUptoRow : OpenClaim := { program := "ytcodiiajmffdoaa", sum := "d87e1fb1c8b5710ea6172222e81ace10bf6fe2db11c493ff0adce6a15ace9c42", func := "loop.example/g03222/laws.FnExactCrossingsOf", spec := "fnExactCrossingsOf", apart := false, narrowed := true }
def FnExactCrossingsOfUptoSaid : Prop := fnExactCrossingsOfUptoRow.holds Try.pinned (OpenSpec.upto fnExactCrossingsOfSpec)

/-- 'laws.FnExactPitchOf', WHERE WHAT IT READS IS OF BULK AT MOST 1048576: true; the input reads as it did. -/
def fnExactPitchOfUptoRow : OpenClaim := { program := "ytcodiiajmffdoaa", sum := "d87e1fb1c8b5710ea6172222e81ace10bf6fe2db11c493ff0adce6a15ace9c42", func := "loop.example/g03222/laws.FnExactPitchOf", spec := "fnExactPitchOf", apart := false, narrowed := true }
def FnExactPitchOfUptoSaid : Prop := fnExactPitchOfUptoRow.holds Try.pinned (OpenSpec.upto fnExactPitchOfSpec)

/-- 'laws.FnExactFirstDifference', WHERE WHAT IT READS IS OF BULK AT MOST 1048576: true; the input reads as it did. -/
def fnExactFirstDifferenceUptoRow : OpenClaim := { program := "ytcodiiajmffdoaa", sum := "d87e1fb1c8b5710ea6172222e81ace10bf6fe2db11c493ff0adce6a15ace9c42", func := "loop.example/g03222/laws.FnExactFirstDifference", spec := "fnExactFirstDifference", inPlace := ["math.Float32bits"], apart := false, narrowed := true }
def FnExactFirstDifferenceUptoSaid : Prop := fnExactFirstDifferenceUptoRow.holds Try.pinned (OpenSpec.upto fnExactFirstDifferenceSpec)

/-- 'laws.FnExactLimitNext', WHERE WHAT IT READS IS OF BULK AT MOST 1048576: true; the input reads as it did. -/
def fnExactLimitNextUptoRow : OpenClaim := { program := "ytcodiiajmffdoaa", sum := "d87e1fb1c8b5710ea6172222e81ace10bf6fe2db11c493ff0adce6a15ace9c42", func := "loop.example/g03222/laws.FnExactLimitNext", spec := "fnExactLimitNext", inPlace := ["math.Float64bits", "math.Float64frombits"], apart := false, narrowed := true }
def FnExactLimitNextUptoSaid : Prop := fnExactLimitNextUptoRow.holds Try.pinned (OpenSpec.upto fnExactLimitNextSpec)

/-- 'laws.FnExactLimitSamples', WHERE WHAT IT READS IS OF BULK AT MOST 1048576: true; the input reads as it did. -/
def fnExactLimitSamplesUptoRow : OpenClaim := { program := "ytcodiiajmffdoaa", sum := "d87e1fb1c8b5710ea6172222e81ace10bf6fe2db11c493ff0adce6a15ace9c42", func := "loop.example/g03222/laws.FnExactLimitSamples", spec := "fnExactLimitSamples", inPlace := ["math.Float64bits", "math.Float64frombits"], recurses := true, apart := false, narrowed := true }
def FnExactLimitSamplesUptoSaid : Prop := fnExactLimitSamplesUptoRow.holds Try.pinned (OpenSpec.upto fnExactLimitSamplesSpec)

/-- 'laws.FnExactMixTracks', WHERE WHAT IT READS IS OF BULK AT MOST 1048576: true; the input reads as it did. -/
def fnExactMixTracksUptoRow : OpenClaim := { program := "ytcodiiajmffdoaa", sum := "d87e1fb1c8b5710ea6172222e81ace10bf6fe2db11c493ff0adce6a15ace9c42", func := "loop.example/g03222/laws.FnExactMixTracks", spec := "fnExactMixTracks", inPlace := ["math.Float64bits", "math.Float64frombits"], recurses := true, apart := false, narrowed := true }
def FnExactMixTracksUptoSaid : Prop := fnExactMixTracksUptoRow.holds Try.pinned (OpenSpec.upto fnExactMixTracksSpec)

/-- 'laws.FnExactFitReal', WHERE WHAT IT READS IS OF BULK AT MOST 1048576: true; the input reads as it did. -/
def fnExactFitRealUptoRow : OpenClaim := { program := "ytcodiiajmffdoaa", sum := "d87e1fb1c8b5710ea6172222e81ace10bf6fe2db11c493ff0adce6a15ace9c42", func := "loop.example/g03222/laws.FnExactFitReal", spec := "fnExactFitReal", inPlace := ["math.Float64bits", "math.Float64frombits"], apart := false, narrowed := true }
def FnExactFitRealUptoSaid : Prop := fnExactFitRealUptoRow.holds Try.pinned (OpenSpec.upto fnExactFitRealSpec)

end Rows
end Go.Proofs.Ytcodiiajmffdoaa
