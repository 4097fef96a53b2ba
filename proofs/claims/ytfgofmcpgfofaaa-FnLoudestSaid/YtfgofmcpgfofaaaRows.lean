/-
  No cell of these rows narrows 'for every input' (looked for: loops, veiled, ifaces, maps, wideKeys, modest, calm, conditions, laid).
  DERIVED. THE GIVEN ROWS OF THIS SEAT. 12 by the template 'for every input the law returns true; each argument reads behind the call as it read before'; 0 by the template 'total and deterministic' (their statements: YtfgofmcpgfofaaaTotals.lean).
  GIVEN WITH THE SEED: the statements are not yours to turn. If you find one false, say at which input.
  Laid BY PROGRAM, IN A SANDBOX (cutbox-rows.mjs): the forced cells as the released guide's own fill.sh prints them over the translation 07a2c2215f0583f4… (all of the seat's roots in one cut). By AI agents, Wed Nov 11 2026. No macro, syntax, notation, axiom, sorry.
-/
import Derived.Test.YtfgofmcpgfofaaaChecked
import GoSem.Claim
import GoSem.ClaimJoined
import GoSem.ClaimMapViews
import Derived.JoinedTies
import Derived.KernelRfl
namespace Go.Proofs.Ytfgofmcpgfofaaa
/- THE CELL 'sum', in the pinned program and in every row, IS THE sha256 OF THE DUMP (.gsa) THAT YtfgofmcpgfofaaaProg.lean LOADS. Nothing in Lean hashes anything: it is a label: what it is worth is what the hold of that sum in a sandbox is worth. -/
noncomputable def Try.pinned : Pinned := { name := "ytfgofmcpgfofaaa", sum := "07a2c2215f0583f4542224864c0adc6814b44b276ce87cbe05d2a7644775b69d", checked := Try.checked }
namespace Rows
def none {H : Type} : Left H := { results := [], args := [] }

/-- 'laws.FnDivided': WHATEVER THE INPUT: true; the input reads as it did. -/
def fnDividedSpec : ChangeSpec := { name := "fnDivided", fn := fun _ => fun
  | [d] => { results := [.lit (.bool true)], args := [d] }
  | _ => none }
def fnDividedRow : OpenClaim := { program := "ytfgofmcpgfofaaa", sum := "07a2c2215f0583f4542224864c0adc6814b44b276ce87cbe05d2a7644775b69d", func := "loop.example/g03222/laws.FnDivided", spec := "fnDivided", inPlace := ["math.Float64bits", "math.Float64frombits"], apart := false }
def FnDividedSaid : Prop := fnDividedRow.holds Try.pinned (OpenSpec.ofChange fnDividedSpec)

/-- ITS FALSE NEIGHBOUR: 'it returns false'. Refute it at one input. -/
def fnDividedWrong : ChangeSpec := { name := "fnDivided", fn := fun _ => fun
  | [d] => { results := [.lit (.bool false)], args := [d] }
  | _ => none }
def FnDividedWrongFalsely : Prop := fnDividedRow.holds Try.pinned (OpenSpec.ofChange fnDividedWrong)

/-- 'laws.FnBeats': WHATEVER THE INPUT: true; the input reads as it did. -/
def fnBeatsSpec : ChangeSpec := { name := "fnBeats", fn := fun _ => fun
  | [d] => { results := [.lit (.bool true)], args := [d] }
  | _ => none }
def fnBeatsRow : OpenClaim := { program := "ytfgofmcpgfofaaa", sum := "07a2c2215f0583f4542224864c0adc6814b44b276ce87cbe05d2a7644775b69d", func := "loop.example/g03222/laws.FnBeats", spec := "fnBeats", inPlace := ["math.Float64bits", "math.Float64frombits"], apart := false }
def FnBeatsSaid : Prop := fnBeatsRow.holds Try.pinned (OpenSpec.ofChange fnBeatsSpec)

/-- ITS FALSE NEIGHBOUR: 'it returns false'. Refute it at one input. -/
def fnBeatsWrong : ChangeSpec := { name := "fnBeats", fn := fun _ => fun
  | [d] => { results := [.lit (.bool false)], args := [d] }
  | _ => none }
def FnBeatsWrongFalsely : Prop := fnBeatsRow.holds Try.pinned (OpenSpec.ofChange fnBeatsWrong)

/-- 'laws.FnDrift': WHATEVER THE INPUT: true; the input reads as it did. -/
def fnDriftSpec : ChangeSpec := { name := "fnDrift", fn := fun _ => fun
  | [d] => { results := [.lit (.bool true)], args := [d] }
  | _ => none }
def fnDriftRow : OpenClaim := { program := "ytfgofmcpgfofaaa", sum := "07a2c2215f0583f4542224864c0adc6814b44b276ce87cbe05d2a7644775b69d", func := "loop.example/g03222/laws.FnDrift", spec := "fnDrift", inPlace := ["math.Float64bits", "math.Float64frombits"], apart := false }
def FnDriftSaid : Prop := fnDriftRow.holds Try.pinned (OpenSpec.ofChange fnDriftSpec)

/-- ITS FALSE NEIGHBOUR: 'it returns false'. Refute it at one input. -/
def fnDriftWrong : ChangeSpec := { name := "fnDrift", fn := fun _ => fun
  | [d] => { results := [.lit (.bool false)], args := [d] }
  | _ => none }
def FnDriftWrongFalsely : Prop := fnDriftRow.holds Try.pinned (OpenSpec.ofChange fnDriftWrong)

/-- 'laws.FnRung': WHATEVER THE INPUT: true; the input reads as it did. -/
def fnRungSpec : ChangeSpec := { name := "fnRung", fn := fun _ => fun
  | [d] => { results := [.lit (.bool true)], args := [d] }
  | _ => none }
def fnRungRow : OpenClaim := { program := "ytfgofmcpgfofaaa", sum := "07a2c2215f0583f4542224864c0adc6814b44b276ce87cbe05d2a7644775b69d", func := "loop.example/g03222/laws.FnRung", spec := "fnRung", inPlace := ["math.Float64bits", "math.Float64frombits"], apart := false }
def FnRungSaid : Prop := fnRungRow.holds Try.pinned (OpenSpec.ofChange fnRungSpec)

/-- ITS FALSE NEIGHBOUR: 'it returns false'. Refute it at one input. -/
def fnRungWrong : ChangeSpec := { name := "fnRung", fn := fun _ => fun
  | [d] => { results := [.lit (.bool false)], args := [d] }
  | _ => none }
def FnRungWrongFalsely : Prop := fnRungRow.holds Try.pinned (OpenSpec.ofChange fnRungWrong)

/-- 'laws.FnBodies': WHATEVER THE INPUT: true; the input reads as it did. -/
def fnBodiesSpec : ChangeSpec := { name := "fnBodies", fn := fun _ => fun
  | [d] => { results := [.lit (.bool true)], args := [d] }
  | _ => none }
def fnBodiesRow : OpenClaim := { program := "ytfgofmcpgfofaaa", sum := "07a2c2215f0583f4542224864c0adc6814b44b276ce87cbe05d2a7644775b69d", func := "loop.example/g03222/laws.FnBodies", spec := "fnBodies", inPlace := ["math.Float64bits", "math.Float64frombits"], apart := false }
def FnBodiesSaid : Prop := fnBodiesRow.holds Try.pinned (OpenSpec.ofChange fnBodiesSpec)

/-- ITS FALSE NEIGHBOUR: 'it returns false'. Refute it at one input. -/
def fnBodiesWrong : ChangeSpec := { name := "fnBodies", fn := fun _ => fun
  | [d] => { results := [.lit (.bool false)], args := [d] }
  | _ => none }
def FnBodiesWrongFalsely : Prop := fnBodiesRow.holds Try.pinned (OpenSpec.ofChange fnBodiesWrong)

/-- 'laws.FnBowed': WHATEVER THE INPUT: true; the input reads as it did. -/
def fnBowedSpec : ChangeSpec := { name := "fnBowed", fn := fun _ => fun
  | [d] => { results := [.lit (.bool true)], args := [d] }
  | _ => none }
def fnBowedRow : OpenClaim := { program := "ytfgofmcpgfofaaa", sum := "07a2c2215f0583f4542224864c0adc6814b44b276ce87cbe05d2a7644775b69d", func := "loop.example/g03222/laws.FnBowed", spec := "fnBowed", inPlace := ["math.Float64bits", "math.Float64frombits"], apart := false }
def FnBowedSaid : Prop := fnBowedRow.holds Try.pinned (OpenSpec.ofChange fnBowedSpec)

/-- ITS FALSE NEIGHBOUR: 'it returns false'. Refute it at one input. -/
def fnBowedWrong : ChangeSpec := { name := "fnBowed", fn := fun _ => fun
  | [d] => { results := [.lit (.bool false)], args := [d] }
  | _ => none }
def FnBowedWrongFalsely : Prop := fnBowedRow.holds Try.pinned (OpenSpec.ofChange fnBowedWrong)

/-- 'laws.FnShapes': WHATEVER THE INPUT: true; the input reads as it did. -/
def fnShapesSpec : ChangeSpec := { name := "fnShapes", fn := fun _ => fun
  | [d] => { results := [.lit (.bool true)], args := [d] }
  | _ => none }
def fnShapesRow : OpenClaim := { program := "ytfgofmcpgfofaaa", sum := "07a2c2215f0583f4542224864c0adc6814b44b276ce87cbe05d2a7644775b69d", func := "loop.example/g03222/laws.FnShapes", spec := "fnShapes", inPlace := ["math.Float64bits", "math.Float64frombits"], apart := false }
def FnShapesSaid : Prop := fnShapesRow.holds Try.pinned (OpenSpec.ofChange fnShapesSpec)

/-- ITS FALSE NEIGHBOUR: 'it returns false'. Refute it at one input. -/
def fnShapesWrong : ChangeSpec := { name := "fnShapes", fn := fun _ => fun
  | [d] => { results := [.lit (.bool false)], args := [d] }
  | _ => none }
def FnShapesWrongFalsely : Prop := fnShapesRow.holds Try.pinned (OpenSpec.ofChange fnShapesWrong)

/-- 'laws.FnLoudest': WHATEVER THE INPUT: true; the input reads as it did. -/
def fnLoudestSpec : ChangeSpec := { name := "fnLoudest", fn := fun _ => fun
  | [d] => { results := [.lit (.bool true)], args := [d] }
  | _ => none }
def fnLoudestRow : OpenClaim := { program := "ytfgofmcpgfofaaa", sum := "07a2c2215f0583f4542224864c0adc6814b44b276ce87cbe05d2a7644775b69d", func := "loop.example/g03222/laws.FnLoudest", spec := "fnLoudest", inPlace := ["math.Float64bits", "math.Float64frombits"], apart := false }
def FnLoudestSaid : Prop := fnLoudestRow.holds Try.pinned (OpenSpec.ofChange fnLoudestSpec)

/-- ITS FALSE NEIGHBOUR: 'it returns false'. Refute it at one input. -/
def fnLoudestWrong : ChangeSpec := { name := "fnLoudest", fn := fun _ => fun
  | [d] => { results := [.lit (.bool false)], args := [d] }
  | _ => none }
def FnLoudestWrongFalsely : Prop := fnLoudestRow.holds Try.pinned (OpenSpec.ofChange fnLoudestWrong)

/-- 'laws.FnExactStrikeShape': WHATEVER THE INPUT: true; the input reads as it did. -/
def fnExactStrikeShapeSpec : ChangeSpec := { name := "fnExactStrikeShape", fn := fun _ => fun
  | [d1, d2] => { results := [.lit (.bool true)], args := [d1, d2] }
  | _ => none }
def fnExactStrikeShapeRow : OpenClaim := { program := "ytfgofmcpgfofaaa", sum := "07a2c2215f0583f4542224864c0adc6814b44b276ce87cbe05d2a7644775b69d", func := "loop.example/g03222/laws.FnExactStrikeShape", spec := "fnExactStrikeShape", apart := false }
def FnExactStrikeShapeSaid : Prop := fnExactStrikeShapeRow.holds Try.pinned (OpenSpec.ofChange fnExactStrikeShapeSpec)

/-- ITS FALSE NEIGHBOUR: 'it returns false'. Refute it at one input. -/
def fnExactStrikeShapeWrong : ChangeSpec := { name := "fnExactStrikeShape", fn := fun _ => fun
  | [d1, d2] => { results := [.lit (.bool false)], args := [d1, d2] }
  | _ => none }
def FnExactStrikeShapeWrongFalsely : Prop := fnExactStrikeShapeRow.holds Try.pinned (OpenSpec.ofChange fnExactStrikeShapeWrong)

/-- 'laws.FnExactBowForce': WHATEVER THE INPUT: true; the input reads as it did. -/
def fnExactBowForceSpec : ChangeSpec := { name := "fnExactBowForce", fn := fun _ => fun
  | [d1, d2, d3] => { results := [.lit (.bool true)], args := [d1, d2, d3] }
  | _ => none }
def fnExactBowForceRow : OpenClaim := { program := "ytfgofmcpgfofaaa", sum := "07a2c2215f0583f4542224864c0adc6814b44b276ce87cbe05d2a7644775b69d", func := "loop.example/g03222/laws.FnExactBowForce", spec := "fnExactBowForce", inPlace := ["math.Float64bits", "math.Float64frombits"], apart := false }
def FnExactBowForceSaid : Prop := fnExactBowForceRow.holds Try.pinned (OpenSpec.ofChange fnExactBowForceSpec)

/-- ITS FALSE NEIGHBOUR: 'it returns false'. Refute it at one input. -/
def fnExactBowForceWrong : ChangeSpec := { name := "fnExactBowForce", fn := fun _ => fun
  | [d1, d2, d3] => { results := [.lit (.bool false)], args := [d1, d2, d3] }
  | _ => none }
def FnExactBowForceWrongFalsely : Prop := fnExactBowForceRow.holds Try.pinned (OpenSpec.ofChange fnExactBowForceWrong)

/-- 'laws.FnExactEnergyOf': WHATEVER THE INPUT: true; the input reads as it did. -/
def fnExactEnergyOfSpec : ChangeSpec := { name := "fnExactEnergyOf", fn := fun _ => fun
  | [d] => { results := [.lit (.bool true)], args := [d] }
  | _ => none }
def fnExactEnergyOfRow : OpenClaim := { program := "ytfgofmcpgfofaaa", sum := "07a2c2215f0583f4542224864c0adc6814b44b276ce87cbe05d2a7644775b69d", func := "loop.example/g03222/laws.FnExactEnergyOf", spec := "fnExactEnergyOf", apart := false }
def FnExactEnergyOfSaid : Prop := fnExactEnergyOfRow.holds Try.pinned (OpenSpec.ofChange fnExactEnergyOfSpec)

/-- ITS FALSE NEIGHBOUR: 'it returns false'. Refute it at one input. -/
def fnExactEnergyOfWrong : ChangeSpec := { name := "fnExactEnergyOf", fn := fun _ => fun
  | [d] => { results := [.lit (.bool false)], args := [d] }
  | _ => none }
def FnExactEnergyOfWrongFalsely : Prop := fnExactEnergyOfRow.holds Try.pinned (OpenSpec.ofChange fnExactEnergyOfWrong)

/-- 'laws.FnExactPeakOf': WHATEVER THE INPUT: true; the input reads as it did. -/
def fnExactPeakOfSpec : ChangeSpec := { name := "fnExactPeakOf", fn := fun _ => fun
  | [d] => { results := [.lit (.bool true)], args := [d] }
  | _ => none }
def fnExactPeakOfRow : OpenClaim := { program := "ytfgofmcpgfofaaa", sum := "07a2c2215f0583f4542224864c0adc6814b44b276ce87cbe05d2a7644775b69d", func := "loop.example/g03222/laws.FnExactPeakOf", spec := "fnExactPeakOf", inPlace := ["math.Float64bits", "math.Float64frombits"], apart := false }
def FnExactPeakOfSaid : Prop := fnExactPeakOfRow.holds Try.pinned (OpenSpec.ofChange fnExactPeakOfSpec)

/-- ITS FALSE NEIGHBOUR: 'it returns false'. Refute it at one input. -/
def fnExactPeakOfWrong : ChangeSpec := { name := "fnExactPeakOf", fn := fun _ => fun
  | [d] => { results := [.lit (.bool false)], args := [d] }
  | _ => none }
def FnExactPeakOfWrongFalsely : Prop := fnExactPeakOfRow.holds Try.pinned (OpenSpec.ofChange fnExactPeakOfWrong)

/- THE SECOND FORM. 'bulk': how many values and letters a reading holds, each counted each time it is reached (what is shared counts as often as it is met; a slice's spare places count too). A statement '..UptoSaid' is the law's where the arguments, and the package variables that the reading takes, are together of bulk at most 1048576: NARROWER than '..Said'. Prove '..Said' where nothing that the law and all that it calls make is longer than what came in: it says more and counts as full. Else prove '..UptoSaid'. A law counts once. -/
mutual
def uptoBulk {H : Type} : DataW H → Nat
  | .lit (.string bytes) => bytes.length + 1
  | .lit _ => 1
  | .nil => 1
  | .ptr d => uptoBulk d + 1
  | .slice elems spare => uptoBulkAll elems + uptoBulkAll spare + 1
  | .agg parts => uptoBulkAll parts + 1
  | .iface _ d => uptoBulk d + 1
  | .map entries => uptoBulkEntries entries + 1
  | .held _ => 1
def uptoBulkAll {H : Type} : List (DataW H) → Nat
  | [] => 0
  | d :: r => uptoBulk d + uptoBulkAll r
def uptoBulkEntries {H : Type} : List (Lit × DataW H) → Nat
  | [] => 0
  | x :: r => uptoBulkEntry x + uptoBulkEntries r
def uptoBulkEntry {H : Type} : Lit × DataW H → Nat
  | (.string bytes, d) => bytes.length + uptoBulk d + 1
  | (_, d) => uptoBulk d + 1
 end
def uptoSmall : (H : Type) → List (DataW H) → Bool := fun _ ds => decide (uptoBulkAll ds ≤ 1048576)
def OpenSpec.upto (s : _root_.Go.ChangeSpec) : _root_.Go.OpenSpec := { _root_.Go.OpenSpec.ofChange s with cond := some uptoSmall }

/-- 'laws.FnDivided', WHERE WHAT IT READS IS OF BULK AT MOST 1048576: true; the input reads as it did. -/
def fnDividedUptoRow : OpenClaim := { program := "ytfgofmcpgfofaaa", sum := "07a2c2215f0583f4542224864c0adc6814b44b276ce87cbe05d2a7644775b69d", func := "loop.example/g03222/laws.FnDivided", spec := "fnDivided", inPlace := ["math.Float64bits", "math.Float64frombits"], apart := false, narrowed := true }
def FnDividedUptoSaid : Prop := fnDividedUptoRow.holds Try.pinned (OpenSpec.upto fnDividedSpec)

/-- 'laws.FnBeats', WHERE WHAT IT READS IS OF BULK AT MOST 1048576: true; the input reads as it did. -/
def fnBeatsUptoRow : OpenClaim := { program := "ytfgofmcpgfofaaa", sum := "07a2c2215f0583f4542224864c0adc6814b44b276ce87cbe05d2a7644775b69d", func := "loop.example/g03222/laws.FnBeats", spec := "fnBeats", inPlace := ["math.Float64bits", "math.Float64frombits"], apart := false, narrowed := true }
def FnBeatsUptoSaid : Prop := fnBeatsUptoRow.holds Try.pinned (OpenSpec.upto fnBeatsSpec)

/-- 'laws.FnDrift', WHERE WHAT IT READS IS OF BULK AT MOST 1048576: true; the input reads as it did. -/
def fnDriftUptoRow : OpenClaim := { program := "ytfgofmcpgfofaaa", sum := "07a2c2215f0583f4542224864c0adc6814b44b276ce87cbe05d2a7644775b69d", func := "loop.example/g03222/laws.FnDrift", spec := "fnDrift", inPlace := ["math.Float64bits", "math.Float64frombits"], apart := false, narrowed := true }
def FnDriftUptoSaid : Prop := fnDriftUptoRow.holds Try.pinned (OpenSpec.upto fnDriftSpec)

/-- 'laws.FnRung', WHERE WHAT IT READS IS OF BULK AT MOST 1048576: true; the input reads as it did. -/
def fnRungUptoRow : OpenClaim := { program := "ytfgofmcpgfofaaa", sum := "07a2c2215f0583f4542224864c0adc6814b44b276ce87cbe05d2a7644775b69d", func := "loop.example/g03222/laws.FnRung", spec := "fnRung", inPlace := ["math.Float64bits", "math.Float64frombits"], apart := false, narrowed := true }
def FnRungUptoSaid : Prop := fnRungUptoRow.holds Try.pinned (OpenSpec.upto fnRungSpec)

/-- 'laws.FnBodies', WHERE WHAT IT READS IS OF BULK AT MOST 1048576: true; the input reads as it did. -/
def fnBodiesUptoRow : OpenClaim := { program := "ytfgofmcpgfofaaa", sum := "07a2c2215f0583f4542224864c0adc6814b44b276ce87cbe05d2a7644775b69d", func := "loop.example/g03222/laws.FnBodies", spec := "fnBodies", inPlace := ["math.Float64bits", "math.Float64frombits"], apart := false, narrowed := true }
def FnBodiesUptoSaid : Prop := fnBodiesUptoRow.holds Try.pinned (OpenSpec.upto fnBodiesSpec)

/-- 'laws.FnBowed', WHERE WHAT IT READS IS OF BULK AT MOST 1048576: true; the input reads as it did. -/
def fnBowedUptoRow : OpenClaim := { program := "ytfgofmcpgfofaaa", sum := "07a2c2215f0583f4542224864c0adc6814b44b276ce87cbe05d2a7644775b69d", func := "loop.example/g03222/laws.FnBowed", spec := "fnBowed", inPlace := ["math.Float64bits", "math.Float64frombits"], apart := false, narrowed := true }
def FnBowedUptoSaid : Prop := fnBowedUptoRow.holds Try.pinned (OpenSpec.upto fnBowedSpec)

/-- 'laws.FnShapes', WHERE WHAT IT READS IS OF BULK AT MOST 1048576: true; the input reads as it did. -/
def fnShapesUptoRow : OpenClaim := { program := "ytfgofmcpgfofaaa", sum := "07a2c2215f0583f4542224864c0adc6814b44b276ce87cbe05d2a7644775b69d", func := "loop.example/g03222/laws.FnShapes", spec := "fnShapes", inPlace := ["math.Float64bits", "math.Float64frombits"], apart := false, narrowed := true }
def FnShapesUptoSaid : Prop := fnShapesUptoRow.holds Try.pinned (OpenSpec.upto fnShapesSpec)

/-- 'laws.FnLoudest', WHERE WHAT IT READS IS OF BULK AT MOST 1048576: true; the input reads as it did. -/
def fnLoudestUptoRow : OpenClaim := { program := "ytfgofmcpgfofaaa", sum := "07a2c2215f0583f4542224864c0adc6814b44b276ce87cbe05d2a7644775b69d", func := "loop.example/g03222/laws.FnLoudest", spec := "fnLoudest", inPlace := ["math.Float64bits", "math.Float64frombits"], apart := false, narrowed := true }
def FnLoudestUptoSaid : Prop := fnLoudestUptoRow.holds Try.pinned (OpenSpec.upto fnLoudestSpec)

/-- 'laws.FnExactStrikeShape', WHERE WHAT IT READS IS OF BULK AT MOST 1048576: true; the input reads as it did. -/
def fnExactStrikeShapeUptoRow : OpenClaim := { program := "ytfgofmcpgfofaaa", sum := "07a2c2215f0583f4542224864c0adc6814b44b276ce87cbe05d2a7644775b69d", func := "loop.example/g03222/laws.FnExactStrikeShape", spec := "fnExactStrikeShape", apart := false, narrowed := true }
def FnExactStrikeShapeUptoSaid : Prop := fnExactStrikeShapeUptoRow.holds Try.pinned (OpenSpec.upto fnExactStrikeShapeSpec)

/-- 'laws.FnExactBowForce', WHERE WHAT IT READS IS OF BULK AT MOST 1048576: true; the input reads as it did. -/
def fnExactBowForceUptoRow : OpenClaim := { program := "ytfgofmcpgfofaaa", sum := "07a2c2215f0583f4542224864c0adc6814b44b276ce87cbe05d2a7644775b69d", func := "loop.example/g03222/laws.FnExactBowForce", spec := "fnExactBowForce", inPlace := ["math.Float64bits", "math.Float64frombits"], apart := false, narrowed := true }
def FnExactBowForceUptoSaid : Prop := fnExactBowForceUptoRow.holds Try.pinned (OpenSpec.upto fnExactBowForceSpec)

/-- 'laws.FnExactEnergyOf', WHERE WHAT IT READS IS OF BULK AT MOST 1048576: true; the input reads as it did. -/
def fnExactEnergyOfUptoRow : OpenClaim := { program := "ytfgofmcpgfofaaa", sum := "07a2c2215f0583f4542224864c0adc6814b44b276ce87cbe05d2a7644775b69d", func := "loop.example/g03222/laws.FnExactEnergyOf", spec := "fnExactEnergyOf", apart := false, narrowed := true }
def FnExactEnergyOfUptoSaid : Prop := fnExactEnergyOfUptoRow.holds Try.pinned (OpenSpec.upto fnExactEnergyOfSpec)

/-- 'laws.FnExactPeakOf', WHERE WHAT IT READS IS OF BULK AT MOST 1048576: true; the input reads as it did. -/
def fnExactPeakOfUptoRow : OpenClaim := { program := "ytfgofmcpgfofaaa", sum := "07a2c2215f0583f4542224864c0adc6814b44b276ce87cbe05d2a7644775b69d", func := "loop.example/g03222/laws.FnExactPeakOf", spec := "fnExactPeakOf", inPlace := ["math.Float64bits", "math.Float64frombits"], apart := false, narrowed := true }
def FnExactPeakOfUptoSaid : Prop := fnExactPeakOfUptoRow.holds Try.pinned (OpenSpec.upto fnExactPeakOfSpec)

end Rows
end Go.Proofs.Ytfgofmcpgfofaaa
