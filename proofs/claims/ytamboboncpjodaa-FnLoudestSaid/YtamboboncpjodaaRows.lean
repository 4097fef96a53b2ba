/-
  No cell of these rows narrows 'for every input' (looked for: loops, veiled, ifaces, maps, wideKeys, modest, calm, conditions, laid).
  DERIVED. THE GIVEN ROWS OF THIS SEAT. 3 by the template 'for every input the law returns true; each argument reads behind the call as it read before'; 0 by the template 'total and deterministic' (their statements: YtamboboncpjodaaTotals.lean).
  GIVEN WITH THE SEED: the statements are not yours to turn. If you find one false, say at which input.
  Laid BY PROGRAM, IN A SANDBOX (cutbox-rows.mjs): the forced cells as the released guide's own fill.sh prints them over the translation 38ce7232f4297644… (all of the seat's roots in one cut). By AI agents, Wed Nov 11 2026. No macro, syntax, notation, axiom, sorry.
-/
import Derived.Test.YtamboboncpjodaaChecked
import GoSem.Claim
import GoSem.ClaimJoined
import GoSem.ClaimMapViews
import Derived.JoinedTies
import Derived.KernelRfl
namespace Go.Proofs.Ytamboboncpjodaa
/- THE CELL 'sum', in the pinned program and in every row, IS THE sha256 OF THE DUMP (.gsa) THAT YtamboboncpjodaaProg.lean LOADS. Nothing in Lean hashes anything: it is a label: what it is worth is what the hold of that sum in a sandbox is worth. -/
noncomputable def Try.pinned : Pinned := { name := "ytamboboncpjodaa", sum := "38ce7232f4297644cfe058c60a58af7dd7e6ab33eefe0336fd8d822fcb243e3d", checked := Try.checked }
namespace Rows
def none {H : Type} : Left H := { results := [], args := [] }

/-- 'laws.FnBowed': WHATEVER THE INPUT: true; the input reads as it did. -/
def fnBowedSpec : ChangeSpec := { name := "fnBowed", fn := fun _ => fun
  | [d] => { results := [.lit (.bool true)], args := [d] }
  | _ => none }
def fnBowedRow : OpenClaim := { program := "ytamboboncpjodaa", sum := "38ce7232f4297644cfe058c60a58af7dd7e6ab33eefe0336fd8d822fcb243e3d", func := "loop.example/g03222/laws.FnBowed", spec := "fnBowed", inPlace := ["math.Float64bits", "math.Float64frombits"], apart := false }
def FnBowedSaid : Prop := fnBowedRow.holds Try.pinned (OpenSpec.ofChange fnBowedSpec)

/-- ITS FALSE NEIGHBOUR: 'it returns false'. Refute it at one input. -/
def fnBowedWrong : ChangeSpec := { name := "fnBowed", fn := fun _ => fun
  | [d] => { results := [.lit (.bool false)], args := [d] }
  | _ => none }
def FnBowedWrongFalsely : Prop := fnBowedRow.holds Try.pinned (OpenSpec.ofChange fnBowedWrong)

/-- 'laws.FnReciprocal': WHATEVER THE INPUT: true; the input reads as it did. -/
def fnReciprocalSpec : ChangeSpec := { name := "fnReciprocal", fn := fun _ => fun
  | [d] => { results := [.lit (.bool true)], args := [d] }
  | _ => none }
def fnReciprocalRow : OpenClaim := { program := "ytamboboncpjodaa", sum := "38ce7232f4297644cfe058c60a58af7dd7e6ab33eefe0336fd8d822fcb243e3d", func := "loop.example/g03222/laws.FnReciprocal", spec := "fnReciprocal", inPlace := ["math.Float64bits", "math.Float64frombits"], apart := false }
def FnReciprocalSaid : Prop := fnReciprocalRow.holds Try.pinned (OpenSpec.ofChange fnReciprocalSpec)

/-- ITS FALSE NEIGHBOUR: 'it returns false'. Refute it at one input. -/
def fnReciprocalWrong : ChangeSpec := { name := "fnReciprocal", fn := fun _ => fun
  | [d] => { results := [.lit (.bool false)], args := [d] }
  | _ => none }
def FnReciprocalWrongFalsely : Prop := fnReciprocalRow.holds Try.pinned (OpenSpec.ofChange fnReciprocalWrong)

/-- 'laws.FnLoudest': WHATEVER THE INPUT: true; the input reads as it did. -/
def fnLoudestSpec : ChangeSpec := { name := "fnLoudest", fn := fun _ => fun
  | [d] => { results := [.lit (.bool true)], args := [d] }
  | _ => none }
def fnLoudestRow : OpenClaim := { program := "ytamboboncpjodaa", sum := "38ce7232f4297644cfe058c60a58af7dd7e6ab33eefe0336fd8d822fcb243e3d", func := "loop.example/g03222/laws.FnLoudest", spec := "fnLoudest", inPlace := ["math.Float64bits", "math.Float64frombits"], apart := false }
def FnLoudestSaid : Prop := fnLoudestRow.holds Try.pinned (OpenSpec.ofChange fnLoudestSpec)

/-- ITS FALSE NEIGHBOUR: 'it returns false'. Refute it at one input. -/
def fnLoudestWrong : ChangeSpec := { name := "fnLoudest", fn := fun _ => fun
  | [d] => { results := [.lit (.bool false)], args := [d] }
  | _ => none }
def FnLoudestWrongFalsely : Prop := fnLoudestRow.holds Try.pinned (OpenSpec.ofChange fnLoudestWrong)

/- THE SECOND FORM. 'bulk': how many values and letters a reading holds, each counted each time it is reached (what is shared counts as often as it is met; a slice's spare places count too). A statement '..UptoSaid' is the law's where the arguments, and the package variables that the reading takes, are together of bulk at most 1048576: NARROWER than '..Said'. Prove '..Said' where nothing that the law and all that it calls make is longer than what came in: it says more and counts as full. Else prove '..UptoSaid'. A law counts once. -/
mutual
def uptoBulk {H : Type} : DataW H → Nat
  | .lit (.string bytes) => bytes.length + 1
  | .lit _ => 1
  | .nil => 1
  | .ptr d => uptoBulk d + 1
  | .slice elems spare => uptoBulkAll elems + uptoBulkAll spare + 1
  | .agg parts => uptoBulkAll parts + 1
  | .iface _ d => uptoBulk d + 1
  | .map entries => uptoBulkEntries entries + 1
  | .held _ => 1
def uptoBulkAll {H : Type} : List (DataW H) → Nat
  | [] => 0
  | d :: r => uptoBulk d + uptoBulkAll r
def uptoBulkEntries {H : Type} : List (Lit × DataW H) → Nat
  | [] => 0
  | x :: r => uptoBulkEntry x + uptoBulkEntries r
def uptoBulkEntry {H : Type} : Lit × DataW H → Nat
  | (.string bytes, d) => bytes.length + uptoBulk d + 1
  | (_, d) => uptoBulk d + 1
 end
def uptoSmall : (H : Type) → List (DataW H) → Bool := fun _ ds => decide (uptoBulkAll ds ≤ 1048576)
def OpenSpec.upto (s : _root_.Go.ChangeSpec) : _root_.Go.OpenSpec := { _root_.Go.OpenSpec.ofChange s with cond := some uptoSmall }

/-- 'laws.FnBowed', WHERE WHAT IT READS IS OF BULK AT MOST 1048576: true; the input reads as it did. -/
def fnBowedUptoRow : OpenClaim := { program := "ytamboboncpjodaa", sum := "38ce7232f4297644cfe058c60a58af7dd7e6ab33eefe0336fd8d822fcb243e3d", func := "loop.example/g03222/laws.FnBowed", spec := "fnBowed", inPlace := ["math.Float64bits", "math.Float64frombits"], apart := false, narrowed := true }
def FnBowedUptoSaid : Prop := fnBowedUptoRow.holds Try.pinned (OpenSpec.upto fnBowedSpec)

/-- 'laws.FnReciprocal', WHERE WHAT IT READS IS OF BULK AT MOST 1048576: true; the input reads as it did. -/
def fnReciprocalUptoRow : OpenClaim := { program := "ytamboboncpjodaa", sum := "38ce7232f4297644cfe058c60a58af7dd7e6ab33eefe0336fd8d822fcb243e3d", func := "loop.example/g03222/laws.FnReciprocal", spec := "fnReciprocal", inPlace := ["math.Float64bits", "math.Float64frombits"], apart := false, narrowed := true }
def FnReciprocalUptoSaid : Prop := fnReciprocalUptoRow.holds Try.pinned (OpenSpec.upto fnReciprocalSpec)

/-- 'laws.FnLoudest', WHERE WHAT IT READS IS OF BULK AT MOST 1048576: true; the input reads as it did. -/
def fnLoudestUptoRow : OpenClaim := { program := "ytamboboncpjodaa", sum := "38ce7232f4297644cfe058c60a58af7dd7e6ab33eefe0336fd8d822fcb243e3d", func := "loop.example/g03222/laws.FnLoudest", spec := "fnLoudest", inPlace := ["math.Float64bits", "math.Float64frombits"], apart := false, narrowed := true }
def FnLoudestUptoSaid : Prop := fnLoudestUptoRow.holds Try.pinned (OpenSpec.upto fnLoudestSpec)

end Rows
end Go.Proofs.Ytamboboncpjodaa
