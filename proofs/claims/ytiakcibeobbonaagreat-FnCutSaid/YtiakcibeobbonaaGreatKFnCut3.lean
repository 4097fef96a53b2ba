/- Texts of a proof, put together: Shape, Play, Wide, Tw, Inj, Unit, Half, Fix, Less, PlayB, ScoD, ScoE, ScoG, PlayC, PlayE, PlayF, PlayH, PlayI.
   Conditions: those that each statement names. -/
import Derived.Test.YtiakcibeobbonaaGreatKFnCut2
import Derived.Great.BuildSlice
import Derived.Deep.RegionHeld3
import Derived.Lib.SliceRun
import Derived.Deep.RegionLaw
/- The shapes of strikes as plain lists of bits, and what the kernel finds of all of them: 2,080 places for each kind.
   Conditions: none beyond those that each statement names. -/
namespace Go.Proofs.YtiakcibeobbonaaGreat
set_option linter.unusedSimpArgs false
set_option linter.unusedVariables false
open Go

def rampAt (n i : Nat) : Nat := opB .quo .f32 (floatOfInt .f32 ((i : Int) + 1)) (floatOfInt .f32 (n : Int))
def archT (n i : Nat) : Nat := opB .quo .f32 (floatOfInt .f32 (2 * (i : Int) + 1)) (floatOfInt .f32 (2 * (n : Int)))
def archP (n i : Nat) : Nat := opB .mul .f32 1082130432 (archT n i)
def archM (n i : Nat) : Nat := opB .sub .f32 1065353216 (archT n i)
def archAt (n i : Nat) : Nat := opB .mul .f32 (archP n i) (archM n i)
def clickAt (i : Nat) : Nat := if i = 0 then 1065353216 else 0
def shapeAt (kind n i : Nat) : Nat := if kind = 0 then clickAt i else if kind = 1 then rampAt n i else archAt n i
def shapeL (kind n : Nat) : List Nat := (List.range n).map (shapeAt kind n)

/-- from 0 to 1, and multiplied by 1 itself -/
def unitB (v : Nat) : Bool :=
  fin .f32 v && (FloatKind.f32.format.order v 0 == some .gt || FloatKind.f32.format.order v 0 == some .eq) && (FloatKind.f32.format.order v 1065353216 == some .lt || FloatKind.f32.format.order v 1065353216 == some .eq) &&
    (floatBits .mul .f32 v 1065353216 == some v)
def calmB (o : BinOp) (x y : Nat) : Bool := (floatBits o .f32 x y).isSome
theorem calm_of {o : BinOp} {x y : Nat} (h : calmB o x y = true) : Calm o .f32 x y := by
  unfold calmB at h
  unfold Calm opB
  cases hb : floatBits o .f32 x y with
  | some r => rfl
  | none => rw [hb] at h; simp at h
def upB (a b : Nat) : Bool := !(FloatKind.f32.format.order a b == some .gt || FloatKind.f32.format.order a b == some .eq)
/-- the number is reckoned once, ahead of what is asked of it -/
def force (x : Nat) (k : Nat → Bool) : Bool := match x with
  | 0 => k 0
  | n + 1 => k (n + 1)
theorem force_eq (x : Nat) (k : Nat → Bool) : force x k = k x := by cases x <;> rfl
def p20 : Nat := 4517110426252607488
theorem p20_eq : powB 20 = p20 := by decide +kernel
def rampB (n i : Nat) : Bool :=
  force (rampAt n i) fun v => force (rampAt n (i - 1)) fun u =>
  calmB .quo (floatOfInt .f32 ((i : Int) + 1)) (floatOfInt .f32 (n : Int)) && unitB v && (i == 0 || upB u v) && (i + 1 != n || FloatKind.f32.format.order v 1065353216 == some .eq)
def archB (n i : Nat) : Bool :=
  force (archT n i) fun t => force (opB .mul .f32 1082130432 t) fun p => force (opB .sub .f32 1065353216 t) fun m => force (opB .mul .f32 p m) fun v =>
  calmB .quo (floatOfInt .f32 (2 * (i : Int) + 1)) (floatOfInt .f32 (2 * (n : Int))) && calmB .mul 1082130432 t && calmB .sub 1065353216 t && calmB .mul p m && unitB v
/-- as the law asks: the difference of the widened ones -/
def archD (n i : Nat) : Nat := opB .sub .f64 (wid (archAt n i)) (wid (archAt n (n - 1 - i)))
def archF (n i : Nat) (k : Nat → Bool) : Bool := force (archT n i) fun t => force (opB .mul .f32 1082130432 t) fun p => force (opB .sub .f32 1065353216 t) fun m => force (opB .mul .f32 p m) k
theorem archF_eq (n i : Nat) (k : Nat → Bool) : archF n i k = k (archAt n i) := by simp only [archF, force_eq]; rfl
def nearB (n i : Nat) : Bool :=
  archF n i fun v => archF n (n - 1 - i) fun u => force (wid v) fun a => force (wid u) fun b => force (opB .sub .f64 a b) fun d =>
  (floatBits .sub .f64 a b).isSome && fin .f64 d && force (szd d 0) fun s => leB s p20
theorem rampB_eq (n i : Nat) : rampB n i = (calmB .quo (floatOfInt .f32 ((i : Int) + 1)) (floatOfInt .f32 (n : Int)) && unitB (rampAt n i) && (i == 0 || upB (rampAt n (i - 1)) (rampAt n i)) && (i + 1 != n || FloatKind.f32.format.order (rampAt n i) 1065353216 == some .eq)) := by
  unfold rampB; simp only [force_eq]
theorem archB_eq (n i : Nat) : archB n i = (calmB .quo (floatOfInt .f32 (2 * (i : Int) + 1)) (floatOfInt .f32 (2 * (n : Int))) && calmB .mul 1082130432 (archT n i) && calmB .sub 1065353216 (archT n i) && calmB .mul (archP n i) (archM n i) && unitB (archAt n i)) := by
  unfold archB; simp only [force_eq]; rfl
theorem nearB_eq (n i : Nat) : nearB n i = ((floatBits .sub .f64 (wid (archAt n i)) (wid (archAt n (n - 1 - i)))).isSome && fin .f64 (archD n i) && leB (szd (archD n i) 0) (powB 20)) := by
  unfold nearB; simp only [force_eq, archF_eq, p20_eq]; rfl

/-- all places of the lengths from lo on -/
def chunk (p : Nat → Nat → Bool) (lo k : Nat) : Bool := (List.range k).all fun d => (List.range (lo + d)).all fun i => p (lo + d) i
theorem chunk_get {p : Nat → Nat → Bool} {lo k : Nat} (h : chunk p lo k = true) (n i : Nat) (h1 : lo ≤ n) (h2 : n < lo + k) (hi : i < n) : p n i = true := by
  unfold chunk at h
  rw [List.all_eq_true] at h
  have h3 := h (n - lo) (List.mem_range.2 (by omega))
  rw [List.all_eq_true] at h3
  have h4 := h3 i (List.mem_range.2 (by omega))
  rw [show lo + (n - lo) = n from by omega] at h4
  exact h4
def AllB (p : Nat → Nat → Bool) : Prop := ∀ n i : Nat, n ≤ 64 → i < n → p n i = true
theorem all_of {p : Nat → Nat → Bool} (h0 : chunk p 0 24 = true) (h1 : chunk p 24 9 = true) (h2 : chunk p 33 7 = true) (h3 : chunk p 40 6 = true) (h4 : chunk p 46 6 = true) (h5 : chunk p 52 5 = true) (h6 : chunk p 57 4 = true) (h7 : chunk p 61 4 = true) : AllB p := by
  intro n i hn hi
  by_cases c0 : n < 24
  · exact chunk_get h0 n i (by omega) (by omega) hi
  by_cases c1 : n < 33
  · exact chunk_get h1 n i (by omega) (by omega) hi
  by_cases c2 : n < 40
  · exact chunk_get h2 n i (by omega) (by omega) hi
  by_cases c3 : n < 46
  · exact chunk_get h3 n i (by omega) (by omega) hi
  by_cases c4 : n < 52
  · exact chunk_get h4 n i (by omega) (by omega) hi
  by_cases c5 : n < 57
  · exact chunk_get h5 n i (by omega) (by omega) hi
  by_cases c6 : n < 61
  · exact chunk_get h6 n i (by omega) (by omega) hi
  exact chunk_get h7 n i (by omega) (by omega) hi
set_option maxRecDepth 100000 in
theorem ramp_0 : chunk rampB 0 24 = true := by decide +kernel
set_option maxRecDepth 100000 in
theorem ramp_1 : chunk rampB 24 9 = true := by decide +kernel
set_option maxRecDepth 100000 in
theorem ramp_2 : chunk rampB 33 7 = true := by decide +kernel
set_option maxRecDepth 100000 in
theorem ramp_3 : chunk rampB 40 6 = true := by decide +kernel
set_option maxRecDepth 100000 in
theorem ramp_4 : chunk rampB 46 6 = true := by decide +kernel
set_option maxRecDepth 100000 in
theorem ramp_5 : chunk rampB 52 5 = true := by decide +kernel
set_option maxRecDepth 100000 in
theorem ramp_6 : chunk rampB 57 4 = true := by decide +kernel
set_option maxRecDepth 100000 in
theorem ramp_7 : chunk rampB 61 4 = true := by decide +kernel
theorem ramp_all : AllB rampB := all_of ramp_0 ramp_1 ramp_2 ramp_3 ramp_4 ramp_5 ramp_6 ramp_7
set_option maxRecDepth 100000 in
theorem arch_0 : chunk archB 0 24 = true := by decide +kernel
set_option maxRecDepth 100000 in
theorem arch_1 : chunk archB 24 9 = true := by decide +kernel
set_option maxRecDepth 100000 in
theorem arch_2 : chunk archB 33 7 = true := by decide +kernel
set_option maxRecDepth 100000 in
theorem arch_3 : chunk archB 40 6 = true := by decide +kernel
set_option maxRecDepth 100000 in
theorem arch_4 : chunk archB 46 6 = true := by decide +kernel
set_option maxRecDepth 100000 in
theorem arch_5 : chunk archB 52 5 = true := by decide +kernel
set_option maxRecDepth 100000 in
theorem arch_6 : chunk archB 57 4 = true := by decide +kernel
set_option maxRecDepth 100000 in
theorem arch_7 : chunk archB 61 4 = true := by decide +kernel
theorem arch_all : AllB archB := all_of arch_0 arch_1 arch_2 arch_3 arch_4 arch_5 arch_6 arch_7
set_option maxRecDepth 100000 in
theorem near_0 : chunk nearB 0 24 = true := by decide +kernel
set_option maxRecDepth 100000 in
theorem near_1 : chunk nearB 24 9 = true := by decide +kernel
set_option maxRecDepth 100000 in
theorem near_2 : chunk nearB 33 7 = true := by decide +kernel
set_option maxRecDepth 100000 in
theorem near_3 : chunk nearB 40 6 = true := by decide +kernel
set_option maxRecDepth 100000 in
theorem near_4 : chunk nearB 46 6 = true := by decide +kernel
set_option maxRecDepth 100000 in
theorem near_5 : chunk nearB 52 5 = true := by decide +kernel
set_option maxRecDepth 100000 in
theorem near_6 : chunk nearB 57 4 = true := by decide +kernel
set_option maxRecDepth 100000 in
theorem near_7 : chunk nearB 61 4 = true := by decide +kernel
theorem near_all : AllB nearB := all_of near_0 near_1 near_2 near_3 near_4 near_5 near_6 near_7
theorem all_pairs {p : Nat → Nat → Bool} (h : AllB p) (n i : Nat) (hn : n ≤ 64) (hi : i < n) : p n i = true := h n i hn hi
theorem click_all : unitB 1065353216 = true ∧ unitB 0 = true := by decide +kernel

theorem shape_unit (kind n i : Nat) (hk : kind ≤ 2) (hn : n ≤ 64) (hi : i < n) : unitB (shapeAt kind n i) = true := by
  unfold shapeAt
  split
  · unfold clickAt; split
    · exact click_all.1
    · exact click_all.2
  · split
    · have h := all_pairs ramp_all n i hn hi
      rw [rampB_eq] at h
      simp only [Bool.and_eq_true] at h
      exact h.1.1.2
    · have h := all_pairs arch_all n i hn hi
      rw [archB_eq] at h
      simp only [Bool.and_eq_true] at h
      exact h.2

end Go.Proofs.YtiakcibeobbonaaGreat

/- What a player does with a score: plain (FnShifted, FnCut).
   Conditions: those that each statement names. -/
namespace Go.Proofs.YtiakcibeobbonaaGreat
set_option linter.unusedSimpArgs false
set_option linter.unusedVariables false
open Go Go.RowKit

/-- a voice that plays: its body, its modes, their states, what is to come of its input -/
structure Prt where
  b : Int
  ms : List M4
  st : List (Nat × Nat)
  xs : List Nat
def Prt.damp (t : Nat) (p : Prt) : Prt := { p with ms := p.ms.map (dampM t) }
def Prt.next (p : Prt) : Prt := { p with st := stepAll p.ms p.st (inputOf p.xs 0), xs := p.xs.drop 1 }
def Prt.out (p : Prt) : Nat := outS (stepAll p.ms p.st (inputOf p.xs 0))
def strikeP (bs : List (List M4)) (e : Ev6) : Prt :=
  ⟨e.b, bs.getD e.b.toNat [], List.replicate (bs.getD e.b.toNat []).length (0, 0), (shapeL e.s.toNat e.m.toNat).map fun x => opB .mul .f32 x e.f⟩
/-- an event happens -/
def takeE (bs : List (List M4)) (V : Nat) (ps : List Prt) (e : Ev6) : List Prt :=
  if e.k = 1 then (if ps.length = V then ps.drop 1 else ps) ++ [strikeP bs e]
  else if e.k = 2 then ps.map fun p => if p.b = e.b then p.damp e.f else p
  else if e.k = 3 then ps.filter fun p => p.b != e.b
  else ps
def sumP (ps : List Prt) : Nat := ps.foldl (fun x p => opB .add .f32 x p.out) 0
section
variable (bs : List (List M4)) (V : Nat) (es : List Ev6)
/-- the events of a sample -/
def evAt (i : Nat) : List Ev6 := es.filter fun e => e.t == (i : Int)
/-- the voices ahead of a sample's events -/
def preP : Nat → List Prt
  | 0 => []
  | i + 1 => (((evAt es i).foldl (takeE bs V) (preP i)).map Prt.next)
/-- the voices behind them -/
def tkP (i : Nat) : List Prt := (evAt es i).foldl (takeE bs V) (preP bs V es i)
/-- the sum of the outputs at a sample -/
def sumAt (i : Nat) : Nat := sumP (tkP bs V es i)
theorem preP_succ (i : Nat) : preP bs V es (i + 1) = (tkP bs V es i).map Prt.next := rfl
end

/-! ### a score that is shifted -/
def Ev6.late (by' : Nat) (e : Ev6) : Ev6 := { e with t := e.t + (by' : Int) }
theorem evAt_early (es : List Ev6) (by' i : Nat) (h0 : ∀ e ∈ es, 0 ≤ e.t) (hi : i < by') : evAt (es.map (Ev6.late by')) i = [] := by
  unfold evAt
  rw [List.filter_eq_nil_iff]
  intro e he
  obtain ⟨x, hx, rfl⟩ := List.mem_map.1 he
  have := h0 x hx
  simp [Ev6.late]
  omega
theorem evAt_late (es : List Ev6) (by' i : Nat) : evAt (es.map (Ev6.late by')) (by' + i) = (evAt es i).map (Ev6.late by') := by
  unfold evAt
  rw [List.filter_map]
  congr 1
  apply List.filter_congr
  intro e _
  have hiff : (e.t + (by' : Int) = ((by' + i : Nat) : Int)) ↔ (e.t = (i : Int)) := by omega
  show ((e.t + (by' : Int)) == ((by' + i : Nat) : Int)) = (e.t == (i : Int))
  rw [Bool.eq_iff_iff, beq_iff_eq, beq_iff_eq]
  exact hiff
theorem takeE_late (bs : List (List M4)) (V by' : Nat) (ps : List Prt) (e : Ev6) : takeE bs V ps (e.late by') = takeE bs V ps e := rfl
theorem foldl_late (bs : List (List M4)) (V by' : Nat) : ∀ (l : List Ev6) (ps : List Prt), (l.map (Ev6.late by')).foldl (takeE bs V) ps = l.foldl (takeE bs V) ps
  | [], _ => rfl
  | e :: l, ps => by simp only [List.map_cons, List.foldl_cons, takeE_late]; exact foldl_late bs V by' l _
theorem preP_early (bs : List (List M4)) (V : Nat) (es : List Ev6) (by' : Nat) (h0 : ∀ e ∈ es, 0 ≤ e.t) : ∀ i, i ≤ by' → preP bs V (es.map (Ev6.late by')) i = []
  | 0, _ => rfl
  | i + 1, h => by
    rw [preP_succ, tkP, evAt_early es by' i h0 (by omega), preP_early bs V es by' h0 i (by omega)]
    rfl
theorem preP_late (bs : List (List M4)) (V : Nat) (es : List Ev6) (by' : Nat) (h0 : ∀ e ∈ es, 0 ≤ e.t) : ∀ i, preP bs V (es.map (Ev6.late by')) (by' + i) = preP bs V es i
  | 0 => preP_early bs V es by' h0 by' (Nat.le_refl _)
  | i + 1 => by
    rw [← Nat.add_assoc, preP_succ, preP_succ, tkP, tkP, evAt_late, preP_late bs V es by' h0 i, foldl_late]
theorem sumAt_early (bs : List (List M4)) (V : Nat) (es : List Ev6) (by' i : Nat) (h0 : ∀ e ∈ es, 0 ≤ e.t) (hi : i < by') : sumAt bs V (es.map (Ev6.late by')) i = 0 := by
  unfold sumAt tkP
  rw [evAt_early es by' i h0 hi, preP_early bs V es by' h0 i (by omega)]
  rfl
theorem sumAt_late (bs : List (List M4)) (V : Nat) (es : List Ev6) (by' i : Nat) (h0 : ∀ e ∈ es, 0 ≤ e.t) : sumAt bs V (es.map (Ev6.late by')) (by' + i) = sumAt bs V es i := by
  unfold sumAt tkP
  rw [evAt_late, preP_late bs V es by' h0, foldl_late]
end Go.Proofs.YtiakcibeobbonaaGreat

/- Plain facts on any numbers of single precision, NaN and infinities among them: widened, narrowed again, ordered; and on what sameFloat answers. No program stands in it.
   Conditions: those that each statement names. -/
namespace Go.Proofs.YtiakcibeobbonaaGreat
set_option linter.unusedSimpArgs false
set_option linter.unusedVariables false
open Go

def nan32 (b : Nat) : Bool := (FloatKind.f32.decode b).isNaN
def nan64 (b : Nat) : Bool := (FloatKind.f64.decode b).isNaN

/-- are two numbers the same: NaN and NaN, zeros of one sign, or equal ones -/
def sameF (a b : Nat) : Bool :=
  if nan64 a || nan64 b then nan64 a && nan64 b
  else if (FloatKind.f64.format.order a 0 == some .eq) && (FloatKind.f64.format.order b 0 == some .eq) then
    (FloatKind.f64.format.order ((floatBits .quo .f64 4607182418800017408 a).getD 0) 0 == some .gt) == (FloatKind.f64.format.order ((floatBits .quo .f64 4607182418800017408 b).getD 0) 0 == some .gt)
  else FloatKind.f64.format.order a b == some .eq
theorem sameF_self (a : Nat) : sameF a a = true := by
  unfold sameF
  cases ha : nan64 a
  · have o1 := order_self .f64 a
    rw [show (FloatKind.f64.decode a).isNaN = false from ha] at o1
    simp only [Bool.or_self, Bool.false_eq_true, if_false, beq_self_eq_true]
    split
    · rfl
    · simpa using o1
  · simp
/-- the same but for the bits of NaN -/
theorem sameF_fab {a b : Nat} (h : fab .f64 a = fab .f64 b) : sameF a b = true := by
  cases ha : nan64 a
  · cases hb : nan64 b
    · rw [fab_some ha, fab_some hb] at h
      cases h
      exact sameF_self a
    · rw [fab_some ha, fab_none hb] at h; cases h
  · cases hb : nan64 b
    · rw [fab_none ha, fab_some hb] at h; cases h
    · unfold sameF; rw [ha, hb]; rfl

theorem wid_inf {b : Nat} {s : Bool} (h : Ieee.single.read b = .infinity s) : Ieee.double.read (wid b) = .infinity s := by
  unfold wid FloatKind.encode FloatKind.decode
  rw [show FloatKind.f32.format = Ieee.single from rfl, h]
  show Ieee.double.read (Ieee.double.word s Ieee.double.infRung) = _
  rw [Flo.read_word_inf, if_neg (by decide)]
theorem fcv_wide {b : Nat} (h : nan32 b = false) (w : World) : fcv w .f32 b .f64 = wid b := by
  cases hd : Ieee.single.read b with
  | number s m p => exact fcv_up ⟨s, m, p, hd⟩ w
  | infinity s =>
    have hd' : FloatKind.f32.decode b = .infinity s := hd
    unfold fcv wid
    rw [if_neg (by decide), hd']
  | nan s f =>
    have hd' : FloatKind.f32.decode b = .nan s f := hd
    unfold nan32 at h; rw [hd'] at h; cases h
theorem fcd_wide {b : Nat} (h : nan32 b = false) : fcd .f32 b .f64 = 0 := by
  cases hd : Ieee.single.read b with
  | number s m p => exact fcd_up ⟨s, m, p, hd⟩
  | infinity s =>
    have hd' : FloatKind.f32.decode b = .infinity s := hd
    unfold fcd
    rw [if_neg (by decide), hd']
  | nan s f =>
    have hd' : FloatKind.f32.decode b = .nan s f := hd
    unfold nan32 at h; rw [hd'] at h; cases h
theorem nan_wide {b : Nat} (h : nan32 b = true) (w : World) : nan64 (fcv w .f32 b .f64) = true := by
  unfold nan32 at h
  cases hd : FloatKind.f32.decode b with
  | number s m p => rw [hd] at h; cases h
  | infinity s => rw [hd] at h; cases h
  | nan s f =>
    unfold fcv
    rw [if_neg (by decide), hd]
    exact nan_conv _ _ _
theorem wid_nan {b : Nat} (h : nan32 b = false) : nan64 (wid b) = false := by
  unfold nan64
  cases hd : Ieee.single.read b with
  | number s m p =>
    obtain ⟨m', p', h1, -⟩ := wid_read hd
    rw [show FloatKind.f64.decode (wid b) = _ from h1]; rfl
  | infinity s => rw [show FloatKind.f64.decode (wid b) = _ from wid_inf hd]; rfl
  | nan s f => unfold nan32 at h; rw [show FloatKind.f32.decode b = _ from hd] at h; cases h
/-- what a number of single precision is, widened: none for NaN -/
def wA (b : Nat) : Option Nat := if nan32 b then none else some (wid b)
theorem fab_wide (b : Nat) (w : World) : fab .f64 (fcv w .f32 b .f64) = wA b := by
  unfold wA
  cases h : nan32 b
  · rw [fcv_wide h w, fab_some (wid_nan h)]; rfl
  · rw [fab_none (nan_wide h w)]; rfl

/-! ### order -/
theorem order_wide {a b : Nat} (ha : nan32 a = false) (hb : nan32 b = false) : FloatKind.f64.format.order (wid a) (wid b) = FloatKind.f32.format.order a b := by
  show Ieee.double.order (wid a) (wid b) = Ieee.single.order a b
  cases h1 : Ieee.single.read a with
  | nan s f => unfold nan32 at ha; rw [show FloatKind.f32.decode a = _ from h1] at ha; cases ha
  | infinity s =>
    have k1 := wid_inf h1
    cases h2 : Ieee.single.read b with
    | nan s f => unfold nan32 at hb; rw [show FloatKind.f32.decode b = _ from h2] at hb; cases hb
    | infinity t => unfold Ieee.Format.order; rw [k1, wid_inf h2, h1, h2]; try rfl
    | number t n j =>
      obtain ⟨m', p', k2, -⟩ := wid_read h2
      unfold Ieee.Format.order; rw [k1, k2, h1, h2]; try rfl
  | number s m i =>
    obtain ⟨m', p', k1, e1⟩ := wid_read h1
    cases h2 : Ieee.single.read b with
    | nan s f => unfold nan32 at hb; rw [show FloatKind.f32.decode b = _ from h2] at hb; cases hb
    | infinity t => unfold Ieee.Format.order; rw [k1, wid_inf h2, h1, h2]; try rfl
    | number t n j =>
      have sa : Sm a := ⟨_, _, _, h1⟩
      have sb : Sm b := ⟨_, _, _, h2⟩
      have o := Flo.order_num Ieee.single a b sa sb
      have O := Flo.order_num Ieee.double (wid a) (wid b) (wid_num sa).1 (wid_num sb).1
      have va : Flo.V Ieee.double (wid a) = Flo.V Ieee.single a := (wid_num sa).2
      have vb : Flo.V Ieee.double (wid b) = Flo.V Ieee.single b := (wid_num sb).2
      rw [va, vb] at O
      have hs : ∃ r, Ieee.single.order a b = some r := by unfold Ieee.Format.order; rw [h1, h2]; exact ⟨_, rfl⟩
      obtain ⟨r, hr⟩ := hs
      rw [hr]
      cases r
      · exact O.1.2 (o.1.1 hr)
      · exact O.2.1.2 (o.2.1.1 hr)
      · exact O.2.2.2 (o.2.2.1 hr)

end Go.Proofs.YtiakcibeobbonaaGreat

/- Absolute values of single precision, by way of double precision: numbers of both precisions that stand for the same number, or infinity, that is not negative.
   Conditions: those that each statement names. -/
namespace Go.Proofs.YtiakcibeobbonaaGreat
set_option linter.unusedSimpArgs false
set_option linter.unusedVariables false
open Go Go.RowKit

namespace Flo
open Ieee
/-- A number that the format has is written as it is: also the greatest ones. -/
theorem write_exact_top (f : Format) (he : 2 ≤ f.exponentBits) (s : Bool) (m : Nat) (p : Int) (k : Nat) (e : Int) (hk : (m : Rat) * pw p = (k : Rat) * pw e) (hk1 : k < 2 ^ (f.fractionBits + 1)) (hp : f.leastPlace ≤ e) (hB : e ≤ f.leastPlace + ((2 ^ f.exponentBits : Nat) - 3)) :
    ∃ m' p', f.read (f.write (.number s m p)) = .number s m' p' ∧ (m' : Rat) * pw p' = (m : Rat) * pw p := by
  have hw : f.write (.number s m p) = f.nearest s m p := rfl
  rw [hw]
  by_cases h : m = 0
  · subst h
    have : f.nearest s 0 p = f.word s 0 := by unfold Format.nearest; simp
    rw [this, zero_read]
    exact ⟨_, _, rfl, by simp⟩
  · obtain ⟨n1, n2⟩ := kept_near f s m p
    have hk0 : k ≠ 0 := by
      intro hk0; subst hk0
      have := (size_pw m p h).1
      have := pw_pos (p + m.log2)
      simp at hk
      grind
    have hlast : lastOf f m p ≤ e := by
      have a1 := (size_pw m p h).1
      have a2 := (size_pw k e hk0).2
      rw [← hk] at a2
      have a3 := lt_of_pw_lt (a := p + m.log2) (b := e + k.log2 + 1) (by grind)
      have a4 : k.log2 < f.fractionBits + 1 := by
        rw [Nat.log2_lt hk0]; exact hk1
      unfold lastOf; omega
    have hex : (keptOf f s m p : Rat) * pw (lastOf f m p) = (m : Rat) * pw p := by
      obtain ⟨d, hd⟩ := Int.le.dest hlast
      rw [hk, ← hd, Int.add_comm, pw_add, pw_nat] at n1 n2
      rw [hk, ← hd, Int.add_comm, pw_add, pw_nat]
      have hp := pw_pos (lastOf f m p)
      have q1 : keptOf f s m p ≤ k * 2 ^ d := le_nat_of _ _ (lastOf f m p) (by push_cast; grind)
      have q2 : k * 2 ^ d ≤ keptOf f s m p := le_nat_of _ _ (lastOf f m p) (by push_cast; grind)
      have q3 : keptOf f s m p = k * 2 ^ d := by omega
      rw [q3]; push_cast; grind
    have hkl : keptOf f s m p < 2 ^ (f.fractionBits + 1) := by
      rcases Nat.lt_or_ge (keptOf f s m p) (2 ^ (f.fractionBits + 1)) with h1 | h1
      · exact h1
      · exfalso
        have h2 : ((2 ^ (f.fractionBits + 1) : Nat) : Rat) ≤ (keptOf f s m p : Rat) := by exact_mod_cast h1
        rw [← pw_nat] at h2
        have h3 := Rat.mul_le_mul_of_nonneg_right h2 (Rat.le_of_lt (pw_pos (lastOf f m p)))
        rw [← pw_add, hex] at h3
        have h4 := (size_pw m p h).2
        have h5 : pw (p + m.log2 + 1) ≤ pw (((f.fractionBits + 1 : Nat) : Int) + lastOf f m p) := pw_le (by unfold lastOf; omega)
        grind
    have hr : rungOf f s m p < f.infRung := by
      have h4 : 4 ≤ 2 ^ f.exponentBits := by
        have := Nat.pow_le_pow_right (n := 2) (by omega) he
        simpa using this
      unfold rungOf Format.infRung
      have hb1 : 2 ^ (f.fractionBits + 1) = 2 * f.binade := by rw [Nat.pow_succ, Nat.mul_comm]; rfl
      have h5 : (lastOf f m p - f.leastPlace).toNat ≤ 2 ^ f.exponentBits - 3 := by omega
      have h6 := Nat.mul_le_mul_right f.binade h5
      have h7 : (2 ^ f.exponentBits - 1) * f.binade = (2 ^ f.exponentBits - 3) * f.binade + 2 * f.binade := by rw [← Nat.add_mul]; congr 1; omega
      have := bin_pos f
      omega
    obtain ⟨m', p', h1, h2, h3, h4⟩ := read_nearest f s m p h hr
    exact ⟨m', p', h1, by rw [h2]; exact hex⟩
end Flo

/-- p (single) and b (double) stand for one number or infinity, neither with a sign -/
def Tw (p b : Nat) : Prop :=
  (∃ m i n j, Ieee.single.read p = .number false m i ∧ Ieee.double.read b = .number false n j ∧ (m : Rat) * Flo.pw i = (n : Rat) * Flo.pw j) ∨
  (Ieee.single.read p = .infinity false ∧ Ieee.double.read b = .infinity false)
theorem Tw.nan {p b : Nat} (h : Tw p b) : nan32 p = false ∧ nan64 b = false := by
  unfold nan32 nan64
  rcases h with ⟨m, i, n, j, h1, h2, -⟩ | ⟨h1, h2⟩
  · rw [show FloatKind.f32.decode p = _ from h1, show FloatKind.f64.decode b = _ from h2]; exact ⟨rfl, rfl⟩
  · rw [show FloatKind.f32.decode p = _ from h1, show FloatKind.f64.decode b = _ from h2]; exact ⟨rfl, rfl⟩
theorem tw_zero : Tw 0 0 := .inl ⟨0, -149, 0, -1074, by decide, by decide, by simp⟩

theorem order_val {f g : Ieee.Format} {a b c d : Nat} (ha : Flo.IsNum f a) (hb : Flo.IsNum f b) (hc : Flo.IsNum g c) (hd : Flo.IsNum g d) (h1 : Flo.V f a = Flo.V g c) (h2 : Flo.V f b = Flo.V g d) : f.order a b = g.order c d := by
  have o := Flo.order_num f a b ha hb
  have O := Flo.order_num g c d hc hd
  rw [← h1, ← h2] at O
  have hs : ∃ r, f.order a b = some r := by
    obtain ⟨s, m, i, ha⟩ := ha
    obtain ⟨t, n, j, hb⟩ := hb
    unfold Ieee.Format.order; rw [ha, hb]; exact ⟨_, rfl⟩
  obtain ⟨r, hr⟩ := hs
  rw [hr]
  cases r
  · exact (O.1.2 (o.1.1 hr)).symm
  · exact (O.2.1.2 (o.2.1.1 hr)).symm
  · exact (O.2.2.2 (o.2.2.1 hr)).symm

theorem Tw.order {p b q c : Nat} (h : Tw p b) (k : Tw q c) : Ieee.double.order b c = Ieee.single.order p q := by
  rcases h with ⟨m, i, n, j, h1, h2, h3⟩ | ⟨h1, h2⟩
  · rcases k with ⟨m', i', n', j', k1, k2, k3⟩ | ⟨k1, k2⟩
    · refine order_val ⟨_, _, _, h2⟩ ⟨_, _, _, k2⟩ ⟨_, _, _, h1⟩ ⟨_, _, _, k1⟩ ?_ ?_
      · rw [Flo.V_eq h1, Flo.V_eq h2]; unfold Flo.val; simp only [Bool.false_eq_true, if_false]; rw [h3]
      · rw [Flo.V_eq k1, Flo.V_eq k2]; unfold Flo.val; simp only [Bool.false_eq_true, if_false]; rw [k3]
    · unfold Ieee.Format.order; rw [h1, h2, k1, k2]; try rfl
  · rcases k with ⟨m', i', n', j', k1, k2, k3⟩ | ⟨k1, k2⟩
    · unfold Ieee.Format.order; rw [h1, h2, k1, k2]; try rfl
    · unfold Ieee.Format.order; rw [h1, h2, k1, k2]; try rfl

/-- against a widened number -/
theorem Tw.order_wid {p b g : Nat} (h : Tw p b) (hg : nan32 g = false) : Ieee.double.order b (wid g) = Ieee.single.order p g := by
  cases hd : Ieee.single.read g with
  | nan s f => unfold nan32 at hg; rw [show FloatKind.f32.decode g = _ from hd] at hg; cases hg
  | infinity s =>
    have k := wid_inf hd
    rcases h with ⟨m, i, n, j, h1, h2, h3⟩ | ⟨h1, h2⟩
    · unfold Ieee.Format.order; rw [h1, h2, hd, k]; rfl
    · unfold Ieee.Format.order; rw [h1, h2, hd, k]; try rfl
  | number s m' i' =>
    obtain ⟨n', j', k, k3⟩ := wid_read hd
    rcases h with ⟨m, i, n, j, h1, h2, h3⟩ | ⟨h1, h2⟩
    · refine order_val ⟨_, _, _, h2⟩ ⟨_, _, _, k⟩ ⟨_, _, _, h1⟩ ⟨_, _, _, hd⟩ ?_ ?_
      · rw [Flo.V_eq h1, Flo.V_eq h2]; unfold Flo.val; simp only [Bool.false_eq_true, if_false]; rw [h3]
      · rw [Flo.V_eq hd, Flo.V_eq k]; unfold Flo.val; rw [k3]
    · unfold Ieee.Format.order; rw [h1, h2, hd, k]; rfl

/-- two of single precision that stand for the same one are the same, widened -/
theorem Tw.same {p q b : Nat} (h : Tw p b) (k : Tw q b) (w1 w2 : World) : sameF (fcv w1 .f32 p .f64) (fcv w2 .f32 q .f64) = true := by
  rw [fcv_wide h.nan.1, fcv_wide k.nan.1]
  unfold sameF
  rw [wid_nan h.nan.1, wid_nan k.nan.1]
  simp only [Bool.or_self, Bool.false_eq_true, if_false]
  rw [show FloatKind.f64.format = Ieee.double from rfl]
  rcases h with ⟨m, i, n, j, h1, h2, h3⟩ | ⟨h1, h2⟩
  · rcases k with ⟨m', i', n', j', k1, k2, k3⟩ | ⟨k1, k2⟩
    · rw [h2] at k2; cases k2
      obtain ⟨a, c, e1, e2⟩ := wid_read h1
      obtain ⟨a', c', e3, e4⟩ := wid_read k1
      have ev : Flo.V Ieee.double (wid p) = Flo.V Ieee.double (wid q) := by rw [Flo.V_eq e1, Flo.V_eq e3]; unfold Flo.val; rw [e2, e4, h3, k3]
      have eq : Ieee.double.order (wid p) (wid q) = some .eq := (Flo.order_num Ieee.double (wid p) (wid q) ⟨_, _, _, e1⟩ ⟨_, _, _, e3⟩).2.1.2 ev
      have e0 : Ieee.double.order (wid p) 0 = Ieee.double.order (wid q) 0 := order_val ⟨_, _, _, e1⟩ zero_num.1 ⟨_, _, _, e3⟩ zero_num.1 ev rfl
      split
      · rename_i hz
        simp only [Bool.and_eq_true, beq_iff_eq] at hz
        have z1 := (Flo.order_num Ieee.double (wid p) 0 ⟨_, _, _, e1⟩ zero_num.1).2.1.1 hz.1
        have z2 := (Flo.order_num Ieee.double (wid q) 0 ⟨_, _, _, e3⟩ zero_num.1).2.1.1 hz.2
        rw [show Flo.V Ieee.double 0 = 0 from zero_num.2] at z1 z2
        have q1 : ∀ x a c, Ieee.double.read x = .number false a c → Flo.V Ieee.double x = 0 → (floatBits .quo .f64 4607182418800017408 x).getD 0 = (floatBits .quo .f64 4607182418800017408 0).getD 0 := by
          intro x a c hx hv
          have ha : a = 0 := by
            rw [Flo.V_eq hx] at hv
            unfold Flo.val at hv
            simp only [Bool.false_eq_true, if_false] at hv
            rcases Nat.eq_zero_or_pos a with h0 | h0
            · exact h0
            · exfalso
              have h1 : (0 : Rat) < a := by exact_mod_cast h0
              have := Rat.mul_pos h1 (Flo.pw_pos c)
              grind
          subst ha
          have hz : Ieee.double.read 0 = .number false 0 (-1074) := by decide
          show ((Ieee.double.div 4607182418800017408 x).getD 0) = ((Ieee.double.div 4607182418800017408 0).getD 0)
          unfold Ieee.Format.div
          rw [hx, hz]
          cases hr : Ieee.double.read 4607182418800017408 with
          | nan s f => rfl
          | infinity s => rfl
          | number s m i => by_cases hm : m = 0 <;> simp [Ieee.Datum.quotient, hm]
        rw [q1 _ _ _ e1 z1, q1 _ _ _ e3 z2]
        simp
      · rw [eq]; rfl
    · rw [h2] at k2; cases k2
  · rcases k with ⟨m', i', n', j', k1, k2, k3⟩ | ⟨k1, k2⟩
    · rw [h2] at k2; cases k2
    · have e1 := wid_inf h1
      have e2 := wid_inf k1
      have hz : Ieee.double.read 0 = .number false 0 (-1074) := by decide
      have o1 : Ieee.double.order (wid p) 0 = some .gt := by unfold Ieee.Format.order; rw [e1, hz]; rfl
      have o2 : Ieee.double.order (wid p) (wid q) = some .eq := by unfold Ieee.Format.order; rw [e1, e2]; rfl
      rw [o1, o2]; rfl

/-- narrowed again -/
theorem tw_narrow {x z : Nat} {s : Bool} {m : Nat} {i : Int} (hx : Ieee.single.read x = .number s m i) {n : Nat} {j : Int} (hz : Ieee.double.read z = .number false n j) (he : (n : Rat) * Flo.pw j = (m : Rat) * Flo.pw i) (w : World) :
    Tw (fcv w .f64 z .f32) z ∧ fcd .f64 z .f32 = 0 := by
  obtain ⟨h1, h2, h3⟩ := single_bound hx
  have e1 : Ieee.single.leastPlace = -149 := by decide
  have e2 : (2 ^ Ieee.single.exponentBits : Nat) = 256 := by decide
  obtain ⟨m', p', w1, w4⟩ := Flo.write_exact_top Ieee.single (by decide) false n j m i he (Nat.lt_of_lt_of_le h1 (by decide)) (by omega) (by omega)
  have hd : FloatKind.f64.decode z = .number false n j := hz
  have hr : FloatKind.f32.decode (FloatKind.f32.encode (.number false n j)) = .number false m' p' := w1
  constructor
  · unfold fcv
    rw [if_neg (by decide), hd]
    simp only
    rw [hr]
    simp only [Ieee.Datum.isInfinity, Bool.false_eq_true, if_false]
    exact .inl ⟨m', p', n, j, w1, hz, w4⟩
  · unfold fcd
    rw [if_neg (by decide), hd]
    simp only
    rw [hr]
    simp [Ieee.Datum.isInfinity]
theorem tw_narrow_inf {z : Nat} (hz : Ieee.double.read z = .infinity false) (w : World) : Tw (fcv w .f64 z .f32) z ∧ fcd .f64 z .f32 = 0 := by
  have hd : FloatKind.f64.decode z = .infinity false := hz
  constructor
  · unfold fcv
    rw [if_neg (by decide), hd]
    refine .inr ⟨?_, hz⟩
    show Ieee.single.read (Ieee.single.word false Ieee.single.infRung) = _
    rw [Flo.read_word_inf, if_neg (by decide)]
  · unfold fcd
    rw [if_neg (by decide), hd]


/-! ### absolute values -/
theorem labs_read {z : Nat} (hz : z < 2 ^ 64) {s : Bool} {n : Nat} {j : Int} (h : Ieee.double.read z = .number s n j) : ∃ n' j', Ieee.double.read (labs z) = .number false n' j' ∧ (n' : Rat) * Flo.pw j' = (n : Rat) * Flo.pw j := by
  have o := Flo.order_num Ieee.double z 0 ⟨_, _, _, h⟩ zero_num.1
  rw [show Flo.V Ieee.double 0 = 0 from zero_num.2, Flo.V_eq h] at o
  have hp := Flo.pw_pos j
  have hn : (0 : Rat) ≤ n := by exact_mod_cast Nat.zero_le n
  have hnp := Rat.mul_nonneg hn (Rat.le_of_lt hp)
  unfold labs
  rw [show FloatKind.f64.format = Ieee.double from rfl]
  by_cases h1 : Ieee.double.order z 0 = some .lt
  · rw [if_pos h1]
    have hlt := o.1.1 h1
    have hs : s = true := by
      cases s with
      | true => rfl
      | false => exfalso; unfold Flo.val at hlt; simp only [Bool.false_eq_true, if_false] at hlt; grind
    subst hs
    exact ⟨n, j, neg_read z hz true n j h, rfl⟩
  · rw [if_neg h1]
    by_cases h2 : Ieee.double.order z 0 = some .eq
    · rw [if_pos h2]
      have hv := o.2.1.1 h2
      refine ⟨0, -1074, by decide, ?_⟩
      unfold Flo.val at hv
      cases s <;> simp at hv ⊢ <;> grind
    · rw [if_neg h2]
      have hs : s = false := by
        cases s with
        | false => rfl
        | true =>
          exfalso
          unfold Flo.val at o
          simp only [if_true] at o
          rcases Classical.em (-1 * ((n : Rat) * Flo.pw j) < 0) with h3 | h3
          · exact h1 (o.1.2 h3)
          · exact h2 (o.2.1.2 (by grind))
      subst hs
      exact ⟨n, j, h, rfl⟩
theorem neg_inf {z : Nat} (hz : z < 2 ^ 64) (h : Ieee.double.read z = .infinity true) : Ieee.double.read (Op.negFloat .f64 z) = .infinity false := by
  have hsw : Ieee.double.signWeight = 9223372036854775808 := by decide
  have hir : Ieee.double.infRung = 9218868437227405312 := by decide
  have hz2 : z = 18442240474082181120 := by
    unfold Ieee.Format.read at h
    rw [hsw, hir] at h
    simp only at h
    split at h
    · cases h
    · split at h
      · cases h
      · split at h
        · rename_i g
          have hs : (z / 9223372036854775808 % 2 == 1) = true := by injection h
          simp only [beq_iff_eq] at hs
          omega
        · cases h
  rw [hz2]
  decide
theorem labs_inf {z : Nat} (hz : z < 2 ^ 64) {s : Bool} (h : Ieee.double.read z = .infinity s) : Ieee.double.read (labs z) = .infinity false := by
  have h0 : Ieee.double.read 0 = .number false 0 (-1074) := by decide
  unfold labs
  rw [show FloatKind.f64.format = Ieee.double from rfl]
  cases s with
  | true =>
    have h1 : Ieee.double.order z 0 = some .lt := by unfold Ieee.Format.order; rw [h, h0]; rfl
    rw [if_pos h1]
    exact neg_inf hz h
  | false =>
    have h1 : Ieee.double.order z 0 = some .gt := by unfold Ieee.Format.order; rw [h, h0]; rfl
    rw [h1]
    exact h

/-- THE ABSOLUTE VALUE IN SINGLE PRECISION, AND THAT OF THE MODEL: both stand for the same -/
theorem tw_abs {x : Nat} (hx : nan32 x = false) (w : World) : Tw (fcv w .f64 (wid x % signBit) .f32) (labs (wid x)) ∧ fcd .f64 (wid x % signBit) .f32 = 0 := by
  have hm := mod_read (wid x)
  cases hd : Ieee.single.read x with
  | nan s f => unfold nan32 at hx; rw [show FloatKind.f32.decode x = _ from hd] at hx; cases hx
  | infinity s =>
    have hw := wid_inf hd
    rw [show FloatKind.f64.decode (wid x) = _ from hw] at hm
    have k := tw_narrow_inf hm w
    refine ⟨?_, k.2⟩
    rcases k.1 with ⟨m, i, n, j, h1, h2, h3⟩ | ⟨h1, h2⟩
    · rw [show Ieee.double.read (wid x % signBit) = _ from hm] at h2; cases h2
    · exact .inr ⟨h1, labs_inf (wid_lt x) hw⟩
  | number s m i =>
    obtain ⟨n, j, hw, he⟩ := wid_read hd
    rw [show FloatKind.f64.decode (wid x) = _ from hw] at hm
    have k := tw_narrow hd hm he w
    refine ⟨?_, k.2⟩
    obtain ⟨n', j', l1, l2⟩ := labs_read (wid_lt x) hw
    rcases k.1 with ⟨m1, i1, n1, j1, h1, h2, h3⟩ | ⟨h1, h2⟩
    · rw [show Ieee.double.read (wid x % signBit) = _ from hm] at h2
      cases h2
      exact .inl ⟨m1, i1, n', j', h1, l1, by rw [h3, l2]⟩
    · rw [show Ieee.double.read (wid x % signBit) = _ from hm] at h2; cases h2

end Go.Proofs.YtiakcibeobbonaaGreat

/- Plain facts: of two numbers in a format's words that are equal, and have one sign, the words are the same; what is the same in single precision.
   Conditions: those that each statement names. No program stands in it. -/
namespace Go.Proofs.YtiakcibeobbonaaGreat
set_option linter.unusedSimpArgs false
set_option linter.unusedVariables false
open Go

namespace Flo
open Ieee
/-- the size of a rung, in units of the least place -/
def rungV (B r : Nat) : Nat := if r < B then r else (B + r % B) * 2 ^ (r / B - 1)
theorem rungV_succ (B r : Nat) (hB : 0 < B) : rungV B r < rungV B (r + 1) := by
  unfold rungV
  by_cases h : r + 1 < B
  · rw [if_pos h, if_pos (by omega)]; omega
  · rw [if_neg h]
    by_cases h1 : r < B
    · have e : r + 1 = B := by omega
      rw [if_pos h1, e, Nat.mod_self, Nat.div_self hB]
      simp; omega
    · rw [if_neg h1]
      have hd : 1 ≤ r / B := (Nat.le_div_iff_mul_le hB).2 (by omega)
      by_cases h2 : r % B + 1 < B
      · have e1 : (r + 1) % B = r % B + 1 := by rw [Nat.add_mod, Nat.mod_eq_of_lt (show 1 < B by omega)]; exact Nat.mod_eq_of_lt h2
        have e2 : (r + 1) / B = r / B := by
          have a := Nat.div_add_mod r B
          rw [show r + 1 = B * (r / B) + (r % B + 1) from by omega, Nat.mul_add_div hB, Nat.div_eq_of_lt h2]; omega
        rw [e1, e2]
        exact Nat.mul_lt_mul_of_pos_right (by omega) (Nat.two_pow_pos _)
      · have hlt := Nat.mod_lt r hB
        have e0 : r + 1 = B * (r / B + 1) := by have a := Nat.div_add_mod r B; rw [Nat.mul_add]; omega
        have e1 : (r + 1) % B = 0 := by rw [e0]; exact Nat.mul_mod_right _ _
        have e2 : (r + 1) / B = r / B + 1 := by rw [e0]; exact Nat.mul_div_cancel_left _ hB
        rw [e1, e2]
        have e3 : r / B + 1 - 1 = (r / B - 1) + 1 := by omega
        rw [e3, Nat.pow_succ, Nat.mul_comm (2 ^ _) 2, ← Nat.mul_assoc]
        exact Nat.mul_lt_mul_of_pos_right (by omega) (Nat.two_pow_pos _)
theorem rungV_lt (B : Nat) (hB : 0 < B) : ∀ (d r : Nat), rungV B r < rungV B (r + d + 1)
  | 0, r => rungV_succ B r hB
  | d + 1, r => Nat.lt_trans (rungV_lt B hB d r) (rungV_succ B (r + d + 1) hB)
theorem rungV_inj (B : Nat) (hB : 0 < B) {r s : Nat} (h : rungV B r = rungV B s) : r = s := by
  rcases Nat.lt_trichotomy r s with h1 | h1 | h1
  · have := rungV_lt B hB (s - r - 1) r
    rw [show r + (s - r - 1) + 1 = s by omega] at this; omega
  · exact h1
  · have := rungV_lt B hB (r - s - 1) s
    rw [show s + (r - s - 1) + 1 = r by omega] at this; omega

theorem read_rung (f : Format) {b : Nat} {s : Bool} {m : Nat} {p : Int} (h : f.read b = .number s m p) :
    (b / f.signWeight % 2 == 1) = s ∧ (m : Rat) * pw p = (rungV f.binade (b % f.signWeight) : Rat) * pw f.leastPlace := by
  unfold Format.read at h
  simp only at h
  split at h
  · rename_i h1
    injection h with h2 h3 h4
    subst h3; subst h4
    exact ⟨h2, by unfold rungV; rw [if_pos h1]⟩
  · rename_i h1
    split at h
    · rename_i h5
      injection h with h2 h3 h4
      subst h3; subst h4
      refine ⟨h2, ?_⟩
      unfold rungV
      rw [if_neg h1, Int.add_comm, pw_add, pw_nat]
      push_cast
      grind
    · split at h <;> cases h

/-- NUMBERS THAT ARE EQUAL AND HAVE ONE SIGN ARE ONE WORD -/
theorem read_inj (f : Format) {a b : Nat} {s : Bool} {m n : Nat} {p q : Int} (ha : f.read a = .number s m p) (hb : f.read b = .number s n q) (hal : a < 2 * f.signWeight) (hbl : b < 2 * f.signWeight) (h : (m : Rat) * pw p = (n : Rat) * pw q) : a = b := by
  obtain ⟨a1, a2⟩ := read_rung f ha
  obtain ⟨b1, b2⟩ := read_rung f hb
  rw [a2, b2] at h
  have hp := pw_pos f.leastPlace
  have h2 : (rungV f.binade (a % f.signWeight) : Rat) = (rungV f.binade (b % f.signWeight) : Rat) := by
    have h3 : ((rungV f.binade (a % f.signWeight) : Rat) - (rungV f.binade (b % f.signWeight) : Rat)) * pw f.leastPlace = 0 := by grind
    rcases Rat.mul_eq_zero.1 h3 with h4 | h4
    · grind
    · grind
  have h4 := rungV_inj f.binade (bin_pos f) (Rat.natCast_inj.1 h2)
  have hs := sw_pos f
  have e1 := Nat.div_add_mod a f.signWeight
  have e2 := Nat.div_add_mod b f.signWeight
  have l1 : a / f.signWeight < 2 := (Nat.div_lt_iff_lt_mul hs).2 hal
  have l2 : b / f.signWeight < 2 := (Nat.div_lt_iff_lt_mul hs).2 hbl
  have e3 : a / f.signWeight = b / f.signWeight := by
    rw [← b1] at a1
    have g1 : a / f.signWeight % 2 = a / f.signWeight := Nat.mod_eq_of_lt l1
    have g2 : b / f.signWeight % 2 = b / f.signWeight := Nat.mod_eq_of_lt l2
    rw [g1, g2] at a1
    have : (a / f.signWeight = 1) ↔ (b / f.signWeight = 1) := by rw [← beq_iff_eq (a := a / f.signWeight), a1, beq_iff_eq]
    omega
  rw [← e1, ← e2, e3, h4]
theorem inf_word (f : Format) {b : Nat} {s : Bool} (h : f.read b = .infinity s) (hb : b < 2 * f.signWeight) : b = f.word s f.infRung := by
  have hs := sw_pos f
  have e1 := Nat.div_add_mod b f.signWeight
  have l1 : b / f.signWeight < 2 := (Nat.div_lt_iff_lt_mul hs).2 hb
  have g1 : b / f.signWeight % 2 = b / f.signWeight := Nat.mod_eq_of_lt l1
  unfold Format.read at h
  simp only at h
  split at h
  · cases h
  · split at h
    · cases h
    · split at h
      · rename_i h1
        injection h with h2
        rw [g1] at h2
        unfold Format.word
        cases s with
        | true =>
          have : b / f.signWeight = 1 := by simpa using h2
          rw [this] at e1; simp; omega
        | false =>
          have : ¬ b / f.signWeight = 1 := by simpa using h2
          have : b / f.signWeight = 0 := by omega
          rw [this] at e1; simp; omega
      · cases h
theorem same_sign {s t : Bool} {m n : Nat} {p q : Int} (h : val s m p = val t n q) (h0 : val s m p ≠ 0) : s = t ∧ (m : Rat) * pw p = (n : Rat) * pw q := by
  have a := Rat.mul_nonneg (show (0 : Rat) ≤ m by exact_mod_cast Nat.zero_le m) (Rat.le_of_lt (pw_pos p))
  have b := Rat.mul_nonneg (show (0 : Rat) ≤ n by exact_mod_cast Nat.zero_le n) (Rat.le_of_lt (pw_pos q))
  unfold val at h h0
  cases s <;> cases t <;> simp at h h0 ⊢ <;> grind
theorem val_zero_mag {s : Bool} {m : Nat} {p : Int} (h : val s m p = 0) : (m : Rat) * pw p = 0 := by
  unfold val at h
  cases s <;> simp at h ⊢ <;> grind
end Flo

theorem one_over_zero {z : Nat} {s : Bool} {p : Int} (h : Ieee.double.read z = .number s 0 p) : (Ieee.double.order ((floatBits .quo .f64 4607182418800017408 z).getD 0) 0 == some .gt) = !s := by
  have h1 : Ieee.double.read 4607182418800017408 = .number false 4503599627370496 (-52) := by decide
  have h2 : floatBits .quo .f64 4607182418800017408 z = some (Ieee.double.word s Ieee.double.infRung) := by
    show Ieee.double.div 4607182418800017408 z = _
    unfold Ieee.Format.div
    rw [h1, h]
    cases s <;> simp [Ieee.Datum.quotient, Ieee.Format.write]
  rw [h2]
  cases s <;> decide

/-- two of single precision are the same: one word, or both NaN -/
def sameX (x y : Nat) : Bool := x == y || (nan32 x && nan32 y)
theorem sameX_wide {x y : Nat} (hx : nan32 x = false) (hy : nan32 y = false) (lx : x < 2 ^ 32) (ly : y < 2 ^ 32) : sameF (wid x) (wid y) = sameX x y := by
  have esw : 2 * Ieee.single.signWeight = 2 ^ 32 := by decide
  unfold sameX
  rw [hx, hy]
  simp only [Bool.and_self, Bool.or_false]
  by_cases hxy : x = y
  · subst hxy; rw [sameF_self]; simp
  · rw [show (x == y) = false from by simpa using hxy]
    unfold sameF
    rw [wid_nan hx, wid_nan hy]
    simp only [Bool.or_self, Bool.false_eq_true, if_false]
    rw [show FloatKind.f64.format = Ieee.double from rfl]
    cases h1 : Ieee.single.read x with
    | nan s f => unfold nan32 at hx; rw [show FloatKind.f32.decode x = _ from h1] at hx; cases hx
    | infinity s =>
      have k1 := wid_inf h1
      have hz : Ieee.double.read 0 = .number false 0 (-1074) := by decide
      have o1 : (Ieee.double.order (wid x) 0 == some .eq) = false := by unfold Ieee.Format.order; rw [k1, hz]; cases s <;> rfl
      rw [o1]
      simp only [Bool.false_and, Bool.false_eq_true, if_false]
      cases h2 : Ieee.single.read y with
      | nan s f => unfold nan32 at hy; rw [show FloatKind.f32.decode y = _ from h2] at hy; cases hy
      | infinity t =>
        have hst : s ≠ t := by
          intro e; subst e
          exact hxy ((Flo.inf_word _ h1 (by omega)).trans (Flo.inf_word _ h2 (by omega)).symm)
        unfold Ieee.Format.order; rw [k1, wid_inf h2]
        cases s <;> cases t <;> first | (exfalso; exact hst rfl) | rfl
      | number t n j =>
        obtain ⟨m', p', k2, -⟩ := wid_read h2
        unfold Ieee.Format.order; rw [k1, k2]; cases s <;> rfl
    | number s m i =>
      obtain ⟨m', i', k1, e1⟩ := wid_read h1
      cases h2 : Ieee.single.read y with
      | nan s f => unfold nan32 at hy; rw [show FloatKind.f32.decode y = _ from h2] at hy; cases hy
      | infinity t =>
        have k2 := wid_inf h2
        have hz : Ieee.double.read 0 = .number false 0 (-1074) := by decide
        have o1 : (Ieee.double.order (wid y) 0 == some .eq) = false := by unfold Ieee.Format.order; rw [k2, hz]; cases t <;> rfl
        rw [o1]
        simp only [Bool.and_false, Bool.false_eq_true, if_false]
        unfold Ieee.Format.order; rw [k1, k2]; cases t <;> rfl
      | number t n j =>
        obtain ⟨n', j', k2, e2⟩ := wid_read h2
        have ox := Flo.order_num Ieee.double (wid x) 0 ⟨_, _, _, k1⟩ zero_num.1
        have oy := Flo.order_num Ieee.double (wid y) 0 ⟨_, _, _, k2⟩ zero_num.1
        have o := Flo.order_num Ieee.double (wid x) (wid y) ⟨_, _, _, k1⟩ ⟨_, _, _, k2⟩
        rw [show Flo.V Ieee.double 0 = 0 from zero_num.2, Flo.V_eq k1] at ox
        rw [show Flo.V Ieee.double 0 = 0 from zero_num.2, Flo.V_eq k2] at oy
        rw [Flo.V_eq k1, Flo.V_eq k2] at o
        have hinj : s = t → (m' : Rat) * Flo.pw i' = (n' : Rat) * Flo.pw j' → False := by
          intro es ev
          subst es
          exact hxy (Flo.read_inj _ h1 h2 (by omega) (by omega) (by rw [← e1, ← e2]; exact ev))
        split
        · rename_i hz
          simp only [Bool.and_eq_true, beq_iff_eq] at hz
          have z1 := Flo.val_zero_mag (ox.2.1.1 hz.1)
          have z2 := Flo.val_zero_mag (oy.2.1.1 hz.2)
          have m0 : m' = 0 := by
            rcases Rat.mul_eq_zero.1 z1 with h | h
            · exact_mod_cast h
            · have := Flo.pw_pos i'; grind
          have n0 : n' = 0 := by
            rcases Rat.mul_eq_zero.1 z2 with h | h
            · exact_mod_cast h
            · have := Flo.pw_pos j'; grind
          subst m0; subst n0
          rw [one_over_zero k1, one_over_zero k2]
          cases s <;> cases t <;> first | rfl | (exfalso; exact hinj rfl (by rw [z1, z2]))
        · rename_i hz
          cases ho : (Ieee.double.order (wid x) (wid y) == some .eq) with
          | false => rfl
          | true =>
            exfalso
            have ev := o.2.1.1 (by simpa using ho)
            by_cases h0 : Flo.val s m' i' = 0
            · apply hz
              rw [ox.2.1.2 h0, oy.2.1.2 (by rw [← ev]; exact h0)]; rfl
            · obtain ⟨q1, q2⟩ := Flo.same_sign ev h0
              exact hinj q1 q2
theorem sameX_any {x y : Nat} (lx : x < 2 ^ 32) (ly : y < 2 ^ 32) (w1 w2 : World) : sameF (fcv w1 .f32 x .f64) (fcv w2 .f32 y .f64) = sameX x y := by
  cases hx : nan32 x with
  | true =>
    have h1 := nan_wide hx w1
    cases hy : nan32 y with
    | true =>
      have h2 := nan_wide hy w2
      unfold sameF sameX; rw [h1, h2, hx, hy]; simp
    | false =>
      have h2 := wid_nan hy
      rw [fcv_wide hy]
      unfold sameF sameX; rw [h1, h2, hx, hy]
      have : x ≠ y := by intro e; subst e; rw [hx] at hy; cases hy
      simp [this]
  | false =>
    cases hy : nan32 y with
    | true =>
      have h1 := wid_nan hx
      have h2 := nan_wide hy w2
      rw [fcv_wide hx]
      unfold sameF sameX; rw [h1, h2, hx, hy]
      have : x ≠ y := by intro e; subst e; rw [hx] at hy; cases hy
      simp [this]
    | false => rw [fcv_wide hx, fcv_wide hy, sameX_wide hx hy lx ly]
theorem sameX_self (x : Nat) : sameX x x = true := by unfold sameX; simp

end Go.Proofs.YtiakcibeobbonaaGreat

/- Plain facts: a number of moderate size, divided by its size, has a size near 1, and multiplied by its size it is near itself.
   Conditions: those that each statement names. No program stands in it. -/
namespace Go.Proofs.YtiakcibeobbonaaGreat
set_option linter.unusedSimpArgs false
set_option linter.unusedVariables false
open Go

/-- the law's own test, where what is left is at most 340 units of 'u S' -/
theorem small_of (a b p q k d1 d2 s : Nat) (w1 w2 w3 w4 : World) (h1 : Moderate a b) (i1 : floatBits .sub .f64 p a = some d1) (j1 : floatBits .sub .f64 q b = some d2) (r1 : floatBits .add .f64 (labs d1) (labs d2) = some s) (r2 : Flo.Nm s)
    (hhigh : Flo.W s ≤ 340 * (Flo.u * (Flo.W (labs a) + Flo.W (labs b)))) (hk : Flo.Nm k) (hk44 : Flo.W k = Flo.pw (-((44 : Nat) : Int))) :
    (FloatKind.f64.format.order (fres w3 .add .f64 (labs (fres w1 .sub .f64 p a)) (labs (fres w2 .sub .f64 q b))) (fres w4 .mul .f64 (szd a b) k) == some .lt ||
      FloatKind.f64.format.order (fres w3 .add .f64 (labs (fres w1 .sub .f64 p a)) (labs (fres w2 .sub .f64 q b))) (fres w4 .mul .f64 (szd a b) k) == some .eq) = true := by
  obtain ⟨ax, bx, fa, fb, s1, s2, nla, nlb⟩ := h1
  have na := Nm_of_fin fa
  have nb := Nm_of_fin fb
  have u0 := Flo.u_pos
  have u1 := Flo.u_le
  have p201 := Flo.pw_pos (-201)
  generalize hS : Flo.W (labs a) + Flo.W (labs b) = S at *
  have hS0 : 0 ≤ S := by grind
  have huS0 := Rat.mul_nonneg (Rat.le_of_lt u0) hS0
  have huS : Flo.u * S ≤ S / 1048576 := by
    have := Rat.mul_le_mul_of_nonneg_right u1 hS0; grind
  have huuS : Flo.u * (Flo.u * S) ≤ (Flo.u * S) / 1048576 := by
    have := Rat.mul_le_mul_of_nonneg_right u1 huS0; grind
  have het : Flo.et ≤ Flo.u * (Flo.u * S) := by
    have k1 := Rat.mul_le_mul_of_nonneg_left s1 (Rat.le_of_lt u0)
    have k3 := Rat.mul_le_mul_of_nonneg_left k1 (Rat.le_of_lt u0)
    rw [show Flo.u = Flo.pw (-53) from rfl, ← Flo.pw_add, ← Flo.pw_add] at k3
    have k2 : Flo.pw (-1074) ≤ Flo.pw (-53 + (-53 + -201)) := Flo.pw_le (by omega)
    unfold Flo.et; rw [show Flo.u = Flo.pw (-53) from rfl]; grind
  have hbig : 32 * Flo.pw 201 < Flo.pw 1023 := by
    have e1 : Flo.pw 206 = 32 * Flo.pw 201 := by rw [show (206 : Int) = 5 + 201 from rfl, Flo.pw_add, show Flo.pw 5 = 32 from Flo.pw_nat 5]
    have e2 : Flo.pw 206 < Flo.pw 1023 := Flo.pw_lt (by omega)
    grind
  have et0 := Flo.et_pos
  -- the bound
  have hsz := szd_eq a b ax bx na nb
  obtain ⟨sz, o1, o2, o3⟩ := Flo.d_add (labs a) (labs b) nla nlb S ⟨by rw [hS]; grind, by rw [hS]; exact Rat.le_refl⟩ (by grind)
  rw [hsz] at o1
  simp only [Option.some.injEq] at o1
  rw [o1] at *
  rw [hS] at o3
  have e44 : Flo.W k = 512 * Flo.u := by
    rw [hk44, show (-((44 : Nat) : Int)) = 9 + -53 from rfl, Flo.pw_add, show Flo.pw 9 = 512 from Flo.pw_nat 9]; rfl
  have hkA : Flo.Ab (Flo.W k) (512 * Flo.u) := by rw [e44]; unfold Flo.Ab; grind
  have hszA : Flo.Ab (Flo.W sz) (2 * S) := ((o3.add (show Flo.Ab S S from ⟨by grind, by grind⟩)).eq (show Flo.W sz - S + S = Flo.W sz by grind)).mono (by grind)
  obtain ⟨k', t1, t2, t3⟩ := Flo.d_mul sz k o2 hk (2 * S * (512 * Flo.u)) (hszA.mul hkA) (by grind)
  have hlow : 500 * (Flo.u * S) ≤ Flo.W k' := by
    rw [e44] at t3
    have m1 : S - 2 * (Flo.u * S) ≤ Flo.W sz := by unfold Flo.Ab at o3; grind
    have m2 := Rat.mul_le_mul_of_nonneg_right m1 (show (0 : Rat) ≤ 512 * Flo.u by grind)
    unfold Flo.Ab at t3
    grind
  have fr1 : fres w1 .sub .f64 p a = d1 := by unfold fres; rw [i1]
  have fr2 : fres w2 .sub .f64 q b = d2 := by unfold fres; rw [j1]
  have fr3 : fres w3 .add .f64 (labs d1) (labs d2) = s := by unfold fres; rw [r1]
  have fr4 : fres w4 .mul .f64 sz k = k' := by unfold fres; rw [t1]
  rw [fr1, fr2, fr3, fr4, show FloatKind.f64.format = Ieee.double from rfl, Bool.or_eq_true, beq_iff_eq, beq_iff_eq]
  have o := Flo.order_num Ieee.double s k' r2 t2
  rw [o.1, o.2.1]
  show Flo.W s < Flo.W k' ∨ Flo.W s = Flo.W k'
  have : Flo.W s ≤ Flo.W k' := by grind
  grind


theorem labs_mod (x : Nat) (hx : x < 2 ^ 64) (h : Flo.Nm x) : x % signBit = labs x := by
  obtain ⟨s, m, p, hr⟩ := h
  have hm := mod_read x
  rw [show FloatKind.f64.decode x = _ from hr] at hm
  obtain ⟨n', j', l1, l2⟩ := labs_read hx hr
  have e : 2 * Ieee.double.signWeight = 2 ^ 64 := by decide
  have hl : labs x < 2 ^ 64 := by
    unfold labs
    split
    · unfold Op.negFloat
      exact Nat.xor_lt_two_pow hx (by decide)
    · split
      · decide
      · exact hx
  exact Flo.read_inj Ieee.double (show Ieee.double.read _ = _ from hm) l1 (by have := Nat.mod_le x signBit; omega) (by omega) l2.symm

/-- a number of moderate size by its size -/
theorem unit_quo (a b : Nat) (h : Moderate a b) : ∃ e f S, divD a b (szd a b) 0 = some (e, f) ∧ Flo.Nm e ∧ Flo.Nm f ∧ S = Flo.W (labs a) + Flo.W (labs b) ∧ S = ra (Flo.W a) + ra (Flo.W b) ∧ 0 < S ∧ S ≤ Flo.pw 201 ∧ Flo.et ≤ Flo.u * (Flo.u * S) ∧ Flo.Nm (szd a b) ∧
    Flo.Ab (Flo.W (szd a b) - S) (2 * (Flo.u * S)) ∧ Flo.Ab (Flo.W e * Flo.W (szd a b) - Flo.W a) (124 * (Flo.u * S)) ∧ Flo.Ab (Flo.W f * Flo.W (szd a b) - Flo.W b) (124 * (Flo.u * S)) ∧ Flo.Ab (Flo.W a) S ∧ Flo.Ab (Flo.W b) S := by
  obtain ⟨ax, bx, fa, fb, s1, s2, na', nb'⟩ := h
  have na := Nm_of_fin fa
  have nb := Nm_of_fin fb
  have hsz := szd_eq a b ax bx na nb
  have u0 := Flo.u_pos
  have u1 := Flo.u_le
  have et0 := Flo.et_pos
  have p201 := Flo.pw_pos (-201)
  have la := (labs_num a ax na).2
  have lb := (labs_num b bx nb).2
  have a0 := ra_nonneg (Flo.W a)
  have b0 := ra_nonneg (Flo.W b)
  have haS : Flo.Ab (Flo.W a) (Flo.W (labs a) + Flo.W (labs b)) := (ra_ab _).mono (by rw [la, lb]; grind)
  have hbS : Flo.Ab (Flo.W b) (Flo.W (labs a) + Flo.W (labs b)) := (ra_ab _).mono (by rw [la, lb]; grind)
  have hSe : Flo.W (labs a) + Flo.W (labs b) = ra (Flo.W a) + ra (Flo.W b) := by rw [la, lb]
  generalize hS : Flo.W (labs a) + Flo.W (labs b) = S at *
  have hS0 : 0 < S := by grind
  have huS0 := Rat.mul_nonneg (Rat.le_of_lt u0) (Rat.le_of_lt hS0)
  have huS : Flo.u * S ≤ S / 1048576 := by
    have := Rat.mul_le_mul_of_nonneg_right u1 (Rat.le_of_lt hS0); grind
  have huuS : Flo.u * (Flo.u * S) ≤ (Flo.u * S) / 1048576 := by
    have := Rat.mul_le_mul_of_nonneg_right u1 huS0; grind
  have het : Flo.et ≤ Flo.u * (Flo.u * S) := by
    have k1 := Rat.mul_le_mul_of_nonneg_left s1 (Rat.le_of_lt u0)
    have k3 := Rat.mul_le_mul_of_nonneg_left k1 (Rat.le_of_lt u0)
    rw [show Flo.u = Flo.pw (-53) from rfl, ← Flo.pw_add, ← Flo.pw_add] at k3
    have k2 : Flo.pw (-1074) ≤ Flo.pw (-53 + (-53 + -201)) := Flo.pw_le (by omega)
    unfold Flo.et; rw [show Flo.u = Flo.pw (-53) from rfl]; grind
  have het1 : Flo.et ≤ Flo.u / 2 := by
    have k2 : Flo.pw (-1074) ≤ Flo.pw (-54) := Flo.pw_le (by omega)
    have k3 : Flo.pw (-53) = 2 * Flo.pw (-54) := by rw [← Flo.pw_succ]; rfl
    unfold Flo.et; rw [show Flo.u = Flo.pw (-53) from rfl]; grind
  have hbig : 32 * Flo.pw 201 < Flo.pw 1022 := by
    have e1 : Flo.pw 206 = 32 * Flo.pw 201 := by rw [show (206 : Int) = 5 + 201 from rfl, Flo.pw_add, show Flo.pw 5 = 32 from Flo.pw_nat 5]
    have e2 : Flo.pw 206 < Flo.pw 1022 := Flo.pw_lt (by omega)
    grind
  have h32 : 32 < Flo.pw 1022 := by
    have e1 : Flo.pw 5 = 32 := Flo.pw_nat 5
    have e2 : Flo.pw 5 < Flo.pw 1022 := Flo.pw_lt (by omega)
    grind
  have h23 := Flo.pw_lt (a := 1022) (b := 1023) (by omega)
  obtain ⟨sz, o1, o2, o3⟩ := Flo.d_add (labs a) (labs b) na' nb' S ⟨by rw [hS]; grind, by rw [hS]; exact Rat.le_refl⟩ (by grind)
  rw [hsz] at o1
  simp only [Option.some.injEq] at o1
  rw [← o1, hS] at o3
  rw [← o1] at o2
  have o4 : Flo.Ab (Flo.W (szd a b) - S) (2 * (Flo.u * S)) := o3.mono (by grind)
  have hC : 0 < Flo.W (szd a b) := by unfold Flo.Ab at o4; grind
  have hCl : S / 2 ≤ Flo.W (szd a b) := by unfold Flo.Ab at o4; grind
  have hCh : Flo.W (szd a b) ≤ 2 * S := by unfold Flo.Ab at o4; grind
  have hT : S / Flo.W (szd a b) * Flo.W (szd a b) = S := by grind
  have hT2 : S / Flo.W (szd a b) ≤ 2 := by
    refine Rat.le_of_mul_le_mul_right (c := Flo.W (szd a b)) ?_ hC
    rw [hT]; grind
  have hT1 : 1 / 2 ≤ S / Flo.W (szd a b) := by
    refine Rat.le_of_mul_le_mul_right (c := Flo.W (szd a b)) ?_ hC
    rw [hT]; grind
  have z0 : Flo.W 0 = 0 := zero_num.2
  have hge : absGe (szd a b) 0 = true := (absGe_iff _ _ o2 zero_num.1).2 (by rw [z0]; have := ra_nonneg (Flo.W (szd a b)); unfold ra at *; grind)
  have kC := Rat.mul_le_mul_of_nonneg_left hCl (Rat.le_of_lt u0)
  have kT := Rat.mul_le_mul_of_nonneg_left hT1 (Rat.le_of_lt u0)
  obtain ⟨e, f, q1, q2, q3, q4, q5, q6, q7⟩ := Flo.quo_ge a b (szd a b) 0 na nb o2 zero_num.1 S (S / Flo.W (szd a b)) (Flo.W (szd a b)) (.inl rfl) hC (by grind) (by rw [z0]; unfold Flo.Ab; grind) haS hbS (by grind) hT (by grind) (by grind) (by grind) (by grind) hge
  rw [z0] at q6 q7
  refine ⟨e, f, S, divD_of_main a b _ 0 e f na nb o2 zero_num.1 q2 q3 ?_ q1, q2, q3, rfl, hSe, hS0, s2, het, o2, o4, q6.eq (by grind), q7.eq (by grind), haS, hbS⟩
  have := ra_nonneg (Flo.W 0)
  have : ra (Flo.W (szd a b)) = Flo.W (szd a b) := by unfold ra; rw [if_neg (by grind)]
  grind

/-- ITS SIZE IS NEAR 1 -/
theorem unit_size (a b e f : Nat) (h : Moderate a b) (hd : divD a b (szd a b) 0 = some (e, f)) (he : e < 2 ^ 64) (hf : f < 2 ^ 64) :
    ∃ d1 d2, floatBits .sub .f64 (szd e f) 4607182418800017408 = some d1 ∧ floatBits .sub .f64 4607182418800017408 (szd e f) = some d2 ∧ Flo.Nm d1 ∧ Flo.Nm d2 ∧ Flo.W d1 ≤ 300 * Flo.u ∧ Flo.W d2 ≤ 300 * Flo.u ∧ Flo.Nm e ∧ Flo.Nm f := by
  obtain ⟨e', f', S, hd', ne, nf, -, hSe, hS0, s2, het, nz, g0, g1, g2, haS, hbS⟩ := unit_quo a b h
  rw [hd] at hd'
  simp only [Option.some.injEq, Prod.mk.injEq] at hd'
  obtain ⟨rfl, rfl⟩ := hd'
  generalize Flo.W (szd a b) = C at *
  have u0 := Flo.u_pos
  have u1 := Flo.u_le
  have et0 := Flo.et_pos
  have huS0 := Rat.mul_nonneg (Rat.le_of_lt u0) (Rat.le_of_lt hS0)
  have huS : Flo.u * S ≤ S / 1048576 := by
    have := Rat.mul_le_mul_of_nonneg_right u1 (Rat.le_of_lt hS0); grind
  have huu : Flo.u * Flo.u ≤ Flo.u / 1048576 := by
    have := Rat.mul_le_mul_of_nonneg_right u1 (Rat.le_of_lt u0); grind
  have hC0 : 0 < C := by unfold Flo.Ab at g0; grind
  have hetu : Flo.et ≤ Flo.u * Flo.u := by
    have k2 : Flo.pw (-1074) ≤ Flo.pw (-53 + -53) := Flo.pw_le (by omega)
    rw [Flo.pw_add] at k2
    unfold Flo.et; rw [show Flo.u = Flo.pw (-53) from rfl]; grind
  have le := labs_num e he ne
  have lf := labs_num f hf nf
  have e0 := ra_nonneg (Flo.W e)
  have f0 := ra_nonneg (Flo.W f)
  have ram : ∀ q, ra q * C = ra (q * C) := by
    intro q
    unfold ra
    by_cases hq : q < 0
    · rw [if_pos hq, if_pos (by have := Rat.mul_pos (show 0 < -q by grind) hC0; grind)]; grind
    · rw [if_neg hq, if_neg (by have := Rat.mul_nonneg (show 0 ≤ q by grind) (Rat.le_of_lt hC0); grind)]
  have rad : ∀ x y B, Flo.Ab (x - y) B → Flo.Ab (ra x - ra y) B := by
    intro x y B hxy
    unfold Flo.Ab ra at *
    split <;> split <;> grind
  have k1 := rad _ _ _ g1
  have k2 := rad _ _ _ g2
  rw [← ram] at k1 k2
  have k3 : Flo.Ab ((ra (Flo.W e) + ra (Flo.W f) - 1) * C) (252 * Flo.u * C) := by
    have hb : 250 * (Flo.u * S) ≤ 252 * Flo.u * C := by
      unfold Flo.Ab at g0
      have := Rat.mul_le_mul_of_nonneg_left (show S - 2 * (Flo.u * S) ≤ C by grind) (show 0 ≤ 252 * Flo.u by grind)
      have k := Rat.mul_le_mul_of_nonneg_left huS (show 0 ≤ 504 * Flo.u by grind)
      grind
    exact ((((k1.add k2).add g0.neg).eq (by grind)).mono (by grind))
  have k4 := k3.div hC0 (Rat.le_refl (a := C))
  generalize hZ : ra (Flo.W e) + ra (Flo.W f) = Z at *
  have b1023 : 4 < Flo.pw 1023 := by
    have e1 : Flo.pw 2 = 4 := Flo.pw_nat 2
    have e2 : Flo.pw 2 < Flo.pw 1023 := Flo.pw_lt (by omega)
    grind
  have hZ2 : Flo.Ab Z 2 := by unfold Flo.Ab at *; grind
  obtain ⟨z, z1, z2, z3⟩ := Flo.d_add (labs e) (labs f) le.1 lf.1 2 (hZ2.eq (by rw [le.2, lf.2, hZ])) (by grind)
  have ez := szd_eq e f he hf ne nf
  rw [z1] at ez
  simp only [Option.some.injEq] at ez
  rw [le.2, lf.2, hZ] at z3
  rw [← ez]
  have o1 : Flo.W 4607182418800017408 = 1 := by have := one_num.2; rw [this]; exact Flo.pw_zero
  have z4 : Flo.Ab (Flo.W z - 1) (255 * Flo.u) := (((z3.add k4).eq (show Flo.W z - Z + (Z - 1) = Flo.W z - 1 by grind)).mono (by grind))
  obtain ⟨d1, a1, a2, a3⟩ := Flo.d_sub z 4607182418800017408 z2 one_num.1 (255 * Flo.u) (z4.eq (by rw [o1])) (by grind)
  obtain ⟨d2, c1, c2, c3⟩ := Flo.d_sub 4607182418800017408 z one_num.1 z2 (255 * Flo.u) (z4.neg.eq (by rw [o1]; grind)) (by grind)
  rw [o1] at a3 c3
  refine ⟨d1, d2, a1, c1, a2, c2, ?_, ?_, ne, nf⟩
  · unfold Flo.Ab at *; grind
  · unfold Flo.Ab at *; grind

/-- MULTIPLIED BY THE SIZE IT IS NEAR THE NUMBER -/
theorem unit_back (a b e f : Nat) (h : Moderate a b) (hd : divD a b (szd a b) 0 = some (e, f)) :
    ∃ p q d1 d2 s, floatBits .mul .f64 e (szd a b) = some p ∧ floatBits .mul .f64 f (szd a b) = some q ∧ floatBits .sub .f64 p a = some d1 ∧ floatBits .sub .f64 q b = some d2 ∧ floatBits .add .f64 (labs d1) (labs d2) = some s ∧ Flo.Nm s ∧
      Flo.W s ≤ 340 * (Flo.u * (Flo.W (labs a) + Flo.W (labs b))) := by
  obtain ⟨e', f', S, hd', ne, nf, hSl, hSe, hS0, s2, het, nz, g0, g1, g2, haS, hbS⟩ := unit_quo a b h
  rw [hd] at hd'
  simp only [Option.some.injEq, Prod.mk.injEq] at hd'
  obtain ⟨rfl, rfl⟩ := hd'
  obtain ⟨ax, bx, fa, fb, s1, -, nla, nlb⟩ := h
  have na := Nm_of_fin fa
  have nb := Nm_of_fin fb
  have u0 := Flo.u_pos
  have u1 := Flo.u_le
  have et0 := Flo.et_pos
  have huS0 := Rat.mul_nonneg (Rat.le_of_lt u0) (Rat.le_of_lt hS0)
  have huS : Flo.u * S ≤ S / 1048576 := by
    have := Rat.mul_le_mul_of_nonneg_right u1 (Rat.le_of_lt hS0); grind
  have huuS : Flo.u * (Flo.u * S) ≤ (Flo.u * S) / 1048576 := by
    have := Rat.mul_le_mul_of_nonneg_right u1 huS0; grind
  have hbig : 32 * Flo.pw 201 < Flo.pw 1023 := by
    have e1 : Flo.pw 206 = 32 * Flo.pw 201 := by rw [show (206 : Int) = 5 + 201 from rfl, Flo.pw_add, show Flo.pw 5 = 32 from Flo.pw_nat 5]
    have e2 : Flo.pw 206 < Flo.pw 1023 := Flo.pw_lt (by omega)
    grind
  have m1 : Flo.Ab (Flo.W e * Flo.W (szd a b)) (2 * S) := ((g1.add haS).eq (show _ = Flo.W e * Flo.W (szd a b) by grind)).mono (by grind)
  have m2 : Flo.Ab (Flo.W f * Flo.W (szd a b)) (2 * S) := ((g2.add hbS).eq (show _ = Flo.W f * Flo.W (szd a b) by grind)).mono (by grind)
  obtain ⟨p, p1, p2, p3⟩ := Flo.d_mul e (szd a b) ne nz (2 * S) m1 (by grind)
  obtain ⟨q, q1, q2, q3⟩ := Flo.d_mul f (szd a b) nf nz (2 * S) m2 (by grind)
  have p64 : p < 2 ^ 64 := by have := floatBits_wf p1; simpa [Lit.wf] using this
  have q64 : q < 2 ^ 64 := by have := floatBits_wf q1; simpa [Lit.wf] using this
  have P : Flo.Ab (Flo.W p - Flo.W a) (127 * (Flo.u * S)) := ((p3.add g1).eq (by grind)).mono (by grind)
  have Q : Flo.Ab (Flo.W q - Flo.W b) (127 * (Flo.u * S)) := ((q3.add g2).eq (by grind)).mono (by grind)
  obtain ⟨d1, i1, i2, i3, i4, i5, i6⟩ := rest_ok p a p2 na p64 S 127 (by grind) (by grind) P s2 het (Rat.le_of_lt hS0)
  obtain ⟨d2, j1, j2, j3, j4, j5, j6⟩ := rest_ok q b q2 nb q64 S 127 (by grind) (by grind) Q s2 het (Rat.le_of_lt hS0)
  obtain ⟨s, r1, r2, r3⟩ := Flo.d_add (labs d1) (labs d2) i4 j4 (256 * (Flo.u * S)) ⟨by grind, by grind⟩ (by grind)
  refine ⟨p, q, d1, d2, s, p1, q1, i1, j1, r1, r2, ?_⟩
  rw [← hSl]
  unfold Flo.Ab at r3
  grind

theorem fA_lt {op : BinOp} {a b : Option Nat} {e : Nat} (h : fA op .f64 a b = some e) : e < 2 ^ 64 := by
  cases a with
  | none => cases h
  | some a =>
    cases b with
    | none => cases h
    | some b =>
      have h' : floatBits op .f64 a b = some e := h
      have := floatBits_wf h'
      simpa [Lit.wf] using this
theorem divD_lt {a b c d e f : Nat} (h : divD a b c d = some (e, f)) : e < 2 ^ 64 ∧ f < 2 ^ 64 := by
  unfold divD at h
  split at h
  · split at h
    · rename_i e' f' hq
      split at h
      · simp only [Option.some.injEq, Prod.mk.injEq] at h
        obtain ⟨rfl, rfl⟩ := h
        unfold qA at hq
        split at hq
        · simp only [Prod.mk.injEq] at hq
          exact ⟨fA_lt hq.1, fA_lt hq.2⟩
        · simp only [Prod.mk.injEq] at hq
          exact ⟨fA_lt hq.1, fA_lt hq.2⟩
      · cases h
    · cases h
  · cases h
theorem le_of_W {a b : Nat} (ha : Flo.Nm a) (hb : Flo.Nm b) (h : Flo.W a ≤ Flo.W b) : (FloatKind.f64.format.order a b == some .lt || FloatKind.f64.format.order a b == some .eq) = true := by
  have o := Flo.order_num Ieee.double a b ha hb
  rw [show FloatKind.f64.format = Ieee.double from rfl, Bool.or_eq_true, beq_iff_eq, beq_iff_eq, o.1, o.2.1]
  show Flo.W a < Flo.W b ∨ Flo.W a = Flo.W b
  grind

end Go.Proofs.YtiakcibeobbonaaGreat

/- HalfLife: the powers of a valid pole times the gain stay bounded; the walks, the program's and the model's.
   Conditions: those that each statement names. -/
namespace Go.Proofs.YtiakcibeobbonaaGreat
set_option linter.unusedSimpArgs false
set_option linter.unusedVariables false
open Go Go.RowKit

def zH (m : M4) : Nat → Nat × Nat
  | 0 => (m.gr, m.gi)
  | n + 1 => (mulSre (zH m n).1 (zH m n).2 m.pr m.pi, mulSim (zH m n).1 (zH m n).2 m.pr m.pi)
theorem gain_le {m : M4} (h : m.ok) : ra (S m.gr) ≤ 1024 ∧ ra (S m.gi) ≤ 1024 := by
  obtain ⟨h1, h2, h3, h4, -, h6, h7⟩ := Valid.parts h
  have n1024 : Flo.Nm 4652218415073722368 ∧ Flo.W 4652218415073722368 = 1024 := by
    have h := Flo.int_double 1024 (by omega)
    rw [show floatOfInt .f64 1024 = 4652218415073722368 from by decide] at h
    exact h
  obtain ⟨a1, a2⟩ := wid_num (Sm_of h3)
  obtain ⟨b1, b2⟩ := wid_num (Sm_of h4)
  have la := labs_num _ (wid_lt m.gr) a1
  have lb := labs_num _ (wid_lt m.gi) b1
  have c1 := (leB_iff la.1 n1024.1).1 h6
  have c2 := (leB_iff lb.1 n1024.1).1 h7
  rw [la.2, a2, n1024.2] at c1
  rw [lb.2, b2, n1024.2] at c2
  exact ⟨c1, c2⟩
structure PartH (m : M4) (z : Nat × Nat) : Prop where
  p1 : ∃ e D K, PartOk .sub z.1 m.pr z.2 m.pi e D K
  p2 : ∃ e D K, PartOk .add z.1 m.pi z.2 m.pr e D K
  n1 : Sm (mulSre z.1 z.2 m.pr m.pi)
  n2 : Sm (mulSim z.1 z.2 m.pr m.pi)
  e1 : Flo.Ab (S (mulSre z.1 z.2 m.pr m.pi) - (S z.1 * S m.pr - S z.2 * S m.pi)) 1
  e2 : Flo.Ab (S (mulSim z.1 z.2 m.pr m.pi) - (S z.1 * S m.pi + S z.2 * S m.pr)) 1
theorem part_h (m : M4) (hm : m.ok) (z : Nat × Nat) (h1 : Sm z.1) (h2 : Sm z.2) (hN : N (S z.1) (S z.2) 6000) : PartH m z := by
  obtain ⟨n1, n2, n3, n4⟩ := hm.nums
  obtain ⟨q1, q2⟩ := hm.pole
  obtain ⟨r1, r2⟩ := hN.ab
  have l20 : (1000000 : Rat) ≤ Flo.pw 120 := by
    have e : Flo.pw 20 = 1048576 := Flo.pw_nat 20
    have l : Flo.pw 20 ≤ Flo.pw 120 := Flo.pw_le (by omega)
    grind
  have l25 : (1000000 : Rat) ≤ Flo.pw 125 := by
    have l : Flo.pw 120 ≤ Flo.pw 125 := Flo.pw_le (by omega)
    grind
  have k1 : Flo.Ab (S z.1 * S m.pr) 12000 := (r1.mul q1).mono (by grind)
  have k2 : Flo.Ab (S z.2 * S m.pi) 12000 := (r2.mul q2).mono (by grind)
  have k3 : Flo.Ab (S z.1 * S m.pi) 12000 := (r1.mul q2).mono (by grind)
  have k4 : Flo.Ab (S z.2 * S m.pr) 12000 := (r2.mul q1).mono (by grind)
  have P1 := part_sub z.1 m.pr z.2 m.pi h1 n1 h2 n2 12000 24000 k1 k2 ((k1.sub k2).mono (by grind)) (by grind) (by grind)
  have P2 := part_add z.1 m.pi z.2 m.pr h1 n2 h2 n1 12000 24000 k3 k4 ((k3.add k4).mono (by grind)) (by grind) (by grind)
  have ve := Flo.v_eq
  have es1 := small'.es1
  have hv : Flo.v = 1 / 16777216 := by grind
  exact ⟨⟨_, _, _, P1⟩, ⟨_, _, _, P2⟩, P1.num, P2.num, P1.near.mono (by rw [hv]; grind), P2.near.mono (by rw [hv]; grind)⟩

def sH (m : M4) : Nat → Rat × Rat
  | 0 => (0, 0)
  | i + 1 => (S (zH m i).1, S (zH m i).2)
def QH (m : M4) : Nat → Prop
  | 0 => True
  | i + 1 => Sm (zH m i).1 ∧ Sm (zH m i).2
def xH (i : Nat) : Rat := if i = 0 then 1 else 0
theorem psum_H : ∀ i, psum xH i ≤ 1
  | 0 => by simp [psum]; grind
  | 1 => by simp [psum, xH, ra]; grind
  | i + 2 => by
    have h := psum_H (i + 1)
    show psum xH (i + 1) + ra (xH (i + 1)) ≤ 1
    have : ra (xH (i + 1)) = 0 := by simp [xH, ra]
    rw [this]; grind
theorem zH_ok (m : M4) (hm : m.ok) : ∀ n, n ≤ 1999 → Sm (zH m n).1 ∧ Sm (zH m n).2 ∧ N (S (zH m n).1) (S (zH m n).2) 6000 := by
  intro n hn
  obtain ⟨g1, g2⟩ := gain_le hm
  obtain ⟨n1, n2, n3, n4⟩ := hm.nums
  have t := traj (S m.pr) (S m.pi) (S m.gr) (S m.gi) xH (Valid.square hm) (sH m) rfl 1 6000 1 2000 (Nat.le_refl _) (by grind) (fun i _ => psum_H i)
    (by have e : ((2000 : Nat) : Rat) = 2000 := rfl
        rw [e]; grind) (QH m) trivial (fun i hi hq hN => by
      cases i with
      | zero =>
        refine ⟨⟨n3, n4⟩, ?_, ?_⟩
        · show Flo.Ab (S m.gr - (0 * S m.pr - 0 * S m.pi + S m.gr * xH 0)) 1
          have : xH 0 = 1 := rfl
          rw [this]; unfold Flo.Ab; constructor <;> grind
        · show Flo.Ab (S m.gi - (0 * S m.pi + 0 * S m.pr + S m.gi * xH 0)) 1
          have : xH 0 = 1 := rfl
          rw [this]; unfold Flo.Ab; constructor <;> grind
      | succ j =>
        have P := part_h m hm (zH m j) hq.1 hq.2 hN
        have x0 : xH (j + 1) = 0 := by simp [xH]
        refine ⟨⟨P.n1, P.n2⟩, ?_, ?_⟩
        · exact P.e1.eq (by rw [x0]; show _ = S (mulSre (zH m j).1 (zH m j).2 m.pr m.pi) - (S (zH m j).1 * S m.pr - S (zH m j).2 * S m.pi + S m.gr * 0); grind)
        · exact P.e2.eq (by rw [x0]; show _ = S (mulSim (zH m j).1 (zH m j).2 m.pr m.pi) - (S (zH m j).1 * S m.pi + S (zH m j).2 * S m.pr + S m.gi * 0); grind))
  obtain ⟨q, -, h⟩ := t (n + 1) (by omega)
  exact ⟨q.1, q.2, h⟩
theorem zH_part (m : M4) (hm : m.ok) (n : Nat) (hn : n ≤ 1999) : PartH m (zH m n) := by
  obtain ⟨a, b, c⟩ := zH_ok m hm n hn
  exact part_h m hm _ a b c
theorem zH_num (m : M4) (hm : m.ok) : ∀ n, n ≤ 2000 → Sm (zH m n).1 ∧ Sm (zH m n).2
  | 0, _ => ⟨hm.nums.2.2.1, hm.nums.2.2.2⟩
  | n + 1, h => ⟨(zH_part m hm n (by omega)).n1, (zH_part m hm n (by omega)).n2⟩

/-! ### the test, and what the functions answer -/
def szH (z : Nat × Nat) : Nat := szd (wid z.1) (wid z.2)
def twH (z : Nat × Nat) : Nat := opB .mul .f64 4611686018427387904 (szH z)
def hitH (m : M4) (n : Nat) : Bool := leB (twH (zH m n)) (szH (m.gr, m.gi))
theorem sz_H {a b : Nat} (ha : Sm a) (hb : Sm b) : floatBits .add .f64 (labs (wid a)) (labs (wid b)) = some (szH (a, b)) ∧ floatBits .add .f64 (wid a % signBit) (wid b % signBit) = some (szH (a, b)) ∧ Calm .mul .f64 4611686018427387904 (szH (a, b)) := by
  have na := (wid_num ha).1
  have nb := (wid_num hb).1
  have h := szd_eq (wid a) (wid b) (wid_lt a) (wid_lt b) na nb
  have lm := labs_num _ (wid_lt a) na
  have ln := labs_num _ (wid_lt b) nb
  refine ⟨h, by rw [labs_mod _ (wid_lt a) na, labs_mod _ (wid_lt b) nb]; exact h, ?_⟩
  have aa := single_abs ha
  have bb := single_abs hb
  obtain ⟨r, r1, r2, -⟩ := Flo.d_add (labs (wid a)) (labs (wid b)) lm.1 ln.1 (2 * Flo.pw 128) (by
    rw [lm.2, ln.2, (wid_num ha).2, (wid_num hb).2]
    have := ra_le aa
    have := ra_le bb
    have := ra_nonneg (S a)
    have := ra_nonneg (S b)
    unfold Flo.Ab; constructor <;> grind) (by
    have e : Flo.pw 129 = 2 * Flo.pw 128 := by rw [← Flo.pw_succ]; rfl
    have l : Flo.pw 129 < Flo.pw 1023 := Flo.pw_lt (by omega)
    grind)
  rw [h] at r1
  injection r1 with r1
  have n2 : Flo.Nm 4611686018427387904 := ⟨_, _, _, Flo.read_two⟩
  obtain ⟨q, hq⟩ := mul_some n2 (show Flo.Nm (szH (a, b)) from by unfold szH; rw [r1]; exact r2)
  exact (Calm.of hq).1

def HalfR (m : M4) (most : Nat) (r : Int) (ok : Bool) : Prop :=
  (∃ n : Nat, ok = true ∧ r = (n : Int) ∧ 1 ≤ n ∧ n ≤ most ∧ hitH m n = true ∧ ∀ j, 1 ≤ j → j < n → hitH m j = false) ∨
  (ok = false ∧ (∀ j, 1 ≤ j → j ≤ most → hitH m j = false) ∧ r = 0)
def HalfP (m : M4) (most : Nat) (w : World) (e : Ending) (w' : World) : Prop := ∃ r ok, e = .returned (.tuple #[.int .i64 r, .bool ok]) ∧ HalfR m most r ok ∧ Nw w w'
def HalfI (m : M4) (most : Nat) (w : World) (z n : Value) (wr : World) : Prop :=
  ∃ k : Nat, k ≤ most ∧ n = .int .i64 ((k : Int) + 1) ∧ z = .complex .f32 (zH m k).1 (zH m k).2 ∧ (∀ j, 1 ≤ j → j ≤ k → hitH m j = false) ∧ Nw w wr ∧
    wr.cell? ⟨w.heap.size, 0, none⟩ = some (.complex .f32 m.pr m.pi) ∧ wr.cell? ⟨w.heap.size, 1, none⟩ = some (.complex .f32 m.gr m.gi)

end Go.Proofs.YtiakcibeobbonaaGreat

/- Plain facts: sums, differences and narrowings that the format has are exact; a product with 1 is the number itself. No program stands in it.
   Conditions: those that each statement names. -/
namespace Go.Proofs.YtiakcibeobbonaaGreat
set_option linter.unusedSimpArgs false
set_option linter.unusedVariables false
open Go

namespace Flo
/-- a sum that the format has is exact -/
theorem add_fix (f : Ieee.Format) (he : 2 ≤ f.exponentBits) (x y z : Nat) (hx : IsNum f x) (hy : IsNum f y) (hz : IsNum f z) (h : ra (V f x + V f y) = ra (V f z)) (hB : ra (V f z) < pw (top f)) :
    ∃ r, f.add x y = some r ∧ IsNum f r ∧ V f r = V f x + V f y := by
  obtain ⟨s, m, i, hx⟩ := hx
  obtain ⟨t, n, j, hy⟩ := hy
  obtain ⟨q, k, e, hz⟩ := hz
  obtain ⟨b1, b2, -⟩ := read_bound f he z q k e hz
  obtain ⟨q', k', b', h3, h4⟩ := sum_val s t m n i j
  rw [V_eq hx, V_eq hy, V_eq hz, ← h4, val_ra, val_ra] at h
  rw [V_eq hz, val_ra] at hB
  obtain ⟨m', p', k1, k2, k3, k4⟩ := write_exact f he q' k' b' k e h b1 b2 (by rw [h]; exact hB)
  refine ⟨_, ?_, ⟨_, _, _, k1⟩, ?_⟩
  · unfold Ieee.Format.add; rw [hx, hy, h3]; rfl
  · rw [V_eq k1, V_eq hx, V_eq hy, ← h4]; unfold val; rw [k4]
theorem sub_fix (f : Ieee.Format) (he : 2 ≤ f.exponentBits) (x y z : Nat) (hx : IsNum f x) (hy : IsNum f y) (hz : IsNum f z) (h : ra (V f x - V f y) = ra (V f z)) (hB : ra (V f z) < pw (top f)) :
    ∃ r, f.sub x y = some r ∧ IsNum f r ∧ V f r = V f x - V f y := by
  obtain ⟨s, m, i, hx⟩ := hx
  obtain ⟨t, n, j, hy⟩ := hy
  obtain ⟨q, k, e, hz⟩ := hz
  obtain ⟨b1, b2, -⟩ := read_bound f he z q k e hz
  obtain ⟨q', k', b', h3, h4⟩ := sum_val s (!t) m n i j
  rw [val_opp] at h4
  have h5 : val q' k' b' = val s m i - val t n j := by grind
  rw [V_eq hx, V_eq hy, V_eq hz, ← h5, val_ra, val_ra] at h
  rw [V_eq hz, val_ra] at hB
  obtain ⟨m', p', k1, k2, k3, k4⟩ := write_exact f he q' k' b' k e h b1 b2 (by rw [h]; exact hB)
  refine ⟨_, ?_, ⟨_, _, _, k1⟩, ?_⟩
  · unfold Ieee.Format.sub; rw [hx, hy, show (Ieee.Datum.number t n j).opposite = .number (!t) n j from rfl, h3]; rfl
  · rw [V_eq k1, V_eq hx, V_eq hy, ← h5]; unfold val; rw [k4]
/-- a number of double precision that single precision has is narrowed exactly -/
theorem nar_fix (b z : Nat) (hb : Nm b) (hz : IsNum Ieee.single z) (h : ra (W b) = ra (V Ieee.single z)) (hB : ra (V Ieee.single z) < pw 127) :
    IsNum Ieee.single (nar b) ∧ V Ieee.single (nar b) = W b := by
  obtain ⟨s, m, i, hb⟩ := hb
  obtain ⟨q, k, e, hz⟩ := hz
  obtain ⟨b1, b2, -⟩ := read_bound Ieee.single (by decide) z q k e hz
  rw [show W b = _ from V_eq hb, V_eq hz, val_ra, val_ra] at h
  rw [V_eq hz, val_ra] at hB
  obtain ⟨m', p', k1, k2, k3, k4⟩ := write_exact Ieee.single (by decide) s m i k e h b1 b2 (by rw [h, show top Ieee.single = 127 from by decide]; exact hB)
  have hn : nar b = Ieee.single.write (.number s m i) := by
    unfold nar
    rw [show FloatKind.f64.decode b = .number s m i from hb]
    rfl
  rw [hn]
  refine ⟨⟨_, _, _, k1⟩, ?_⟩
  rw [V_eq k1, show W b = _ from V_eq hb]; unfold val; rw [k4]
end Flo

theorem one_s : Sm 1065353216 ∧ S 1065353216 = 1 := by
  have h : Ieee.single.read 1065353216 = .number false 8388608 (-23) := by decide
  refine ⟨⟨_, _, _, h⟩, ?_⟩
  rw [show S 1065353216 = _ from Flo.V_eq h]
  unfold Flo.val
  have := Flo.pw_neg_mul 23
  rw [show Flo.pw 23 = 8388608 from Flo.pw_nat 23] at this
  simp only [Bool.false_eq_true, if_false]
  have e2 : ((8388608 : Nat) : Rat) = 8388608 := rfl
  rw [e2]; grind
theorem nil_s : Sm 0 ∧ S 0 = 0 := by
  have h : Ieee.single.read 0 = .number false 0 (-149) := by decide
  refine ⟨⟨_, _, _, h⟩, ?_⟩
  rw [show S 0 = _ from Flo.V_eq h]
  unfold Flo.val
  simp

/-- MultiplySingle by 1: the parts stay the same numbers -/
theorem mulS_one (a b : Nat) (ha : Sm a) (hb : Sm b) (h1 : ra (S a) ≤ 4) (h2 : ra (S b) ≤ 4) :
    Sm (mulSre a b 1065353216 0) ∧ Sm (mulSim a b 1065353216 0) ∧ S (mulSre a b 1065353216 0) = S a ∧ S (mulSim a b 1065353216 0) = S b := by
  obtain ⟨na, va⟩ := wid_num ha
  obtain ⟨nb, vb⟩ := wid_num hb
  obtain ⟨n1, v1⟩ := wid_num one_s.1
  obtain ⟨n0, v0⟩ := wid_num nil_s.1
  rw [one_s.2] at v1
  rw [nil_s.2] at v0
  have l1 : (4 : Rat) < Flo.pw 127 := by
    have : Flo.pw 2 < Flo.pw 127 := Flo.pw_lt (by omega)
    rw [show Flo.pw 2 = 4 from Flo.pw_nat 2] at this
    exact this
  have l2 : Flo.pw 127 < Flo.pw 1023 := Flo.pw_lt (by omega)
  have mul1 : ∀ x y : Nat, Sm x → Sm y → ra (S x) ≤ 4 → (S y = 1 ∨ S y = 0) → Flo.Nm (opB .mul .f64 (wid x) (wid y)) ∧ Flo.W (opB .mul .f64 (wid x) (wid y)) = S x * S y := by
    intro x y hx hy h4 h10
    obtain ⟨nx, vx⟩ := wid_num hx
    obtain ⟨ny, vy⟩ := wid_num hy
    rcases h10 with h10 | h10
    · obtain ⟨r, e1, e2, e3⟩ := Flo.mul_fix Ieee.double (by decide) (wid x) (wid y) (wid x) nx ny nx
        (by show ra (Flo.W (wid x) * Flo.W (wid y)) = ra (Flo.W (wid x)); rw [vx, vy, h10, show S x * 1 = S x by grind])
        (by rw [Flo.top_double]; show ra (Flo.W (wid x)) < _; rw [vx]; grind)
      obtain ⟨c, b⟩ := Calm.of (show floatBits .mul .f64 (wid x) (wid y) = some r from e1)
      rw [b]
      exact ⟨e2, by rw [show Flo.W r = _ from e3]; show Flo.W (wid x) * Flo.W (wid y) = _; rw [vx, vy]⟩
    · obtain ⟨r, e1, e2, e3⟩ := Flo.mul_fix Ieee.double (by decide) (wid x) (wid y) (wid y) nx ny ny
        (by show ra (Flo.W (wid x) * Flo.W (wid y)) = ra (Flo.W (wid y)); rw [vx, vy, h10, show S x * 0 = 0 by grind])
        (by rw [Flo.top_double]; show ra (Flo.W (wid y)) < _; rw [vy, h10, ra_pos (Rat.le_refl)]; grind)
      obtain ⟨c, b⟩ := Calm.of (show floatBits .mul .f64 (wid x) (wid y) = some r from e1)
      rw [b]
      exact ⟨e2, by rw [show Flo.W r = _ from e3]; show Flo.W (wid x) * Flo.W (wid y) = _; rw [vx, vy]⟩
  obtain ⟨m1, w1⟩ := mul1 a 1065353216 ha one_s.1 h1 (.inl one_s.2)
  obtain ⟨m2, w2⟩ := mul1 b 0 hb nil_s.1 h2 (.inr nil_s.2)
  obtain ⟨m3, w3⟩ := mul1 a 0 ha nil_s.1 h1 (.inr nil_s.2)
  obtain ⟨m4, w4⟩ := mul1 b 1065353216 hb one_s.1 h2 (.inl one_s.2)
  rw [one_s.2] at w1 w4
  rw [nil_s.2] at w2 w3
  have hA : ra (S a) < Flo.pw 1023 := by grind
  have hB : ra (S b) < Flo.pw 1023 := by grind
  have fs : ∀ x y z : Nat, Flo.Nm x → Flo.Nm y → Flo.Nm z → ra (Flo.W x - Flo.W y) = ra (Flo.W z) → ra (Flo.W z) < Flo.pw 1023 → ∃ r, floatBits .sub .f64 x y = some r ∧ Flo.Nm r ∧ Flo.W r = Flo.W x - Flo.W y :=
    fun x y z hx hy hz h hb => Flo.sub_fix Ieee.double (by decide) x y z hx hy hz h (by rw [Flo.top_double]; exact hb)
  have fa : ∀ x y z : Nat, Flo.Nm x → Flo.Nm y → Flo.Nm z → ra (Flo.W x + Flo.W y) = ra (Flo.W z) → ra (Flo.W z) < Flo.pw 1023 → ∃ r, floatBits .add .f64 x y = some r ∧ Flo.Nm r ∧ Flo.W r = Flo.W x + Flo.W y :=
    fun x y z hx hy hz h hb => Flo.add_fix Ieee.double (by decide) x y z hx hy hz h (by rw [Flo.top_double]; exact hb)
  obtain ⟨r, e1, e2, e3⟩ := fs (opB .mul .f64 (wid a) (wid 1065353216)) (opB .mul .f64 (wid b) (wid 0)) (wid a) m1 m2 na (by rw [w1, w2, va, show S a * 1 - S b * 0 = S a by grind]) (by rw [va]; exact hA)
  obtain ⟨r', e1', e2', e3'⟩ := fa (opB .mul .f64 (wid a) (wid 0)) (opB .mul .f64 (wid b) (wid 1065353216)) (wid b) m3 m4 nb (by rw [w3, w4, vb, show S a * 0 + S b * 1 = S b by grind]) (by rw [vb]; exact hB)
  have f1 : Flo.W r = S a := by rw [e3, w1, w2]; grind
  have f2 : Flo.W r' = S b := by rw [e3', w3, w4]; grind
  obtain ⟨c, b1⟩ := Calm.of e1
  obtain ⟨c', b1'⟩ := Calm.of e1'
  obtain ⟨g1, g2⟩ := Flo.nar_fix r a e2 ha (by rw [f1]) (by show ra (S a) < _; grind)
  obtain ⟨g3, g4⟩ := Flo.nar_fix r' b e2' hb (by rw [f2]) (by show ra (S b) < _; grind)
  unfold mulSre mulSim
  rw [b1, b1']
  exact ⟨g1, g3, by rw [show S (Flo.nar r) = _ from g2]; exact f1, by rw [show S (Flo.nar r') = _ from g4]; exact f2⟩
end Go.Proofs.YtiakcibeobbonaaGreat

/- Plain facts: a mode whose pole has no greater parts than a valid mode's, with the same gain, is valid: damped and tuned modes. No program stands in it.
   Conditions: those that each statement names. -/
namespace Go.Proofs.YtiakcibeobbonaaGreat
set_option linter.unusedSimpArgs false
set_option linter.unusedVariables false
open Go

theorem M4.ok.pole4 {m : M4} (h : m.ok) : ra (S m.pr) ≤ 4 ∧ ra (S m.pi) ≤ 4 := by
  obtain ⟨p1, p2⟩ := h.pole
  have := ra_le p1
  have := ra_le p2
  constructor <;> grind

theorem ok_less (m m' : M4) (h : m.ok) (h1 : Sm m'.pr) (h2 : Sm m'.pi) (l1 : ra (S m'.pr) ≤ ra (S m.pr)) (l2 : ra (S m'.pi) ≤ ra (S m.pi)) (hg : m'.gr = m.gr ∧ m'.gi = m.gi) : m'.ok := by
  obtain ⟨s1, s2, s3, s4⟩ := h.nums
  obtain ⟨b1, b2⟩ := h.pole4
  obtain ⟨f1, f2, f3, f4, f5, f6, f7⟩ := Valid.parts h
  have hm := sqr_mono m'.pr m'.pi m.pr m.pi h1 h2 s1 s2 l1 l2 b1 b2
  obtain ⟨_, _, -, -, -, k1, k2⟩ := sqr_num s1 s2
  obtain ⟨_, _, -, -, -, k3, -⟩ := sqr_num h1 h2
  have f5' := (leB_iff k1 num_one.1).1 f5
  rw [num_one.2] at f5'
  have sq : ∀ q : Rat, 0 ≤ q * q := square_nonneg
  have q1 := sq (S m.pr)
  have q2 := sq (S m.pi)
  have u1 := Flo.u_le
  have u0 := Flo.u_pos
  have eu : Flo.et ≤ Flo.u := Flo.pw_le (by omega)
  have e0 := Flo.et_pos
  have g := Rat.mul_le_mul_of_nonneg_left (show 4 * Flo.u ≤ 1 by grind) (show 0 ≤ S m.pr * S m.pr + S m.pi * S m.pi by grind)
  have hneg : -1 ≤ Flo.W (sqr (wid m.pr) (wid m.pi)) := by
    have := k2.1
    grind
  have ha : ra (Flo.W (sqr (wid m.pr) (wid m.pi))) ≤ 1 := ra_le ⟨hneg, f5'⟩
  have hw : Flo.W (sqr (wid m'.pr) (wid m'.pi)) ≤ 1 := by
    have := ra_ab (Flo.W (sqr (wid m'.pr) (wid m'.pi)))
    have := this.2
    grind
  have f5'' : leB (sqr (wid m'.pr) (wid m'.pi)) 4607182418800017408 = true := (leB_iff k3 num_one.1).2 (by rw [num_one.2]; exact hw)
  show modeB m'.pr m'.pi m'.gr m'.gi labs = true
  unfold modeB
  rw [hg.1, hg.2, (fin_iff' .f32 _).2 h1, (fin_iff' .f32 _).2 h2, f3, f4, f5'', f6, f7]
  rfl

theorem dampM_ok (m : M4) (t : Nat) (h : m.ok) (ht : Sm t) (h0 : 0 ≤ S t) (h1 : S t ≤ 1) : (dampM t m).ok := by
  obtain ⟨s1, s2, s3, s4⟩ := h.nums
  obtain ⟨b1, b2⟩ := h.pole4
  obtain ⟨-, a1, a2⟩ := damp_part m.pr t s1 ht h0 h1 b1
  obtain ⟨-, c1, c2⟩ := damp_part m.pi t s2 ht h0 h1 b2
  exact ok_less m (dampM t m) h a1 c1 a2 c2 ⟨rfl, rfl⟩

def tuneM (m : M4) : M4 := ⟨mulSre m.pr m.pi 1065353216 0, mulSim m.pr m.pi 1065353216 0, m.gr, m.gi⟩
theorem tuneM_ok (m : M4) (h : m.ok) : (tuneM m).ok ∧ S (tuneM m).pr = S m.pr ∧ S (tuneM m).pi = S m.pi := by
  obtain ⟨s1, s2, s3, s4⟩ := h.nums
  obtain ⟨b1, b2⟩ := h.pole4
  obtain ⟨a1, a2, a3, a4⟩ := mulS_one m.pr m.pi s1 s2 b1 b2
  exact ⟨ok_less m (tuneM m) h a1 a2 (by show ra (S (mulSre m.pr m.pi 1065353216 0)) ≤ _; rw [a3]; exact Rat.le_refl) (by show ra (S (mulSim m.pr m.pi 1065353216 0)) ≤ _; rw [a4]; exact Rat.le_refl) ⟨rfl, rfl⟩, a3, a4⟩
end Go.Proofs.YtiakcibeobbonaaGreat

/- A voice that plays stays bounded: crude, for the few samples of a drawn score (FnShifted, FnCut).
   Conditions: those that each statement names. -/
namespace Go.Proofs.YtiakcibeobbonaaGreat
set_option linter.unusedSimpArgs false
set_option linter.unusedVariables false
open Go Go.RowKit

theorem v_val : Flo.v = 1 / 16777216 := by have := Flo.v_eq; grind
theorem es_tiny : 0 < Flo.es ∧ Flo.es ≤ 1 / 1024 := by
  refine ⟨Flo.es_pos, ?_⟩
  have h := Flo.es_le
  rw [v_val] at h
  grind
theorem step_box (m : M4) (hm : m.ok) (s : Nat × Nat) (x : Nat) (h1 : Sm s.1) (h2 : Sm s.2) (hx : Sm x) (B X : Rat) (hN : N (S s.1) (S s.2) B) (hX : ra (S x) ≤ X) (hB : B ≤ Flo.pw 104) (hX2 : 2048 * X ≤ Flo.pw 104) :
    StepOk m s x ∧ Sm (stepS m s x).1 ∧ Sm (stepS m s x).2 ∧ N (S (stepS m s x).1) (S (stepS m s x).2) (2 * B + 4096 * X + 1) := by
  have hX0 : 0 ≤ X := by have := ra_nonneg (S x); grind
  have hB0 := hN.1
  obtain ⟨a1, a2⟩ := gain_le hm
  have hg : (ra (S m.gr) + ra (S m.gi)) * ra (S x) ≤ 2048 * X := by
    have k1 := Rat.mul_le_mul_of_nonneg_left hX (show 0 ≤ ra (S m.gr) + ra (S m.gi) by have := ra_nonneg (S m.gr); have := ra_nonneg (S m.gi); grind)
    have k2 := Rat.mul_le_mul_of_nonneg_right (show ra (S m.gr) + ra (S m.gi) ≤ 2048 by grind) hX0
    grind
  have g := (N.gain (S m.gr) (S m.gi) (S x)).mono hg
  have k := hN.mul (show (0 : Rat) ≤ 1 + 1 / 200000 by grind) (pole_T (Valid.square hm))
  have l1 : Flo.pw 112 = 256 * Flo.pw 104 := by rw [show (112 : Int) = 8 + 104 from rfl, Flo.pw_add, show Flo.pw 8 = 256 from Flo.pw_nat 8]
  have l2 : Flo.pw 104 ≤ Flo.pw 110 := Flo.pw_le (by omega)
  have l3 := Flo.pw_pos 104
  obtain ⟨c1, c2, c3, c4, c5⟩ := step_ok m hm s x h1 h2 hx B (B * (1 + 1 / 200000)) (2048 * X) hN.ab.1 hN.ab.2 k.ab.1 k.ab.2 g.ab.1 g.ab.2 (by grind) (by grind) (by grind)
  refine ⟨c1, c2, c3, ?_⟩
  have hp := N.parts c4 c5
  have hs := ((k.add g).add hp).eq (a' := S (stepS m s x).1) (b' := S (stepS m s x).2) (by grind) (by grind)
  refine hs.mono ?_
  rw [v_val]
  obtain ⟨e1, e2⟩ := es_tiny
  grind

theorem sum_box (ss : List (Nat × Nat)) (B : Rat) (hB0 : 0 ≤ B) (hB : B ≤ Flo.pw 106) (h : ∀ s ∈ ss, Sm s.1 ∧ Flo.Ab (S s.1) B) : ∀ k, k ≤ ss.length → k ≤ 16 → Sm (outS (ss.take k)) ∧ Flo.Ab (S (outS (ss.take k))) (2 * (k : Rat) * B + (k : Rat)) := by
  intro k
  induction k with
  | zero =>
    intro _ _
    have z := zero_single
    refine ⟨by simpa [outS] using z.1, ?_⟩
    have e : S (outS (ss.take 0)) = 0 := by simpa [outS] using z.2
    rw [e]
    unfold Flo.Ab
    grind
  | succ k ih =>
    intro hk h16
    obtain ⟨i1, i2⟩ := ih (by omega) (by omega)
    obtain ⟨s, hs⟩ : ∃ s, ss[k]? = some s := ⟨ss[k]'(by omega), List.getElem?_eq_getElem _⟩
    obtain ⟨b1, b2⟩ := h s (List.mem_of_getElem? hs)
    have hk16 : (k : Rat) ≤ 16 := by exact_mod_cast (by omega : k ≤ 16)
    have hk0 : (0 : Rat) ≤ k := by exact_mod_cast Nat.zero_le k
    have hkB := Rat.mul_nonneg hk0 hB0
    have hkB2 : (k : Rat) * B ≤ 16 * B := Rat.mul_le_mul_of_nonneg_right hk16 hB0
    have l1 : Flo.pw 127 = 2097152 * Flo.pw 106 := by rw [show (127 : Int) = 21 + 106 from rfl, Flo.pw_add, show Flo.pw 21 = 2097152 from Flo.pw_nat 21]
    have l2 : (1 : Rat) ≤ Flo.pw 106 := by have h := Flo.pw_le (a := 0) (b := 106) (by omega); rw [show Flo.pw 0 = 1 from Flo.pw_nat 0] at h; exact h
    obtain ⟨r, q1, q2, q3⟩ := Flo.s_add (outS (ss.take k)) s.1 i1 b1 (2 * (k : Rat) * B + (k : Rat) + B) (i2.add b2) (by grind)
    have er : outS (ss.take (k + 1)) = r := by
      rw [outS_take ss k s hs]
      exact (Calm.of q1).2
    rw [er]
    refine ⟨q2, ?_⟩
    have e : ((k + 1 : Nat) : Rat) = (k : Rat) + 1 := by exact_mod_cast rfl
    rw [e]
    rw [v_val] at q3
    obtain ⟨e1, e2⟩ := es_tiny
    have i3 := i2.add b2
    unfold Flo.Ab at q3 i3 ⊢
    grind
theorem sum_ok (ss : List (Nat × Nat)) (B : Rat) (hB0 : 0 ≤ B) (hB : B ≤ Flo.pw 106) (hl : ss.length ≤ 16) (h : ∀ s ∈ ss, Sm s.1 ∧ Flo.Ab (S s.1) B) : SumOk ss ∧ Sm (outS ss) ∧ Flo.Ab (S (outS ss)) (32 * B + 16) := by
  refine ⟨fun k s hs => ?_, ?_⟩
  · have hk := (List.getElem?_eq_some_iff.1 hs).1
    obtain ⟨i1, i2⟩ := sum_box ss B hB0 hB h k (by omega) (by omega)
    obtain ⟨b1, b2⟩ := h s (List.mem_of_getElem? hs)
    have hk16 : (k : Rat) ≤ 16 := by exact_mod_cast (by omega : k ≤ 16)
    have hk0 : (0 : Rat) ≤ k := by exact_mod_cast Nat.zero_le k
    have hkB2 : (k : Rat) * B ≤ 16 * B := Rat.mul_le_mul_of_nonneg_right hk16 hB0
    have l1 : Flo.pw 127 = 2097152 * Flo.pw 106 := by rw [show (127 : Int) = 21 + 106 from rfl, Flo.pw_add, show Flo.pw 21 = 2097152 from Flo.pw_nat 21]
    have l2 : (1 : Rat) ≤ Flo.pw 106 := by have h := Flo.pw_le (a := 0) (b := 106) (by omega); rw [show Flo.pw 0 = 1 from Flo.pw_nat 0] at h; exact h
    obtain ⟨r, q1, -, -⟩ := Flo.s_add (outS (ss.take k)) s.1 i1 b1 (2 * (k : Rat) * B + (k : Rat) + B) (i2.add b2) (by grind)
    exact (Calm.of q1).1
  · obtain ⟨i1, i2⟩ := sum_box ss B hB0 hB h ss.length (Nat.le_refl _) hl
    rw [List.take_length] at i1 i2
    have hk16 : (ss.length : Rat) ≤ 16 := by exact_mod_cast hl
    have hkB2 : (ss.length : Rat) * B ≤ 16 * B := Rat.mul_le_mul_of_nonneg_right hk16 hB0
    exact ⟨i1, i2.mono (by grind)⟩
end Go.Proofs.YtiakcibeobbonaaGreat

/- What draws scores, first part: a number out of a list; a number of moderate size.
   Conditions: those that each statement names. -/
namespace Go.Proofs.YtiakcibeobbonaaGreat
set_option linter.unusedSimpArgs false
set_option linter.unusedVariables false
open Go Go.RowKit

/-- the integers zs lie in block g from its head on -/
def IntsL (w : World) (g : Nat) (zs : List Int) : Prop := ∀ (k : Nat) z, zs[k]? = some z → w.cell? ⟨g, k, none⟩ = some (.int .i64 z)
def InP (B : Nat) (w0 : World) (a : Option Addr) (len cap c : Nat) (zs : List Int) (e : Ending) (w' : World) : Prop :=
  ∃ x : Int, x ∈ zs ∧ e = .returned (.int .i64 x) ∧ At B w0 a len cap c w'
theorem l01Int_in (B : Nat) (w0 : World) (a : Option Addr) (len cap c : Nat) (g n m : Nat) (zs : List Int) (hz : zs.length = n) (hn : 1 ≤ n) (hn2 : n ≤ 256) (w : World) (hc : At B w0 a len cap c w) (hg : g < w.heap.size) (hgc : g ≠ c) (hi : IntsL w g zs) :
    Calls Tryz.prog 23 #[.pointer (some ⟨c, 0, none⟩), .slice (some ⟨g, 0, none⟩) n m] w (InP B w0 a len cap c zs) := by
  have Hi := Lib.hid hi
  clear hi
  have Hc := Lib.hid hc
  clear hc
  have Hz := Lib.hid hz
  clear hz
  go_enter Tryz.func23, Tryz.ntmps23
  go_wp2_with fail
  refine (below_at _ _ _ _ _ _ _ (by omega) (by omega) _ Hc.out.here).mono ?_
  rintro e w1 ⟨x, x0, x1, rfl, hc1⟩
  obtain ⟨k, rfl⟩ : ∃ k : Nat, x = k := ⟨x.toNat, by omega⟩
  obtain ⟨z, hzk⟩ : ∃ z, zs[k]? = some z := ⟨zs[k]'(by rw [Hz.out]; omega), List.getElem?_eq_getElem _⟩
  have hz := Hi.out k z hzk
  have hmem := Lib.hid (List.mem_of_getElem? hzk)
  have hz1 : w1.cell? ⟨g, k, none⟩ = some (.int .i64 z) := by rw [hc1.2.cell (p := ⟨g, k, none⟩) hg hgc]; exact hz
  have hkn : k < n := by omega
  have Hc1 := Lib.hid (show At B w0 a len cap c w1 from ⟨hc1.1, Hc.out.2.trans hc1.2⟩)
  clear hc1 hz hzk
  go_wp2
  go_ret
  exact ⟨_, hmem.out, rfl, Hc1.out⟩

/-! ### a number of moderate size -/
theorem nm_16 : Flo.Nm 4625196817309499392 ∧ Flo.W 4625196817309499392 = 16 := by
  have h := Flo.int_double 16 (by decide)
  rw [show floatOfInt .f64 16 = 4625196817309499392 from by decide +kernel] at h
  exact ⟨h.1, by rw [h.2]; rfl⟩
theorem nm_mega : Flo.Nm 4697254411347427328 ∧ Flo.W 4697254411347427328 = 1048576 := by
  have h := Flo.int_double 1048576 (by decide)
  rw [show floatOfInt .f64 1048576 = 4697254411347427328 from by decide +kernel] at h
  exact ⟨h.1, by rw [h.2]; rfl⟩
theorem nm_three : Flo.Nm 4613937818241073152 ∧ Flo.W 4613937818241073152 = 3 := by
  have h := Flo.int_double 3 (by decide)
  rw [show floatOfInt .f64 3 = 4613937818241073152 from by decide +kernel] at h
  exact ⟨h.1, by rw [h.2]; rfl⟩
/-- an integer of at most a million, divided by a number that is no less than 1 -/
theorem int_quo (z : Int) (hz : z.natAbs ≤ 1000000) (y : Nat) (hy : Flo.Nm y) (h1 : 1 ≤ Flo.W y) :
    ∃ r, floatBits .quo .f64 (floatOfInt .f64 z) y = some r ∧ Flo.Nm r ∧ Flo.Ab (Flo.W r) 1000005 := by
  obtain ⟨n1, n2⟩ := Flo.int_double z (by omega)
  have hzr : Flo.Ab (z : Rat) 1000000 := by
    have a1 : z ≤ 1000000 := by omega
    have a2 : -1000000 ≤ z := by omega
    have b1 : (z : Rat) ≤ ((1000000 : Int) : Rat) := Rat.intCast_le_intCast.2 a1
    have b2 : ((-1000000 : Int) : Rat) ≤ (z : Rat) := Rat.intCast_le_intCast.2 a2
    have c1 : ((1000000 : Int) : Rat) = 1000000 := rfl
    have c2 : ((-1000000 : Int) : Rat) = -1000000 := rfl
    exact ⟨by grind, by grind⟩
  have hy0 : Flo.W y ≠ 0 := by grind
  have hq : (Flo.W (floatOfInt .f64 z) / Flo.W y) * Flo.W y = Flo.W (floatOfInt .f64 z) := Rat.div_mul_cancel hy0
  have hb : Flo.Ab (Flo.W (floatOfInt .f64 z) / Flo.W y) 1000000 := by
    refine Flo.Ab.div (y := Flo.W y) (D := 1) ?_ (by grind) h1
    rw [hq, n2]
    simpa using hzr
  have hp : (1000000 : Rat) < Flo.pw 1022 := by
    have h := Flo.pw_nat 20
    have hm : Flo.pw 20 ≤ Flo.pw 1022 := Flo.pw_le (by omega)
    rw [show ((20 : Nat) : Int) = 20 from rfl] at h
    rw [h] at hm
    have e : ((2 ^ 20 : Nat) : Rat) = 1048576 := rfl
    grind
  obtain ⟨r, h1, h2, h3⟩ := Flo.d_div _ y n1 hy hy0 _ 1000000 hq hb hp
  refine ⟨r, h1, h2, ?_⟩
  have hu := Flo.u_le
  have ht : Flo.et ≤ Flo.u := Flo.pw_le (by omega)
  unfold Flo.Ab at hb h3 ⊢
  grind

/-- a number of double precision that is not great -/
def Mo (b : Nat) : Prop := Flo.Nm b ∧ Flo.Ab (Flo.W b) 1000005
theorem mo_quo (z : Int) (hz : z.natAbs ≤ 1000000) (y : Nat) (hy : Flo.Nm y) (h1 : 1 ≤ Flo.W y) (w : World) : Mo (fres w .quo .f64 (floatOfInt .f64 z) y) := by
  obtain ⟨r, h2, h3, h4⟩ := int_quo z hz y hy h1
  unfold fres
  rw [h2]
  exact ⟨h3, h4⟩
theorem mo_int (z : Int) (hz : z.natAbs ≤ 1000000) : Mo (floatOfInt .f64 z) := by
  obtain ⟨n1, n2⟩ := Flo.int_double z (by omega)
  refine ⟨n1, ?_⟩
  rw [n2]
  have b1 : (z : Rat) ≤ ((1000000 : Int) : Rat) := Rat.intCast_le_intCast.2 (by omega)
  have b2 : ((-1000000 : Int) : Rat) ≤ (z : Rat) := Rat.intCast_le_intCast.2 (by omega)
  have c1 : ((1000000 : Int) : Rat) = 1000000 := rfl
  have c2 : ((-1000000 : Int) : Rat) = -1000000 := rfl
  exact ⟨by grind, by grind⟩
def MoP (B : Nat) (w0 : World) (a : Option Addr) (len cap c : Nat) (e : Ending) (w' : World) : Prop :=
  ∃ b : Nat, e = .returned (.float .f64 b) ∧ Mo b ∧ At B w0 a len cap c w'
theorem l1Some_mo (B : Nat) (w0 : World) (a : Option Addr) (len cap c : Nat) (w : World) (hc : At B w0 a len cap c w) :
    Calls Tryz.prog 45 #[.pointer (some ⟨c, 0, none⟩)] w (MoP B w0 a len cap c) := by
  go_enter Tryz.func45, Tryz.ntmps45
  go_wp2_with (go_at_call 22; refine (below_at _ _ _ _ _ _ _ (by omega) (by omega) _ (by assumption)).mono ?_; rintro e w1 ⟨x, x0, x1, rfl, hc1⟩)
  all_goals
    go_ret
    first
      | exact ⟨_, rfl, mo_int _ (by omega), by assumption⟩
      | exact ⟨_, rfl, mo_quo _ (by omega) _ nm_16.1 (by rw [nm_16.2]; decide) _, At.draw (by assumption) _⟩
      | exact ⟨_, rfl, mo_quo _ (by omega) _ nm_mega.1 (by rw [nm_mega.2]; decide) _, At.draw (by assumption) _⟩
      | exact ⟨_, rfl, mo_quo _ (by omega) _ nm_three.1 (by rw [nm_three.2]; decide) _, At.draw (by assumption) _⟩

/-! ### boxes of any number of cells -/
def HasC (w : World) (b : Nat) (cs : List Value) : Prop :=
  b < w.heap.size ∧ ∀ (k : Nat) v, cs[k]? = some v → w.cell? ⟨b, k, none⟩ = some v ∧ w.frozen? ⟨b, k, none⟩ = false
theorem HasC.of {w w' : World} {b : Nat} {cs : List Value} (h : HasC w b cs) (hs : w.heap.size ≤ w'.heap.size) (hb : w'.heap[b]? = w.heap[b]?) : HasC w' b cs :=
  ⟨Nat.lt_of_lt_of_le h.1 hs, fun k v hk => by rw [World.cell?_of_block (w := w) (a := ⟨b, k, none⟩) hb, World.frozen?_of_block (w := w) (a := ⟨b, k, none⟩) hb]; exact h.2 k v hk⟩
theorem HasC.kp {c : Nat} {w w' : World} {b : Nat} {cs : List Value} (h : HasC w b cs) (hk : Kp c w w') (hne : b ≠ c) : HasC w' b cs := h.of hk.size (hk.block b h.1 (fun e => hne (by cases e; rfl)))
theorem HasC.nw {w w' : World} {b : Nat} {cs : List Value} (h : HasC w b cs) (hk : Nw w w') : HasC w' b cs := h.of hk.size (hk.block b h.1 (by simp))
theorem HasC.alloc {w : World} {b : Nat} {cs : List Value} (h : HasC w b cs) (o : Obj) : HasC (w.alloc o) b cs := h.nw ((Nw.refl _).alloc _)
theorem HasC.draw {w : World} {b : Nat} {cs : List Value} (h : HasC w b cs) (n : Nat) : HasC (w.drewN n) b cs := h.nw ((Nw.refl _).draw _)

theorem HasC.set {w : World} {b : Nat} {cs : List Value} (h : HasC w b cs) (j : Nat) (u : Value) : HasC (w.setCell ⟨b, j, none⟩ u) b (cs.set j u) := by
  refine ⟨by simpa [World.setCell] using h.1, fun k v hk => ?_⟩
  by_cases hj : j = k
  · subst hj
    have hl := (List.getElem?_eq_some_iff.1 hk).1
    simp at hl
    rw [List.getElem?_set_self hl] at hk
    cases hk
    obtain ⟨h1, h2⟩ := h.2 j cs[j] (List.getElem?_eq_getElem hl)
    constructor <;> go_simp
  · rw [List.getElem?_set_ne hj] at hk
    obtain ⟨h1, h2⟩ := h.2 k v hk
    have hk' : k ≠ j := fun e => hj e.symm
    constructor <;> go_simp
theorem HasC.sete {w : World} {b : Nat} {cs : List Value} (h : HasC w b cs) {p : Addr} (hp : p.block ≠ b) (u : Value) : HasC (w.setCell p u) b cs :=
  h.of (by simp [World.setCell]) (Below.heap_setCell _ _ _ _ (fun e => hp e.symm))

end Go.Proofs.YtiakcibeobbonaaGreat

/- What draws scores, second part: an event.
   Conditions: those that each statement names. -/
namespace Go.Proofs.YtiakcibeobbonaaGreat
set_option linter.unusedSimpArgs false
set_option linter.unusedVariables false
open Go Go.RowKit

theorem sm_64 : Sm 1115684864 ∧ S 1115684864 = 64 := by
  have h := Flo.int_single 64 (by decide)
  rw [show floatOfInt .f32 64 = 1115684864 from by decide +kernel] at h
  exact ⟨h.1, by rw [h.2]; rfl⟩
/-- the force of a strike -/
theorem force_ok (b : Nat) (h : Mo b) : (∀ w, fcv w .f64 b .f32 = Flo.nar b) ∧ fcd .f64 b .f32 = 0 ∧ ∃ r, (∀ w, fres w .quo .f32 (Flo.nar b) 1115684864 = r) ∧ fdr .quo .f32 (Flo.nar b) 1115684864 = 0 ∧ Sm r ∧ Flo.Ab (S r) 1000020 := by
  have hp : (2000000 : Rat) < Flo.pw 126 := by
    have h := Flo.pw_nat 21
    have hm : Flo.pw 21 ≤ Flo.pw 126 := Flo.pw_le (by omega)
    rw [show ((21 : Nat) : Int) = 21 from rfl] at h
    rw [h] at hm
    have e : ((2 ^ 21 : Nat) : Rat) = 2097152 := rfl
    grind
  have hp2 : Flo.pw 126 ≤ Flo.pw 127 := Flo.pw_le (by omega)
  obtain ⟨h1, h2, h3, h4⟩ := Flo.narrow_ok b h.1 1000005 h.2 (by grind)
  have hv : Flo.v ≤ Flo.pw (-20) := Flo.pw_le (by omega)
  have hes : Flo.es ≤ Flo.pw (-20) := Flo.pw_le (by omega)
  have hpm : Flo.pw (-20) * 1048576 = 1 := by
    have := Flo.pw_neg_mul 20
    rw [show Flo.pw 20 = 1048576 from Flo.pw_nat 20] at this
    grind
  have hS : Flo.Ab (S (Flo.nar b)) 1000010 := by
    have hb := h.2
    unfold Flo.Ab at hb h4 ⊢
    grind
  have hy0 : S 1115684864 ≠ 0 := by rw [sm_64.2]; decide
  have hq : (S (Flo.nar b) / 64) * S 1115684864 = S (Flo.nar b) := by rw [sm_64.2]; exact Rat.div_mul_cancel (by decide)
  have hb : Flo.Ab (S (Flo.nar b) / 64) 1000010 := by
    refine Flo.Ab.div (y := (64 : Rat)) (D := 1) ?_ (by grind) (by grind)
    rw [Rat.div_mul_cancel (by decide)]
    simpa using hS
  obtain ⟨r, q1, q2, q3⟩ := Flo.s_div (Flo.nar b) 1115684864 h3 sm_64.1 hy0 _ 1000010 hq hb (by grind)
  have hv20 := Flo.v_eq
  exact ⟨h1, h2, r, fun w => by unfold fres; rw [q1], by unfold fdr; rw [q1]; rfl, q2, by unfold Flo.Ab at hb q3 ⊢; grind⟩

/-- the factor of a damping -/
def dampF (z : Int) : Nat := opB .quo .f32 (floatOfInt .f32 z) 1148846080
def dampFOk (z : Int) : Bool := (floatBits .quo .f32 (floatOfInt .f32 z) 1148846080).isSome && fin .f32 (dampF z) &&
  (FloatKind.f32.format.order (dampF z) 0 == some .gt || FloatKind.f32.format.order (dampF z) 0 == some .eq) && (FloatKind.f32.format.order (dampF z) 1065353216 == some .lt || FloatKind.f32.format.order (dampF z) 1065353216 == some .eq)
def Fact (x : Nat) : Prop := Sm x ∧ (FloatKind.f32.format.order x 0 == some .gt || FloatKind.f32.format.order x 0 == some .eq) = true ∧ (FloatKind.f32.format.order x 1065353216 == some .lt || FloatKind.f32.format.order x 1065353216 == some .eq) = true
set_option maxRecDepth 100000 in
theorem dampF_all : (([0, 500, 900, 1000, 990] : List Int).all dampFOk) = true := by decide +kernel
theorem dampF_ok (z : Int) (hz : z ∈ ([0, 500, 900, 1000, 990] : List Int)) : (∀ w, fres w .quo .f32 (floatOfInt .f32 z) 1148846080 = dampF z) ∧ fdr .quo .f32 (floatOfInt .f32 z) 1148846080 = 0 ∧ Fact (dampF z) := by
  have h := dampF_all
  rw [List.all_eq_true] at h
  have h := h z hz
  unfold dampFOk at h
  simp only [Bool.and_eq_true] at h
  obtain ⟨⟨⟨h1, h2⟩, h3⟩, h4⟩ := h
  obtain ⟨r, hr⟩ := Option.isSome_iff_exists.1 h1
  exact ⟨fun w => (Calm.of hr).1.res w, (Calm.of hr).1.fdr, Sm_of h2, h3, h4⟩

/-- an event of a score of L samples and nb bodies -/
def EvOk (L nb : Nat) (t k b s m : Int) (f : Nat) : Prop :=
  0 ≤ t ∧ t ≤ L ∧ 0 ≤ b ∧ b < nb ∧
    ((k = 1 ∧ 0 ≤ s ∧ s ≤ 2 ∧ 1 ≤ m ∧ m ≤ 9 ∧ Sm f ∧ Flo.Ab (S f) 1000020) ∨ (k = 2 ∧ s = 0 ∧ m = 0 ∧ Fact f) ∨ (k = 3 ∧ s = 0 ∧ m = 0 ∧ f = 0))
def EvP (B : Nat) (w0 : World) (a : Option Addr) (len cap c L nb : Nat) (e : Ending) (w' : World) : Prop :=
  ∃ (t k b s m : Int) (f : Nat), e = .returned (evV t k b s m f) ∧ EvOk L nb t k b s m f ∧ At B w0 a len cap c w'

theorem info_int : (Tryz.prog.info? 3).map (fun i => (i.zero, i.size, i.bytes)) = some (some (.int .i64 0), 1, 8) := by kernel_rfl
theorem ints4L (w : World) (T : TypeId) (z0 z1 z2 z3 : Int) : IntsL ((w.alloc (.cells #[.int .i64 z0, .int .i64 z1, .int .i64 z2, .int .i64 z3] T (0, 0)))) w.heap.size [z0, z1, z2, z3] := by
  intro k z hk
  match k, hk with
  | 0, hk => simp at hk; subst hk; go_simp
  | 1, hk => simp at hk; subst hk; go_simp
  | 2, hk => simp at hk; subst hk; go_simp
  | 3, hk => simp at hk; subst hk; go_simp
  | k + 4, hk => simp at hk
theorem HasC.new (w : World) (T : TypeId) (v0 v1 v2 v3 v4 v5 : Value) : HasC (w.alloc (.cells #[v0, v1, v2, v3, v4, v5] T (0, 0))) w.heap.size [v0, v1, v2, v3, v4, v5] := by
  refine ⟨by simp, fun k v hk => ?_⟩
  match k, hk with
  | 0, hk => simp at hk; subst hk; constructor <;> go_simp
  | 1, hk => simp at hk; subst hk; constructor <;> go_simp
  | 2, hk => simp at hk; subst hk; constructor <;> go_simp
  | 3, hk => simp at hk; subst hk; constructor <;> go_simp
  | 4, hk => simp at hk; subst hk; constructor <;> go_simp
  | 5, hk => simp at hk; subst hk; constructor <;> go_simp
  | k + 6, hk => simp at hk

theorem six_at {w : World} {b : Nat} {v0 v1 v2 v3 v4 v5 : Value} (h : HasC w b [v0, v1, v2, v3, v4, v5]) :
    (w.cell? ⟨b, 0, none⟩ = some v0 ∧ w.frozen? ⟨b, 0, none⟩ = false) ∧ (w.cell? ⟨b, 1, none⟩ = some v1 ∧ w.frozen? ⟨b, 1, none⟩ = false) ∧ (w.cell? ⟨b, 2, none⟩ = some v2 ∧ w.frozen? ⟨b, 2, none⟩ = false) ∧
    (w.cell? ⟨b, 3, none⟩ = some v3 ∧ w.frozen? ⟨b, 3, none⟩ = false) ∧ (w.cell? ⟨b, 4, none⟩ = some v4 ∧ w.frozen? ⟨b, 4, none⟩ = false) ∧ (w.cell? ⟨b, 5, none⟩ = some v5 ∧ w.frozen? ⟨b, 5, none⟩ = false) :=
  ⟨h.2 0 _ rfl, h.2 1 _ rfl, h.2 2 _ rfl, h.2 3 _ rfl, h.2 4 _ rfl, h.2 5 _ rfl⟩

set_option maxHeartbeats 3200000 in
set_option maxRecDepth 100000 in
theorem l7Some_at (B : Nat) (w0 : World) (a : Option Addr) (len cap c L nb : Nat) (hL : L ≤ 500) (hn1 : 1 ≤ nb) (hn2 : nb ≤ 16) (w : World) (hc : At B w0 a len cap c w) :
    Calls Tryz.prog 25 #[.pointer (some ⟨c, 0, none⟩), .int .i64 (L : Int), .int .i64 (nb : Int)] w (EvP B w0 a len cap c L nb) := by
  obtain ⟨i0, hi, hz0, hz1, hz2⟩ := info_parts info_int
  have hui := Tryz.underlying63
  have hcs : c < w.heap.size := hc.1.2.1
  have hw0 : w0.heap.size ≤ w.heap.size := hc.2.size
  have R0 := Lib.hid (HasC.new w 68 (.int .i64 0) (.int .i64 0) (.int .i64 0) (.int .i64 0) (.int .i64 0) (.float .f32 0))
  have Hc := Lib.hid (hc.alloc (.cells #[.int .i64 0, .int .i64 0, .int .i64 0, .int .i64 0, .int .i64 0, .float .f32 0] 68 (0, 0)))
  clear hc
  go_enter Tryz.func25, Tryz.ntmps25
  go_wp2_with fail
  refine (below_at _ _ _ _ _ _ _ (by omega) (by omega) _ Hc.out.here).mono ?_
  rintro e w1 ⟨x1, x10, x11, rfl, hc1⟩
  have hs1 := hc1.2.size
  simp at hs1
  have H1 := Lib.hid (show At B w0 a len cap c w1 from ⟨hc1.1, Hc.out.2.trans hc1.2⟩)
  have R1 := Lib.hid (R0.out.kp hc1.2 (by omega))
  clear hc1
  go_wp2_with fail
  refine (below_at _ _ _ _ _ _ _ (by omega) (by omega) _ H1.out.here).mono ?_
  rintro e w2 ⟨x2, x20, x21, rfl, hc2⟩
  have hs2 := hc2.2.size
  have H2 := Lib.hid (At.alloc (show At B w0 a len cap c w2 from ⟨hc2.1, H1.out.2.trans hc2.2⟩) (.cells #[.int .i64 x1, .int .i64 0, .int .i64 x2, .int .i64 0, .int .i64 0, .float .f32 0] 68 (0, 0)))
  have R2 := Lib.hid ((R1.out.kp hc2.2 (by omega)).alloc (.cells #[.int .i64 x1, .int .i64 0, .int .i64 x2, .int .i64 0, .int .i64 0, .float .f32 0] 68 (0, 0)))
  have E2 := Lib.hid (HasC.new w2 68 (.int .i64 x1) (.int .i64 0) (.int .i64 x2) (.int .i64 0) (.int .i64 0) (.float .f32 0))
  clear hc2
  go_wp2_with fail
  refine (below_at _ _ _ _ _ _ _ (by omega) (by omega) _ H2.out.here).mono ?_
  rintro e w3 ⟨x3, x30, x31, rfl, hc3⟩
  have hs3 := hc3.2.size
  simp at hs3
  have H3 := Lib.hid (show At B w0 a len cap c w3 from ⟨hc3.1, H2.out.2.trans hc3.2⟩)
  have R3 := Lib.hid (R2.out.kp hc3.2 (by omega))
  have E3 := Lib.hid (E2.out.kp hc3.2 (by omega))
  clear hc3
  obtain ⟨⟨e0, eg0⟩, ⟨e1, eg1⟩, ⟨e2, eg2⟩, ⟨e3, eg3⟩, ⟨e4, eg4⟩, ⟨e5, eg5⟩⟩ := six_at E3.out
  have hEc : w2.heap.size ≠ c := by omega
  have hBE : B ≤ w2.heap.size := by have := Hc.out.1.1; omega
  have hwE : w0.heap.size ≤ w2.heap.size := by omega
  have hER : w2.heap.size ≠ w.heap.size := by omega
  have hRc : w.heap.size ≠ c := by omega
  have hBR : B ≤ w.heap.size := by have := Hc.out.1.1; omega
  have hwR : w0.heap.size ≤ w.heap.size := hw0
  by_cases hx0 : x3 = 0
  · subst hx0
    have H4 := Lib.hid (H3.out.set (p := ⟨w2.heap.size, 1, none⟩) hEc hBE hwE (.int .i64 2))
    have R4 := Lib.hid (R3.out.sete (p := ⟨w2.heap.size, 1, none⟩) hER (.int .i64 2))
    have E4 := Lib.hid (show HasC (w3.setCell ⟨w2.heap.size, 1, none⟩ (.int .i64 2)) w2.heap.size [.int .i64 x1, .int .i64 2, .int .i64 x2, .int .i64 0, .int .i64 0, .float .f32 0] from E3.out.set 1 (.int .i64 2))
    have hs4 : w3.heap.size = (w3.setCell ⟨w2.heap.size, 1, none⟩ (.int .i64 2)).heap.size := by simp [World.setCell]
    go_wp2_with fail
    clear e0 eg0 e1 eg1 e2 eg2 e3 eg3 e4 eg4 e5 eg5
    generalize w3.setCell ⟨w2.heap.size, 1, none⟩ (.int .i64 2) = w4 at *
    refine wp_buildSlice 63 3 4 _ rfl #[.int .i64 0, .int .i64 500, .int .i64 900, .int .i64 1000] i0 (.int .i64 0) hui hi hz0 (by rw [hz1]; decide) (by rw [hz1]; decide) (by rw [hz1]; kernel_rfl) ?_
    go_wp2_with fail
    refine (l01Int_in _ _ _ _ _ _ w4.heap.size 4 4 [0, 500, 900, 1000] rfl (by omega) (by omega) _ (H4.out.alloc (.cells #[.int .i64 0, .int .i64 500, .int .i64 900, .int .i64 1000] 3 (0, 0))).here (by simp) (by omega) (ints4L w4 3 0 500 900 1000)).mono ?_
    rintro e w5 ⟨x5, hm5, rfl, hc5⟩
    have H5 := Lib.hid (show At B w0 a len cap c w5 from ⟨hc5.1, (H4.out.alloc (.cells #[.int .i64 0, .int .i64 500, .int .i64 900, .int .i64 1000] 3 (0, 0))).2.trans hc5.2⟩)
    have R5 := Lib.hid ((R4.out.alloc (.cells #[.int .i64 0, .int .i64 500, .int .i64 900, .int .i64 1000] 3 (0, 0))).kp hc5.2 hRc)
    have E5 := Lib.hid ((E4.out.alloc (.cells #[.int .i64 0, .int .i64 500, .int .i64 900, .int .i64 1000] 3 (0, 0))).kp hc5.2 hEc)
    clear hc5
    obtain ⟨q3, q4, q5⟩ := dampF_ok x5 (by simp at hm5 ⊢; omega)
    obtain ⟨⟨e0, eg0⟩, ⟨e1, eg1⟩, ⟨e2, eg2⟩, ⟨e3, eg3⟩, ⟨e4, eg4⟩, ⟨e5, eg5⟩⟩ := six_at E5.out
    have H6 := Lib.hid (H5.out.set (p := ⟨w2.heap.size, 5, none⟩) hEc hBE hwE (.float .f32 (dampF x5)))
    have R6 := Lib.hid (R5.out.sete (p := ⟨w2.heap.size, 5, none⟩) hER (.float .f32 (dampF x5)))
    have E6 := Lib.hid (show HasC (w5.setCell ⟨w2.heap.size, 5, none⟩ (.float .f32 (dampF x5))) w2.heap.size [.int .i64 x1, .int .i64 2, .int .i64 x2, .int .i64 0, .int .i64 0, .float .f32 (dampF x5)] from E5.out.set 5 (.float .f32 (dampF x5)))
    obtain ⟨⟨f0, fg0⟩, ⟨f1, fg1⟩, ⟨f2, fg2⟩, ⟨f3, fg3⟩, ⟨f4, fg4⟩, ⟨f5, fg5⟩⟩ := six_at R6.out
    go_wp2_with fail
    exact bodyPost_ret (v := evV x1 2 x2 0 0 (dampF x5)) (by simp [results, evV, Tryz.results25, go_sem, f0, f1, f2, f3, f4, f5, fg0]) rfl
      ⟨_, _, _, _, _, _, rfl, ⟨x10, by omega, x20, x21, .inr (.inl ⟨rfl, rfl, rfl, q5⟩)⟩, ((((((H6.out.set (p := ⟨w.heap.size, 0, none⟩) hRc hBR hwR (.int .i64 x1)).set (p := ⟨w.heap.size, 1, none⟩) hRc hBR hwR (.int .i64 2)).set (p := ⟨w.heap.size, 2, none⟩) hRc hBR hwR (.int .i64 x2)).set (p := ⟨w.heap.size, 3, none⟩) hRc hBR hwR (.int .i64 0)).set (p := ⟨w.heap.size, 4, none⟩) hRc hBR hwR (.int .i64 0)).set (p := ⟨w.heap.size, 5, none⟩) hRc hBR hwR (.float .f32 (dampF x5)))⟩
  · by_cases hx1 : x3 = 1
    · subst hx1
      have H4 := Lib.hid (H3.out.set (p := ⟨w2.heap.size, 1, none⟩) hEc hBE hwE (.int .i64 3))
      have R4 := Lib.hid (R3.out.sete (p := ⟨w2.heap.size, 1, none⟩) hER (.int .i64 3))
      have E4 := Lib.hid (show HasC (w3.setCell ⟨w2.heap.size, 1, none⟩ (.int .i64 3)) w2.heap.size [.int .i64 x1, .int .i64 3, .int .i64 x2, .int .i64 0, .int .i64 0, .float .f32 0] from E3.out.set 1 (.int .i64 3))
      obtain ⟨⟨f0, fg0⟩, ⟨f1, fg1⟩, ⟨f2, fg2⟩, ⟨f3, fg3⟩, ⟨f4, fg4⟩, ⟨f5, fg5⟩⟩ := six_at R4.out
      go_wp2_with fail
      exact bodyPost_ret (v := evV x1 3 x2 0 0 0) (by simp [results, evV, Tryz.results25, go_sem, f0, f1, f2, f3, f4, f5, fg0]) rfl
        ⟨_, _, _, _, _, _, rfl, ⟨x10, by omega, x20, x21, .inr (.inr ⟨rfl, rfl, rfl, rfl⟩)⟩, ((((((H4.out.set (p := ⟨w.heap.size, 0, none⟩) hRc hBR hwR (.int .i64 x1)).set (p := ⟨w.heap.size, 1, none⟩) hRc hBR hwR (.int .i64 3)).set (p := ⟨w.heap.size, 2, none⟩) hRc hBR hwR (.int .i64 x2)).set (p := ⟨w.heap.size, 3, none⟩) hRc hBR hwR (.int .i64 0)).set (p := ⟨w.heap.size, 4, none⟩) hRc hBR hwR (.int .i64 0)).set (p := ⟨w.heap.size, 5, none⟩) hRc hBR hwR (.float .f32 0))⟩
    · have hx0' : ¬ ((x3 == 0) = true) := by simpa using hx0
      have hx1' : ¬ ((x3 == 1) = true) := by simpa using hx1
      have H4 := Lib.hid (H3.out.set (p := ⟨w2.heap.size, 1, none⟩) hEc hBE hwE (.int .i64 1))
      have R4 := Lib.hid (R3.out.sete (p := ⟨w2.heap.size, 1, none⟩) hER (.int .i64 1))
      have E4 := Lib.hid (show HasC (w3.setCell ⟨w2.heap.size, 1, none⟩ (.int .i64 1)) w2.heap.size [.int .i64 x1, .int .i64 1, .int .i64 x2, .int .i64 0, .int .i64 0, .float .f32 0] from E3.out.set 1 (.int .i64 1))
      go_wp2_with fail
      clear e0 eg0 e1 eg1 e2 eg2 e3 eg3 e4 eg4 e5 eg5
      generalize w3.setCell ⟨w2.heap.size, 1, none⟩ (.int .i64 1) = w4 at *
      refine (below_at _ _ _ _ _ _ _ (by omega) (by omega) _ H4.out.here).mono ?_
      rintro e w5 ⟨x5, x50, x51, rfl, hc5⟩
      have H5 := Lib.hid (show At B w0 a len cap c w5 from ⟨hc5.1, H4.out.2.trans hc5.2⟩)
      have R5 := Lib.hid (R4.out.kp hc5.2 hRc)
      have E5 := Lib.hid (E4.out.kp hc5.2 hEc)
      clear hc5
      obtain ⟨⟨e0, eg0⟩, ⟨e1, eg1⟩, ⟨e2, eg2⟩, ⟨e3, eg3⟩, ⟨e4, eg4⟩, ⟨e5, eg5⟩⟩ := six_at E5.out
      have H6 := Lib.hid (H5.out.set (p := ⟨w2.heap.size, 3, none⟩) hEc hBE hwE (.int .i64 x5))
      have R6 := Lib.hid (R5.out.sete (p := ⟨w2.heap.size, 3, none⟩) hER (.int .i64 x5))
      have E6 := Lib.hid (show HasC (w5.setCell ⟨w2.heap.size, 3, none⟩ (.int .i64 x5)) w2.heap.size [.int .i64 x1, .int .i64 1, .int .i64 x2, .int .i64 x5, .int .i64 0, .float .f32 0] from E5.out.set 3 (.int .i64 x5))
      go_wp2_with fail
      clear e0 eg0 e1 eg1 e2 eg2 e3 eg3 e4 eg4 e5 eg5
      generalize w5.setCell ⟨w2.heap.size, 3, none⟩ (.int .i64 x5) = w6 at *
      refine (below_at _ _ _ _ _ _ _ (by omega) (by omega) _ H6.out.here).mono ?_
      rintro e w7 ⟨x7, x70, x71, rfl, hc7⟩
      have H7 := Lib.hid (show At B w0 a len cap c w7 from ⟨hc7.1, H6.out.2.trans hc7.2⟩)
      have R7 := Lib.hid (R6.out.kp hc7.2 hRc)
      have E7 := Lib.hid (E6.out.kp hc7.2 hEc)
      clear hc7
      obtain ⟨⟨e0, eg0⟩, ⟨e1, eg1⟩, ⟨e2, eg2⟩, ⟨e3, eg3⟩, ⟨e4, eg4⟩, ⟨e5, eg5⟩⟩ := six_at E7.out
      have H8 := Lib.hid (H7.out.set (p := ⟨w2.heap.size, 4, none⟩) hEc hBE hwE (.int .i64 (1 + x7)))
      have R8 := Lib.hid (R7.out.sete (p := ⟨w2.heap.size, 4, none⟩) hER (.int .i64 (1 + x7)))
      have E8 := Lib.hid (show HasC (w7.setCell ⟨w2.heap.size, 4, none⟩ (.int .i64 (1 + x7))) w2.heap.size [.int .i64 x1, .int .i64 1, .int .i64 x2, .int .i64 x5, .int .i64 (1 + x7), .float .f32 0] from E7.out.set 4 (.int .i64 (1 + x7)))
      go_wp2_with fail
      clear e0 eg0 e1 eg1 e2 eg2 e3 eg3 e4 eg4 e5 eg5
      generalize w7.setCell ⟨w2.heap.size, 4, none⟩ (.int .i64 (1 + x7)) = w8 at *
      refine (l1Some_mo _ _ _ _ _ _ _ H8.out.here).mono ?_
      rintro e w9 ⟨x9, rfl, mo9, hc9⟩
      have H9 := Lib.hid (show At B w0 a len cap c w9 from ⟨hc9.1, H8.out.2.trans hc9.2⟩)
      have R9 := Lib.hid (R8.out.kp hc9.2 hRc)
      have E9 := Lib.hid (E8.out.kp hc9.2 hEc)
      clear hc9
      obtain ⟨q1, q2, r, q3, q4, q5⟩ := force_ok x9 mo9
      obtain ⟨⟨e0, eg0⟩, ⟨e1, eg1⟩, ⟨e2, eg2⟩, ⟨e3, eg3⟩, ⟨e4, eg4⟩, ⟨e5, eg5⟩⟩ := six_at E9.out
      have H10 := Lib.hid (H9.out.set (p := ⟨w2.heap.size, 5, none⟩) hEc hBE hwE (.float .f32 r))
      have R10 := Lib.hid (R9.out.sete (p := ⟨w2.heap.size, 5, none⟩) hER (.float .f32 r))
      have E10 := Lib.hid (show HasC (w9.setCell ⟨w2.heap.size, 5, none⟩ (.float .f32 r)) w2.heap.size [.int .i64 x1, .int .i64 1, .int .i64 x2, .int .i64 x5, .int .i64 (1 + x7), .float .f32 r] from E9.out.set 5 (.float .f32 r))
      obtain ⟨⟨f0, fg0⟩, ⟨f1, fg1⟩, ⟨f2, fg2⟩, ⟨f3, fg3⟩, ⟨f4, fg4⟩, ⟨f5, fg5⟩⟩ := six_at R10.out
      go_wp2_with fail
      exact bodyPost_ret (v := evV x1 1 x2 x5 (1 + x7) r) (by simp [results, evV, Tryz.results25, go_sem, f0, f1, f2, f3, f4, f5, fg0]) rfl
        ⟨_, _, _, _, _, _, rfl, ⟨x10, by omega, x20, x21, .inl ⟨rfl, x50, by omega, by omega, by omega, q5⟩⟩, ((((((H10.out.set (p := ⟨w.heap.size, 0, none⟩) hRc hBR hwR (.int .i64 x1)).set (p := ⟨w.heap.size, 1, none⟩) hRc hBR hwR (.int .i64 1)).set (p := ⟨w.heap.size, 2, none⟩) hRc hBR hwR (.int .i64 x2)).set (p := ⟨w.heap.size, 3, none⟩) hRc hBR hwR (.int .i64 x5)).set (p := ⟨w.heap.size, 4, none⟩) hRc hBR hwR (.int .i64 (1 + x7))).set (p := ⟨w.heap.size, 5, none⟩) hRc hBR hwR (.float .f32 r))⟩

end Go.Proofs.YtiakcibeobbonaaGreat

/- What draws scores, third part: bodies and events in memory; the append of one of them.
   Conditions: those that each statement names. -/
namespace Go.Proofs.YtiakcibeobbonaaGreat
set_option linter.unusedSimpArgs false
set_option linter.unusedVariables false
open Go Go.RowKit

def Ev6.ok (L nb : Nat) (e : Ev6) : Prop := EvOk L nb e.t e.k e.b e.s e.m e.f
/-! ### the score, in memory -/
structure ScoI (B : Nat) (w0 : World) (a : Option Addr) (len cap c bS bR base L : Nat) (V : Int) (C R : Nat) (bs : List (List M4)) (es : List Ev6) (sv ev : Value) (wr : World) : Prop where
  at' : At B w0 a len cap c wr
  hs : HasC wr bS [.int .i64 (L : Int), .int .i64 V, .float .f32 C, .float .f32 R, sv, ev]
  hr : HasC wr bR [.int .i64 0, .int .i64 0, .float .f32 0, .float .f32 0, .slice none 0 0, .slice none 0 0]
  bods : BodsR wr base sv bs
  evs : wr.ownsRow base 68 6 ev es.length (cellsE es)
  bok : ∀ ms ∈ bs, ms.length ≤ 4 ∧ ∀ m ∈ ms, m.ok
  eok : ∀ e ∈ es, e.ok L bs.length
  sz : base ≤ wr.heap.size
theorem HasC.grown {w w' : World} {b : Nat} {cs : List Value} {row : Option Nat} (h : HasC w b cs) (hk : w.grownBy w' row) (hr : row ≠ some b) : HasC w' b cs := h.of hk.size (hk.block b h.1 (fun e => hr e.symm))
theorem ScoI.kp {B : Nat} {w0 : World} {a : Option Addr} {len cap c bS bR base L : Nat} {V : Int} {C R : Nat} {bs : List (List M4)} {es : List Ev6} {sv ev : Value} {w w' : World} (h : ScoI B w0 a len cap c bS bR base L V C R bs es sv ev w)
    (ha : At B w0 a len cap c w') (hk : Kp c w w') (h1 : bS ≠ c) (h2 : bR ≠ c) (h3 : c < base) : ScoI B w0 a len cap c bS bR base L V C R bs es sv ev w' :=
  ⟨ha, h.hs.kp hk h1, h.hr.kp hk h2, h.bods.kp hk h3, own_kp h.evs hk h3, h.bok, h.eok, Nat.le_trans h.sz hk.size⟩
theorem ScoI.nw {B : Nat} {w0 : World} {a : Option Addr} {len cap c bS bR base L : Nat} {V : Int} {C R : Nat} {bs : List (List M4)} {es : List Ev6} {sv ev : Value} {w w' : World} (h : ScoI B w0 a len cap c bS bR base L V C R bs es sv ev w)
    (hk : Nw w w') : ScoI B w0 a len cap c bS bR base L V C R bs es sv ev w' :=
  ⟨h.at'.nw hk, h.hs.nw hk, h.hr.nw hk, h.bods.nw hk, own_nw h.evs hk, h.bok, h.eok, Nat.le_trans h.sz hk.size⟩

/-- a body more -/
theorem ScoI.body {B : Nat} {w0 : World} {a : Option Addr} {len cap c bS bR base L b2 : Nat} {V : Int} {C R : Nat} {bs : List (List M4)} {sv sv' rv : Value} {vs : List Value} {ms : List M4} {w w' : World} (h : ScoI B w0 a len cap c bS bR base L V C R bs [] sv (.slice none 0 0) w)
    (ho : w.ownsRow base 65 1 sv bs.length vs) (hi : ∀ (p : Nat) r, bs[p]? = some r → ∃ v, vs[p]? = some v ∧ w.ownsRow base 93 2 v r.length (cellsM r))
    (hr : w.ownsRow b2 93 2 rv ms.length (cellsM ms)) (hb : base ≤ b2) (hm : ms.length ≤ 4 ∧ ∀ m ∈ ms, m.ok)
    (hn : w'.ownsRow base 65 1 sv' (bs.length + 1) (vs ++ [rv])) (hg : w.grownBy w' sv.ownBlock) (hc : c < base) (hB : B ≤ base) (hw : w0.heap.size ≤ base) (h1 : bS < base) (h2 : bR < base) (h3 : bS ≠ c) (h4 : B ≤ bS) (h5 : w0.heap.size ≤ bS) (h6 : bS ≠ bR) :
    HasC w' bS [.int .i64 (L : Int), .int .i64 V, .float .f32 C, .float .f32 R, sv, .slice none 0 0] ∧
    ScoI B w0 a len cap c bS bR base L V C R (bs ++ [ms]) [] sv' (.slice none 0 0) (w'.setCell ⟨bS, 4, none⟩ sv') := by
  have hrow : ∀ g, sv.ownBlock = some g → base ≤ g := fun g hg => own_ge ho g hg
  have a' := h.at'.grown hg hrow hc hB hw
  have s' := h.hs.grown hg (fun e => by have := hrow _ e; omega)
  have r' := h.hr.grown hg (fun e => by have := hrow _ e; omega)
  have b' := BodsR.snoc ho hi hr hb hn hg
  have z' := hg.size
  refine ⟨s', a'.set (p := ⟨bS, 4, none⟩) h3 h4 h5 _, ?_, r'.sete (p := ⟨bS, 4, none⟩) h6 _, b'.set h1 _, World.ownsRow_nil _ _ _ _, ?_, by simp, by have := h.sz; simp; omega⟩
  · have := s'.set 4 sv'
    simpa using this
  · intro x hx
    rcases List.mem_append.1 hx with hx | hx
    · exact h.bok x hx
    · simp at hx; subst hx; exact hm

/-- an event more -/
theorem ScoI.event {B : Nat} {w0 : World} {a : Option Addr} {len cap c bS bR base L : Nat} {V : Int} {C R : Nat} {bs : List (List M4)} {es : List Ev6} {sv ev ev' : Value} {e : Ev6} {w w' : World} (h : ScoI B w0 a len cap c bS bR base L V C R bs es sv ev w)
    (he : e.ok L bs.length) (hn : w'.ownsRow base 68 6 ev' (es.length + 1) (cellsE (es ++ [e]))) (hg : w.grownBy w' ev.ownBlock) (hc : c < base) (hB : B ≤ base) (hw : w0.heap.size ≤ base) (h1 : bS < base) (h2 : bR < base) (h3 : bS ≠ c) (h4 : B ≤ bS) (h5 : w0.heap.size ≤ bS) (h6 : bS ≠ bR) :
    HasC w' bS [.int .i64 (L : Int), .int .i64 V, .float .f32 C, .float .f32 R, sv, ev] ∧
    ScoI B w0 a len cap c bS bR base L V C R bs (es ++ [e]) sv ev' (w'.setCell ⟨bS, 5, none⟩ ev') := by
  have hrow : ∀ g, ev.ownBlock = some g → base ≤ g := fun g hg => own_ge h.evs g hg
  have a' := h.at'.grown hg hrow hc hB hw
  have s' := h.hs.grown hg (fun e => by have := hrow _ e; omega)
  have r' := h.hr.grown hg (fun e => by have := hrow _ e; omega)
  have b' := h.bods.grown h.evs (by decide) (by decide) hg
  have z' := hg.size
  refine ⟨s', a'.set (p := ⟨bS, 5, none⟩) h3 h4 h5 _, ?_, r'.sete (p := ⟨bS, 5, none⟩) h6 _, b'.set h1 _, by rw [List.length_append]; exact own_set hn h1 _, h.bok, ?_, by have := h.sz; simp; omega⟩
  · have := s'.set 5 ev'
    simpa using this
  · intro x hx
    rcases List.mem_append.1 hx with hx | hx
    · exact h.eok x hx
    · simp at hx; subst hx; exact he

/-- the result is stored -/
theorem ScoI.ret {B : Nat} {w0 : World} {a : Option Addr} {len cap c bS bR base L : Nat} {V : Int} {C R : Nat} {bs : List (List M4)} {es : List Ev6} {sv ev : Value} {w : World} (h : ScoI B w0 a len cap c bS bR base L V C R bs es sv ev w)
    (hb : bR < base) (h1 : bR ≠ c) (h2 : B ≤ bR) (h3 : w0.heap.size ≤ bR) (v0 v1 v2 v3 v4 v5 : Value) :
    BodsR ((((((w.setCell ⟨bR, 0, none⟩ v0).setCell ⟨bR, 1, none⟩ v1).setCell ⟨bR, 2, none⟩ v2).setCell ⟨bR, 3, none⟩ v3).setCell ⟨bR, 4, none⟩ v4).setCell ⟨bR, 5, none⟩ v5) bR sv bs ∧
    ((((((w.setCell ⟨bR, 0, none⟩ v0).setCell ⟨bR, 1, none⟩ v1).setCell ⟨bR, 2, none⟩ v2).setCell ⟨bR, 3, none⟩ v3).setCell ⟨bR, 4, none⟩ v4).setCell ⟨bR, 5, none⟩ v5).ownsRow bR 68 6 ev es.length (cellsE es) ∧
    At B w0 a len cap c ((((((w.setCell ⟨bR, 0, none⟩ v0).setCell ⟨bR, 1, none⟩ v1).setCell ⟨bR, 2, none⟩ v2).setCell ⟨bR, 3, none⟩ v3).setCell ⟨bR, 4, none⟩ v4).setCell ⟨bR, 5, none⟩ v5) :=
  ⟨BodsR.base ((((((h.bods.set (p := ⟨bR, 0, none⟩) hb _).set (p := ⟨bR, 1, none⟩) hb _).set (p := ⟨bR, 2, none⟩) hb _).set (p := ⟨bR, 3, none⟩) hb _).set (p := ⟨bR, 4, none⟩) hb _).set (p := ⟨bR, 5, none⟩) hb _) (by omega),
   own_base (own_set (p := ⟨bR, 5, none⟩) (own_set (p := ⟨bR, 4, none⟩) (own_set (p := ⟨bR, 3, none⟩) (own_set (p := ⟨bR, 2, none⟩) (own_set (p := ⟨bR, 1, none⟩) (own_set (p := ⟨bR, 0, none⟩) h.evs hb _) hb _) hb _) hb _) hb _) hb _) (by omega),
   (((((h.at'.set (p := ⟨bR, 0, none⟩) h1 h2 h3 _).set (p := ⟨bR, 1, none⟩) h1 h2 h3 _).set (p := ⟨bR, 2, none⟩) h1 h2 h3 _).set (p := ⟨bR, 3, none⟩) h1 h2 h3 _).set (p := ⟨bR, 4, none⟩) h1 h2 h3 _).set (p := ⟨bR, 5, none⟩) h1 h2 h3 _⟩

end Go.Proofs.YtiakcibeobbonaaGreat

/- All voices of a drawn score stay bounded: their steps and sums overflow nowhere (FnShifted, FnCut).
   Conditions: those that each statement names. -/
namespace Go.Proofs.YtiakcibeobbonaaGreat
set_option linter.unusedSimpArgs false
set_option linter.unusedVariables false
open Go Go.RowKit

/-! ### places of shapes -/
structure UnitP (v : Nat) : Prop where
  sm : Sm v
  ge : (FloatKind.f32.format.order v 0 == some .gt || FloatKind.f32.format.order v 0 == some .eq) = true
  le : (FloatKind.f32.format.order v 1065353216 == some .lt || FloatKind.f32.format.order v 1065353216 == some .eq) = true
theorem unitP_ok {v : Nat} (h : unitB v = true) : UnitP v := by
  unfold unitB at h
  simp only [Bool.and_eq_true, beq_iff_eq] at h
  obtain ⟨⟨⟨h1, h2⟩, h3⟩, -⟩ := h
  exact ⟨Sm_of h1, h2, h3⟩
theorem unit_range {v : Nat} (h0 : Sm v) (k0 : (FloatKind.f32.format.order v 0 == some .gt || FloatKind.f32.format.order v 0 == some .eq) = true) (k1 : (FloatKind.f32.format.order v 1065353216 == some .lt || FloatKind.f32.format.order v 1065353216 == some .eq) = true) : 0 ≤ S v ∧ S v ≤ 1 := by
  have o0 := Flo.order_num Ieee.single v 0 h0 zero_single.1
  have o1 := Flo.order_num Ieee.single v 1065353216 h0 one_s.1
  have z : Flo.V Ieee.single 0 = 0 := zero_single.2
  have z1 : Flo.V Ieee.single 1065353216 = 1 := one_s.2
  rw [show FloatKind.f32.format = Ieee.single from rfl, Bool.or_eq_true, beq_iff_eq, beq_iff_eq, o0.2.2, o0.2.1, z] at k0
  rw [show FloatKind.f32.format = Ieee.single from rfl, Bool.or_eq_true, beq_iff_eq, beq_iff_eq, o1.1, o1.2.1, z1] at k1
  have k0' : 0 < S v ∨ S v = 0 := k0
  have k1' : S v < 1 ∨ S v = 1 := k1
  constructor <;> grind
theorem UnitP.range {v : Nat} (h : UnitP v) : 0 ≤ S v ∧ S v ≤ 1 := unit_range h.sm h.ge h.le
theorem Fact.range {v : Nat} (h : Fact v) : 0 ≤ S v ∧ S v ≤ 1 := unit_range h.1 h.2.1 h.2.2
theorem shapeP_mem (kind n : Nat) (hk : kind ≤ 2) (hn : n ≤ 64) : ∀ x ∈ shapeL kind n, UnitP x := by
  intro x hx
  obtain ⟨i, hi, rfl⟩ := List.mem_map.1 hx
  exact unitP_ok (shape_unit kind n i hk hn (List.mem_range.1 hi))

/-- a force is no more than a million -/
theorem force_mul (x f : Nat) (hx : UnitP x) (h1 : Sm f) (h2 : Flo.Ab (S f) 1000020) : Calm .mul .f32 x f ∧ Sm (opB .mul .f32 x f) ∧ ra (S (opB .mul .f32 x f)) ≤ 2097152 := by
  obtain ⟨a0, a1⟩ := hx.range
  have l1 : Flo.pw 22 = 4194304 := Flo.pw_nat 22
  have l2 : Flo.pw 22 ≤ Flo.pw 127 := Flo.pw_le (by omega)
  have hp : Flo.Ab (S x * S f) 1000020 := by
    have k1 := Rat.mul_le_mul_of_nonneg_left h2.1 a0
    have k2 := Rat.mul_le_mul_of_nonneg_left h2.2 a0
    constructor <;> grind
  obtain ⟨r, q1, q2, q3⟩ := Flo.s_mul x f hx.sm h1 1000020 hp (by grind)
  obtain ⟨c1, c2⟩ := Calm.of q1
  refine ⟨c1, c2 ▸ q2, ?_⟩
  rw [c2]
  rw [v_val] at q3
  obtain ⟨e1, e2⟩ := es_tiny
  refine ra_le ?_
  unfold Flo.Ab at q3 hp ⊢
  grind

/-! ### a voice -/
structure PrtOk (B X : Rat) (p : Prt) : Prop where
  ms : ∀ m ∈ p.ms, m.ok
  len : p.ms.length ≤ 16
  st : p.st.length = p.ms.length
  box : ∀ s ∈ p.st, Sm s.1 ∧ Sm s.2 ∧ N (S s.1) (S s.2) B
  xs : ∀ x ∈ p.xs, Sm x ∧ ra (S x) ≤ X
  xl : p.xs.length ≤ 64
theorem PrtOk.mono {B B' X : Rat} {p : Prt} (h : PrtOk B X p) (hB : B ≤ B') : PrtOk B' X p :=
  ⟨h.ms, h.len, h.st, fun s hs => ⟨(h.box s hs).1, (h.box s hs).2.1, (h.box s hs).2.2.mono hB⟩, h.xs, h.xl⟩
theorem PrtOk.damp {B X : Rat} {p : Prt} (h : PrtOk B X p) {t : Nat} (ht : Fact t) : PrtOk B X (p.damp t) := by
  refine ⟨fun m hm => ?_, by simpa [Prt.damp] using h.len, by simpa [Prt.damp] using h.st, h.box, h.xs, h.xl⟩
  obtain ⟨m0, h0, rfl⟩ := List.mem_map.1 hm
  exact dampM_ok m0 t (h.ms m0 h0) ht.1 ht.range.1 ht.range.2
theorem PrtOk.input {B X : Rat} {p : Prt} (h : PrtOk B X p) (hX : 0 ≤ X) : Sm (inputOf p.xs 0) ∧ ra (S (inputOf p.xs 0)) ≤ X := by
  unfold inputOf
  cases hx : p.xs with
  | nil =>
    refine ⟨zero_single.1, ?_⟩
    show ra (S 0) ≤ X
    rw [zero_single.2]
    unfold ra
    rw [if_neg (by grind)]
    exact hX
  | cons x l => exact h.xs x (by rw [hx]; exact List.mem_cons_self)
theorem PrtOk.step {B X : Rat} {p : Prt} (h : PrtOk B X p) (hX : 0 ≤ X) (hB0 : 0 ≤ B) (hB : B ≤ Flo.pw 104) (hX2 : 4096 * X + 1 ≤ Flo.pw 104) :
    (∀ (k : Nat) m s, p.ms[k]? = some m → p.st[k]? = some s → StepOk m s (inputOf p.xs 0)) ∧ SumOk (stepAll p.ms p.st (inputOf p.xs 0)) ∧
    PrtOk (2 * B + (4096 * X + 1)) X p.next ∧ Sm p.out ∧ Flo.Ab (S p.out) (Flo.pw 112) := by
  obtain ⟨i1, i2⟩ := h.input hX
  have l2 : (1 : Rat) ≤ Flo.pw 104 := by have h := Flo.pw_le (a := 0) (b := 104) (by omega); rw [show Flo.pw 0 = 1 from Flo.pw_nat 0] at h; exact h
  have hs : ∀ (k : Nat) m s, p.ms[k]? = some m → p.st[k]? = some s → StepOk m s (inputOf p.xs 0) ∧ Sm (stepS m s (inputOf p.xs 0)).1 ∧ Sm (stepS m s (inputOf p.xs 0)).2 ∧ N (S (stepS m s (inputOf p.xs 0)).1) (S (stepS m s (inputOf p.xs 0)).2) (2 * B + (4096 * X + 1)) := by
    intro k m s hm hk
    obtain ⟨b1, b2, b3⟩ := h.box s (List.mem_of_getElem? hk)
    obtain ⟨c1, c2, c3, c4⟩ := step_box m (h.ms m (List.mem_of_getElem? hm)) s _ b1 b2 i1 B X b3 i2 hB (by grind)
    exact ⟨c1, c2, c3, c4.mono (by grind)⟩
  have hbox : ∀ s ∈ stepAll p.ms p.st (inputOf p.xs 0), Sm s.1 ∧ Sm s.2 ∧ N (S s.1) (S s.2) (2 * B + (4096 * X + 1)) := by
    intro s hsm
    unfold stepAll at hsm
    obtain ⟨k, hk⟩ := List.getElem?_of_mem hsm
    rw [List.getElem?_zipWith] at hk
    cases hm : p.ms[k]? with
    | none => rw [hm] at hk; simp at hk
    | some m =>
      cases ht : p.st[k]? with
      | none => rw [hm, ht] at hk; simp at hk
      | some t =>
        rw [hm, ht] at hk
        simp at hk
        subst hk
        exact (hs k m t hm ht).2
  have hlen : (stepAll p.ms p.st (inputOf p.xs 0)).length = p.ms.length := by
    unfold stepAll
    rw [List.length_zipWith, h.st, Nat.min_self]
  have l106 : Flo.pw 106 = 4 * Flo.pw 104 := by rw [show (106 : Int) = 2 + 104 from rfl, Flo.pw_add, show Flo.pw 2 = 4 from Flo.pw_nat 2]
  have l112 : Flo.pw 112 = 256 * Flo.pw 104 := by rw [show (112 : Int) = 8 + 104 from rfl, Flo.pw_add, show Flo.pw 8 = 256 from Flo.pw_nat 8]
  obtain ⟨u1, u2, u3⟩ := sum_ok (stepAll p.ms p.st (inputOf p.xs 0)) (2 * B + (4096 * X + 1)) (by grind) (by grind) (by rw [hlen]; exact h.len) fun s hs => ⟨(hbox s hs).1, (hbox s hs).2.2.ab.1⟩
  refine ⟨fun k m s a b => (hs k m s a b).1, u1, ⟨h.ms, h.len, hlen, hbox, fun x hx => h.xs x (List.mem_of_mem_drop hx), ?_⟩, u2, u3.mono (by grind)⟩
  show (p.xs.drop 1).length ≤ 64
  have := h.xl
  simp
  omega
theorem strikeP_ok (bs : List (List M4)) (hbs : ∀ ms ∈ bs, ms.length ≤ 4 ∧ ∀ m ∈ ms, m.ok) (L : Nat) (e : Ev6) (he : e.ok L bs.length) (hk : e.k = 1) (B : Rat) (hB : 0 ≤ B) : PrtOk B 2097152 (strikeP bs e) := by
  obtain ⟨-, -, b0, b1, h⟩ := he
  have h : 0 ≤ e.s ∧ e.s ≤ 2 ∧ 1 ≤ e.m ∧ e.m ≤ 9 ∧ Sm e.f ∧ Flo.Ab (S e.f) 1000020 := by
    rcases h with ⟨-, h⟩ | ⟨h, -⟩ | ⟨h, -⟩
    · exact h
    · rw [hk] at h; cases h
    · rw [hk] at h; cases h
  obtain ⟨h1, h2, h3, h4, h5, h6⟩ := h
  have hlt : e.b.toNat < bs.length := by omega
  have hm : bs.getD e.b.toNat [] ∈ bs := by
    rw [List.getD_eq_getElem?_getD, List.getElem?_eq_getElem hlt]
    exact List.getElem_mem hlt
  obtain ⟨m1, m2⟩ := hbs _ hm
  refine ⟨m2, Nat.le_trans m1 (by omega), by simp [strikeP], fun s hs => ?_, fun x hx => ?_, ?_⟩
  · have e0 := List.eq_of_mem_replicate hs
    subst e0
    refine ⟨zero_single.1, zero_single.1, ?_⟩
    show N (S 0) (S 0) B
    rw [zero_single.2]
    exact N.zero.mono hB
  · obtain ⟨y, hy, rfl⟩ := List.mem_map.1 hx
    obtain ⟨-, a, b⟩ := force_mul y e.f (shapeP_mem e.s.toNat e.m.toNat (by omega) (by omega) y hy) h5 h6
    exact ⟨a, b⟩
  · simp [strikeP, shapeL]
    omega

/-! ### all voices -/
def PsOk (V : Nat) (B : Rat) (ps : List Prt) : Prop := ps.length ≤ V ∧ ∀ p ∈ ps, PrtOk B 2097152 p
theorem PsOk.nil (V : Nat) (B : Rat) : PsOk V B [] := ⟨Nat.zero_le _, fun p h => by simp at h⟩
section
variable (bs : List (List M4)) (hbs : ∀ ms ∈ bs, ms.length ≤ 4 ∧ ∀ m ∈ ms, m.ok) (L V : Nat) (hV : 1 ≤ V)
include hbs hV
theorem takeE_ok (e : Ev6) (he : e.ok L bs.length) (B : Rat) (hB : 0 ≤ B) (ps : List Prt) (h : PsOk V B ps) : PsOk V B (takeE bs V ps e) := by
  obtain ⟨h1, h2⟩ := h
  unfold takeE
  split
  · rename_i hk
    have hs := strikeP_ok bs hbs L e he hk B hB
    split
    · refine ⟨by simp; omega, fun p hp => ?_⟩
      rw [List.mem_append] at hp
      rcases hp with hp | hp
      · exact h2 p (List.mem_of_mem_drop hp)
      · rw [List.mem_singleton] at hp
        subst hp
        exact hs
    · refine ⟨by simp; omega, fun p hp => ?_⟩
      rw [List.mem_append] at hp
      rcases hp with hp | hp
      · exact h2 p hp
      · rw [List.mem_singleton] at hp
        subst hp
        exact hs
  · split
    · rename_i hk1 hk
      have hf : Fact e.f := by
        obtain ⟨-, -, -, -, h⟩ := he
        rcases h with ⟨h, -⟩ | ⟨-, -, -, h⟩ | ⟨h, -⟩
        · exact absurd h hk1
        · exact h
        · rw [hk] at h; cases h
      refine ⟨by simpa using h1, fun p hp => ?_⟩
      obtain ⟨q, hq, rfl⟩ := List.mem_map.1 hp
      split
      · exact (h2 q hq).damp hf
      · exact h2 q hq
    · split
      · exact ⟨Nat.le_trans (List.length_filter_le _ _) h1, fun p hp => h2 p (List.mem_filter.1 hp).1⟩
      · exact ⟨h1, h2⟩
theorem takes_ok (B : Rat) (hB : 0 ≤ B) : ∀ (es : List Ev6), (∀ e ∈ es, e.ok L bs.length) → ∀ ps, PsOk V B ps → PsOk V B (es.foldl (takeE bs V) ps)
  | [], _, _, h => h
  | e :: es, he, ps, h => takes_ok B hB es (fun x hx => he x (List.mem_cons_of_mem _ hx)) _ (takeE_ok bs hbs L V hV e (he e List.mem_cons_self) B hB ps h)
variable (es : List Ev6) (hes : ∀ e ∈ es, e.ok L bs.length)
include hes
/-- the bound at a sample -/
def boxAt : Nat → Rat
  | 0 => 0
  | i + 1 => 2 * boxAt i + 8589934593
omit hbs hV hes in
theorem boxAt_eq : ∀ i, boxAt i + 8589934593 = Flo.pw (i : Int) * 8589934593
  | 0 => by show (0 : Rat) + _ = Flo.pw 0 * _; rw [show Flo.pw 0 = 1 from Flo.pw_nat 0]; grind
  | i + 1 => by
    have h := boxAt_eq i
    rw [show ((i + 1 : Nat) : Int) = (i : Int) + 1 from by omega, Flo.pw_succ]
    show 2 * boxAt i + 8589934593 + 8589934593 = _
    grind
omit hbs hV hes in
theorem boxAt_nonneg (i : Nat) : 0 ≤ boxAt i := by
  induction i with
  | zero => exact Rat.le_refl
  | succ i ih => show 0 ≤ 2 * boxAt i + 8589934593; grind
omit hbs hV hes in
theorem boxAt_le (i : Nat) (hi : i ≤ 70) : boxAt i ≤ Flo.pw 104 := by
  have h := boxAt_eq i
  have h1 : Flo.pw (i : Int) ≤ Flo.pw 70 := Flo.pw_le (by omega)
  have h2 : Flo.pw 104 = Flo.pw 70 * 17179869184 := by rw [show (104 : Int) = 70 + 34 from rfl, Flo.pw_add, show Flo.pw 34 = 17179869184 from Flo.pw_nat 34]
  have h3 := Flo.pw_pos 70
  grind
theorem pre_ok : ∀ i, i ≤ 70 → PsOk V (boxAt i) (preP bs V es i)
  | 0, _ => PsOk.nil _ _
  | i + 1, hi => by
    have h := takes_ok bs hbs L V hV (boxAt i) (boxAt_nonneg i) (evAt es i) (fun e he => hes e (List.mem_filter.1 he).1) _ (pre_ok i (by omega))
    refine ⟨by rw [preP_succ, List.length_map]; exact h.1, fun p hp => ?_⟩
    rw [preP_succ] at hp
    obtain ⟨q, hq, rfl⟩ := List.mem_map.1 hp
    have l2 : Flo.pw 40 ≤ Flo.pw 104 := Flo.pw_le (by omega)
    rw [show Flo.pw 40 = 1099511627776 from Flo.pw_nat 40] at l2
    have := ((h.2 q hq).step (by grind) (boxAt_nonneg i) (boxAt_le i (by omega)) (by grind)).2.2.1
    exact this.mono (by show _ ≤ 2 * boxAt i + 8589934593; grind)
theorem tk_ok (i : Nat) (hi : i ≤ 70) : PsOk V (boxAt i) (tkP bs V es i) :=
  takes_ok bs hbs L V hV (boxAt i) (boxAt_nonneg i) (evAt es i) (fun e he => hes e (List.mem_filter.1 he).1) _ (pre_ok bs hbs L V hV es hes i hi)
end
/-- voices whose outputs are summed -/
theorem sumP_ok (ps : List Prt) (h : ∀ p ∈ ps, Sm p.out ∧ Flo.Ab (S p.out) (Flo.pw 112)) (hl : ps.length ≤ 16) : ∀ k, k ≤ ps.length →
    Sm (sumP (ps.take k)) ∧ Flo.Ab (S (sumP (ps.take k))) ((k : Rat) * (2 * Flo.pw 112)) ∧ ∀ (j : Nat) p, j < k → ps[j]? = some p → Calm .add .f32 (sumP (ps.take j)) p.out := by
  intro k
  induction k with
  | zero =>
    intro _
    refine ⟨zero_single.1, ?_, fun j p hj => by omega⟩
    show Flo.Ab (S 0) _
    rw [zero_single.2]
    unfold Flo.Ab
    grind
  | succ k ih =>
    intro hk
    obtain ⟨i1, i2, i3⟩ := ih (by omega)
    obtain ⟨p, hp⟩ : ∃ p, ps[k]? = some p := ⟨ps[k]'(by omega), List.getElem?_eq_getElem _⟩
    obtain ⟨b1, b2⟩ := h p (List.mem_of_getElem? hp)
    have hk16 : (k : Rat) ≤ 16 := by exact_mod_cast (by omega : k ≤ 16)
    have hk0 : (0 : Rat) ≤ k := by exact_mod_cast Nat.zero_le k
    have l0 := Flo.pw_pos 112
    have hkB2 : (k : Rat) * (2 * Flo.pw 112) ≤ 16 * (2 * Flo.pw 112) := Rat.mul_le_mul_of_nonneg_right hk16 (by grind)
    have hkB0 := Rat.mul_nonneg hk0 (show 0 ≤ 2 * Flo.pw 112 by grind)
    have l1 : Flo.pw 127 = 32768 * Flo.pw 112 := by rw [show (127 : Int) = 15 + 112 from rfl, Flo.pw_add, show Flo.pw 15 = 32768 from Flo.pw_nat 15]
    have l2 : (1 : Rat) ≤ Flo.pw 112 := by have h := Flo.pw_le (a := 0) (b := 112) (by omega); rw [show Flo.pw 0 = 1 from Flo.pw_nat 0] at h; exact h
    obtain ⟨r, q1, q2, q3⟩ := Flo.s_add (sumP (ps.take k)) p.out i1 b1 ((k : Rat) * (2 * Flo.pw 112) + Flo.pw 112) (i2.add b2) (by grind)
    obtain ⟨c1, c2⟩ := Calm.of q1
    have er : sumP (ps.take (k + 1)) = r := by
      rw [List.take_add_one, hp]
      unfold sumP
      rw [List.foldl_append]
      exact c2
    refine ⟨er ▸ q2, ?_, fun j p' hj hp' => ?_⟩
    · rw [er]
      have e : ((k + 1 : Nat) : Rat) = (k : Rat) + 1 := by exact_mod_cast rfl
      rw [e]
      rw [v_val] at q3
      obtain ⟨e1, e2⟩ := es_tiny
      have i4 := i2.add b2
      unfold Flo.Ab at q3 i4 ⊢
      grind
    · by_cases hj' : j = k
      · subst hj'
        rw [hp] at hp'
        cases hp'
        exact c1
      · exact i3 j p' (by omega) hp'
end Go.Proofs.YtiakcibeobbonaaGreat

/- A voice takes a step: stepVoice (FnShifted, FnCut).
   Conditions: those that each statement names. -/
namespace Go.Proofs.YtiakcibeobbonaaGreat
set_option linter.unusedSimpArgs false
set_option linter.unusedVariables false
open Go Go.RowKit

/-- samples that are seen from somewhere in a row on -/
def View (w : World) (base : Nat) (v : Value) (xs : List Nat) : Prop :=
  ∃ (g off cap : Nat) (cur : Array Value), v = .slice (some ⟨g, off, none⟩) xs.length cap ∧ xs.length ≤ cap ∧ cap ≤ maxLen ∧ base ≤ g ∧ w.heap[g]? = some (.cells cur 23 (0, 0)) ∧ ∀ (k : Nat) x, xs[k]? = some x → w.cell? ⟨g, off + k, none⟩ = some (.float .f32 x)
theorem View.base {w : World} {base b2 : Nat} {v : Value} {xs : List Nat} (h : View w base v xs) (hb : b2 ≤ base) : View w b2 v xs := by
  obtain ⟨g, off, cap, cur, h1, h2, h3, h4, h5, h6⟩ := h
  exact ⟨g, off, cap, cur, h1, h2, h3, Nat.le_trans hb h4, h5, h6⟩
theorem View.lt {w : World} {base : Nat} {v : Value} {xs : List Nat} (h : View w base v xs) : ∀ k, v.ownBlock = some k → base ≤ k ∧ k < w.heap.size := by
  obtain ⟨g, off, cap, cur, rfl, h2, h3, h4, h5, h6⟩ := h
  intro k hk
  cases hk
  exact ⟨h4, (Array.getElem?_eq_some_iff.1 h5).1⟩
theorem View.of {w w' : World} {base : Nat} {v : Value} {xs : List Nat} (h : View w base v xs) (hb : ∀ k, v.ownBlock = some k → w'.heap[k]? = w.heap[k]?) : View w' base v xs := by
  obtain ⟨g, off, cap, cur, rfl, h2, h3, h4, h5, h6⟩ := h
  have e := hb g rfl
  exact ⟨g, off, cap, cur, rfl, h2, h3, h4, e.trans h5, fun k x hx => (World.cell?_of_block (w := w) (a := ⟨g, off + k, none⟩) e).trans (h6 k x hx)⟩
theorem View.nw {w w' : World} {base : Nat} {v : Value} {xs : List Nat} (h : View w base v xs) (hk : Nw w w') : View w' base v xs :=
  h.of fun k e => hk.block k (h.lt k e).2 (by simp)
theorem set_block (w : World) (p : Addr) (u : Value) (k : Nat) (h : p.block ≠ k) : (w.setCell p u).heap[k]? = w.heap[k]? := by
  exact Below.heap_setCell w p u k (fun e => h e.symm)
theorem View.set {w : World} {base : Nat} {v : Value} {xs : List Nat} (h : View w base v xs) {p : Addr} (hp : p.block < base) (u : Value) : View (w.setCell p u) base v xs :=
  h.of fun k e => set_block w p u k (by have := (h.lt k e).1; omega)
theorem View.grown {w w' : World} {base b2 : Nat} {E : TypeId} {size n : Nat} {v u : Value} {xs : List Nat} {us : List Value} (h : View w base v xs) (hr : w.ownsRow b2 E size u n us) (hE : E ≠ 23) (hg : w.grownBy w' u.ownBlock) : View w' base v xs := by
  refine h.of fun k e => hg.block k (h.lt k e).2 fun e2 => ?_
  obtain ⟨g, off, cap, cur, rfl, h2, h3, h4, h5, h6⟩ := h
  cases e
  rcases hr.2 with ⟨rfl, _⟩ | ⟨g', cap', cur', rfl, q1, q2, q3⟩
  · cases e2
  · cases e2
    rw [h5] at q2
    cases q2
    exact hE rfl
/-- a row of its own is seen from its beginning on -/
theorem View.own {w : World} {base n : Nat} {v : Value} {xs : List Nat} (h : w.ownsRow base 23 1 v n (cellsS xs)) (hn : n = xs.length) (h1 : 1 ≤ n) : View w base v xs := by
  subst hn
  rcases h.2 with ⟨_, h0⟩ | ⟨g, cap, cur, rfl, q1, q2, q3, q4, q5⟩
  · omega
  · refine ⟨g, 0, cap, cur, rfl, q3, q4, q1, q2, fun k x hx => ?_⟩
    have hk := (List.getElem?_eq_some_iff.1 hx).1
    have c := h.cellAt k (by omega)
    rw [show (cellsS xs)[k]? = some (.float .f32 x) from by simp [cellsS, hx]] at c
    simpa using c
theorem sampleAt_view (xs : List Nat) (base : Nat) (v : Value) (w : World) (h : View w base v xs) (hl : xs.length ≤ 1048576) :
    Calls Tryz.prog 62 #[v, .int .i64 0] w fun e w' => e = .returned (.float .f32 (inputOf xs 0)) ∧ w = w' := by
  obtain ⟨g, off, cap, cur, rfl, h2, h3, h4, h5, h6⟩ := h
  have hg : g < w.heap.size := (Array.getElem?_eq_some_iff.1 h5).1
  unfold maxLen at h3
  clear h4 h5
  match xs, h2, h6, hl with
  | [], h2, h6, hl =>
    clear h6
    go_enter Tryz.func62, Tryz.ntmps62
    go_wp2
    go_ret
    exact ⟨rfl, rfl⟩
  | x :: l, h2, h6, hl =>
    have e1 := h6 0 x rfl
    clear h6
    rw [List.length_cons] at h2 hl ⊢
    generalize l.length = n at *
    rw [Nat.add_zero] at e1
    go_enter Tryz.func62, Tryz.ntmps62
    go_wp2
    go_ret
    exact ⟨rfl, rfl⟩

theorem gr_drew {w w' : World} {r : Option Nat} (h : w.drew.grownBy w' r) : w.grownBy w' r := ⟨h.os, h.tape, h.output, h.size, h.block⟩
theorem gr_cell {w w' : World} {q gs o : Nat} {v : Value} (h : w.grownBy w' (some gs)) (hq : q < w.heap.size) (hne : q ≠ gs) (hc : w.cell? ⟨q, o, none⟩ = some v) : w'.cell? ⟨q, o, none⟩ = some v :=
  h.cell hc (by simpa using hne)
theorem gr_frozen {w w' : World} {q gs o : Nat} {b : Bool} (h : w.grownBy w' (some gs)) (hq : q < w.heap.size) (hne : q ≠ gs) (hc : w.frozen? ⟨q, o, none⟩ = b) : w'.frozen? ⟨q, o, none⟩ = b :=
  (World.frozen?_of_block (w := w) (a := ⟨q, o, none⟩) (h.block q hq (by simpa using hne))).trans hc

def StepVP (b2 bs gs n q o : Nat) (vo : Option Nat) (y : Nat) (ss : List (Nat × Nat)) (xs : List Nat) (w : World) (e : Ending) (w' : World) : Prop :=
  e = .returned (.float .f32 y) ∧ ∃ (w1 : World) (vi : Value), Nw (w1.setCell ⟨q, o + 3, none⟩ vi) w' ∧ View w1 b2 vi xs ∧ vi.ownBlock = vo ∧ w1.ownsRow bs 91 1 (.slice (some ⟨gs, 0, none⟩) n n) n (cellsC ss) ∧ w.grownBy w1 (some gs)
set_option maxHeartbeats 3200000 in
set_option maxRecDepth 100000 in
theorem stepVoice_ok (ms : List M4) (ss : List (Nat × Nat)) (xs : List Nat) (n gs bs bm b2 q o : Nat) (vm vi : Value) (hms : ∀ m ∈ ms, m.ok) (hn : ms.length = n) (hss : ss.length = n) (hn16 : n ≤ 16) (hxl : xs.length ≤ 1048576) (w : World)
    (c1 : w.cell? ⟨q, o + 1, none⟩ = some vm) (c2 : w.cell? ⟨q, o + 2, none⟩ = some (.slice (some ⟨gs, 0, none⟩) n n)) (c3 : w.cell? ⟨q, o + 3, none⟩ = some vi) (cf : w.frozen? ⟨q, o + 3, none⟩ = false) (hq : q < w.heap.size) (hqs : q ≠ gs)
    (hm : w.ownsRow bm 93 2 vm n (cellsM ms)) (hs : w.ownsRow bs 91 1 (.slice (some ⟨gs, 0, none⟩) n n) n (cellsC ss)) (hv : View w b2 vi xs) (hne : vm.ownBlock ≠ some gs)
    (hok : ∀ (k : Nat) m s, ms[k]? = some m → ss[k]? = some s → StepOk m s (inputOf xs 0)) (hsum : SumOk (stepAll ms ss (inputOf xs 0))) :
    Calls Tryz.prog 35 #[.pointer (some ⟨q, o, none⟩)] w (StepVP b2 bs gs n q o vi.ownBlock (outS (stepAll ms ss (inputOf xs 0))) (stepAll ms ss (inputOf xs 0)) (xs.drop 1) w) := by
  have Hm := Lib.hid hm
  have Hs := Lib.hid hs
  have Hv := Lib.hid hv
  have Hok := Lib.hid hok
  have Hsum := Lib.hid hsum
  have Hms := Lib.hid hms
  have Hn := Lib.hid (And.intro hn hss)
  clear hm hs hv hok hsum hms hn hss
  go_enter Tryz.func35, Tryz.ntmps35
  go_upto_region 1 with fail
  refine wp_region_held_drew (S := fun w' => w'.cell? ⟨q, o + 1, none⟩ = some vm ∧ w'.cell? ⟨q, o + 2, none⟩ = some (.slice (some ⟨gs, 0, none⟩) n n) ∧ w'.cell? ⟨q, o + 3, none⟩ = some vi) (by kernel_rfl) ?_ (fun hHeld => ?_)
  · exact ⟨c1, c2, c3⟩
  refine wpAnyH_take (i := 0) (oi := _) (v := ?_) rfl (by kernel_rfl) (by kernel_rfl) (by kernel_rfl) (fun _ _ _ h => h) (_root_.Or.inl ⟨by rfl, ?_⟩) (by assumption) ?_
  rotate_left
  · intro w hSw
    (try dsimp only at hSw)
    go_simp
    all_goals with_reducible rfl
  try simp only [Act.put, List.setIfInBounds_toArray, List.set_cons_zero, List.set_cons_succ]
  refine wpAnyH_take (i := 1) (oi := _) (v := ?_) rfl (by kernel_rfl) (by kernel_rfl) (by kernel_rfl) (fun _ _ _ h => h) (_root_.Or.inl ⟨by rfl, ?_⟩) (by assumption) ?_
  rotate_left
  · intro w hSw
    (try dsimp only at hSw)
    go_simp
    all_goals with_reducible rfl
  try simp only [Act.put, List.setIfInBounds_toArray, List.set_cons_zero, List.set_cons_succ]
  refine wpAnyH_take (i := 2) (oi := _) (v := ?_) rfl (by kernel_rfl) (by kernel_rfl) (by kernel_rfl) (fun _ _ _ h => h) (_root_.Or.inl ⟨by rfl, ?_⟩) (by assumption) ?_
  rotate_left
  · intro w hSw
    (try dsimp only at hSw)
    go_simp
    all_goals with_reducible rfl
  try simp only [Act.put, List.setIfInBounds_toArray, List.set_cons_zero, List.set_cons_succ]
  refine wpAnyH_take (i := 3) (oi := _) (v := ?_) rfl (by kernel_rfl) (by kernel_rfl) (by kernel_rfl) (fun _ _ _ h => h) (_root_.Or.inl ⟨by rfl, ?_⟩) (by assumption) ?_
  rotate_left
  · intro w hSw
    (try dsimp only at hSw)
    go_simp
    all_goals with_reducible rfl
  try simp only [Act.put, List.setIfInBounds_toArray, List.set_cons_zero, List.set_cons_succ]
  refine wpAnyH_take (i := 4) (oi := _) (v := ?_) rfl (by kernel_rfl) (by kernel_rfl) (by kernel_rfl) (fun _ _ _ h => h) (_root_.Or.inl ⟨by rfl, ?_⟩) (by assumption) ?_
  rotate_left
  · intro w hSw
    (try dsimp only at hSw)
    go_simp
    all_goals with_reducible rfl
  try simp only [Act.put, List.setIfInBounds_toArray, List.set_cons_zero, List.set_cons_succ]
  refine wpAnyH_take (i := 5) (oi := _) (v := ?_) rfl (by kernel_rfl) (by kernel_rfl) (by kernel_rfl) (fun _ _ _ h => h) (_root_.Or.inl ⟨by rfl, ?_⟩) (by assumption) ?_
  rotate_left
  · intro w hSw
    (try dsimp only at hSw)
    go_simp
    all_goals with_reducible rfl
  try simp only [Act.put, List.setIfInBounds_toArray, List.set_cons_zero, List.set_cons_succ]
  refine wpAnyH_take (i := 6) (oi := _) (v := ?_) rfl (by kernel_rfl) (by kernel_rfl) (by kernel_rfl) (fun _ _ _ h => h) (_root_.Or.inl ⟨by rfl, ?_⟩) (by assumption) ?_
  rotate_left
  · intro w hSw
    (try dsimp only at hSw)
    go_simp
    all_goals with_reducible rfl
  try simp only [Act.put, List.setIfInBounds_toArray, List.set_cons_zero, List.set_cons_succ]
  refine wpAnyH_take (i := 7) (oi := _) (v := ?_) rfl (by kernel_rfl) (by kernel_rfl) (by kernel_rfl) (fun _ _ _ h => h) (_root_.Or.inl ⟨by rfl, ?_⟩) (by assumption) ?_
  rotate_left
  · intro w hSw
    (try dsimp only at hSw)
    go_simp
    all_goals with_reducible rfl
  try simp only [Act.put, List.setIfInBounds_toArray, List.set_cons_zero, List.set_cons_succ]
  refine wpAnyH_take (i := 8) (oi := _) (v := ?_) rfl (by kernel_rfl) (by kernel_rfl) (by kernel_rfl) (fun _ _ _ h => h) (_root_.Or.inl ⟨by rfl, ?_⟩) (by assumption) ?_
  rotate_left
  · intro w hSw
    (try dsimp only at hSw)
    go_simp
    all_goals with_reducible rfl
  try simp only [Act.put, List.setIfInBounds_toArray, List.set_cons_zero, List.set_cons_succ]
  refine wpAnyH_take (i := 9) (oi := _) (v := ?_) rfl (by kernel_rfl) (by kernel_rfl) (by kernel_rfl) (fun _ _ _ h => h) (_root_.Or.inl ⟨by rfl, ?_⟩) (by assumption) ?_
  rotate_left
  · intro w hSw
    (try dsimp only at hSw)
    go_simp
    all_goals with_reducible rfl
  try simp only [Act.put, List.setIfInBounds_toArray, List.set_cons_zero, List.set_cons_succ]
  refine wpAnyH_take (i := 10) (oi := _) (v := ?_) rfl (by kernel_rfl) (by kernel_rfl) (by kernel_rfl) (fun _ _ _ h => h) (_root_.Or.inl ⟨by rfl, ?_⟩) (by assumption) ?_
  rotate_left
  · intro w hSw
    (try dsimp only at hSw)
    go_simp
    all_goals with_reducible rfl
  try simp only [Act.put, List.setIfInBounds_toArray, List.set_cons_zero, List.set_cons_succ]
  refine wpAnyH_take (i := 11) (oi := _) (v := ?_) rfl (by kernel_rfl) (by kernel_rfl) (by kernel_rfl) (fun _ _ _ h => h) (_root_.Or.inl ⟨by rfl, ?_⟩) (by assumption) ?_
  rotate_left
  · intro w hSw
    (try dsimp only at hSw)
    go_simp
    all_goals with_reducible rfl
  try simp only [Act.put, List.setIfInBounds_toArray, List.set_cons_zero, List.set_cons_succ]
  refine wpAnyH_ready (rs := [12]) (by kernel_rfl) (by simp) ?_
  refine AllReadyH.cons (o := _) rfl (fun K hK => ?_) AllReadyH.nil
  go_simp
  go_at_call 62
  refine (sampleAt_view xs b2 vi _ (Hv.out.nw ((Nw.refl w).draw 1)) hxl).mono ?_
  rintro e w1 ⟨rfl, rfl⟩
  go_wp2_with fail
  refine hK.out _ _ ?_ (fun hHeld => ?_)
  · exact ⟨c1, c2, c3⟩
  clear hK K
  try simp only [Act.put, List.setIfInBounds_toArray, List.set_cons_zero, List.set_cons_succ]
  refine wpAnyH_ready (rs := [13]) (by kernel_rfl) (by simp) ?_
  refine AllReadyH.cons (o := _) rfl (fun K hK => ?_) AllReadyH.nil
  go_simp
  go_at_call 61
  refine (stepStates_ok ms Hms.out ss (inputOf xs 0) n gs bs bm vm Hn.out.1 Hn.out.2 hn16 _ (own_nw Hm.out ((Nw.refl w).draw 1)) (own_nw Hs.out ((Nw.refl w).draw 1)) hne Hok.out Hsum.out).mono ?_
  rintro e w1 ⟨rfl, own1, gr1⟩
  have Own := Lib.hid own1
  have Gr := Lib.hid (gr_drew gr1)
  have k1 := gr_cell Gr.out hq hqs c1
  have k2 := gr_cell Gr.out hq hqs c2
  have k3 := gr_cell Gr.out hq hqs c3
  have kf := gr_frozen Gr.out hq hqs cf
  clear own1 gr1 c1 c2 c3 cf hHeld
  go_wp2_with fail
  refine hK.out _ _ ?_ (fun hHeld => ?_)
  · exact ⟨k1, k2, k3⟩
  clear hK K
  try simp only [Act.put, List.setIfInBounds_toArray, List.set_cons_zero, List.set_cons_succ]
  refine wpAnyH_take (i := 14) (oi := _) (v := ?_) rfl (by kernel_rfl) (by kernel_rfl) (by kernel_rfl) (fun _ _ _ h => h) (_root_.Or.inl ⟨by rfl, ?_⟩) (by assumption) ?_
  rotate_left
  · intro w hSw
    (try dsimp only at hSw)
    go_simp
    all_goals with_reducible rfl
  try simp only [List.getElem_toArray, List.getElem_cons_succ, List.getElem_cons_zero, Act.put, List.setIfInBounds_toArray, List.set_cons_zero, List.set_cons_succ]
  refine wpAnyH_done (by kernel_rfl) ?_ _
  have V1 := Lib.hid (Hv.out.grown Hs.out (by decide) Gr.out)
  clear k1 k2 hHeld Hv Hsum Hok Hms
  generalize outS (stepAll ms ss (inputOf xs 0)) = y at *
  generalize stepAll ms ss (inputOf xs 0) = ss' at *
  obtain ⟨g, off, cap, cur, rfl, h2, h3, h4, h5, h6⟩ := V1.out
  have hq1 : q < w1.heap.size := Nat.lt_of_lt_of_le hq Gr.out.size
  have hg : g < w1.heap.size := (Array.getElem?_eq_some_iff.1 h5).1
  unfold maxLen at h3
  have Fin := Lib.hid (show ∀ vi', View w1 b2 vi' (xs.drop 1) → vi'.ownBlock = some g → StepVP b2 bs gs n q o (some g) y ss' (xs.drop 1) w (.returned (.float .f32 y)) (w1.setCell ⟨q, o + 3, none⟩ vi').drew from fun vi' hv' ho' => ⟨rfl, w1, vi', (Nw.refl _).draw 1, hv', ho', Own.out, Gr.out⟩)
  have e6 : ∀ (k : Nat) y, (xs.drop 1)[k]? = some y → w1.cell? ⟨g, off + 1 + k, none⟩ = some (.float .f32 y) := fun k y hk => by rw [show off + 1 + k = off + (k + 1) from by omega]; exact h6 (k + 1) y (by rw [List.getElem?_drop] at hk; rw [Nat.add_comm]; exact hk)
  have e7 : (xs.drop 1).length = xs.length - 1 := by simp
  clear Own Gr V1 h6
  generalize inputOf xs 0 = x0 at *
  generalize xs.drop 1 = tl at *
  generalize xs.length = xn at *
  by_cases hx0 : xn = 0
  · subst hx0
    have V2 := Lib.hid (Fin.out (.slice (some ⟨g, off, none⟩) 0 cap) ⟨g, off, cap, cur, by rw [e7], by rw [e7]; omega, by unfold maxLen; omega, h4, h5, fun k x hx => by rw [List.eq_nil_of_length_eq_zero e7] at hx; simp at hx⟩ rfl)
    clear Fin h5 h4 e6
    go_wp2_with fail
    go_region
    go_wp2_with fail
    go_ret
    exact V2.out
  · have hx1 : ¬ ((xn : Int) < 1) := by omega
    by_cases hc1 : cap = 1
    · obtain rfl : xn = 1 := by omega
      subst hc1
      have V2 := Lib.hid (Fin.out (.slice (some ⟨g, off, none⟩) 0 0) ⟨g, off, 0, cur, by rw [e7], by rw [e7]; omega, by unfold maxLen; omega, h4, h5, fun k x hx => by rw [List.eq_nil_of_length_eq_zero e7] at hx; simp at hx⟩ rfl)
      clear Fin h5 h4 e6
      go_wp2_with fail
      go_region
      go_wp2_with fail
      go_ret
      exact V2.out
    · have V2 := Lib.hid (Fin.out (.slice (some ⟨g, off + 1, none⟩) (xn - 1) (cap - 1)) ⟨g, off + 1, cap - 1, cur, by rw [e7], by rw [e7]; omega, by unfold maxLen; omega, h4, h5, e6⟩ rfl)
      clear Fin h5 h4 e6
      go_wp2_with fail
      go_region
      go_wp2_with fail
      go_ret
      exact V2.out
end Go.Proofs.YtiakcibeobbonaaGreat

/- The voices of a player in memory (FnShifted, FnCut).
   Conditions: those that each statement names. -/
namespace Go.Proofs.YtiakcibeobbonaaGreat
set_option linter.unusedSimpArgs false
set_option linter.unusedVariables false
open Go Go.RowKit

/-- where a voice lies: its modes, the block of its states, its input, its track -/
structure Loc where
  vm : Value
  g : Nat
  vi : Value
  tr : Int
def cellP (z : Prt × Loc) : List Value := [.int .i64 z.1.b, z.2.vm, .slice (some ⟨z.2.g, 0, none⟩) z.1.ms.length z.1.ms.length, z.2.vi, .int .i64 z.2.tr]
def cellsP : List (Prt × Loc) → List Value
  | [] => []
  | z :: l => cellP z ++ cellsP l
theorem cellsP_len : ∀ zs, (cellsP zs).length = zs.length * 5
  | [] => rfl
  | z :: l => by simp [cellsP, cellP, cellsP_len l]; omega
theorem cellsP_append : ∀ a b, cellsP (a ++ b) = cellsP a ++ cellsP b
  | [], b => rfl
  | z :: a, b => by simp [cellsP, cellsP_append a b]
theorem cellsP_get : ∀ (zs : List (Prt × Loc)) (k j : Nat) z, zs[k]? = some z → j < 5 → (cellsP zs)[k * 5 + j]? = (cellP z)[j]?
  | [], k, j, z, h, _ => by simp at h
  | y :: l, 0, j, z, h, hj => by
    simp at h
    subst h
    rw [Nat.zero_mul, Nat.zero_add, cellsP, List.getElem?_append_left (by simpa [cellP] using hj)]
  | y :: l, k + 1, j, z, h, hj => by
    rw [cellsP, List.getElem?_append_right (by simp [cellP]; omega), show (k + 1) * 5 + j - (cellP y).length = k * 5 + j from by simp [cellP]; omega]
    exact cellsP_get l k j z (by simpa using h) hj
theorem cellsP_set : ∀ (zs : List (Prt × Loc)) (k : Nat) z z', zs[k]? = some z → z'.1.b = z.1.b → z'.1.ms.length = z.1.ms.length → z'.2.vm = z.2.vm → z'.2.g = z.2.g → z'.2.tr = z.2.tr → (cellsP zs).set (k * 5 + 3) z'.2.vi = cellsP (zs.set k z')
  | [], k, z, z', h, _, _, _, _, _ => by simp at h
  | y :: l, 0, z, z', h, h1, h2, h3, h4, h5 => by
    simp at h
    subst h
    simp [cellsP, cellP, h1, h2, h3, h4, h5]
  | y :: l, k + 1, z, z', h, h1, h2, h3, h4, h5 => by
    rw [cellsP, List.set_append_right _ _ (by simp [cellP]; omega), show (k + 1) * 5 + 3 - (cellP y).length = k * 5 + 3 from by simp [cellP]; omega, cellsP_set l k z z' (by simpa using h) h1 h2 h3 h4 h5]
    rfl

/-- a voice's rows -/
structure PartIn (w : World) (base : Nat) (z : Prt × Loc) : Prop where
  ms : w.ownsRow base 93 2 z.2.vm z.1.ms.length (cellsM z.1.ms)
  st : w.ownsRow base 91 1 (.slice (some ⟨z.2.g, 0, none⟩) z.1.ms.length z.1.ms.length) z.1.ms.length (cellsC z.1.st)
  xs : View w base z.2.vi z.1.xs
theorem PartIn.base {w : World} {base b2 : Nat} {z : Prt × Loc} (h : PartIn w base z) (hb : b2 ≤ base) : PartIn w b2 z := ⟨own_base h.ms hb, own_base h.st hb, h.xs.base hb⟩
theorem PartIn.nw {w w' : World} {base : Nat} {z : Prt × Loc} (h : PartIn w base z) (hk : Nw w w') : PartIn w' base z := ⟨own_nw h.ms hk, own_nw h.st hk, h.xs.nw hk⟩
theorem PartIn.set {w : World} {base : Nat} {z : Prt × Loc} (h : PartIn w base z) {p : Addr} (hp : p.block < base) (u : Value) : PartIn (w.setCell p u) base z := ⟨own_set h.ms hp u, own_set h.st hp u, h.xs.set hp u⟩
/-- a row of parts grows: what the parts name stays -/
theorem PartIn.grown {w w' : World} {base b2 size n : Nat} {z : Prt × Loc} {u : Value} {us : List Value} (h : PartIn w base z) (hr : w.ownsRow b2 84 size u n us) (hg : w.grownBy w' u.ownBlock) : PartIn w' base z :=
  ⟨h.ms.kept hg (rows_apart h.ms hr (by decide)), h.st.kept hg (rows_apart h.st hr (by decide)), h.xs.grown hr (by decide) hg⟩
/-- two voices lie apart -/
def PApt (x y : Prt × Loc) : Prop := x.2.g ≠ y.2.g ∧ (x.2.vm.ownBlock = none ∨ x.2.vm.ownBlock ≠ y.2.vm.ownBlock)
/-- the parts of a player -/
structure PartsR (w : World) (base : Nat) (pv : Value) (zs : List (Prt × Loc)) : Prop where
  row : w.ownsRow base 84 5 pv zs.length (cellsP zs)
  ins : ∀ z ∈ zs, PartIn w base z
  apt : ∀ (i j : Nat) x y, i ≠ j → zs[i]? = some x → zs[j]? = some y → PApt x y
theorem PartsR.nil (w : World) (base : Nat) : PartsR w base (.slice none 0 0) [] := ⟨World.ownsRow_nil _ _ _ _, fun z h => by simp at h, fun i j x y _ h => by simp at h⟩
theorem PartsR.base {w : World} {base b2 : Nat} {pv : Value} {zs : List (Prt × Loc)} (h : PartsR w base pv zs) (hb : b2 ≤ base) : PartsR w b2 pv zs := ⟨own_base h.row hb, fun z hz => (h.ins z hz).base hb, h.apt⟩
theorem PartsR.nw {w w' : World} {base : Nat} {pv : Value} {zs : List (Prt × Loc)} (h : PartsR w base pv zs) (hk : Nw w w') : PartsR w' base pv zs := ⟨own_nw h.row hk, fun z hz => (h.ins z hz).nw hk, h.apt⟩
theorem PartsR.set {w : World} {base : Nat} {pv : Value} {zs : List (Prt × Loc)} (h : PartsR w base pv zs) {p : Addr} (hp : p.block < base) (u : Value) : PartsR (w.setCell p u) base pv zs := ⟨own_set h.row hp u, fun z hz => (h.ins z hz).set hp u, h.apt⟩

/-- a voice has taken its step -/
theorem PartsR.step {w w1 w' : World} {base g0 cap k : Nat} {vi : Value} {zs : List (Prt × Loc)} {p : Prt} {l : Loc} (h : PartsR w base (.slice (some ⟨g0, 0, none⟩) zs.length cap) zs) (hk : zs[k]? = some (p, l))
    (hg : w.grownBy w1 (some l.g)) (hs : w1.ownsRow base 91 1 (.slice (some ⟨l.g, 0, none⟩) p.ms.length p.ms.length) p.ms.length (cellsC p.next.st)) (hv : View w1 base vi p.next.xs) (hn : Nw (w1.setCell ⟨g0, k * 5 + 3, none⟩ vi) w') :
    PartsR w' base (.slice (some ⟨g0, 0, none⟩) zs.length cap) (zs.set k (p.next, { l with vi := vi })) := by
  have hz := h.ins _ (List.mem_of_getElem? hk)
  have hkl := (List.getElem?_eq_some_iff.1 hk).1
  have r1 : w1.ownsRow base 84 5 (.slice (some ⟨g0, 0, none⟩) zs.length cap) zs.length (cellsP zs) := h.row.kept hg (rows_apart h.row hz.st (by decide))
  obtain ⟨s1, s2⟩ := r1.stored (k * 5 + 3) vi
  have e := cellsP_set zs k (p, l) (p.next, { l with vi := vi }) hk rfl rfl rfl rfl rfl
  refine ⟨by rw [List.length_set, ← e]; exact own_nw s1 hn, fun z hzm => ?_, fun i j x y hij hx hy => ?_⟩
  · obtain ⟨j, hj⟩ := List.getElem?_of_mem hzm
    by_cases hjk : j = k
    · subst hjk
      rw [List.getElem?_set_self hkl] at hj
      cases hj
      have m1 : w1.ownsRow base 93 2 l.vm p.ms.length (cellsM p.ms) := hz.ms.kept hg (rows_apart hz.ms hz.st (by decide))
      exact ⟨own_nw (m1.kept s2 (rows_apart m1 r1 (by decide))) hn, own_nw (hs.kept s2 (rows_apart hs r1 (by decide))) hn, (hv.grown r1 (by decide) s2).nw hn⟩
    · rw [List.getElem?_set_ne (by omega)] at hj
      have hy := h.ins z (List.mem_of_getElem? hj)
      have ha := h.apt k j (p, l) z (by omega) hk hj
      have m1 := hy.ms.kept hg (rows_apart hy.ms hz.st (by decide))
      have m2 := hy.st.kept hg (.inr (by show some z.2.g ≠ some l.g; intro e; exact ha.1 (by injection e with e; exact e.symm)))
      have m3 := hy.xs.grown hz.st (by decide) hg
      exact ⟨own_nw (m1.kept s2 (rows_apart m1 r1 (by decide))) hn, own_nw (m2.kept s2 (rows_apart m2 r1 (by decide))) hn, (m3.grown r1 (by decide) s2).nw hn⟩
  · have ap : ∀ (i : Nat) x, (zs.set k (p.next, { l with vi := vi }))[i]? = some x → ∃ x0, zs[i]? = some x0 ∧ x0.2.g = x.2.g ∧ x0.2.vm = x.2.vm := by
      intro i x hx
      by_cases hik : i = k
      · subst hik
        rw [List.getElem?_set_self hkl] at hx
        cases hx
        exact ⟨_, hk, rfl, rfl⟩
      · rw [List.getElem?_set_ne (by omega)] at hx
        exact ⟨x, hx, rfl, rfl⟩
    obtain ⟨x0, a1, a2, a3⟩ := ap i x hx
    obtain ⟨y0, b1, b2, b3⟩ := ap j y hy
    have := h.apt i j x0 y0 hij a1 b1
    unfold PApt at this ⊢
    rw [← a2, ← a3, ← b2, ← b3]
    exact this
/-- a voice behind the others -/
theorem PartsR.snoc {w w1 : World} {base b2 : Nat} {pv pv' : Value} {zs : List (Prt × Loc)} {z : Prt × Loc} (h : PartsR w base pv zs) (hz : PartIn w b2 z) (hb : base ≤ b2)
    (hlt : ∀ x ∈ zs, x.2.g < b2 ∧ ∀ q, x.2.vm.ownBlock = some q → q < b2)
    (hn : w1.ownsRow base 84 5 pv' (zs.length + 1) (cellsP (zs ++ [z]))) (hg : w.grownBy w1 pv.ownBlock) : PartsR w1 base pv' (zs ++ [z]) := by
  refine ⟨by rw [List.length_append]; exact hn, fun y hy => ?_, fun i j x y hij hx hy => ?_⟩
  · rw [List.mem_append, List.mem_singleton] at hy
    rcases hy with hy | rfl
    · exact (h.ins y hy).grown h.row hg
    · exact (hz.base hb).grown h.row hg
  · have h1 : ∀ x ∈ zs, PApt x z ∧ PApt z x := by
      intro x hx
      obtain ⟨a1, a2⟩ := hlt x hx
      have b1 := (hz.st.lt z.2.g rfl).1
      have b2' := fun q hq => (hz.ms.lt q hq).1
      refine ⟨⟨by omega, ?_⟩, ⟨by omega, ?_⟩⟩
      · cases hq : x.2.vm.ownBlock with
        | none => exact .inl rfl
        | some q => exact .inr fun e => by have := a2 q hq; have := b2' q e.symm; omega
      · cases hq : z.2.vm.ownBlock with
        | none => exact .inl rfl
        | some q => exact .inr fun e => by have := a2 q e.symm; have := b2' q hq; omega
    have hxm := List.mem_append.1 (List.mem_of_getElem? hx)
    have il := (List.getElem?_eq_some_iff.1 hx).1
    have jl := (List.getElem?_eq_some_iff.1 hy).1
    simp at il jl
    by_cases hi : i < zs.length
    · rw [List.getElem?_append_left hi] at hx
      by_cases hj : j < zs.length
      · rw [List.getElem?_append_left hj] at hy
        exact h.apt i j x y hij hx hy
      · obtain rfl : j = zs.length := by omega
        rw [List.getElem?_append_right (Nat.le_refl _), Nat.sub_self] at hy
        simp at hy
        subst hy
        exact (h1 x (List.mem_of_getElem? hx)).1
    · obtain rfl : i = zs.length := by omega
      rw [List.getElem?_append_right (Nat.le_refl _), Nat.sub_self] at hx
      simp at hx
      subst hx
      rw [List.getElem?_append_left (by omega)] at hy
      exact (h1 y (List.mem_of_getElem? hy)).2
end Go.Proofs.YtiakcibeobbonaaGreat

/- A row's cells are written one behind another; the first element of a row of parts goes (FnShifted, FnCut).
   Conditions: those that each statement names. -/
namespace Go.Proofs.YtiakcibeobbonaaGreat
set_option linter.unusedSimpArgs false
set_option linter.unusedVariables false
open Go Go.RowKit

def writeL : List Value → Nat → List Value → List Value
  | xs, _, [] => xs
  | xs, o, v :: r => writeL (xs.set o v) (o + 1) r
theorem writeL_len : ∀ (vs xs : List Value) (o : Nat), (writeL xs o vs).length = xs.length
  | [], _, _ => rfl
  | v :: r, xs, o => by rw [writeL, writeL_len r]; simp
theorem writeL_eq : ∀ (vs xs : List Value) (o : Nat), o + vs.length ≤ xs.length → writeL xs o vs = xs.take o ++ vs ++ xs.drop (o + vs.length)
  | [], xs, o, _ => by simp [writeL]
  | v :: r, xs, o, h => by
    rw [List.length_cons] at h
    rw [writeL, writeL_eq r (xs.set o v) (o + 1) (by simp; omega), List.take_set, List.drop_set_of_lt (by omega), List.length_cons, show o + 1 + r.length = o + (r.length + 1) from by omega]
    have e : (xs.take (o + 1)).set o v = xs.take o ++ [v] := by
      rw [List.take_add_one, List.getElem?_eq_getElem (by omega), List.set_append_right _ _ (by simp; omega)]
      simp [Nat.min_eq_left (show o ≤ xs.length by omega)]
    rw [e]
    simp
theorem own_setCells {w : World} {base g size n cap : Nat} {E : TypeId} : ∀ (vs xs : List Value) (o : Nat) (w : World), w.ownsRow base E size (.slice (some ⟨g, 0, none⟩) n cap) n xs →
    (w.setCells g o vs).ownsRow base E size (.slice (some ⟨g, 0, none⟩) n cap) n (writeL xs o vs) ∧ w.grownBy (w.setCells g o vs) (some g)
  | [], xs, o, w, h => ⟨h, World.grownBy.refl _ _⟩
  | v :: r, xs, o, w, h => by
    obtain ⟨h1, h2⟩ := h.stored o v
    obtain ⟨h3, h4⟩ := own_setCells (w := w) r (xs.set o v) (o + 1) (w.setCell ⟨g, o, none⟩ v) h1
    exact ⟨h3, h2.trans' h4⟩
/-- the first elements of a row -/
theorem own_cut {w : World} {base g size n m cap : Nat} {E : TypeId} {xs : List Value} (h : w.ownsRow base E size (.slice (some ⟨g, 0, none⟩) n cap) n xs) (hm : m ≤ n) : w.ownsRow base E size (.slice (some ⟨g, 0, none⟩) m cap) m (xs.take (m * size)) := by
  have hl := h.1
  refine ⟨?_, ?_⟩
  · rw [List.length_take, hl, Nat.min_eq_left (Nat.mul_le_mul_right _ hm)]
  · rcases h.2 with ⟨h1, _⟩ | ⟨g', cap', cur, h1, hb, hg, hc, hcm, hs, ht⟩
    · cases h1
    · cases h1
      refine .inr ⟨g, cap, cur, rfl, hb, hg, by omega, hcm, hs, ?_⟩
      rw [← ht, List.take_take, Nat.min_eq_left (Nat.mul_le_mul_right _ hm)]
theorem run_clear_cells {P : Program} (w : World) (t e ty : TypeId) (z : Value) (ht : P.underlying t = some (.slice e)) (hv : ∀ w, (zeroValue e).run P w = .ok z w) (b o n c : Nat) (hn : 0 < n) (zs : List Value) (hz : (Builtin.zeroCells z.cells n).toList = zs) (h1 : ∀ u ∈ zs, u.oneCell' = true)
    (hc : ∀ j, j < zs.length → (w.cell? ⟨b, o + j, none⟩).isSome = true) (hf : ∀ j, j < zs.length → w.frozen? ⟨b, o + j, none⟩ = false) :
    (Builtin.clear_ #[t] ty #[.slice (some ⟨b, o, none⟩) n c]).run P w = .ok (.tuple #[]) (w.setCells b o zs) := by
  have hst := run_storeCells_cells (P := P) b o zs 0 w (by simpa using hc) (by simpa using hf) h1
  simp only [Nat.add_zero] at hst
  obtain ⟨m, rfl⟩ : ∃ m, n = m + 1 := ⟨n - 1, by omega⟩
  simp [Builtin.clear_, run_underlying ht, hv, hz, hst]
def zP : List Value := [.int .i64 0, .slice none 0 0, .slice none 0 0, .slice none 0 0, .int .i64 0]
theorem zero_part (w : World) : (zeroValue 84).run Tryz.prog w = .ok (.agg #[.int .i64 0, .slice none 0 0, .slice none 0 0, .slice none 0 0, .int .i64 0]) w := Tryz.zeroValue84 w
theorem info_part : (Tryz.prog.info? 84).map (fun i => i.size) = some 5 := by kernel_rfl
theorem there_row {w : World} {base g size n cap : Nat} {E : TypeId} {xs : List Value} (h : w.ownsRow base E size (.slice (some ⟨g, 0, none⟩) n cap) n xs) (j : Nat) (hj : j < n * size) : (w.cell? ⟨g, j, none⟩).isSome = true ∧ w.frozen? ⟨g, j, none⟩ = false := by
  refine ⟨?_, h.frozenAt j⟩
  rw [h.cellAt j hj, List.getElem?_eq_getElem (by rw [h.1]; exact hj)]
  rfl

set_option maxHeartbeats 6400000 in
set_option maxRecDepth 1000000 in
theorem delete_first (base g n cap : Nat) (xs : List Value) (hx1 : ∀ u ∈ xs, u.oneCell' = true) (hn : 1 ≤ n) (hcap : cap ≤ 9223372036854775807) (hnc : n ≤ cap) (w : World) (h : w.ownsRow base 84 5 (.slice (some ⟨g, 0, none⟩) n cap) n xs) :
    Calls Tryz.prog 90 #[.slice (some ⟨g, 0, none⟩) n cap, .int .i64 0, .int .i64 1] w fun e w' =>
      e = .returned (.slice (some ⟨g, 0, none⟩) (n - 1) cap) ∧ w'.ownsRow base 84 5 (.slice (some ⟨g, 0, none⟩) (n - 1) cap) (n - 1) (xs.drop 5) ∧ w.grownBy w' (some g) := by
  obtain ⟨i0, hi0, hz1⟩ : ∃ i0, Tryz.prog.info? 84 = some i0 ∧ i0.size = 5 := by
    have e := info_part
    cases hi : Tryz.prog.info? 84 with
    | none => rw [hi] at e; cases e
    | some i => rw [hi] at e; exact ⟨i, rfl, by simpa using e⟩
  have hxl := h.1
  obtain ⟨news, hnews⟩ : ∃ news, news = xs.drop 5 := ⟨_, rfl⟩
  have hlen : news.length = (n - 1) * 5 := by rw [hnews, List.length_drop, hxl]; omega
  have hD : w.drew.ownsRow base 84 5 (.slice (some ⟨g, 0, none⟩) n cap) n xs := h
  obtain ⟨A, hA, hsrc⟩ : ∃ A : Addr, (if cap = 1 then some (⟨g, 0, none⟩ : Addr) else some ⟨g, 5, none⟩) = some A ∧ (∀ (t : Nat) u, news[t]? = some u → w.drew.cell? (A.add t) = some u) := by
    by_cases hc : cap = 1
    · refine ⟨⟨g, 0, none⟩, by simp [hc], fun t u hu => ?_⟩
      have h0 : news.length = 0 := by rw [hlen]; omega
      rw [List.length_eq_zero_iff.1 h0] at hu
      simp at hu
    · refine ⟨⟨g, 5, none⟩, by simp [hc], fun t u hu => ?_⟩
      have ht := (List.getElem?_eq_some_iff.1 hu).1
      rw [hlen] at ht
      rw [Addr.add_lit, hD.cellAt (5 + t) (by omega), ← hu, hnews, List.getElem?_drop]
  have Hsrc := Lib.hid hsrc
  have s1 := Lib.hid hlen
  have s2 := Lib.hid (show ∀ u ∈ news, u.oneCell' = true from fun u hu => hx1 u (by rw [hnews] at hu; exact List.mem_of_mem_drop hu))
  have s3 := Lib.hid (show ∀ t, t < news.length → (w.drew.cell? ⟨g, 0 + 0 * 5 + t, none⟩).isSome = true ∧ w.drew.frozen? ⟨g, 0 + 0 * 5 + t, none⟩ = false from fun t ht => by
    simp only [Nat.zero_mul, Nat.zero_add]; exact there_row hD t (by rw [hlen] at ht; omega))
  obtain ⟨W1, hW1⟩ : ∃ W1, W1 = w.drew.setCells g (0 + 0 * 5) news := ⟨_, rfl⟩
  obtain ⟨o1, g1⟩ := own_setCells (w := w) news xs (0 + 0 * 5) w.drew hD
  rw [← hW1] at o1 g1
  have O1 := Lib.hid o1
  have G1 := Lib.hid (show w.grownBy W1 (some g) from ⟨g1.os, g1.tape, g1.output, g1.size, g1.block⟩)
  obtain ⟨o2, g2⟩ := own_setCells (w := w) zP (writeL xs (0 + 0 * 5) news) ((n - 1) * 5) W1 o1
  have hfin : ((writeL (writeL xs (0 + 0 * 5) news) ((n - 1) * 5) zP).take ((n - 1) * 5)) = xs.drop 5 := by
    rw [writeL_eq zP _ _ (by rw [writeL_len, hxl]; show (n - 1) * 5 + 5 ≤ n * 5; omega), writeL_eq news xs _ (by omega)]
    simp only [Nat.zero_mul, Nat.add_zero, List.take_zero, List.nil_append]
    rw [List.append_assoc, List.take_append_of_le_length (by simp; omega), List.take_take, Nat.min_self, ← hlen, List.take_append_of_le_length (Nat.le_refl _), List.take_length, hnews]
  have Fin := Lib.hid (show (W1.setCells g ((n - 1) * 5) zP).ownsRow base 84 5 (.slice (some ⟨g, 0, none⟩) (n - 1) cap) (n - 1) (xs.drop 5) ∧ w.grownBy (W1.setCells g ((n - 1) * 5) zP) (some g) from
    ⟨by have h := own_cut o2 (show n - 1 ≤ n by omega); rw [hfin] at h; exact h, G1.out.trans' g2⟩)
  have hcl : ∀ ty, (Builtin.clear_ #[78] ty #[.slice (some ⟨g, (n - 1) * 5, none⟩) (n - (n - 1)) (cap - (n - 1))]).run Tryz.prog W1 = .ok (.tuple #[]) (W1.setCells g ((n - 1) * 5) zP) :=
    fun ty => by rw [show n - (n - 1) = 1 from by omega]; exact run_clear_cells W1 78 84 ty _ Tryz.underlying78 zero_part g ((n - 1) * 5) 1 _ (by decide) zP (by kernel_rfl) (by decide) (fun j hj => (there_row O1.out ((n - 1) * 5 + j) (by have : zP.length = 5 := rfl; omega)).1) (fun j hj => (there_row O1.out ((n - 1) * 5 + j) (by have : zP.length = 5 := rfl; omega)).2)
  have hn' : (1 : Int) ≤ (n : Int) := by omega
  have hW := Lib.hid hW1
  clear hW1 o1 g1 o2 g2 hfin hsrc hD h hnews hlen hx1 hxl
  go_enter Tryz.func90, Tryz.ntmps90
  go_wp2_with fail
  go_region_law (refine step_append_room rfl (.tmp 22) (.tmp 25) 78 rfl 84 i0 5 Tryz.underlying78 hi0 hz1 g 0 0 cap (by simp [Act.eval, Act.put]) A (n - 1) (cap - 1) news (by simp [Act.eval, Act.put]) s1.out Hsrc.out s2.out (by omega) s3.out ?_; rw [← hW.out])
  go_wp2_with fail
  go_ret
  exact ⟨rfl, Fin.out⟩
end Go.Proofs.YtiakcibeobbonaaGreat

/- slices.IndexFunc and DeleteFunc over a row of parts (FnShifted, FnCut).
   Conditions: those that each statement names. -/
namespace Go.Proofs.YtiakcibeobbonaaGreat
set_option linter.unusedSimpArgs false
set_option linter.unusedVariables false
open Go Go.RowKit

theorem part_at {w : World} {base g n cap k : Nat} {zs : List (Prt × Loc)} {z : Prt × Loc} (h : w.ownsRow base 84 5 (.slice (some ⟨g, 0, none⟩) n cap) n (cellsP zs)) (hn : n = zs.length) (hk : zs[k]? = some z) :
    w.cell? ⟨g, k * 5, none⟩ = some (.int .i64 z.1.b) ∧ w.cell? ⟨g, k * 5 + 1, none⟩ = some z.2.vm ∧ w.cell? ⟨g, k * 5 + 2, none⟩ = some (.slice (some ⟨z.2.g, 0, none⟩) z.1.ms.length z.1.ms.length) ∧
    w.cell? ⟨g, k * 5 + 3, none⟩ = some z.2.vi ∧ w.cell? ⟨g, k * 5 + 4, none⟩ = some (.int .i64 z.2.tr) := by
  have hkl := (List.getElem?_eq_some_iff.1 hk).1
  have c : ∀ j v, (cellP z)[j]? = some v → j < 5 → w.cell? ⟨g, k * 5 + j, none⟩ = some v := by
    intro j v hv hj
    rw [h.cellAt (k * 5 + j) (by omega), cellsP_get zs k j z hk hj, hv]
  exact ⟨c 0 _ rfl (by decide), c 1 _ rfl (by decide), c 2 _ rfl (by decide), c 3 _ rfl (by decide), c 4 _ rfl (by decide)⟩
set_option maxRecDepth 100000 in
/-- does an event's body stop a voice? -/
theorem takeB_ok (b : Int) (eb : Nat) (eb2 : Int) (w : World) (c2 : w.cell? ⟨eb, 2, none⟩ = some (.int .i64 eb2)) (b1 b2 b3 b4 : Value) :
    Calls Tryz.prog 94 #[.agg #[.int .i64 b, b1, b2, b3, b4], .pointer (some ⟨eb, 0, none⟩)] w fun e w' => e = .returned (.bool (decide (b = eb2))) ∧ Nw w w' := by
  go_enter Tryz.func94, Tryz.ntmps94
  have hlt := World.block_lt_of_cell? w _ c2
  simp only at hlt
  have N := Lib.hid ((Nw.refl w).alloc (.cells #[.int .i64 b, b1, b2, b3, b4] 84 (0, 0)))
  go_wp2_with fail
  go_ret
  exact ⟨rfl, N.out⟩
def idxB (b : Int) : List (Prt × Loc) → Nat
  | [] => 0
  | z :: l => if z.1.b = b then 0 else idxB b l + 1
theorem idxB_le (b : Int) : ∀ zs, idxB b zs ≤ zs.length
  | [] => Nat.le_refl _
  | z :: l => by have := idxB_le b l; unfold idxB; split <;> simp; omega
theorem idxB_lt (b : Int) : ∀ (zs : List (Prt × Loc)) (k : Nat) z, k < idxB b zs → zs[k]? = some z → z.1.b ≠ b
  | [], k, z, h, _ => by simp [idxB] at h
  | y :: l, 0, z, h, hz => by
    simp at hz
    subst hz
    unfold idxB at h
    split at h
    · omega
    · assumption
  | y :: l, k + 1, z, h, hz => by
    unfold idxB at h
    split at h
    · omega
    · exact idxB_lt b l k z (by omega) (by simpa using hz)
theorem idxB_at (b : Int) : ∀ (zs : List (Prt × Loc)) (k : Nat) z, zs[k]? = some z → z.1.b = b → (∀ (j : Nat) y, j < k → zs[j]? = some y → y.1.b ≠ b) → idxB b zs = k
  | [], k, z, hz, _, _ => by simp at hz
  | y :: l, 0, z, hz, hb, _ => by
    simp at hz
    subst hz
    unfold idxB
    rw [if_pos hb]
  | y :: l, k + 1, z, hz, hb, h => by
    unfold idxB
    rw [if_neg (h 0 y (by omega) rfl), idxB_at b l k z (by simpa using hz) hb fun j x hj hx => h (j + 1) x (by omega) (by simpa using hx)]
theorem idxB_none (b : Int) : ∀ (zs : List (Prt × Loc)), (∀ z ∈ zs, z.1.b ≠ b) → idxB b zs = zs.length
  | [], _ => rfl
  | y :: l, h => by unfold idxB; rw [if_neg (h y List.mem_cons_self), idxB_none b l fun z hz => h z (List.mem_cons_of_mem _ hz)]; rfl

def idxV (b : Int) (zs : List (Prt × Loc)) : Int := if idxB b zs = zs.length then -1 else (idxB b zs : Int)

set_option maxHeartbeats 6400000 in
set_option maxRecDepth 100000 in
theorem indexFunc_ok (base g n cap eb : Nat) (b : Int) (zs : List (Prt × Loc)) (hn : n = zs.length) (hcap : cap ≤ 9223372036854775807) (hnc : n ≤ cap) (w : World) (h : w.ownsRow base 84 5 (.slice (some ⟨g, 0, none⟩) n cap) n (cellsP zs))
    (c2 : w.cell? ⟨eb, 2, none⟩ = some (.int .i64 b)) :
    Calls Tryz.prog 110 #[.slice (some ⟨g, 0, none⟩) n cap, .func (.func 94) #[] #[.pointer (some ⟨eb, 0, none⟩)]] w fun e w' =>
      e = .returned (.int .i64 (idxV b zs)) ∧ Nw w w' := by
  have H := Lib.hid h
  have C2 := Lib.hid c2
  have Hn := Lib.hid hn
  have hg : g < w.heap.size := (h.lt g rfl).2
  clear h c2 hn
  go_enter Tryz.func110, Tryz.ntmps110
  go_wp2_with fail
  go_loopw [8] (fun i wr => ∃ k : Nat, k ≤ n ∧ i = .int .i64 (k : Int) ∧ (∀ (j : Nat) y, j < k → zs[j]? = some y → y.1.b ≠ b) ∧ Nw w wr) (fun i _ => n - (intOf i).toNat)
  case atStart => exact ⟨0, by omega, rfl, fun j y hj => by omega, Nw.refl _⟩
  case round =>
    obtain ⟨k, hk, rfl, hall, hnw⟩ := hrel
    have Hall := Lib.hid hall
    have N := Lib.hid hnw
    clear hall hnw
    by_cases hlt : k < n
    · obtain ⟨z, hz⟩ : ∃ z, zs[k]? = some z := ⟨zs[k]'(by rw [← Hn.out]; exact hlt), List.getElem?_eq_getElem _⟩
      have hgr : g < wr.heap.size := Nat.lt_of_lt_of_le hg N.out.size
      obtain ⟨e0, e1, e2, e3, e4⟩ := part_at (own_nw H.out N.out) Hn.out hz
      have C := Lib.hid ((World.cell?_of_block (w := w) (a := ⟨eb, 2, none⟩) (N.out.block eb (World.block_lt_of_cell? w _ C2.out) (by simp))).trans C2.out)
      have Hz := Lib.hid hz
      clear hz
      go_wp2_with fail
      refine (takeB_ok z.1.b eb b _ C.out _ _ _ _).mono ?_
      rintro e w5 ⟨rfl, n5⟩
      have N5 := Lib.hid (N.out.trans n5)
      clear n5 e0 e1 e2 e3 e4
      by_cases hb : z.1.b = b
      · have V := Lib.hid (show idxV b zs = (k : Int) from by
          have e := idxB_at b zs k z Hz.out hb Hall.out
          unfold idxV
          rw [e, if_neg (by rw [← Hn.out]; omega)])
        rw [decide_eq_true hb]
        go_wp2_with fail
        go_ret
        exact ⟨by rw [V.out]; rfl, N5.out⟩
      · rw [decide_eq_false hb]
        go_wp2_with fail
        go_roundw
        case rel =>
          refine ⟨k + 1, by omega, by rw [show ((k + 1 : Nat) : Int) = (k : Int) + 1 from by omega], fun j y hj hy => ?_, N5.out⟩
          by_cases hjk : j = k
          · subst hjk
            rw [Hz.out] at hy
            cases hy
            exact hb
          · exact Hall.out j y (by omega) hy
        case measure => simp only [intOf]; omega
    · have V := Lib.hid (show idxV b zs = -1 from by
        have e := idxB_none b zs fun z hz => by
          obtain ⟨j, hj⟩ := List.getElem?_of_mem hz
          exact Hall.out j z (by have := (List.getElem?_eq_some_iff.1 hj).1; rw [← Hn.out] at this; omega) hj
        unfold idxV
        rw [if_pos e])
      go_wp2_with fail
      go_ret
      exact ⟨by rw [V.out]; rfl, N.out⟩
end Go.Proofs.YtiakcibeobbonaaGreat
