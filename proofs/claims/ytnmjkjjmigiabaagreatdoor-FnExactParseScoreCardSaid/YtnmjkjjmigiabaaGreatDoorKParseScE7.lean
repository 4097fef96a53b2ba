/- Texts of a proof, put together: LpR, Shape, Fill, Strike, ShapeS, Mk, Marks, LpV, LpW, LpZ, LpI, LpJ, LpK, LpL.
   Conditions: those that each statement names. -/
import Derived.Test.YtnmjkjjmigiabaaGreatDoorKParseScE6
import Derived.Deep.CutBlock
import Derived.Deep.DeepCutAuto
import Derived.Deep.RegionLawGrows
/- What the model reads of a score's text, line by line: plain (FnExactParseScore).
   Conditions: those that each statement names. -/
namespace Go.Proofs.YtnmjkjjmigiabaaGreatDoor
set_option linter.unusedSimpArgs false
set_option linter.unusedVariables false
open Go Go.RowKit

inductive Stp : Sco → List UInt8 → Sco → Prop where
  | head {s : Sco} {p : List UInt8} {L V : Int} {C R : Nat} (hw : isW wScore p = true) (h : ∀ L' V' C' R', HeadT p L' V' C' R' → L = L' ∧ V = V' ∧ C = C' ∧ R = R') : Stp s p ⟨L, V, C, R, s.bs, s.es⟩
  | body {s : Sco} {p : List UInt8} (hp : p = wBody) : Stp s p ⟨s.L, s.V, s.C, s.R, s.bs ++ [[]], s.es⟩
  | mode {s : Sco} {p : List UInt8} {bs : List (List M4)} {ms : List M4} {m : M4} (hp : p ≠ wBody) (hw : isW wMode p = true) (hm : Rd1 p m) (hb : s.bs = bs ++ [ms]) : Stp s p ⟨s.L, s.V, s.C, s.R, bs ++ [ms ++ [m]], s.es⟩
  | event {s : Sco} {p : List UInt8} {e : Ev6} (hp : p ≠ wBody) (hw : isW wMode p = false ∨ s.bs = []) (hh : ∀ L V C R, ¬ HeadT p L V C R) (he : ∀ x, EvL p x → e = x) : Stp s p ⟨s.L, s.V, s.C, s.R, s.bs, s.es ++ [e]⟩
def RunL : Sco → List (List UInt8) → Sco → Prop
  | s, [], t => s = t
  | s, p :: ps, t => ∃ u, Stp s p u ∧ RunL u ps t
theorem RunL.snoc {s t u : Sco} {ps : List (List UInt8)} {p : List UInt8} (h : RunL s ps t) (k : Stp t p u) : RunL s (ps ++ [p]) u := by
  induction ps generalizing s with
  | nil => cases h; exact ⟨u, k, rfl⟩
  | cons q ps ih =>
    obtain ⟨v, a, b⟩ := h
    exact ⟨v, a, ih b⟩
theorem stp_head {s u : Sco} {p : List UInt8} {L V : Int} {C R : Nat} (h : Stp s p u) (k : HeadT p L V C R) : u = ⟨L, V, C, R, s.bs, s.es⟩ := by
  cases h with
  | head hw h =>
    obtain ⟨rfl, rfl, rfl, rfl⟩ := h _ _ _ _ k
    rfl
  | body hp =>
    subst hp
    have := isW_head k wScore
    rw [isW_body] at this
    exact absurd this (by decide)
  | mode hp hw hm hb =>
    rw [isW_head k] at hw
    exact absurd hw (by decide)
  | event hp hw hh he => exact absurd k (hh _ _ _ _)
theorem stp_body {s u : Sco} (h : Stp s wBody u) : u = ⟨s.L, s.V, s.C, s.R, s.bs ++ [[]], s.es⟩ := by
  cases h with
  | head hw h =>
    rw [isW_body] at hw
    exact absurd hw (by decide)
  | body hp => rfl
  | mode hp hw hm hb => exact absurd rfl hp
  | event hp hw hh he => exact absurd rfl hp
theorem stp_mode {s u : Sco} {p : List UInt8} {m : M4} {bs : List (List M4)} {ms : List M4} (h : Stp s p u) (k : LineM p m) (hb : s.bs = bs ++ [ms]) : u = ⟨s.L, s.V, s.C, s.R, bs ++ [ms ++ [m]], s.es⟩ := by
  cases h with
  | head hw h =>
    rw [isW_mode k] at hw
    exact absurd hw (by decide)
  | body hp => subst hp; exact absurd k (body_mode m)
  | mode hp hw hm hb' =>
    rw [hb] at hb'
    have e1 := List.append_inj' hb' rfl
    obtain ⟨rfl, e2⟩ := e1
    simp at e2
    subst e2
    rw [hm.2 m k]
  | event hp hw hh he =>
    rcases hw with hw | hw
    · rw [isW_mode k] at hw
      exact absurd hw (by decide)
    · rw [hb] at hw; simp at hw
theorem stp_event {s u : Sco} {p : List UInt8} {e : Ev6} (h : Stp s p u) (k : EvL p e) : u = ⟨s.L, s.V, s.C, s.R, s.bs, s.es ++ [e]⟩ := by
  cases h with
  | head hw h =>
    rw [isW_ev k wScore (by decide)] at hw
    exact absurd hw (by decide)
  | body hp => subst hp; exact absurd k (body_ev e)
  | mode hp hw hm hb =>
    rw [isW_ev k wMode (by decide)] at hw
    exact absurd hw (by decide)
  | event hp hw hh he => rw [he e k]
theorem run_modes {s t : Sco} {ps qs : List (List UInt8)} {ms m0 : List M4} {bs : List (List M4)} (a : All2 LineM ps ms) (hb : s.bs = bs ++ [m0]) (h : RunL s (ps ++ qs) t) : RunL ⟨s.L, s.V, s.C, s.R, bs ++ [m0 ++ ms], s.es⟩ qs t := by
  induction ps generalizing s ms m0 with
  | nil =>
    cases ms with
    | nil =>
      rw [List.append_nil, ← hb]
      exact h
    | cons m ms => exact a.elim
  | cons p ps ih =>
    cases ms with
    | nil => exact a.elim
    | cons m ms =>
      obtain ⟨u, h1, h2⟩ := h
      have e := stp_mode h1 a.1 hb
      subst e
      have := ih a.2 rfl h2
      simpa using this
theorem run_bods {s t : Sco} {ls qs : List (List UInt8)} {bs : List (List M4)} (a : BodL bs ls) (h : RunL s (ls ++ qs) t) : RunL ⟨s.L, s.V, s.C, s.R, s.bs ++ bs, s.es⟩ qs t := by
  induction bs generalizing s ls with
  | nil =>
    cases a
    rw [List.append_nil]
    exact h
  | cons ms bs ih =>
    obtain ⟨ps, rs, b, c, rfl⟩ := a
    obtain ⟨u, h1, h2⟩ := h
    have e := stp_body h1
    subst e
    rw [show (ps ++ rs).append qs = ps ++ (rs ++ qs) from List.append_assoc ps rs qs] at h2
    have h3 := run_modes (bs := s.bs) (m0 := []) b rfl h2
    have h4 := ih c h3
    simpa using h4
theorem run_evs {s t : Sco} {qs : List (List UInt8)} {es : List Ev6} (a : All2 EvL qs es) (h : RunL s qs t) : t = ⟨s.L, s.V, s.C, s.R, s.bs, s.es ++ es⟩ := by
  induction qs generalizing s es with
  | nil =>
    cases es with
    | nil => rw [List.append_nil]; exact h.symm
    | cons e es => exact a.elim
  | cons q qs ih =>
    cases es with
    | nil => exact a.elim
    | cons e es =>
      obtain ⟨u, h1, h2⟩ := h
      have e1 := stp_event h1 a.1
      subst e1
      have := ih a.2 h2
      simpa using this
def sco0 : Sco := ⟨0, 0, 0, 0, [], []⟩
theorem textS_lines {l r : List UInt8} {ps : List (List UInt8)} {s : Sco} (hsp : spl 10 l = ps ++ [r]) (k : TextS l s) : ∃ h ls qs, HeadT h s.L s.V s.C s.R ∧ BodL s.bs ls ∧ All2 EvL qs s.es ∧ ps = h :: (ls ++ qs) := by
  obtain ⟨h1, ls, qs, a1, a2, a3, e⟩ := k
  refine ⟨h1, ls, qs, a1, a2, a3, ?_⟩
  have hn : ∀ p ∈ h1 :: (ls ++ qs), 10 ∉ p := fun p hp => by
    rcases List.mem_cons.1 hp with rfl | hp
    · exact headT_nl a1
    · rcases List.mem_append.1 hp with h | h
      · exact bodL_nl a2 p h
      · exact a3.clean evL_K p h
  have h := spl_glue (l := []) hn
  rw [List.append_nil, ← e, hsp] at h
  exact (List.append_inj' h rfl).1
theorem run_good {l r : List UInt8} {ps : List (List UInt8)} {s t : Sco} (hsp : spl 10 l = ps ++ [r]) (h : RunL sco0 ps t) (k : TextS l s) : t = s := by
  obtain ⟨h1, ls, qs, a1, a2, a3, rfl⟩ := textS_lines hsp k
  obtain ⟨u, h2, h3⟩ := h
  have e := stp_head h2 a1
  subst e
  have h4 := run_bods a2 h3
  have h5 := run_evs a3 h4
  rw [h5]
  cases s
  simp [sco0]
end Go.Proofs.YtnmjkjjmigiabaaGreatDoor

/- The shapes of strikes as plain lists of bits, and what the kernel finds of all of them: 2,080 places for each kind.
   Conditions: none beyond those that each statement names. -/
namespace Go.Proofs.YtnmjkjjmigiabaaGreatDoor
set_option linter.unusedSimpArgs false
set_option linter.unusedVariables false
open Go

def rampAt (n i : Nat) : Nat := opB .quo .f32 (floatOfInt .f32 ((i : Int) + 1)) (floatOfInt .f32 (n : Int))
def archT (n i : Nat) : Nat := opB .quo .f32 (floatOfInt .f32 (2 * (i : Int) + 1)) (floatOfInt .f32 (2 * (n : Int)))
def archP (n i : Nat) : Nat := opB .mul .f32 1082130432 (archT n i)
def archM (n i : Nat) : Nat := opB .sub .f32 1065353216 (archT n i)
def archAt (n i : Nat) : Nat := opB .mul .f32 (archP n i) (archM n i)
def clickAt (i : Nat) : Nat := if i = 0 then 1065353216 else 0
def shapeAt (kind n i : Nat) : Nat := if kind = 0 then clickAt i else if kind = 1 then rampAt n i else archAt n i
def shapeL (kind n : Nat) : List Nat := (List.range n).map (shapeAt kind n)

/-- from 0 to 1, and multiplied by 1 itself -/
def unitB (v : Nat) : Bool :=
  fin .f32 v && (FloatKind.f32.format.order v 0 == some .gt || FloatKind.f32.format.order v 0 == some .eq) && (FloatKind.f32.format.order v 1065353216 == some .lt || FloatKind.f32.format.order v 1065353216 == some .eq) &&
    (floatBits .mul .f32 v 1065353216 == some v)
def calmB (o : BinOp) (x y : Nat) : Bool := (floatBits o .f32 x y).isSome
theorem calm_of {o : BinOp} {x y : Nat} (h : calmB o x y = true) : Calm o .f32 x y := by
  unfold calmB at h
  unfold Calm opB
  cases hb : floatBits o .f32 x y with
  | some r => rfl
  | none => rw [hb] at h; simp at h
def upB (a b : Nat) : Bool := !(FloatKind.f32.format.order a b == some .gt || FloatKind.f32.format.order a b == some .eq)
/-- the number is reckoned once, ahead of what is asked of it -/
def force (x : Nat) (k : Nat → Bool) : Bool := match x with
  | 0 => k 0
  | n + 1 => k (n + 1)
theorem force_eq (x : Nat) (k : Nat → Bool) : force x k = k x := by cases x <;> rfl
def p20 : Nat := 4517110426252607488
theorem p20_eq : powB 20 = p20 := by decide +kernel
def rampB (n i : Nat) : Bool :=
  force (rampAt n i) fun v => force (rampAt n (i - 1)) fun u =>
  calmB .quo (floatOfInt .f32 ((i : Int) + 1)) (floatOfInt .f32 (n : Int)) && unitB v && (i == 0 || upB u v) && (i + 1 != n || FloatKind.f32.format.order v 1065353216 == some .eq)
def archB (n i : Nat) : Bool :=
  force (archT n i) fun t => force (opB .mul .f32 1082130432 t) fun p => force (opB .sub .f32 1065353216 t) fun m => force (opB .mul .f32 p m) fun v =>
  calmB .quo (floatOfInt .f32 (2 * (i : Int) + 1)) (floatOfInt .f32 (2 * (n : Int))) && calmB .mul 1082130432 t && calmB .sub 1065353216 t && calmB .mul p m && unitB v
/-- as the law asks: the difference of the widened ones -/
def archD (n i : Nat) : Nat := opB .sub .f64 (wid (archAt n i)) (wid (archAt n (n - 1 - i)))
def archF (n i : Nat) (k : Nat → Bool) : Bool := force (archT n i) fun t => force (opB .mul .f32 1082130432 t) fun p => force (opB .sub .f32 1065353216 t) fun m => force (opB .mul .f32 p m) k
theorem archF_eq (n i : Nat) (k : Nat → Bool) : archF n i k = k (archAt n i) := by simp only [archF, force_eq]; rfl
def nearB (n i : Nat) : Bool :=
  archF n i fun v => archF n (n - 1 - i) fun u => force (wid v) fun a => force (wid u) fun b => force (opB .sub .f64 a b) fun d =>
  (floatBits .sub .f64 a b).isSome && fin .f64 d && force (szd d 0) fun s => leB s p20
theorem rampB_eq (n i : Nat) : rampB n i = (calmB .quo (floatOfInt .f32 ((i : Int) + 1)) (floatOfInt .f32 (n : Int)) && unitB (rampAt n i) && (i == 0 || upB (rampAt n (i - 1)) (rampAt n i)) && (i + 1 != n || FloatKind.f32.format.order (rampAt n i) 1065353216 == some .eq)) := by
  unfold rampB; simp only [force_eq]
theorem archB_eq (n i : Nat) : archB n i = (calmB .quo (floatOfInt .f32 (2 * (i : Int) + 1)) (floatOfInt .f32 (2 * (n : Int))) && calmB .mul 1082130432 (archT n i) && calmB .sub 1065353216 (archT n i) && calmB .mul (archP n i) (archM n i) && unitB (archAt n i)) := by
  unfold archB; simp only [force_eq]; rfl
theorem nearB_eq (n i : Nat) : nearB n i = ((floatBits .sub .f64 (wid (archAt n i)) (wid (archAt n (n - 1 - i)))).isSome && fin .f64 (archD n i) && leB (szd (archD n i) 0) (powB 20)) := by
  unfold nearB; simp only [force_eq, archF_eq, p20_eq]; rfl

/-- all places of the lengths from lo on -/
def chunk (p : Nat → Nat → Bool) (lo k : Nat) : Bool := (List.range k).all fun d => (List.range (lo + d)).all fun i => p (lo + d) i
theorem chunk_get {p : Nat → Nat → Bool} {lo k : Nat} (h : chunk p lo k = true) (n i : Nat) (h1 : lo ≤ n) (h2 : n < lo + k) (hi : i < n) : p n i = true := by
  unfold chunk at h
  rw [List.all_eq_true] at h
  have h3 := h (n - lo) (List.mem_range.2 (by omega))
  rw [List.all_eq_true] at h3
  have h4 := h3 i (List.mem_range.2 (by omega))
  rw [show lo + (n - lo) = n from by omega] at h4
  exact h4
def AllB (p : Nat → Nat → Bool) : Prop := ∀ n i : Nat, n ≤ 64 → i < n → p n i = true
theorem all_of {p : Nat → Nat → Bool} (h0 : chunk p 0 24 = true) (h1 : chunk p 24 9 = true) (h2 : chunk p 33 7 = true) (h3 : chunk p 40 6 = true) (h4 : chunk p 46 6 = true) (h5 : chunk p 52 5 = true) (h6 : chunk p 57 4 = true) (h7 : chunk p 61 4 = true) : AllB p := by
  intro n i hn hi
  by_cases c0 : n < 24
  · exact chunk_get h0 n i (by omega) (by omega) hi
  by_cases c1 : n < 33
  · exact chunk_get h1 n i (by omega) (by omega) hi
  by_cases c2 : n < 40
  · exact chunk_get h2 n i (by omega) (by omega) hi
  by_cases c3 : n < 46
  · exact chunk_get h3 n i (by omega) (by omega) hi
  by_cases c4 : n < 52
  · exact chunk_get h4 n i (by omega) (by omega) hi
  by_cases c5 : n < 57
  · exact chunk_get h5 n i (by omega) (by omega) hi
  by_cases c6 : n < 61
  · exact chunk_get h6 n i (by omega) (by omega) hi
  exact chunk_get h7 n i (by omega) (by omega) hi
set_option maxRecDepth 100000 in
theorem ramp_0 : chunk rampB 0 24 = true := by decide +kernel
set_option maxRecDepth 100000 in
theorem ramp_1 : chunk rampB 24 9 = true := by decide +kernel
set_option maxRecDepth 100000 in
theorem ramp_2 : chunk rampB 33 7 = true := by decide +kernel
set_option maxRecDepth 100000 in
theorem ramp_3 : chunk rampB 40 6 = true := by decide +kernel
set_option maxRecDepth 100000 in
theorem ramp_4 : chunk rampB 46 6 = true := by decide +kernel
set_option maxRecDepth 100000 in
theorem ramp_5 : chunk rampB 52 5 = true := by decide +kernel
set_option maxRecDepth 100000 in
theorem ramp_6 : chunk rampB 57 4 = true := by decide +kernel
set_option maxRecDepth 100000 in
theorem ramp_7 : chunk rampB 61 4 = true := by decide +kernel
theorem ramp_all : AllB rampB := all_of ramp_0 ramp_1 ramp_2 ramp_3 ramp_4 ramp_5 ramp_6 ramp_7
set_option maxRecDepth 100000 in
theorem arch_0 : chunk archB 0 24 = true := by decide +kernel
set_option maxRecDepth 100000 in
theorem arch_1 : chunk archB 24 9 = true := by decide +kernel
set_option maxRecDepth 100000 in
theorem arch_2 : chunk archB 33 7 = true := by decide +kernel
set_option maxRecDepth 100000 in
theorem arch_3 : chunk archB 40 6 = true := by decide +kernel
set_option maxRecDepth 100000 in
theorem arch_4 : chunk archB 46 6 = true := by decide +kernel
set_option maxRecDepth 100000 in
theorem arch_5 : chunk archB 52 5 = true := by decide +kernel
set_option maxRecDepth 100000 in
theorem arch_6 : chunk archB 57 4 = true := by decide +kernel
set_option maxRecDepth 100000 in
theorem arch_7 : chunk archB 61 4 = true := by decide +kernel
theorem arch_all : AllB archB := all_of arch_0 arch_1 arch_2 arch_3 arch_4 arch_5 arch_6 arch_7
set_option maxRecDepth 100000 in
theorem near_0 : chunk nearB 0 24 = true := by decide +kernel
set_option maxRecDepth 100000 in
theorem near_1 : chunk nearB 24 9 = true := by decide +kernel
set_option maxRecDepth 100000 in
theorem near_2 : chunk nearB 33 7 = true := by decide +kernel
set_option maxRecDepth 100000 in
theorem near_3 : chunk nearB 40 6 = true := by decide +kernel
set_option maxRecDepth 100000 in
theorem near_4 : chunk nearB 46 6 = true := by decide +kernel
set_option maxRecDepth 100000 in
theorem near_5 : chunk nearB 52 5 = true := by decide +kernel
set_option maxRecDepth 100000 in
theorem near_6 : chunk nearB 57 4 = true := by decide +kernel
set_option maxRecDepth 100000 in
theorem near_7 : chunk nearB 61 4 = true := by decide +kernel
theorem near_all : AllB nearB := all_of near_0 near_1 near_2 near_3 near_4 near_5 near_6 near_7
theorem all_pairs {p : Nat → Nat → Bool} (h : AllB p) (n i : Nat) (hn : n ≤ 64) (hi : i < n) : p n i = true := h n i hn hi
theorem click_all : unitB 1065353216 = true ∧ unitB 0 = true := by decide +kernel

theorem shape_unit (kind n i : Nat) (hk : kind ≤ 2) (hn : n ≤ 64) (hi : i < n) : unitB (shapeAt kind n i) = true := by
  unfold shapeAt
  split
  · unfold clickAt; split
    · exact click_all.1
    · exact click_all.2
  · split
    · have h := all_pairs ramp_all n i hn hi
      rw [rampB_eq] at h
      simp only [Bool.and_eq_true] at h
      exact h.1.1.2
    · have h := all_pairs arch_all n i hn hi
      rw [archB_eq] at h
      simp only [Bool.and_eq_true] at h
      exact h.2

end Go.Proofs.YtnmjkjjmigiabaaGreatDoor

/- Rows of samples that are filled from their beginning.
   Conditions: those that each statement names. -/
namespace Go.Proofs.YtnmjkjjmigiabaaGreatDoor
set_option linter.unusedSimpArgs false
set_option linter.unusedVariables false
open Go Go.RowKit

/-- the first k places of n are filled -/
def fillL (f : Nat → Nat) (n k : Nat) : List Nat := (List.range k).map f ++ List.replicate (n - k) 0
theorem fillL_zero (f : Nat → Nat) (n : Nat) : fillL f n 0 = List.replicate n 0 := by simp [fillL]
theorem fillL_full (f : Nat → Nat) (n : Nat) : fillL f n n = (List.range n).map f := by simp [fillL]
theorem fillL_len (f : Nat → Nat) (n k : Nat) (h : k ≤ n) : (fillL f n k).length = n := by simp [fillL]; omega
theorem fillL_set (f : Nat → Nat) (n k : Nat) (h : k < n) : (cellsS (fillL f n k)).set k (.float .f32 (f k)) = cellsS (fillL f n (k + 1)) := by
  unfold fillL
  rw [show n - k = (n - (k + 1)) + 1 from by omega, List.replicate_succ, List.range_succ]
  simp only [cellsS, List.map_append, List.map_cons, List.map_nil, List.append_assoc, List.singleton_append]
  rw [List.set_append_right _ _ (by simp)]
  simp
theorem fillL_cell (f : Nat → Nat) (n k : Nat) (h : k < n) : (cellsS (fillL f n k))[k]? = some (.float .f32 0) := by
  unfold fillL cellsS
  rw [List.getElem?_map, List.getElem?_append_right (by simp)]
  simp [List.getElem?_replicate]
  omega

end Go.Proofs.YtnmjkjjmigiabaaGreatDoor

/- The walks of StrikeShape, scaleSamples and StrikeBody.
   Conditions: those that each statement names. -/
namespace Go.Proofs.YtnmjkjjmigiabaaGreatDoor
set_option linter.unusedSimpArgs false
set_option linter.unusedVariables false
open Go Go.RowKit

def FillI (B g n : Nat) (f : Nat → Nat) (w : World) (i : Value) (wr : World) : Prop :=
  ∃ k : Nat, k ≤ n ∧ i = .int .i64 (k : Int) ∧ wr.ownsRow B 25 1 (.slice (some ⟨g, 0, none⟩) n n) n (cellsS (fillL f n k)) ∧ Nw w wr
def ShapeP (n : Nat) (xs : List Nat) (w : World) (e : Ending) (w' : World) : Prop :=
  ∃ g : Nat, e = .returned (.tuple #[.slice (some ⟨g, 0, none⟩) n n, .bool true]) ∧ w'.ownsRow w.heap.size 25 1 (.slice (some ⟨g, 0, none⟩) n n) n (cellsS xs) ∧ Nw w w'

theorem shapeL_click (n : Nat) : shapeL 0 n = (List.range n).map clickAt := by
  have h : shapeAt 0 n = clickAt := by funext i; simp [shapeAt]
  unfold shapeL; rw [h]
theorem shapeL_ramp (n : Nat) : shapeL 1 n = (List.range n).map (rampAt n) := by
  have h : shapeAt 1 n = rampAt n := by funext i; simp [shapeAt]
  unfold shapeL; rw [h]
theorem shapeL_arch (n : Nat) : shapeL 2 n = (List.range n).map (archAt n) := by
  have h : shapeAt 2 n = archAt n := by funext i; simp [shapeAt]
  unfold shapeL; rw [h]
theorem click_set (n : Nat) (h : 1 ≤ n) : (cellsS (fillL clickAt n 0)).set 0 (.float .f32 1065353216) = cellsS ((List.range n).map clickAt) := by
  obtain ⟨m, rfl⟩ : ∃ m, n = m + 1 := ⟨n - 1, by omega⟩
  rw [fillL_zero, List.replicate_succ, List.range_succ_eq_map]
  simp only [cellsS, List.map_cons, List.map_map, List.set_cons_zero, List.map_replicate]
  congr 1
  apply List.ext_getElem?
  intro i
  simp only [List.getElem?_replicate, List.getElem?_map, List.getElem?_range']
  by_cases hi : i < m <;> simp [hi, clickAt]

set_option maxRecDepth 100000 in
theorem strikeShape_ok (kind n : Nat) (hk : kind ≤ 2) (h1 : 1 ≤ n) (hn : n ≤ 64) (w : World) :
    Calls Tryz.prog 216 #[.int .i64 (kind : Int), .int .i64 (n : Int)] w (ShapeP n (shapeL kind n) w) := by
  obtain ⟨f0, hf, hfz0, hfz1, hfz2⟩ := info_parts info_f32
  have hk3 : kind = 0 ∨ kind = 1 ∨ kind = 2 := by omega
  rcases hk3 with rfl | rfl | rfl
  all_goals
    go_enter Tryz.func216, Tryz.ntmps216
    go_wp2_with (first
      | (at_make; refine wpList_make_full _ rfl _ _ 35 rfl w.heap.size 25 f0 (.float .f32 0) 1 Tryz.underlying35 hf hfz0 hfz1 _ _ _ _ n rfl rfl rfl rfl (by rw [hfz2]; omega) (by unfold maxLen; omega) (Nat.le_refl _) ?_))
    intro w3 hown3 hgrow3
  · have O3 := Lib.hid (show w3.ownsRow w.heap.size 25 1 (.slice (some ⟨w.heap.size, 0, none⟩) n n) n (cellsS (fillL clickAt n 0)) from by
      rw [toList_madeCells_one] at hown3
      rw [fillL_zero]
      simpa [cellsS] using hown3)
    have e1 := O3.out.cellAt 0 (by omega)
    rw [fillL_cell clickAt n 0 (by omega)] at e1
    have e2 := O3.out.frozenAt 0
    have hset := O3.out.stored 0 (.float .f32 1065353216)
    have hlt := (O3.out.lt _ rfl)
    have N3 := Lib.hid (show Nw w (w3.setCell ⟨w.heap.size, 0, none⟩ (.float .f32 1065353216)) from Nw.set hgrow3 (by show w.heap.size ≤ w.heap.size; omega) _)
    rw [click_set n h1] at hset
    have F := Lib.hid hset.1
    clear hset hown3 hgrow3
    go_wp2_with fail
    go_ret2
    exact ⟨_, rfl, by rw [shapeL_click]; exact F.out, N3.out⟩
  · have O3 := Lib.hid (show w3.ownsRow w.heap.size 25 1 (.slice (some ⟨w.heap.size, 0, none⟩) n n) n (cellsS (fillL (rampAt n) n 0)) from by
      rw [toList_madeCells_one] at hown3
      rw [fillL_zero]
      simpa [cellsS] using hown3)
    have N3 := Lib.hid (show Nw w w3 from hgrow3)
    clear hown3 hgrow3
    go_wp2_with fail
    go_loopw [27] (fun i wr => FillI w.heap.size w.heap.size n (rampAt n) w i wr) (fun i _ => n - (intOf i).toNat)
    case atStart => exact ⟨0, by omega, rfl, O3.out, N3.out⟩
    case round =>
      obtain ⟨k, hk, rfl, how, hnw⟩ := hrel
      have Ow := Lib.hid how
      have Nr := Lib.hid hnw
      clear how hnw
      by_cases hlt : k < n
      · have hb := all_pairs ramp_all n k hn hlt
        rw [rampB_eq] at hb
        simp only [Bool.and_eq_true] at hb
        have hc := calm_of hb.1.1.1
        have r1 := hc.res
        have d1 := hc.fdr
        have e1 := Ow.out.cellAt k (by omega)
        rw [fillL_cell (rampAt n) n k hlt] at e1
        have e2 := Ow.out.frozenAt k
        have hset := Ow.out.stored k (.float .f32 (rampAt n k))
        rw [fillL_set (rampAt n) n k hlt] at hset
        have F := Lib.hid hset.1
        have N2 := Lib.hid (Nr.out.set (p := ⟨w.heap.size, k, none⟩) (by show w.heap.size ≤ w.heap.size; omega) (.float .f32 (rampAt n k)))
        clear hb hc hset
        unfold rampAt at F N2
        go_wp2_with fail
        go_roundw
        case rel => exact ⟨k + 1, by omega, by rw [show ((k + 1 : Nat) : Int) = (k : Int) + 1 from by omega], F.out, N2.out⟩
        case measure => simp only [intOf]; omega
      · obtain rfl : k = n := by omega
        go_wp2_with fail
        go_ret2
        exact ⟨_, rfl, by have h := Ow.out; rw [fillL_full] at h; rw [shapeL_ramp]; exact h, Nr.out⟩
  · have O3 := Lib.hid (show w3.ownsRow w.heap.size 25 1 (.slice (some ⟨w.heap.size, 0, none⟩) n n) n (cellsS (fillL (archAt n) n 0)) from by
      rw [toList_madeCells_one] at hown3
      rw [fillL_zero]
      simpa [cellsS] using hown3)
    have N3 := Lib.hid (show Nw w w3 from hgrow3)
    clear hown3 hgrow3
    go_wp2_with fail
    go_loopw [44] (fun i wr => FillI w.heap.size w.heap.size n (archAt n) w i wr) (fun i _ => n - (intOf i).toNat)
    case atStart => exact ⟨0, by omega, rfl, O3.out, N3.out⟩
    case round =>
      obtain ⟨k, hk, rfl, how, hnw⟩ := hrel
      have Ow := Lib.hid how
      have Nr := Lib.hid hnw
      clear how hnw
      by_cases hlt : k < n
      · have hb := all_pairs arch_all n k hn hlt
        rw [archB_eq] at hb
        simp only [Bool.and_eq_true] at hb
        have c1 := calm_of hb.1.1.1.1
        have c2 := calm_of hb.1.1.1.2
        have c3 := calm_of hb.1.1.2
        have c4 := calm_of hb.1.2
        have r1 := c1.res
        have d1 := c1.fdr
        have r2 := c2.res
        have d2 := c2.fdr
        have r3 := c3.res
        have d3 := c3.fdr
        have r4 := c4.res
        have d4 := c4.fdr
        have e1 := Ow.out.cellAt k (by omega)
        rw [fillL_cell (archAt n) n k hlt] at e1
        have e2 := Ow.out.frozenAt k
        have hset := Ow.out.stored k (.float .f32 (archAt n k))
        rw [fillL_set (archAt n) n k hlt] at hset
        have F := Lib.hid hset.1
        have N2 := Lib.hid (Nr.out.set (p := ⟨w.heap.size, k, none⟩) (by show w.heap.size ≤ w.heap.size; omega) (.float .f32 (archAt n k)))
        clear hb c1 c2 c3 c4 hset
        unfold archAt archP archM archT at F N2
        unfold archP archM archT at r4 d4
        unfold archT at r2 d2 r3 d3
        go_wp2_with fail
        go_roundw
        case rel => exact ⟨k + 1, by omega, by rw [show ((k + 1 : Nat) : Int) = (k : Int) + 1 from by omega], F.out, N2.out⟩
        case measure => simp only [intOf]; omega
      · obtain rfl : k = n := by omega
        go_wp2_with fail
        go_ret2
        exact ⟨_, rfl, by have h := Ow.out; rw [fillL_full] at h; rw [shapeL_arch]; exact h, Nr.out⟩

end Go.Proofs.YtnmjkjjmigiabaaGreatDoor

/- The walks of StrikeShape of the model, of StrikeShape for all arguments, and of the marks that the exact laws set.
   Conditions: those that each statement names. -/
namespace Go.Proofs.YtnmjkjjmigiabaaGreatDoor
set_option linter.unusedSimpArgs false
set_option linter.unusedVariables false
open Go Go.RowKit

def ShapeV (zs : List Nat) (ok : Bool) (w : World) (e : Ending) (w' : World) : Prop :=
  ∃ v : Value, e = .returned (.tuple #[v, .bool ok]) ∧ w'.ownsRow w.heap.size 25 1 v zs.length (cellsS zs) ∧ Nw w w'
def StrS (kind n : Nat) (w : World) (v i : Value) (wr : World) : Prop :=
  ∃ k : Nat, k ≤ n ∧ i = .int .i64 (k : Int) ∧ wr.ownsRow w.heap.size 25 1 v k (cellsS ((List.range k).map (shapeAt kind n))) ∧ Nw w wr
theorem shapeL_len (kind n : Nat) : (shapeL kind n).length = n := by unfold shapeL; simp
theorem row_snoc (kind n k : Nat) : cellsS ((List.range k).map (shapeAt kind n)) ++ cellsS [shapeAt kind n k] = cellsS ((List.range (k + 1)).map (shapeAt kind n)) := by
  rw [List.range_succ]; simp [cellsS]

theorem nw_grow2 {a w w1 : World} {row : Option Nat} (h : Nw a w) (hg : w.grownBy w1 row) (hr : ∀ q, row = some q → a.heap.size ≤ q) : Nw a w1 :=
  ⟨hg.os.trans h.os, hg.tape.trans h.tape, hg.output.trans h.output, Nat.le_trans h.size hg.size, fun k hk hne => (hg.block k (Nat.lt_of_lt_of_le hk h.size) (fun e => by have := hr k e.symm; omega)).trans (h.block k hk hne)⟩

theorem l1In_any (x a b : Int) (w : World) :
    Calls Tryz.prog 150 #[.int .i64 x, .int .i64 a, .int .i64 b] w fun e w' => e = .returned (.bool (decide (a ≤ x ∧ x ≤ b))) ∧ w = w' := by
  by_cases h1 : a ≤ x
  all_goals by_cases h2 : x ≤ b
  all_goals
    go_enter Tryz.func150, Tryz.ntmps150
    go_wp2
    go_ret
    exact ⟨by simp [h1, h2], rfl⟩

set_option maxRecDepth 100000 in
set_option maxHeartbeats 6400000 in
theorem specStrike_ok (kind n : Nat) (hk : kind ≤ 2) (h1 : 1 ≤ n) (hn : n ≤ 64) (w : World) :
    Calls Tryz.prog 193 #[.int .i64 (kind : Int), .int .i64 (n : Int)] w (ShapeV (shapeL kind n) true w) := by
  obtain ⟨i0, hi, hz0, hz1, hz2⟩ := info_parts info_f32
  have hk3 : kind = 0 ∨ kind = 1 ∨ kind = 2 := by omega
  rcases hk3 with rfl | rfl | rfl
  all_goals
    go_enter Tryz.func193, Tryz.ntmps193
  · go_wp2_with (first | (go_at_call 150; refine (l1In_any _ _ _ _).mono ?_; rintro e w' ⟨rfl, rfl⟩; rw [decide_eq_true (by omega)]))
    go_loopw [6, 7] (fun v i wr => StrS 0 n w v i wr) (fun _ i _ => n - (intOf i).toNat)
    case atStart => exact ⟨0, by omega, rfl, World.ownsRow_lit (base := w.heap.size) (e := 25) (size := 1) w #[] 0 (Nat.le_refl _) (by decide) rfl, (Nw.refl w).alloc _⟩
    case round =>
      obtain ⟨k, hk', rfl, how, hnw⟩ := hrel
      obtain ⟨sa, sc, rfl⟩ := own_shape' how
      have Ow := Lib.hid how
      have Nr := Lib.hid hnw
      clear how hnw
      by_cases hlt : k < n
      · skip
        by_cases hk0 : k = 0
        · subst hk0
          go_wp2_with (at_builtin; refine wpList_append_own _ rfl _ _ 35 rfl w.heap.size 25 i0 (.float .f32 0) 1 4 Tryz.underlying35 hi hz0 hz1 hz2 rfl (by decide) _ _ _ rfl (Ow.out.alloc _) ⟨wr.heap.size, 0, none⟩ 1 1 [.float .f32 1065353216] rfl rfl ?c1 ?c2 ?c3 ?c4 ?c5 ?_)
          case c1 =>
            intro j u hj
            match j, hj with
            | 0, hj => simp at hj; subst hj; simp [Addr.add]
          case c2 => intro u hu; simp at hu; subst hu; rfl
          case c3 => unfold maxLen; omega
          case c4 => omega
          case c5 => have := Nr.out.size; simp; omega
          · intro v' w4 hown4 hgrow _
            have hrow : ∀ q, (Value.slice sa 0 sc).ownBlock = some q → w.heap.size ≤ q := fun q hq => own_ge Ow.out q hq
            have N4 := Lib.hid (nw_grow2 (Nr.out.alloc (.cells #[.float .f32 1065353216] 25 (0, 0))) hgrow hrow)
            have O4 := Lib.hid (show w4.ownsRow w.heap.size 25 1 v' 1 (cellsS ((List.range 1).map (shapeAt 0 n))) from by simpa [cellsS, shapeAt, clickAt] using hown4)
            clear hown4 hgrow hrow
            go_wp2_with fail
            go_roundw
            case rel => exact ⟨1, by omega, rfl, O4.out, N4.out⟩
            case measure => simp only [intOf]; omega
        · skip
          go_wp2_with (at_builtin; refine wpList_append_own _ rfl _ _ 35 rfl w.heap.size 25 i0 (.float .f32 0) 1 4 Tryz.underlying35 hi hz0 hz1 hz2 rfl (by decide) _ _ _ rfl (Ow.out.alloc _) ⟨wr.heap.size, 0, none⟩ 1 1 [.float .f32 0] rfl rfl ?c1 ?c2 ?c3 ?c4 ?c5 ?_)
          case c1 =>
            intro j u hj
            match j, hj with
            | 0, hj => simp at hj; subst hj; simp [Addr.add]
          case c2 => intro u hu; simp at hu; subst hu; rfl
          case c3 => unfold maxLen; omega
          case c4 => omega
          case c5 => have := Nr.out.size; simp; omega
          · intro v' w4 hown4 hgrow _
            have hrow : ∀ q, (Value.slice sa k sc).ownBlock = some q → w.heap.size ≤ q := fun q hq => own_ge Ow.out q hq
            have N4 := Lib.hid (nw_grow2 (Nr.out.alloc (.cells #[.float .f32 0] 25 (0, 0))) hgrow hrow)
            rw [show [Value.float .f32 0] = cellsS [shapeAt 0 n k] from by simp [cellsS, shapeAt, clickAt, hk0], row_snoc] at hown4
            have O4 := Lib.hid hown4
            clear hown4 hgrow hrow
            go_wp2_with fail
            go_roundw
            case rel => exact ⟨k + 1, by omega, by rw [show ((k + 1 : Nat) : Int) = (k : Int) + 1 from by omega], O4.out, N4.out⟩
            case measure => simp only [intOf]; omega
      · obtain rfl : k = n := by omega
        go_wp2_with fail
        go_ret2
        exact ⟨_, rfl, by rw [shapeL_len]; exact Ow.out, Nr.out⟩
  · go_wp2_with (first | (go_at_call 150; refine (l1In_any _ _ _ _).mono ?_; rintro e w' ⟨rfl, rfl⟩; rw [decide_eq_true (by omega)]))
    go_loopw [6, 7] (fun v i wr => StrS 1 n w v i wr) (fun _ i _ => n - (intOf i).toNat)
    case atStart => exact ⟨0, by omega, rfl, World.ownsRow_lit (base := w.heap.size) (e := 25) (size := 1) w #[] 0 (Nat.le_refl _) (by decide) rfl, (Nw.refl w).alloc _⟩
    case round =>
      obtain ⟨k, hk', rfl, how, hnw⟩ := hrel
      obtain ⟨sa, sc, rfl⟩ := own_shape' how
      have Ow := Lib.hid how
      have Nr := Lib.hid hnw
      clear how hnw
      by_cases hlt : k < n
      · skip
        have hb := all_pairs ramp_all n k hn hlt
        rw [rampB_eq] at hb
        simp only [Bool.and_eq_true] at hb
        have hc := calm_of hb.1.1.1
        have r1 := hc.res
        have d1 := hc.fdr
        clear hb hc
        go_wp2_with (at_builtin; refine wpList_append_own _ rfl _ _ 35 rfl w.heap.size 25 i0 (.float .f32 0) 1 4 Tryz.underlying35 hi hz0 hz1 hz2 rfl (by decide) _ _ _ rfl (Ow.out.alloc _) ⟨wr.heap.size, 0, none⟩ 1 1 [.float .f32 (opB .quo .f32 (floatOfInt .f32 ((k : Int) + 1)) (floatOfInt .f32 (n : Int)))] rfl rfl ?c1 ?c2 ?c3 ?c4 ?c5 ?_)
        case c1 =>
          intro j u hj
          match j, hj with
          | 0, hj => simp at hj; subst hj; simp [Addr.add]
        case c2 => intro u hu; simp at hu; subst hu; rfl
        case c3 => unfold maxLen; omega
        case c4 => omega
        case c5 => have := Nr.out.size; simp; omega
        · intro v' w4 hown4 hgrow _
          have hrow : ∀ q, (Value.slice sa k sc).ownBlock = some q → w.heap.size ≤ q := fun q hq => own_ge Ow.out q hq
          have N4 := Lib.hid (nw_grow2 (Nr.out.alloc (.cells #[.float .f32 (opB .quo .f32 (floatOfInt .f32 ((k : Int) + 1)) (floatOfInt .f32 (n : Int)))] 25 (0, 0))) hgrow hrow)
          rw [show [Value.float .f32 (opB .quo .f32 (floatOfInt .f32 ((k : Int) + 1)) (floatOfInt .f32 (n : Int)))] = cellsS [shapeAt 1 n k] from by simp [cellsS, shapeAt, rampAt], row_snoc] at hown4
          have O4 := Lib.hid hown4
          clear hown4 hgrow hrow
          go_wp2_with fail
          go_roundw
          case rel => exact ⟨k + 1, by omega, by rw [show ((k + 1 : Nat) : Int) = (k : Int) + 1 from by omega], O4.out, N4.out⟩
          case measure => simp only [intOf]; omega
      · obtain rfl : k = n := by omega
        go_wp2_with fail
        go_ret2
        exact ⟨_, rfl, by rw [shapeL_len]; exact Ow.out, Nr.out⟩
  · go_wp2_with (first | (go_at_call 150; refine (l1In_any _ _ _ _).mono ?_; rintro e w' ⟨rfl, rfl⟩; rw [decide_eq_true (by omega)]))
    go_loopw [6, 7] (fun v i wr => StrS 2 n w v i wr) (fun _ i _ => n - (intOf i).toNat)
    case atStart => exact ⟨0, by omega, rfl, World.ownsRow_lit (base := w.heap.size) (e := 25) (size := 1) w #[] 0 (Nat.le_refl _) (by decide) rfl, (Nw.refl w).alloc _⟩
    case round =>
      obtain ⟨k, hk', rfl, how, hnw⟩ := hrel
      obtain ⟨sa, sc, rfl⟩ := own_shape' how
      have Ow := Lib.hid how
      have Nr := Lib.hid hnw
      clear how hnw
      by_cases hlt : k < n
      · skip
        have hb := all_pairs arch_all n k hn hlt
        rw [archB_eq] at hb
        simp only [Bool.and_eq_true] at hb
        have c1 := calm_of hb.1.1.1.1
        have c2 := calm_of hb.1.1.1.2
        have c3 := calm_of hb.1.1.2
        have c4 := calm_of hb.1.2
        have r1 := c1.res
        have d1 := c1.fdr
        have r2 := c2.res
        have d2 := c2.fdr
        have r3 := c3.res
        have d3 := c3.fdr
        have r4 := c4.res
        have d4 := c4.fdr
        clear hb c1 c2 c3 c4
        unfold archP archM archT at r4 d4
        unfold archT at r2 d2 r3 d3
        go_wp2_with (at_builtin; refine wpList_append_own _ rfl _ _ 35 rfl w.heap.size 25 i0 (.float .f32 0) 1 4 Tryz.underlying35 hi hz0 hz1 hz2 rfl (by decide) _ _ _ rfl (Ow.out.alloc _) ⟨wr.heap.size, 0, none⟩ 1 1 [.float .f32 (opB .mul .f32 (opB .mul .f32 1082130432 (opB .quo .f32 (floatOfInt .f32 (2 * (k : Int) + 1)) (floatOfInt .f32 (2 * (n : Int))))) (opB .sub .f32 1065353216 (opB .quo .f32 (floatOfInt .f32 (2 * (k : Int) + 1)) (floatOfInt .f32 (2 * (n : Int))))))] rfl rfl ?c1 ?c2 ?c3 ?c4 ?c5 ?_)
        case c1 =>
          intro j u hj
          match j, hj with
          | 0, hj => simp at hj; subst hj; simp [Addr.add]
        case c2 => intro u hu; simp at hu; subst hu; rfl
        case c3 => unfold maxLen; omega
        case c4 => omega
        case c5 => have := Nr.out.size; simp; omega
        · intro v' w4 hown4 hgrow _
          have hrow : ∀ q, (Value.slice sa k sc).ownBlock = some q → w.heap.size ≤ q := fun q hq => own_ge Ow.out q hq
          have N4 := Lib.hid (nw_grow2 (Nr.out.alloc (.cells #[.float .f32 (opB .mul .f32 (opB .mul .f32 1082130432 (opB .quo .f32 (floatOfInt .f32 (2 * (k : Int) + 1)) (floatOfInt .f32 (2 * (n : Int))))) (opB .sub .f32 1065353216 (opB .quo .f32 (floatOfInt .f32 (2 * (k : Int) + 1)) (floatOfInt .f32 (2 * (n : Int))))))] 25 (0, 0))) hgrow hrow)
          rw [show [Value.float .f32 (opB .mul .f32 (opB .mul .f32 1082130432 (opB .quo .f32 (floatOfInt .f32 (2 * (k : Int) + 1)) (floatOfInt .f32 (2 * (n : Int))))) (opB .sub .f32 1065353216 (opB .quo .f32 (floatOfInt .f32 (2 * (k : Int) + 1)) (floatOfInt .f32 (2 * (n : Int))))))] = cellsS [shapeAt 2 n k] from by simp [cellsS, shapeAt, archAt, archP, archM, archT], row_snoc] at hown4
          have O4 := Lib.hid hown4
          clear hown4 hgrow hrow
          go_wp2_with fail
          go_roundw
          case rel => exact ⟨k + 1, by omega, by rw [show ((k + 1 : Nat) : Int) = (k : Int) + 1 from by omega], O4.out, N4.out⟩
          case measure => simp only [intOf]; omega
      · obtain rfl : k = n := by omega
        go_wp2_with fail
        go_ret2
        exact ⟨_, rfl, by rw [shapeL_len]; exact Ow.out, Nr.out⟩

end Go.Proofs.YtnmjkjjmigiabaaGreatDoor

/- The marks that the exact laws set on a row of samples, and how they find them again.
   Conditions: those that each statement names. -/
namespace Go.Proofs.YtnmjkjjmigiabaaGreatDoor
set_option linter.unusedSimpArgs false
set_option linter.unusedVariables false
open Go Go.RowKit

/-! ### marks -/
/-- the first k places are marked -/
def mkL (zs : List Nat) (k : Nat) : List Nat := (List.range k).map (fun i : Nat => floatOfInt .f32 ((i : Int) + 1)) ++ zs.drop k
theorem mk_zero (zs : List Nat) : mkL zs 0 = zs := by simp [mkL]
theorem mk_len (zs : List Nat) (k : Nat) (h : k ≤ zs.length) : (mkL zs k).length = zs.length := by simp [mkL]; omega
theorem mk_set (zs : List Nat) (k : Nat) (h : k < zs.length) : (cellsS (mkL zs k)).set k (.float .f32 (floatOfInt .f32 ((k : Int) + 1))) = cellsS (mkL zs (k + 1)) := by
  unfold mkL
  rw [List.drop_eq_getElem_cons h, List.range_succ]
  simp only [cellsS, List.map_append, List.map_cons, List.map_nil, List.append_assoc, List.singleton_append]
  rw [List.set_append_right _ _ (by simp)]
  simp
theorem mk_get (zs : List Nat) (n k : Nat) (h : k < n) : (mkL zs n)[k]? = some (floatOfInt .f32 ((k : Int) + 1)) := by
  unfold mkL
  rw [List.getElem?_append_left (by simpa using h)]
  simp [h]
theorem mk_at (zs : List Nat) (k x : Nat) (h : zs[k]? = some x) : (mkL zs k)[k]? = some x := by
  unfold mkL
  rw [List.getElem?_append_right (by simp)]
  simpa using h
theorem self_eq (k : Nat) : (FloatKind.f32.format.order (floatOfInt .f32 ((k : Int) + 1)) (floatOfInt .f32 ((k : Int) + 1)) == some .eq) = true := by
  rw [order_self, int_nn]; rfl

theorem self_ne (k : Nat) : (FloatKind.f32.format.order (floatOfInt .f32 ((k : Int) + 1)) (floatOfInt .f32 ((k : Int) + 1)) != some .eq) = false := by unfold bne; rw [self_eq k]; rfl

theorem kp_of_own {g : Nat} {c : Option Nat} {w w' : World} (e : c = some g) (h : Kp g w w') : w.grownBy w' c := by subst e; exact h
def MarkI (zs : List Nat) (n b : Nat) (v : Value) (w : World) (m i : Value) (wr : World) : Prop :=
  ∃ k : Nat, k ≤ n ∧ i = .int .i64 (k : Int) ∧ m = .int .i64 ((k : Int) + 1) ∧ wr.ownsRow b 25 1 v n (cellsS (mkL zs k)) ∧ w.grownBy wr v.ownBlock
def MarkP (zs : List Nat) (n b : Nat) (v : Value) (w : World) (e : Ending) (w' : World) : Prop :=
  e = .returned (.int .i64 ((n : Int) + 1)) ∧ w'.ownsRow b 25 1 v n (cellsS (mkL zs n)) ∧ w.grownBy w' v.ownBlock
theorem mark_ok (zs : List Nat) (n b : Nat) (v : Value) (hl : zs.length = n) (hn : n ≤ 1048576) (w : World) (h : w.ownsRow b 25 1 v n (cellsS zs)) :
    Calls Tryz.prog 145 #[v, .int .i64 1] w (MarkP zs n b v w) := by
  obtain ⟨va, vc, rfl⟩ := own_shape' h
  have H := Lib.hid h
  have Hl := Lib.hid hl
  clear h hl
  go_enter Tryz.func145, Tryz.ntmps145
  go_wp2_with fail
  go_loopw [1, 5] (fun m i wr => MarkI zs n b (.slice va n vc) w m i wr) (fun _ i _ => n - (intOf i).toNat)
  case atStart => exact ⟨0, by omega, rfl, rfl, by rw [mk_zero]; exact H.out, World.grownBy.refl _ _⟩
  case round =>
    obtain ⟨k, hk, rfl, rfl, how, hgr⟩ := hrel
    have Ow := Lib.hid how
    have Gr := Lib.hid hgr
    clear how hgr
    by_cases hlt : k < n
    · obtain ⟨x, hxk⟩ : ∃ x, zs[k]? = some x := ⟨zs[k]'(by rw [Hl.out]; exact hlt), List.getElem?_eq_getElem _⟩
      obtain ⟨g1, cap1, hv1, hcap1, hmax1, -, e1⟩ := own_sample Ow.out (mk_at zs k x hxk) (by rw [mk_len zs k (by rw [Hl.out]; exact hk)]; exact Hl.out.symm)
      cases hv1
      unfold maxLen at hmax1
      have e2 := Ow.out.frozenAt k
      have hset := Ow.out.stored k (.float .f32 (floatOfInt .f32 ((k : Int) + 1)))
      rw [mk_set zs k (by rw [Hl.out]; exact hlt)] at hset
      have F := Lib.hid hset.1
      have G2 := Lib.hid (Kp.set (c := g1) Gr.out k (.float .f32 (floatOfInt .f32 ((k : Int) + 1))))
      clear hset hxk
      go_wp2_with fail
      go_roundw
      case rel => exact ⟨k + 1, by omega, by rw [show ((k + 1 : Nat) : Int) = (k : Int) + 1 from by omega], by rw [show ((k + 1 : Nat) : Int) + 1 = (k : Int) + 1 + 1 from by omega], F.out, G2.out⟩
      case measure => simp only [intOf]; omega
    · obtain rfl : k = n := by omega
      go_wp2_with fail
      go_ret
      exact ⟨rfl, Ow.out, Gr.out⟩

def HeldI (n : Nat) (w : World) (m i : Value) (wr : World) : Prop := ∃ k : Nat, k ≤ n ∧ i = .int .i64 (k : Int) ∧ m = .int .i64 ((k : Int) + 1) ∧ Nw w wr
theorem held_ok (zs : List Nat) (n b : Nat) (v : Value) (hl : zs.length = n) (hn : n ≤ 1048576) (w : World) (h : w.ownsRow b 25 1 v n (cellsS (mkL zs n))) :
    Calls Tryz.prog 146 #[v, .int .i64 1] w fun e w' => e = .returned (.int .i64 ((n : Int) + 1)) ∧ Nw w w' := by
  obtain ⟨va, vc, rfl⟩ := own_shape' h
  have H := Lib.hid h
  have Hl := Lib.hid hl
  clear h hl
  go_enter Tryz.func146, Tryz.ntmps146
  go_wp2_with fail
  go_loopw [1, 5] (fun m i wr => HeldI n w m i wr) (fun _ i _ => n - (intOf i).toNat)
  case atStart => exact ⟨0, by omega, rfl, rfl, Nw.refl _⟩
  case round =>
    obtain ⟨k, hk, rfl, rfl, hN⟩ := hrel
    have Nr := Lib.hid hN
    clear hN
    by_cases hlt : k < n
    · obtain ⟨g1, cap1, hv1, hcap1, hmax1, -, e1⟩ := own_sample (own_nw H.out Nr.out) (mk_get zs n k hlt) (by rw [mk_len zs n (by rw [Hl.out]; exact Nat.le_refl _)]; exact Hl.out.symm)
      cases hv1
      unfold maxLen at hmax1
      have hself := self_ne k
      go_wp2_with fail
      go_roundw
      case rel => exact ⟨k + 1, by omega, by rw [show ((k + 1 : Nat) : Int) = (k : Int) + 1 from by omega], by rw [show ((k + 1 : Nat) : Int) + 1 = (k : Int) + 1 + 1 from by omega], Nr.out⟩
      case measure => simp only [intOf]; omega
    · obtain rfl : k = n := by omega
      go_wp2_with fail
      go_ret
      exact ⟨rfl, Nr.out⟩

end Go.Proofs.YtnmjkjjmigiabaaGreatDoor

/- StrikeShape for all arguments, of the program and of the model; the marks that the exact laws set.
   Conditions: those that each statement names. -/
namespace Go.Proofs.YtnmjkjjmigiabaaGreatDoor
set_option linter.unusedSimpArgs false
set_option linter.unusedVariables false
open Go Go.RowKit

def goodZ (a b : Int) : Prop := (0 ≤ a ∧ a ≤ 2) ∧ (1 ≤ b ∧ b ≤ 64)
instance (a b : Int) : Decidable (goodZ a b) := by unfold goodZ; exact inferInstance
def shapeZ (a b : Int) : List Nat := if goodZ a b then shapeL a.toNat b.toNat else []
def okZ (a b : Int) : Bool := decide (goodZ a b)
theorem shapeZ_len (a b : Int) : (shapeZ a b).length ≤ 64 := by
  unfold shapeZ
  split
  · rename_i h; rw [shapeL_len]; have := h.2; omega
  · simp
theorem nil_v (w : World) (b : Nat) : w.ownsRow b 25 1 (.slice none 0 0) ([] : List Nat).length (cellsS []) := World.ownsRow_nil _ _ _ _
theorem bad_v {a b : Int} (h : ¬ goodZ a b) {w w' : World} (hn : Nw w w') : ShapeV (shapeZ a b) (okZ a b) w (.returned (.tuple #[.slice none 0 0, .bool false])) w' := by
  unfold shapeZ okZ
  rw [if_neg h, decide_eq_false h]
  exact ⟨_, rfl, nil_v _ _, hn⟩

set_option maxRecDepth 100000 in
theorem specStrike_any (a b : Int) (w : World) :
    Calls Tryz.prog 193 #[.int .i64 a, .int .i64 b] w (ShapeV (shapeZ a b) (okZ a b) w) := by
  by_cases h : goodZ a b
  · have h' := h
    obtain ⟨⟨a0, a2⟩, b1, b2⟩ := h
    obtain ⟨k, rfl⟩ := Int.eq_ofNat_of_zero_le a0
    obtain ⟨n, rfl⟩ := Int.eq_ofNat_of_zero_le (show 0 ≤ b by omega)
    unfold shapeZ okZ
    rw [if_pos h', decide_eq_true h']
    exact specStrike_ok k n (by omega) (by omega) (by omega) w
  · by_cases ha : 0 ≤ a ∧ a ≤ 2
    · have hb : ¬ (1 ≤ b ∧ b ≤ 64) := fun hb => h ⟨ha, hb⟩
      go_enter Tryz.func193, Tryz.ntmps193
      go_wp2_with (first | (go_at_call 150; refine (l1In_any _ _ _ _).mono ?_; rintro e w' ⟨rfl, rfl⟩; first | rw [decide_eq_true ha] | rw [decide_eq_false hb]))
      go_ret2
      exact bad_v h (Nw.refl _)
    · go_enter Tryz.func193, Tryz.ntmps193
      go_wp2_with (first | (go_at_call 150; refine (l1In_any _ _ _ _).mono ?_; rintro e w' ⟨rfl, rfl⟩; rw [decide_eq_false ha]))
      go_ret2
      exact bad_v h (Nw.refl _)

set_option maxRecDepth 100000 in
theorem implStrike_any (a b : Int) (w : World) :
    Calls Tryz.prog 216 #[.int .i64 a, .int .i64 b] w (ShapeV (shapeZ a b) (okZ a b) w) := by
  by_cases h : goodZ a b
  · have h' := h
    obtain ⟨⟨a0, a2⟩, b1, b2⟩ := h
    obtain ⟨k, rfl⟩ := Int.eq_ofNat_of_zero_le a0
    obtain ⟨n, rfl⟩ := Int.eq_ofNat_of_zero_le (show 0 ≤ b by omega)
    unfold shapeZ okZ
    rw [if_pos h', decide_eq_true h']
    refine (strikeShape_ok k n (by omega) (by omega) (by omega) w).mono ?_
    rintro e w1 ⟨g, rfl, own1, n1⟩
    exact ⟨_, rfl, by rw [show (shapeL (k : Int).toNat (n : Int).toNat).length = n from shapeL_len _ _]; exact own1, n1⟩
  · by_cases hb : 1 ≤ b ∧ b ≤ 64
    · have hb1 := hb.1
      have hb2 := hb.2
      have ha0 : ¬ a = 0 := fun e => h ⟨⟨by omega, by omega⟩, hb⟩
      have ha1 : ¬ a = 1 := fun e => h ⟨⟨by omega, by omega⟩, hb⟩
      have ha2 : ¬ a = 2 := fun e => h ⟨⟨by omega, by omega⟩, hb⟩
      obtain ⟨n, rfl⟩ := Int.eq_ofNat_of_zero_le (show 0 ≤ b by omega)
      obtain ⟨f0, hf, hfz0, hfz1, hfz2⟩ := info_parts info_f32
      go_enter Tryz.func216, Tryz.ntmps216
      go_wp2_with (first
        | (at_make; refine wpList_make_full _ rfl _ _ 35 rfl w.heap.size 25 f0 (.float .f32 0) 1 Tryz.underlying35 hf hfz0 hfz1 _ _ _ _ n rfl rfl rfl rfl (by rw [hfz2]; omega) (by unfold maxLen; omega) (Nat.le_refl _) ?_))
      intro w3 hown3 hgrow3
      have N3 := Lib.hid (show Nw w w3 from hgrow3)
      clear hown3 hgrow3
      go_wp2_with fail
      go_ret2
      exact bad_v h N3.out
    · have hb' : b < 1 ∨ 64 < b := by omega
      go_enter Tryz.func216, Tryz.ntmps216
      rcases hb' with hb1 | hb1
      all_goals
        go_wp2
        go_ret2
        exact bad_v h (Nw.refl _)

end Go.Proofs.YtnmjkjjmigiabaaGreatDoor

/- Which scores are valid, and what the program's IsScore tells (FnExactParseScore).
   Conditions: those that each statement names. -/
namespace Go.Proofs.YtnmjkjjmigiabaaGreatDoor
set_option linter.unusedSimpArgs false
set_option linter.unusedVariables false
open Go Go.RowKit

theorem sm_nn' {b : Nat} (h : Sm b) : nan32 b = false := by
  obtain ⟨s, m, p, e⟩ := h
  unfold nan32
  rw [show FloatKind.f32.decode b = _ from e]
  rfl
def stB (x : Int) : Bool := decide (0 ≤ x) && decide (x ≤ 2000)
theorem stB_iff {x : Int} : stB x = true ↔ 0 ≤ x ∧ x ≤ 2000 := by unfold stB; simp
def evB (nb : Nat) (e : Ev6) : Bool :=
  stB e.t && (decide (0 ≤ e.b) && decide (e.b < (nb : Int))) && (if e.k = 1 then okZ e.s e.m && fin .f32 e.f else if e.k = 2 then ge0 e.f && le1 e.f else decide (e.k = 3))
theorem isSteps_any (x : Int) (w : World) :
    Calls Tryz.prog 158 #[.int .i64 x] w fun e w' => e = .returned (.bool (stB x)) ∧ w = w' := by
  unfold stB
  by_cases h1 : 0 ≤ x
  all_goals by_cases h2 : x ≤ 2000
  all_goals
    go_enter Tryz.func158, Tryz.ntmps158
    go_wp2
    go_ret
    exact ⟨by simp [h1, h2], rfl⟩
theorem evB_no {nb : Nat} {e : Ev6} (h : stB e.t = false ∨ e.b < 0 ∨ (nb : Int) ≤ e.b) : evB nb e = false := by
  unfold evB
  rcases h with h | h | h
  · rw [h]; rfl
  · rw [show decide (0 ≤ e.b) = false from by simp; omega]; simp
  · rw [show decide (e.b < (nb : Int)) = false from by simp; omega]; simp
theorem evB_at {nb : Nat} {e : Ev6} (h : stB e.t = true) (h0 : 0 ≤ e.b) (h1 : e.b < (nb : Int)) : evB nb e = (if e.k = 1 then okZ e.s e.m && fin .f32 e.f else if e.k = 2 then ge0 e.f && le1 e.f else decide (e.k = 3)) := by
  unfold evB
  rw [h, decide_eq_true h0, decide_eq_true h1]
  rfl

set_option maxHeartbeats 1600000 in
set_option maxRecDepth 100000 in
theorem isEvent_any (nb : Nat) (e : Ev6) (h : EvG e.k e.s e.m e.f) (w : World) :
    Calls Tryz.prog 197 #[.agg #[.int .i64 e.t, .int .i64 e.k, .int .i64 e.b, .int .i64 e.s, .int .i64 e.m, .float .f32 e.f], .int .i64 (nb : Int)] w (TestP (evB nb e) w) := by
  obtain ⟨t, k, b, s, m, f⟩ := e
  obtain ⟨⟨hf, hf2⟩, hk⟩ := h
  simp only at hf hf2 hk ⊢
  have q1 := eql_event
  have X := Lib.hid (Has6.new w 137 (.int .i64 t) (.int .i64 k) (.int .i64 b) (.int .i64 s) (.int .i64 m) (.float .f32 f))
  have N := Lib.hid ((Nw.refl w).alloc (.cells #[.int .i64 t, .int .i64 k, .int .i64 b, .int .i64 s, .int .i64 m, .float .f32 f] 137 (0, 0)))
  cases hst : stB t with
  | false =>
    have E := Lib.hid (evB_no (nb := nb) (e := ⟨t, k, b, s, m, f⟩) (.inl hst))
    clear q1 hk
    go_enter Tryz.func197, Tryz.ntmps197
    go_wp2_with (go_at_call 158; refine (isSteps_any t _).mono ?_; rintro e w1 ⟨rfl, rfl⟩; rw [hst])
    all_goals
      go_ret
      exact ⟨by rw [E.out]; first | done | rfl, N.out⟩
  | true =>
    by_cases h0 : b < 0
    · have E := Lib.hid (evB_no (nb := nb) (e := ⟨t, k, b, s, m, f⟩) (.inr (.inl h0)))
      clear q1 hk
      go_enter Tryz.func197, Tryz.ntmps197
      go_wp2_with (go_at_call 158; refine (isSteps_any t _).mono ?_; rintro e w1 ⟨rfl, rfl⟩; rw [hst])
      all_goals
        go_ret
        exact ⟨by rw [E.out]; first | done | rfl, N.out⟩
    · by_cases h1 : b ≥ (nb : Int)
      · have E := Lib.hid (evB_no (nb := nb) (e := ⟨t, k, b, s, m, f⟩) (.inr (.inr h1)))
        clear q1 hk
        go_enter Tryz.func197, Tryz.ntmps197
        go_wp2_with (go_at_call 158; refine (isSteps_any t _).mono ?_; rintro e w1 ⟨rfl, rfl⟩; rw [hst])
        all_goals
          go_ret
          exact ⟨by rw [E.out]; first | done | rfl, N.out⟩
      · have E := Lib.hid (evB_at (nb := nb) (e := ⟨t, k, b, s, m, f⟩) hst (by show 0 ≤ b; omega) (by show b < (nb : Int); omega))
        rcases hk with rfl | ⟨rfl, rfl, rfl⟩ | ⟨rfl, rfl, rfl, rfl⟩
        · have a1 := fcv_wide (sm_nn' hf)
          have a2 := fcd_wide (sm_nn' hf)
          have a3 : fin .f64 (wid f) = true := fin_wid hf
          have a4 := Lib.hid (show evB nb ⟨t, 1, b, s, m, f⟩ = okZ s m from by rw [E.out]; simp [(fin_iff' .f32 f).2 hf])
          clear q1
          go_enter Tryz.func197, Tryz.ntmps197
          go_wp2_with (go_at_call 158; refine (isSteps_any t _).mono ?_; rintro e w1 ⟨rfl, rfl⟩; rw [hst])
          refine (implStrike_any s m _).mono ?_
          rintro e w2 ⟨g, rfl, own2, n2⟩
          have N2 := Lib.hid (N.out.trans n2)
          obtain ⟨x0, ⟨x1, x2, x3, x4, x5, x6⟩, x7, x8, x9, x10, x11, x12⟩ := X.out.nw n2
          clear own2 n2
          cases ho : okZ s m with
          | true =>
            go_wp2_with (go_at_call 47; refine (isFinitePart_any _ _ (wid_lt f)).mono ?_; rintro e w3 ⟨rfl, rfl⟩; rw [a3])
            go_ret
            exact ⟨by rw [a4.out, ho]; first | done | rfl, N2.out⟩
          | false =>
            go_wp2_with fail
            go_ret
            exact ⟨by rw [a4.out, ho]; first | done | rfl, N2.out⟩
        · have hq : Ev6.eqB ⟨t, 2, b, 0, 0, f⟩ ⟨t, 2, b, 0, 0, f⟩ = true := Ev6.eqB_self hf
          have a4 := Lib.hid (show evB nb ⟨t, 2, b, 0, 0, f⟩ = (ge0 f && le1 f) from by rw [E.out]; simp)
          cases hg : (ge0 f && le1 f) with
          | true =>
            go_enter Tryz.func197, Tryz.ntmps197
            go_wp2_with (first
              | (go_at_call 158; refine (isSteps_any t _).mono ?_; rintro e w1 ⟨rfl, rfl⟩; rw [hst])
              | (go_at_call 196; refine (isFactor_any _ _).mono ?_; rintro e w1 ⟨rfl, rfl⟩; rw [hg]))
            all_goals
              go_ret
              exact ⟨by rw [a4.out, hg]; first | done | rfl, N.out⟩
          | false =>
            go_enter Tryz.func197, Tryz.ntmps197
            go_wp2_with (first
              | (go_at_call 158; refine (isSteps_any t _).mono ?_; rintro e w1 ⟨rfl, rfl⟩; rw [hst])
              | (go_at_call 196; refine (isFactor_any _ _).mono ?_; rintro e w1 ⟨rfl, rfl⟩; rw [hg]))
            all_goals
              go_ret
              exact ⟨by rw [a4.out, hg]; first | done | rfl, N.out⟩
        · have hq : Ev6.eqB ⟨t, 3, b, 0, 0, 0⟩ ⟨t, 3, b, 0, 0, 0⟩ = true := Ev6.eqB_self sm_zero0
          have a1 : ∀ w, fcv w .f32 0 .f64 = 0 := fun w => by rw [fcv_wide (by decide)]; exact wid_zero
          have a2 : fcd .f32 0 .f64 = 0 := fcd_wide (by decide)
          have a4 := Lib.hid (show evB nb ⟨t, 3, b, 0, 0, 0⟩ = true from by rw [E.out]; rfl)
          go_enter Tryz.func197, Tryz.ntmps197
          go_wp2_with (first
            | (go_at_call 158; refine (isSteps_any t _).mono ?_; rintro e w1 ⟨rfl, rfl⟩; rw [hst])
            | (go_at_call 48; refine (signbit_any 0 (by decide) _).mono ?_; rintro e w1 ⟨rfl, rfl⟩; rw [show decide (2 ^ 63 ≤ 0) = false from rfl]))
          all_goals
            go_ret
            exact ⟨by rw [a4.out]; first | done | rfl, N.out⟩

/-! ### all bodies, all events -/
def scB (s : Sco) : Bool :=
  stB s.L && (decide (1 ≤ s.V) && decide (s.V ≤ 8)) && lim s.C s.R && (decide (s.bs.length ≤ 8) && s.bs.all bodyB) && (decide (s.es.length ≤ 60) && s.es.all (evB s.bs.length))
theorem scB_iff {s : Sco} : scB s = true ↔ stB s.L = true ∧ (1 ≤ s.V ∧ s.V ≤ 8) ∧ lim s.C s.R = true ∧ (s.bs.length ≤ 8 ∧ ∀ ms ∈ s.bs, bodyB ms = true) ∧ (s.es.length ≤ 60 ∧ ∀ e ∈ s.es, evB s.bs.length e = true) := by
  unfold scB
  simp only [Bool.and_eq_true, decide_eq_true_iff, List.all_eq_true]
  constructor
  · rintro ⟨⟨⟨⟨a, b⟩, c⟩, d⟩, e⟩; exact ⟨a, b, c, d, e⟩
  · rintro ⟨a, b, c, d, e⟩; exact ⟨⟨⟨⟨a, b⟩, c⟩, d⟩, e⟩
theorem scB_false {s : Sco} (h : ¬ (stB s.L = true ∧ (1 ≤ s.V ∧ s.V ≤ 8) ∧ lim s.C s.R = true ∧ (s.bs.length ≤ 8 ∧ ∀ ms ∈ s.bs, bodyB ms = true) ∧ (s.es.length ≤ 60 ∧ ∀ e ∈ s.es, evB s.bs.length e = true))) : scB s = false := by
  cases hb : scB s with
  | false => rfl
  | true => exact absurd (scB_iff.1 hb) h
def AllJ {α : Type} (f : α → Bool) (l : List α) (n : Nat) (w : World) (i : Value) (wr : World) : Prop :=
  ∃ k : Nat, k ≤ n ∧ i = .int .i64 (k : Int) ∧ (∀ j, j < k → ∀ x, l[j]? = some x → f x = true) ∧ Nw w wr
theorem allJ_of {α : Type} {f : α → Bool} {l : List α} {n : Nat} (hn : n = l.length) (h : ∀ j, j < n → ∀ x, l[j]? = some x → f x = true) : l.all f = true := by
  rw [List.all_eq_true]
  intro x hx
  obtain ⟨j, hj⟩ := List.mem_iff_getElem?.1 hx
  have := (List.getElem?_eq_some_iff.1 hj).1
  exact h j (by omega) x hj
theorem all_no {α : Type} {f : α → Bool} {l : List α} {k : Nat} {x : α} (h : l[k]? = some x) (hf : f x = false) : l.all f = false := by
  rw [List.all_eq_false]
  exact ⟨x, List.mem_of_getElem? h, by rw [hf]; simp⟩

set_option maxHeartbeats 1600000 in
set_option maxRecDepth 100000 in
theorem areBodies_any (bs : List (List M4)) (base n : Nat) (sv : Value) (w : World) (hn : n = bs.length) (h : BodsR w base sv bs) (hok : ∀ ms ∈ bs, ms.length ≤ 16 ∧ ∀ m ∈ ms, m.Fin) :
    Calls Tryz.prog 161 #[sv] w (TestP (decide (n ≤ 8) && bs.all bodyB) w) := by
  obtain ⟨sa, sc, rfl⟩ := h.shape
  rw [← hn]
  rw [← hn] at h
  have Hb := Lib.hid h
  have Hok := Lib.hid hok
  have Hn := Lib.hid hn
  clear h hok hn
  by_cases h8 : n ≤ 8
  · have h8' : ¬ ((8 : Int) < (n : Int)) := by omega
    rw [decide_eq_true h8, Bool.true_and]
    go_enter Tryz.func161, Tryz.ntmps161
    go_wp2_with fail
    go_loopw [10] (fun i wr => AllJ bodyB bs n w i wr) (fun i _ => n - (intOf i).toNat)
    case atStart => exact ⟨0, by omega, rfl, fun j hj => absurd hj (by omega), Nw.refl w⟩
    case round =>
      obtain ⟨k, hk, rfl, hal, hnw⟩ := hrel
      have Hnw := Lib.hid hnw
      have Al := Lib.hid hal
      clear hnw hal
      by_cases hlt : k < n
      · obtain ⟨ms, hmk⟩ : ∃ ms, bs[k]? = some ms := ⟨bs[k]'(by rw [← Hn.out]; exact hlt), List.getElem?_eq_getElem _⟩
        obtain ⟨g, cap, a, c, hv, hcap, hmax, hgs, e1, own⟩ := (Hb.out.nw Hnw.out).at Hn.out hmk
        cases hv
        have Hmo := Lib.hid (Hok.out ms (List.mem_of_getElem? hmk))
        have Own := Lib.hid (own.alloc (.cells #[.slice a ms.length c] 38 (0, 0)))
        have Mk := Lib.hid hmk
        unfold maxLen at hmax
        clear own hmk
        have N4 := Lib.hid (Hnw.out.alloc (.cells #[.slice a ms.length c] 38 (0, 0)))
        go_wp2_with fail
        refine (implIsBody_fin ms Hmo.out.2 ms.length base _ rfl (by have := Hmo.out.1; omega) _ Own.out).mono ?_
        rintro e w5 ⟨rfl, n5⟩
        have N5 := Lib.hid (N4.out.trans n5)
        clear n5 e1
        cases hb : bodyB ms with
        | true =>
          go_wp2_with fail
          go_roundw
          case rel =>
            refine ⟨k + 1, by omega, by rw [show ((k + 1 : Nat) : Int) = (k : Int) + 1 from by omega], fun j hj x hx => ?_, N5.out⟩
            by_cases hjk : j < k
            · exact Al.out j hjk x hx
            · obtain rfl : j = k := by omega
              rw [Mk.out] at hx
              cases hx
              exact hb
          case measure => simp only [intOf]; omega
        | false =>
          go_wp2_with fail
          go_ret
          exact ⟨by rw [all_no Mk.out hb]; first | done | rfl, N5.out⟩
      · obtain rfl : k = n := by omega
        go_wp2_with fail
        go_ret
        exact ⟨by rw [allJ_of Hn.out Al.out]; first | done | rfl, Hnw.out⟩
  · have h8' : (8 : Int) < (n : Int) := by omega
    rw [decide_eq_false h8, Bool.false_and]
    go_enter Tryz.func161, Tryz.ntmps161
    go_wp2_with fail
    go_ret
    exact ⟨rfl, Nw.refl _⟩

set_option maxHeartbeats 1600000 in
set_option maxRecDepth 100000 in
theorem areEvents_any (es : List Ev6) (nb base n : Nat) (v : Value) (w : World) (hn : n = es.length) (hn3 : n ≤ 1000) (h : w.ownsRow base 137 6 v n (cellsE es)) (hok : ∀ e ∈ es, EvG e.k e.s e.m e.f) :
    Calls Tryz.prog 162 #[v, .int .i64 (nb : Int)] w (TestP (decide (n ≤ 60) && es.all (evB nb)) w) := by
  obtain ⟨sa, sc, rfl⟩ := own_shape' h
  have Hb := Lib.hid h
  have Hok := Lib.hid hok
  have Hn := Lib.hid hn
  clear h hok hn
  by_cases h8 : n ≤ 60
  · have h8' : ¬ ((60 : Int) < (n : Int)) := by omega
    rw [decide_eq_true h8, Bool.true_and]
    go_enter Tryz.func162, Tryz.ntmps162
    go_wp2_with fail
    go_loopw [12] (fun i wr => AllJ (evB nb) es n w i wr) (fun i _ => n - (intOf i).toNat)
    case atStart => exact ⟨0, by omega, rfl, fun j hj => absurd hj (by omega), Nw.refl w⟩
    case round =>
      obtain ⟨k, hk, rfl, hal, hnw⟩ := hrel
      have Hnw := Lib.hid hnw
      have Al := Lib.hid hal
      clear hnw hal
      by_cases hlt : k < n
      · obtain ⟨e, hek⟩ : ∃ e, es[k]? = some e := ⟨es[k]'(by rw [← Hn.out]; exact hlt), List.getElem?_eq_getElem _⟩
        obtain ⟨g, cap, hv, hcap, hmax, hgs, c0, c1, c2, c3, c4, c5⟩ := own_event (own_nw Hb.out Hnw.out) Hn.out.symm hek
        cases hv
        have Hmo := Lib.hid (Hok.out e (List.mem_of_getElem? hek))
        have Mk := Lib.hid hek
        unfold maxLen at hmax
        clear hek
        have N4 := Lib.hid (Hnw.out.alloc (.cells #[.int .i64 e.t, .int .i64 e.k, .int .i64 e.b, .int .i64 e.s, .int .i64 e.m, .float .f32 e.f] 137 (0, 0)))
        go_wp2_with fail
        refine (isEvent_any nb e Hmo.out _).mono ?_
        rintro e5 w5 ⟨rfl, n5⟩
        have N5 := Lib.hid (N4.out.trans n5)
        clear n5 c0 c1 c2 c3 c4 c5
        cases hb : evB nb e with
        | true =>
          go_wp2_with fail
          go_roundw
          case rel =>
            refine ⟨k + 1, by omega, by rw [show ((k + 1 : Nat) : Int) = (k : Int) + 1 from by omega], fun j hj x hx => ?_, N5.out⟩
            by_cases hjk : j < k
            · exact Al.out j hjk x hx
            · obtain rfl : j = k := by omega
              rw [Mk.out] at hx
              cases hx
              exact hb
          case measure => simp only [intOf]; omega
        | false =>
          go_wp2_with fail
          go_ret
          exact ⟨by rw [all_no Mk.out hb]; first | done | rfl, N5.out⟩
      · obtain rfl : k = n := by omega
        go_wp2_with fail
        go_ret
        exact ⟨by rw [allJ_of Hn.out Al.out]; first | done | rfl, Hnw.out⟩
  · have h8' : (60 : Int) < (n : Int) := by omega
    rw [decide_eq_false h8, Bool.false_and]
    go_enter Tryz.func162, Tryz.ntmps162
    go_wp2_with fail
    go_ret
    exact ⟨rfl, Nw.refl _⟩
end Go.Proofs.YtnmjkjjmigiabaaGreatDoor

/- The program's IsScore (FnExactParseScore).
   Conditions: those that each statement names. -/
namespace Go.Proofs.YtnmjkjjmigiabaaGreatDoor
set_option linter.unusedSimpArgs false
set_option linter.unusedVariables false
open Go Go.RowKit

set_option maxHeartbeats 3200000 in
set_option maxRecDepth 100000 in
theorem isScore_any (s : Sco) (base nb ne : Nat) (sv ev : Value) (w : World) (hnb : nb = s.bs.length) (hne : ne = s.es.length) (hne2 : ne ≤ 1000) (hR : s.R < 2 ^ 32 ∨ stB s.L = false ∨ ¬ (1 ≤ s.V ∧ s.V ≤ 8))
    (hb : BodsR w base sv s.bs) (he : w.ownsRow base 137 6 ev ne (cellsE s.es)) (hbok : ∀ ms ∈ s.bs, ms.length ≤ 16 ∧ ∀ m ∈ ms, m.Fin) (heok : ∀ e ∈ s.es, EvG e.k e.s e.m e.f) :
    Calls Tryz.prog 99 #[.agg #[.int .i64 s.L, .int .i64 s.V, .float .f32 s.C, .float .f32 s.R, sv, ev]] w (TestP (scB s) w) := by
  obtain ⟨L, V, C, R, bs, es⟩ := s
  simp only at hnb hne hR hb he hbok heok ⊢
  obtain ⟨sa, sc, rfl⟩ := hb.shape
  obtain ⟨ea, ec, rfl⟩ := own_shape' he
  rw [← hnb] at hb ⊢
  have Hn := Lib.hid (And.intro hnb hne)
  have Hb := Lib.hid hb
  have He := Lib.hid he
  have Hok := Lib.hid (And.intro hbok heok)
  have N := Lib.hid ((Nw.refl w).alloc (.cells #[.int .i64 L, .int .i64 V, .float .f32 C, .float .f32 R, .slice sa nb sc, .slice ea ne ec] 68 (0, 0)))
  have X := Lib.hid (Has6.new w 68 (.int .i64 L) (.int .i64 V) (.float .f32 C) (.float .f32 R) (.slice sa nb sc) (.slice ea ne ec))
  have F := Lib.hid (fun h => scB_false (s := ⟨L, V, C, R, bs, es⟩) h)
  have T := Lib.hid (fun h => (scB_iff (s := ⟨L, V, C, R, bs, es⟩)).2 h)
  clear hb he hbok heok hnb hne
  cases hst : stB L with
  | false =>
    go_enter Tryz.func99, Tryz.ntmps99
    go_wp2_with (go_at_call 158; refine (isSteps_any L _).mono ?_; rintro e w1 ⟨rfl, rfl⟩; rw [hst])
    all_goals
      go_ret
      exact ⟨by rw [F.out (fun h => by rw [hst] at h; cases h.1)]; first | done | rfl, N.out⟩
  | true =>
    by_cases hV : 1 ≤ V ∧ V ≤ 8
    · have hR : R < 2 ^ 32 := by
        rcases hR with h | h | h
        · exact h
        · rw [hst] at h; cases h
        · exact absurd hV h
      obtain ⟨v1, v2⟩ := hV
      cases hgc : (gt0 C && fin .f32 C) with
      | false =>
        have hno : lim C R = false := by unfold lim; rw [hgc]; rfl
        go_enter Tryz.func99, Tryz.ntmps99
        go_wp2_with (first
          | (go_at_call 158; refine (isSteps_any L _).mono ?_; rintro e w1 ⟨rfl, rfl⟩; rw [hst])
          | (go_at_call 159; refine (isCeiling_any _ _).mono ?_; rintro e w1 ⟨rfl, rfl⟩; rw [hgc]))
        all_goals
          go_ret
          exact ⟨by rw [F.out (fun h => by have := h.2.2.1; rw [show lim (Sco.mk L V C R bs es).C (Sco.mk L V C R bs es).R = lim C R from rfl, hno] at this; cases this)]; first | done | rfl, N.out⟩
      | true =>
        cases hgr : ((ge0 R && le1 R) && !(R == 2147483648)) with
        | false =>
          have hno : lim C R = false := by unfold lim; rw [hgc, hgr]; rfl
          go_enter Tryz.func99, Tryz.ntmps99
          go_wp2_with (first
            | (go_at_call 158; refine (isSteps_any L _).mono ?_; rintro e w1 ⟨rfl, rfl⟩; rw [hst])
            | (go_at_call 159; refine (isCeiling_any _ _).mono ?_; rintro e w1 ⟨rfl, rfl⟩; rw [hgc])
            | (go_at_call 160; refine (isRelease_any _ hR _).mono ?_; rintro e w1 ⟨rfl, rfl⟩; rw [hgr]))
          all_goals
            go_ret
            exact ⟨by rw [F.out (fun h => by have := h.2.2.1; rw [show lim (Sco.mk L V C R bs es).C (Sco.mk L V C R bs es).R = lim C R from rfl, hno] at this; cases this)]; first | done | rfl, N.out⟩
        | true =>
          have hlim : lim C R = true := by unfold lim; rw [hgc, hgr]; rfl
          go_enter Tryz.func99, Tryz.ntmps99
          go_wp2_with (first
            | (go_at_call 158; refine (isSteps_any L _).mono ?_; rintro e w1 ⟨rfl, rfl⟩; rw [hst])
            | (go_at_call 159; refine (isCeiling_any _ _).mono ?_; rintro e w1 ⟨rfl, rfl⟩; rw [hgc])
            | (go_at_call 160; refine (isRelease_any _ hR _).mono ?_; rintro e w1 ⟨rfl, rfl⟩; rw [hgr]))
          refine (areBodies_any bs base nb _ _ Hn.out.1 (Hb.out.nw N.out) Hok.out.1).mono ?_
          rintro e w2 ⟨rfl, n2⟩
          have N2 := Lib.hid (N.out.trans n2)
          obtain ⟨x0, ⟨x1, x2, x3, x4, x5, x6⟩, x7, x8, x9, x10, x11, x12⟩ := X.out.nw n2
          clear n2
          cases hbb : (decide (nb ≤ 8) && bs.all bodyB) with
          | false =>
            go_wp2_with fail
            go_ret
            have hF : scB ⟨L, V, C, R, bs, es⟩ = false := F.out (fun h => by
              obtain ⟨b1, b2⟩ := h.2.2.2.1
              have b1 : nb ≤ 8 := by rw [Hn.out.1]; exact b1
              rw [decide_eq_true b1, List.all_eq_true.2 b2] at hbb
              cases hbb)
            exact ⟨by rw [hF]; first | done | rfl, N2.out⟩
          | true =>
            go_wp2_with fail
            refine (areEvents_any es nb base ne _ _ Hn.out.2 hne2 (own_nw He.out N2.out) Hok.out.2).mono ?_
            rintro e w3 ⟨rfl, n3⟩
            have N3 := Lib.hid (N2.out.trans n3)
            clear n3 x0 x1 x2 x3 x4 x5 x6 x7 x8 x9 x10 x11 x12
            go_wp2_with fail
            go_ret
            refine ⟨?_, N3.out⟩
            have e0 : scB ⟨L, V, C, R, bs, es⟩ = (decide (ne ≤ 60) && es.all (evB nb)) := by
              unfold scB
              simp only
              rw [← Hn.out.1, ← Hn.out.2, hst, decide_eq_true v1, decide_eq_true v2, hlim, hbb]
              simp
            rw [e0]; first | done | rfl
    · have hno : V < 1 ∨ 8 < V := by omega
      rcases hno with hno | hno
      all_goals
        go_enter Tryz.func99, Tryz.ntmps99
        go_wp2_with (go_at_call 158; refine (isSteps_any L _).mono ?_; rintro e w1 ⟨rfl, rfl⟩; rw [hst])
        all_goals
          go_ret
          exact ⟨by rw [F.out (fun h => by have := h.2.1.1; have := h.2.1.2; omega)]; first | done | rfl, N.out⟩
end Go.Proofs.YtnmjkjjmigiabaaGreatDoor

/- The program's ParseScore (FnExactParseScore).
   Conditions: those that each statement names. -/
namespace Go.Proofs.YtnmjkjjmigiabaaGreatDoor
set_option linter.unusedSimpArgs false
set_option linter.unusedVariables false
open Go Go.RowKit

def GoodS (l : List UInt8) (s : Sco) : Prop := scB s = true ∧ TextS l s
theorem goodS_len {l : List UInt8} {s : Sco} (h : GoodS l s) : (∀ ms ∈ s.bs, ms.length ≤ 16) ∧ s.bs.length ≤ 8 ∧ s.es.length ≤ 60 := by
  obtain ⟨-, -, -, ⟨h1, h2⟩, h3, -⟩ := scB_iff.1 h.1
  exact ⟨fun ms hm => ((bodyB_iff ms).1 (h2 ms hm)).1, h1, h3⟩
theorem evB_rng {nb : Nat} (hnb : nb ≤ 8) {e : Ev6} (hg : EvG e.k e.s e.m e.f) (h : evB nb e = true) : e.t.natAbs < 10 ^ 16 ∧ e.b.natAbs < 10 ^ 16 ∧ e.s.natAbs < 10 ^ 16 ∧ e.m.natAbs < 10 ^ 16 := by
  unfold evB at h
  rw [Bool.and_eq_true, Bool.and_eq_true, Bool.and_eq_true, decide_eq_true_iff, decide_eq_true_iff, stB_iff] at h
  obtain ⟨⟨h1, h2⟩, h3⟩ := h
  have hsm : e.s.natAbs < 10 ^ 16 ∧ e.m.natAbs < 10 ^ 16 := by
    rcases hg.2 with k | ⟨k, a, b⟩ | ⟨k, a, b, -⟩
    · rw [if_pos k, Bool.and_eq_true] at h3
      have h4 : goodZ e.s e.m := by have := h3.1; unfold okZ at this; exact of_decide_eq_true this
      obtain ⟨g1, g2⟩ := h4
      omega
    · omega
    · omega
  omega
theorem score_text {p q mid : List UInt8} {s : Sco} (h : RdS p q mid [] s) (hg : ∀ e ∈ s.es, EvG e.k e.s e.m e.f) (hb : scB s = true) : GoodS (p ++ 10 :: q) s := by
  obtain ⟨h1, h2, -, ⟨h3, -⟩, -, h5⟩ := scB_iff.1 hb
  rw [stB_iff] at h1
  exact ⟨hb, rdS_text h (by omega) (by omega) (fun e he => evB_rng h3 (hg e he) (h5 e he))⟩
theorem score_nl {l : List UInt8} {s : Sco} (h : TextS l s) : 10 ∈ l := by
  obtain ⟨h1, ls, qs, -, -, -, rfl⟩ := h
  simp [glueC]
theorem score_head {p q : List UInt8} {s : Sco} (hp : 10 ∉ p) (h : TextS (p ++ 10 :: q) s) : HeadT p s.L s.V s.C s.R := by
  obtain ⟨h1, ls, qs, a, -, -, e⟩ := h
  have e : p ++ 10 :: q = h1 ++ 10 :: glueC 10 (ls ++ qs) := by rw [e]; simp [glueC]
  obtain ⟨rfl, -⟩ := cutC e hp (headT_nl a)
  exact a

def PscP (l : List UInt8) (w : World) (e : Ending) (w' : World) : Prop :=
  Nw w w' ∧ ((∃ (s : Sco) (sv ev : Value), GoodS l s ∧ e = .returned (.tuple #[.agg #[.int .i64 s.L, .int .i64 s.V, .float .f32 s.C, .float .f32 s.R, sv, ev], .bool true]) ∧ BodsN w' w.heap.size w'.heap.size sv s.bs ∧ w'.ownsRow w.heap.size 137 6 ev s.es.length (cellsE s.es)) ∨
    ((∀ s, ¬ GoodS l s) ∧ e = .returned (.tuple #[.agg #[.int .i64 0, .int .i64 0, .float .f32 0, .float .f32 0, .slice none 0 0, .slice none 0 0], .bool false])))

set_option maxHeartbeats 6400000 in
set_option maxRecDepth 100000 in
theorem implParseScore (s : ByteArray) (hs : s.size ≤ 1048576) (w : World) (hL : LibW w) :
    Calls Tryz.prog 41 #[.string s] w (PscP s.data.toList w) := by
  have C := Lib.hid (cutLine_ok s hs)
  have hl : s.data.toList.length = s.size := Array.length_toList
  have L := Lib.hid hL
  have B := Lib.hid (Has6.new w 68 (.int .i64 0) (.int .i64 0) (.float .f32 0) (.float .f32 0) (.slice none 0 0) (.slice none 0 0))
  have N0 := Lib.hid ((Nw.refl w).alloc (.cells #[.int .i64 0, .int .i64 0, .float .f32 0, .float .f32 0, .slice none 0 0, .slice none 0 0] 68 (0, 0)))
  clear hL
  go_enter Tryz.func41, Tryz.ntmps41
  go_wp2_with fail
  refine (C.out _).mono ?_
  rintro e w1 ⟨n1, ⟨p, q, hpq, hp, rfl⟩ | ⟨hno, rfl⟩⟩
  · have B1 := Lib.hid (B.out.nw n1)
    have N1 := Lib.hid (N0.out.trans n1)
    have hpl : p.length ≤ 1048576 ∧ q.length ≤ 1048576 := by
      rw [hpq, List.length_append, List.length_cons] at hl
      omega
    have Hpq := Lib.hid (And.intro hpq hp)
    have H := Lib.hid (readHead_any p hpl.1 w1 (L.out.nw N1.out))
    clear n1 hpq hp
    go_wp2_with fail
    refine H.out.mono ?_
    rintro e w2 ⟨n2, Lg, V, c, r, ok, rfl, hok⟩
    have B2 := Lib.hid (B1.out.nw n2)
    have N2 := Lib.hid (N1.out.trans n2)
    have Hok := Lib.hid hok
    clear n2 hok
    obtain ⟨b0, ⟨b1, b2, b3, b4, b5, b6⟩, b7, b8, b9, b10, b11, b12⟩ := B2.out
    cases ok with
    | false =>
      go_wp2_with fail
      refine bodyPost_ret (v := .tuple #[.agg #[.int .i64 0, .int .i64 0, .float .f32 0, .float .f32 0, .slice none 0 0, .slice none 0 0], .bool false]) (by simp [results, Tryz.results41, go_sem, b0, b1, b2, b3, b4, b5, b6, b7, b8, b9, b10, b11, b12]) rfl
        ⟨((((((N2.out.set (by exact Nat.le_refl w.heap.size) _).set (by exact Nat.le_refl w.heap.size) _).set (by exact Nat.le_refl w.heap.size) _).set (by exact Nat.le_refl w.heap.size) _).set (by exact Nat.le_refl w.heap.size) _).set (by exact Nat.le_refl w.heap.size) _).alloc _, .inr ⟨fun s' h => ?_, rfl⟩⟩
      have hh := score_head Hpq.out.2 (by rw [← Hpq.out.1]; exact h.2)
      rcases Hok.out with ⟨h, -⟩ | ⟨-, h⟩
      · cases h
      · exact h _ _ _ _ hh
    | true =>
      have Hd := Lib.hid (show HeadT p Lg V c r ∨ (10 ^ 16 ≤ Lg.natAbs ∨ 10 ^ 16 ≤ V.natAbs) ∧ ∀ L V c r, ¬ HeadT p L V c r from by rcases Hok.out with ⟨-, h⟩ | ⟨h, -⟩; exact h; cases h)
      obtain ⟨A3, hA3⟩ : ∃ A3, A3 = w2.alloc (.cells #[.int .i64 Lg, .int .i64 V, .float .f32 c, .float .f32 r, .slice none 0 0, .slice none 0 0] 68 (0, 0)) := ⟨_, rfl⟩
      have nA : Nw w2 A3 := by rw [hA3]; exact (Nw.refl _).alloc _
      have N3 := Lib.hid (N2.out.trans nA)
      have B3 := Lib.hid (B2.out.nw nA)
      have S3 := Lib.hid (show Has6 A3 w2.heap.size (.int .i64 Lg) (.int .i64 V) (.float .f32 c) (.float .f32 r) (.slice none 0 0) (.slice none 0 0) from by rw [hA3]; exact Has6.new w2 68 _ _ _ _ _ _)
      have hsz3 : A3.heap.size = w2.heap.size + 1 := by rw [hA3]; simp
      obtain ⟨k7, hk7⟩ : ∃ k7, k7 = w2.heap.size := ⟨_, rfl⟩
      have hw7 : w.heap.size < k7 := by rw [hk7]; exact b0
      have hne : w.heap.size ≠ k7 := by omega
      go_wp2_with fail
      rw [← hA3]
      rw [← hk7] at S3 hsz3 ⊢
      clear b0 b1 b2 b3 b4 b5 b6 b7 b8 b9 b10 b11 b12 nA hA3 hk7 Hok
      have hqs : (⟨q.toArray⟩ : ByteArray).size ≤ 1048576 := by
        have h3 : (⟨q.toArray⟩ : ByteArray).size = q.length := List.size_toArray
        omega
      refine (readBodies_ok ⟨q.toArray⟩ hqs A3 (L.out.nw N3.out)).mono ?_
      rintro e w3 ⟨bs, r1, sv, rfl, hbe0, hbn, n3⟩
      have hbe : BdE q bs r1 := by simpa using hbe0
      obtain ⟨sa, sc, rfl⟩ := hbn.r.shape
      rw [hsz3] at hbn
      have hr1 : r1.length ≤ 1048576 := by
        obtain ⟨ls, -, e⟩ := bdR_text hbe.1
        have := congrArg List.length e
        rw [List.length_append] at this
        omega
      have hr1s : (⟨r1.toArray⟩ : ByteArray).size ≤ 1048576 := by
        have h3 : (⟨r1.toArray⟩ : ByteArray).size = r1.length := List.size_toArray
        omega
      have S4 := Lib.hid (S3.out.nw n3)
      have B4 := Lib.hid (B3.out.nw n3)
      have N4 := Lib.hid (N3.out.trans n3)
      have Hbe := Lib.hid hbe
      obtain ⟨nb, hnb⟩ : ∃ nb, nb = bs.length := ⟨_, rfl⟩
      rw [← hnb] at hbn ⊢
      have Hn := Lib.hid hnb
      have Hb4 := Lib.hid hbn
      have h34 := Lib.hid (show k7 + 1 ≤ w3.heap.size from by have := n3.size; omega)
      obtain ⟨s0, ⟨s1, s2, s3, s4, s5, s6⟩, s7, s8, s9, s10, s11, s12⟩ := S4.out
      clear n3 hbe hbe0 hbn hnb hsz3 hqs hr1
      go_wp2_with fail
      clear s0 s1 s2 s3 s4 s5 s6 s7 s8 s9 s10 s11 s12
      have S5 := Lib.hid (S4.out.set4 (.slice sa nb sc))
      have B5 := Lib.hid (B4.out.set' (.slice sa nb sc) (p := ⟨k7, 4, none⟩) (Ne.symm hne))
      have N5 := Lib.hid (N4.out.set (p := ⟨k7, 4, none⟩) (by show w.heap.size ≤ k7; omega) (.slice sa nb sc))
      have Hb5 := Lib.hid (Hb4.out.set (p := ⟨k7, 4, none⟩) (by show k7 < k7 + 1; omega) (.slice sa nb sc))
      have h5 := Lib.hid (show (w3.setCell ⟨k7, 4, none⟩ (.slice sa nb sc)).heap.size = w3.heap.size from by simp)
      refine (readLinesE ⟨r1.toArray⟩ hr1s _ (L.out.nw N5.out)).mono ?_
      rintro e w4 ⟨es, r2, ev, rfl, hre0, own4, n4⟩
      rw [h5.out] at own4
      have hre : ReadE r1 es r2 := by simpa using hre0
      obtain ⟨ea, ec, rfl⟩ := own_shape' own4
      have heG : ∀ e ∈ es, EvG e.k e.s e.m e.f := by
        obtain ⟨ps, h1, -⟩ := hre
        intro e he
        obtain ⟨p, hp⟩ := h1.memr e he
        exact hp.2.1
      have h60 : es.length ≤ 60 := by obtain ⟨ps, -, -, h, -⟩ := hre; exact h
      obtain ⟨ne, hne2⟩ : ∃ ne, ne = es.length := ⟨_, rfl⟩
      rw [← hne2] at own4 h60 ⊢
      have Hm := Lib.hid hne2
      have HG := Lib.hid heG
      have Rd := Lib.hid (show RdS p q r1 r2 ⟨Lg, V, c, r, bs, es⟩ from ⟨Hpq.out.2, Hd.out, Hbe.out, hre⟩)
      have S6 := Lib.hid (S5.out.nw n4)
      have B6 := Lib.hid (B5.out.nw n4)
      have N6 := Lib.hid (N5.out.trans n4)
      have Hb6 := Lib.hid (Hb5.out.nw n4)
      have E6 := Lib.hid (own_base own4 h34.out)
      have h36 := Lib.hid (show w3.heap.size ≤ w4.heap.size from by have := n4.size; have := h5.out; omega)
      obtain ⟨s0, ⟨s1, s2, s3, s4, s5, s6⟩, s7, s8, s9, s10, s11, s12⟩ := S6.out
      obtain ⟨b0, ⟨b1, b2, b3, b4, b5, b6⟩, b7, b8, b9, b10, b11, b12⟩ := B6.out
      clear n4 hre hre0 own4 heG hne2 hr1s
      by_cases hr2 : r2 = []
      · subst hr2
        go_wp2_with fail
        have S7 := Lib.hid (S6.out.set5 (.slice ea ne ec))
        have B7 := Lib.hid (B6.out.set' (.slice ea ne ec) (p := ⟨k7, 5, none⟩) (Ne.symm hne))
        have N7 := Lib.hid (N6.out.set (p := ⟨k7, 5, none⟩) (by show w.heap.size ≤ k7; omega) (.slice ea ne ec))
        have Hb7 := Lib.hid (Hb6.out.set (p := ⟨k7, 5, none⟩) (by show k7 < k7 + 1; omega) (.slice ea ne ec))
        have E7 := Lib.hid (own_set E6.out (p := ⟨k7, 5, none⟩) (by show k7 < k7 + 1; omega) (.slice ea ne ec))
        have h7 := Lib.hid (show (w4.setCell ⟨k7, 5, none⟩ (.slice ea ne ec)).heap.size = w4.heap.size from by simp)
        clear s0 s1 s2 s3 s4 s5 s6 s7 s8 s9 s10 s11 s12 b0 b1 b2 b3 b4 b5 b6 b7 b8 b9 b10 b11 b12
        have hR : r < 2 ^ 32 ∨ stB Lg = false ∨ ¬ (1 ≤ V ∧ V ≤ 8) := by
          rcases Hd.out with ⟨t1, t2, t3, t4, -, -, -, -, h⟩ | ⟨h | h, -⟩
          · exact .inl h.1
          · right; left
            cases hst : stB Lg with
            | false => rfl
            | true => rw [stB_iff] at hst; omega
          · right; right; omega
        refine (isScore_any ⟨Lg, V, c, r, bs, es⟩ (k7 + 1) nb ne _ _ _ Hn.out Hm.out (by omega) hR Hb7.out.r E7.out (fun ms hm => ⟨(bdR_len Hbe.out.1 ms hm).1, fun m h => ((bdR_len Hbe.out.1 ms hm).2 m h).1⟩) HG.out).mono ?_
        rintro e w5 ⟨rfl, n5⟩
        have S8 := Lib.hid (S7.out.nw n5)
        have B8 := Lib.hid (B7.out.nw n5)
        have N8 := Lib.hid (N7.out.trans n5)
        have Hb8 := Lib.hid (Hb7.out.nw n5)
        have E8 := Lib.hid (own_nw E7.out n5)
        have h8 := Lib.hid (show w3.heap.size ≤ w5.heap.size from by have := n5.size; have := h7.out; have := h36.out; omega)
        clear n5 hR
        obtain ⟨s0, ⟨s1, s2, s3, s4, s5, s6⟩, s7, s8, s9, s10, s11, s12⟩ := S8.out
        obtain ⟨b0, ⟨b1, b2, b3, b4, b5, b6⟩, b7, b8, b9, b10, b11, b12⟩ := B8.out
        cases hsc : scB ⟨Lg, V, c, r, bs, es⟩ with
        | true =>
          go_wp2_with fail
          refine bodyPost_ret (v := .tuple #[.agg #[.int .i64 Lg, .int .i64 V, .float .f32 c, .float .f32 r, .slice sa nb sc, .slice ea ne ec], .bool true]) (by simp [results, Tryz.results41, go_sem, b0, b1, b2, b3, b4, b5, b6, b7, b8, b9, b10, b11, b12]) rfl
            ⟨((((((N8.out.set (by exact Nat.le_refl w.heap.size) _).set (by exact Nat.le_refl w.heap.size) _).set (by exact Nat.le_refl w.heap.size) _).set (by exact Nat.le_refl w.heap.size) _).set (by exact Nat.le_refl w.heap.size) _).set (by exact Nat.le_refl w.heap.size) _), .inl ⟨⟨Lg, V, c, r, bs, es⟩, _, _, by rw [Hpq.out.1]; exact score_text Rd.out HG.out hsc, rfl, ?_, ?_⟩⟩
          · have h := Hb8.out
            exact ((((((((h.base (show w.heap.size + 1 ≤ k7 + 1 by omega)).set (by show w.heap.size < w.heap.size + 1; omega) _).set (by show w.heap.size < w.heap.size + 1; omega) _).set (by show w.heap.size < w.heap.size + 1; omega) _).set (by show w.heap.size < w.heap.size + 1; omega) _).set (by show w.heap.size < w.heap.size + 1; omega) _).set (by show w.heap.size < w.heap.size + 1; omega) _).base (by omega)).le (by have := h8.out; simpa using this)
          · rw [← Hm.out]
            exact own_base (own_set (own_set (own_set (own_set (own_set (own_set (own_base E8.out (show w.heap.size + 1 ≤ k7 + 1 by omega)) (by show w.heap.size < w.heap.size + 1; omega) _) (by show w.heap.size < w.heap.size + 1; omega) _) (by show w.heap.size < w.heap.size + 1; omega) _) (by show w.heap.size < w.heap.size + 1; omega) _) (by show w.heap.size < w.heap.size + 1; omega) _) (by show w.heap.size < w.heap.size + 1; omega) _) (by omega)
        | false =>
          go_wp2_with fail
          refine bodyPost_ret (v := .tuple #[.agg #[.int .i64 0, .int .i64 0, .float .f32 0, .float .f32 0, .slice none 0 0, .slice none 0 0], .bool false]) (by simp [results, Tryz.results41, go_sem, b0, b1, b2, b3, b4, b5, b6, b7, b8, b9, b10, b11, b12]) rfl
            ⟨((((((N8.out.set (by exact Nat.le_refl w.heap.size) _).set (by exact Nat.le_refl w.heap.size) _).set (by exact Nat.le_refl w.heap.size) _).set (by exact Nat.le_refl w.heap.size) _).set (by exact Nat.le_refl w.heap.size) _).set (by exact Nat.le_refl w.heap.size) _), .inr ⟨fun s' h => ?_, rfl⟩⟩
          obtain ⟨g1, g2, g3⟩ := goodS_len h
          obtain ⟨e1, -⟩ := rdS_good Rd.out (by rw [← Hpq.out.1]; exact h.2) g1 g2 g3
          rw [e1, h.1] at hsc
          cases hsc
      · have hr0 : (r2 == []) = false := by simpa using hr2
        go_wp2_with fail
        refine bodyPost_ret (v := .tuple #[.agg #[.int .i64 0, .int .i64 0, .float .f32 0, .float .f32 0, .slice none 0 0, .slice none 0 0], .bool false]) (by simp [results, Tryz.results41, go_sem, b0, b1, b2, b3, b4, b5, b6, b7, b8, b9, b10, b11, b12]) rfl
          ⟨(((((((N6.out.set (by show w.heap.size ≤ k7; omega) _).set (by exact Nat.le_refl w.heap.size) _).set (by exact Nat.le_refl w.heap.size) _).set (by exact Nat.le_refl w.heap.size) _).set (by exact Nat.le_refl w.heap.size) _).set (by exact Nat.le_refl w.heap.size) _).set (by exact Nat.le_refl w.heap.size) _), .inr ⟨fun s' h => ?_, rfl⟩⟩
        obtain ⟨g1, g2, g3⟩ := goodS_len h
        exact hr2 (rdS_good Rd.out (by rw [← Hpq.out.1]; exact h.2) g1 g2 g3).2
  · have N1 := Lib.hid (N0.out.trans n1)
    have B1 := Lib.hid (B.out.nw n1)
    have Hno := Lib.hid hno
    have H := Lib.hid (readHead_any [] (by decide) w1 (L.out.nw N1.out))
    clear n1 hno
    go_wp2_with fail
    refine H.out.mono ?_
    rintro e w2 ⟨n2, Lg, V, c, r, ok, rfl, -⟩
    have B2 := Lib.hid (B1.out.nw n2)
    have N2 := Lib.hid (N1.out.trans n2)
    clear n2
    obtain ⟨b0, ⟨b1, b2, b3, b4, b5, b6⟩, b7, b8, b9, b10, b11, b12⟩ := B2.out
    go_wp2_with fail
    refine bodyPost_ret (v := .tuple #[.agg #[.int .i64 0, .int .i64 0, .float .f32 0, .float .f32 0, .slice none 0 0, .slice none 0 0], .bool false]) (by simp [results, Tryz.results41, go_sem, b0, b1, b2, b3, b4, b5, b6, b7, b8, b9, b10, b11, b12]) rfl
      ⟨((((((N2.out.set (by exact Nat.le_refl w.heap.size) _).set (by exact Nat.le_refl w.heap.size) _).set (by exact Nat.le_refl w.heap.size) _).set (by exact Nat.le_refl w.heap.size) _).set (by exact Nat.le_refl w.heap.size) _).set (by exact Nat.le_refl w.heap.size) _).alloc _, .inr ⟨fun s' h => ?_, rfl⟩⟩
    exact Hno.out (score_nl h.2)
end Go.Proofs.YtnmjkjjmigiabaaGreatDoor

/- The model's l7Int and l7Float (FnExactParseScore).
   Conditions: those that each statement names. -/
namespace Go.Proofs.YtnmjkjjmigiabaaGreatDoor
set_option linter.unusedSimpArgs false
set_option linter.unusedVariables false
open Go Go.RowKit

def FlX (r : Nat) : Prop := r < 4294967296 ∧ (Sm r ∨ r = 2139095040)
def L7I (l : List UInt8) (w : World) (e : Ending) (w' : World) : Prop := ∃ n : Int, e = .returned (.int .i64 n) ∧ (∀ m, IntT l m → n = m) ∧ Nw w w'
def L7F (l : List UInt8) (w : World) (e : Ending) (w' : World) : Prop := ∃ r : Nat, e = .returned (.float .f32 r) ∧ FlX r ∧ (∀ m, TxS l m → r = m) ∧ Nw w w'
theorem l7Int_any (l : List UInt8) (hl : l.length ≤ 1048576) (w : World) :
    Calls Tryz.prog 147 #[.string ⟨l.toArray⟩] w (L7I l w) := by
  have hs : (⟨l.toArray⟩ : ByteArray).size ≤ 1048576 := by
    have h3 : (⟨l.toArray⟩ : ByteArray).size = l.length := List.size_toArray
    omega
  have P := Lib.hid (l1Read_any ⟨l.toArray⟩ hs w)
  clear hs
  go_enter Tryz.func147, Tryz.ntmps147
  go_wp2_with fail
  refine P.out.mono ?_
  rintro e w1 ⟨n, b, rfl, hn, hc, n1⟩
  have hc : ∀ m, IntT l m → b = true ∧ n = m := by
    rintro m ⟨hm, he⟩
    obtain ⟨h1, h2⟩ := hc (decide (m < 0)) m.natAbs hm (fun h => by have := of_decide_eq_true h; omega) (by
      show l = _
      rw [he]
      unfold numL
      by_cases h0 : m < 0
      · rw [if_pos h0, decide_eq_true h0]; rfl
      · rw [if_neg h0, decide_eq_false h0]; rfl)
    refine ⟨h1, ?_⟩
    rw [h2]
    by_cases h0 : m < 0
    · rw [decide_eq_true h0]; simp; omega
    · rw [decide_eq_false h0]; simp; omega
  have N1 := Lib.hid n1
  have C := Lib.hid hc
  clear n1 hc hn
  cases b with
  | true =>
    go_wp2_with fail
    go_ret
    exact ⟨n, rfl, fun m hm => (C.out m hm).2, N1.out⟩
  | false =>
    go_wp2_with fail
    go_ret
    exact ⟨-1, rfl, fun m hm => (by have h := (C.out m hm).1; cases h), N1.out⟩
theorem inf_quo : (∀ w, fres w .quo .f32 1065353216 0 = 2139095040) ∧ fdr .quo .f32 1065353216 0 = 0 := by
  have h : floatBits .quo .f32 1065353216 0 = some 2139095040 := by decide +kernel
  exact ⟨fun w => by unfold fres; rw [h], by unfold fdr; rw [h]; rfl⟩
theorem l7Float_any (l : List UInt8) (hl : l.length ≤ 1048576) (w : World) :
    Calls Tryz.prog 148 #[.string ⟨l.toArray⟩] w (L7F l w) := by
  have hs : (⟨l.toArray⟩ : ByteArray).size ≤ 1048576 := by
    have h3 : (⟨l.toArray⟩ : ByteArray).size = l.length := List.size_toArray
    omega
  have P := Lib.hid (specSingle ⟨l.toArray⟩ hs w)
  obtain ⟨q1, q2⟩ := inf_quo
  clear hs
  go_enter Tryz.func148, Tryz.ntmps148
  go_wp2_with fail
  refine P.out.mono ?_
  rintro e w1 ⟨n1, ⟨r, hr, hsm, ht, rfl⟩ | ⟨hno, rfl⟩⟩
  · have N1 := Lib.hid n1
    have K := Lib.hid (show TxS l r from ⟨hr, hsm, ht⟩)
    clear n1 hr hsm ht
    go_wp2_with fail
    go_ret
    exact ⟨r, rfl, ⟨K.out.1, .inl K.out.2.1⟩, fun m hm => txS_K.val K.out hm, N1.out⟩
  · have N1 := Lib.hid n1
    have K := Lib.hid hno
    clear n1 hno
    go_wp2_with fail
    go_ret
    exact ⟨2139095040, rfl, ⟨by decide, .inr rfl⟩, fun m hm => absurd hm.2.2 (K.out m hm.1 hm.2.1), N1.out⟩
end Go.Proofs.YtnmjkjjmigiabaaGreatDoor

/- The model's l7Read (FnExactParseScore).
   Conditions: those that each statement names. -/
namespace Go.Proofs.YtnmjkjjmigiabaaGreatDoor
set_option linter.unusedSimpArgs false
set_option linter.unusedVariables false
open Go Go.RowKit

/-- what the model can take for an event -/
def EvX (k s n : Int) (f : Nat) : Prop := FlX f ∧ (k = 1 ∨ (k = 2 ∧ s = 0 ∧ n = 0) ∨ (k = 3 ∧ s = 0 ∧ n = 0 ∧ f = 0) ∨ k = 0)
theorem flX_zero : FlX 0 := ⟨by decide, .inl sm_zero0⟩
def L7R (p : List UInt8) (w : World) (e : Ending) (w' : World) : Prop :=
  Nw w w' ∧ ∃ x : Ev6, e = .returned (.agg #[.int .i64 x.t, .int .i64 x.k, .int .i64 x.b, .int .i64 x.s, .int .i64 x.m, .float .f32 x.f]) ∧ EvX x.k x.s x.m x.f ∧ ∀ y, EvL p y → x = y
theorem evL_short {p : List UInt8} {ws : List (List UInt8)} {y : Ev6} (h : spl 32 p = ws) (k : EvL p y) : 4 ≤ ws.length := by
  rcases k with ⟨t1, t2, t3, t4, t5, e, -⟩ | ⟨t1, t2, t3, e, -⟩ | ⟨t1, t2, e, -⟩
  all_goals
    rw [e] at h
    subst h
    simp
theorem own_word {w : World} {base g n cap : Nat} {ws : List (List UInt8)} (h : w.ownsRow base 9 1 (.slice (some ⟨g, 0, none⟩) n cap) n (cellsT ws)) {j : Nat} {t : List UInt8} (hj : ws[j]? = some t) : w.cell? ⟨g, j, none⟩ = some (.string ⟨t.toArray⟩) := by
  have hn := h.1
  have hlt := (List.getElem?_eq_some_iff.1 hj).1
  have hl : (cellsT ws).length = ws.length := by unfold cellsT; simp
  rw [h.cellAt j (by omega)]
  unfold cellsT
  rw [List.getElem?_map, hj]; rfl

theorem evL_form {p t0 t1 t2 t3 : List UInt8} {ts : List (List UInt8)} {y : Ev6} (h : spl 32 p = t0 :: t1 :: t2 :: t3 :: ts) (k : EvL p y) : IntT t1 y.t ∧ IntT t3 y.b ∧
    ((t2 = wStrike ∧ y.k = 1 ∧ ∃ t4 t5 t6, ts = [t4, t5, t6] ∧ IntT t4 y.s ∧ IntT t5 y.m ∧ TxS t6 y.f) ∨ (t2 = wDamp ∧ y.k = 2 ∧ y.s = 0 ∧ y.m = 0 ∧ ∃ t4, ts = [t4] ∧ TxS t4 y.f) ∨ (t2 = wStop ∧ y.k = 3 ∧ y.s = 0 ∧ y.m = 0 ∧ y.f = 0 ∧ ts = [])) := by
  rcases k with ⟨u1, u2, u3, u4, u5, e, x1, x2, x3, x4, x5, x6⟩ | ⟨u1, u2, u3, e, x1, x2, x3, x4, x5, x6⟩ | ⟨u1, u2, e, x1, x2, x3, x4, x5, x6⟩
  all_goals
    rw [h] at e
    simp at e
  · obtain ⟨-, rfl, rfl, rfl, rfl⟩ := e
    exact ⟨x1, x3, .inl ⟨rfl, x2, _, _, _, rfl, x4, x5, x6⟩⟩
  · obtain ⟨-, rfl, rfl, rfl, rfl⟩ := e
    exact ⟨x1, x3, .inr (.inl ⟨rfl, x2, x4, x5, _, rfl, x6⟩)⟩
  · obtain ⟨-, rfl, rfl, rfl, rfl⟩ := e
    exact ⟨x1, x3, .inr (.inr ⟨rfl, x2, x4, x5, x6, rfl⟩)⟩
theorem Has6.set0 {w : World} {b : Nat} {x0 x1 x2 x3 x4 x5 : Value} (u : Value) (h : Has6 w b x0 x1 x2 x3 x4 x5) : Has6 (w.setCell ⟨b, 0, none⟩ u) b u x1 x2 x3 x4 x5 := by
  obtain ⟨h0, ⟨h1, h2, h3, h4, h5, h6⟩, h7, h8, h9, h10, h11, h12⟩ := h
  refine ⟨by simpa using h0, ⟨?_, ?_, ?_, ?_, ?_, ?_⟩, ?_, ?_, ?_, ?_, ?_, ?_⟩ <;> go_simp
def ReadC (w : World) (t1 t3 : List UInt8) (v : Value) (wx : World) : Prop :=
  ∃ (k : Nat) (a b : Int), v = .pointer (some ⟨k, 0, none⟩) ∧ w.heap.size < k ∧ Has6 wx k (.int .i64 a) (.int .i64 0) (.int .i64 b) (.int .i64 0) (.int .i64 0) (.float .f32 0) ∧ Nw w wx ∧ Has6 wx w.heap.size (.int .i64 0) (.int .i64 0) (.int .i64 0) (.int .i64 0) (.int .i64 0) (.float .f32 0) ∧ (∀ m, IntT t1 m → a = m) ∧ (∀ m, IntT t3 m → b = m)
theorem readC_new {w X : World} {t1 t3 : List UInt8} {a b : Int} (hN : Nw w X) (hB : Has6 X w.heap.size (.int .i64 0) (.int .i64 0) (.int .i64 0) (.int .i64 0) (.int .i64 0) (.float .f32 0)) (ha : ∀ m, IntT t1 m → a = m) (hb : ∀ m, IntT t3 m → b = m) :
    ReadC w t1 t3 (.pointer (some ⟨X.heap.size, 0, none⟩)) (X.alloc (.cells #[.int .i64 a, .int .i64 0, .int .i64 b, .int .i64 0, .int .i64 0, .float .f32 0] 137 (0, 0))) :=
  ⟨X.heap.size, a, b, rfl, hB.1, Has6.new X 137 _ _ _ _ _ _, hN.alloc _, hB.nw ((Nw.refl X).alloc _), ha, hb⟩
theorem readC_set {w X : World} {t1 t3 : List UInt8} {a b : Int} {k : Nat} (hk : w.heap.size < k) (S : Has6 X k (.int .i64 0) (.int .i64 0) (.int .i64 0) (.int .i64 0) (.int .i64 0) (.float .f32 0)) (hN : Nw w X) (hB : Has6 X w.heap.size (.int .i64 0) (.int .i64 0) (.int .i64 0) (.int .i64 0) (.int .i64 0) (.float .f32 0)) (ha : ∀ m, IntT t1 m → a = m) (hb : ∀ m, IntT t3 m → b = m) :
    ReadC w t1 t3 (.pointer (some ⟨k, 0, none⟩)) ((((((X.setCell ⟨k, 0, none⟩ (.int .i64 a)).setCell ⟨k, 1, none⟩ (.int .i64 0)).setCell ⟨k, 2, none⟩ (.int .i64 b)).setCell ⟨k, 3, none⟩ (.int .i64 0)).setCell ⟨k, 4, none⟩ (.int .i64 0)).setCell ⟨k, 5, none⟩ (.float .f32 0)) := by
  have hne : k ≠ w.heap.size := by omega
  have hle : w.heap.size ≤ k := by omega
  exact ⟨k, a, b, rfl, hk, (((((S.set0 _).set1 _).set2 _).set3 _).set4 _).set5 _, (((((hN.set (p := ⟨k, 0, none⟩) hle _).set (p := ⟨k, 1, none⟩) hle _).set (p := ⟨k, 2, none⟩) hle _).set (p := ⟨k, 3, none⟩) hle _).set (p := ⟨k, 4, none⟩) hle _).set (p := ⟨k, 5, none⟩) hle _,
    (((((hB.set' (p := ⟨k, 0, none⟩) _ hne).set' (p := ⟨k, 1, none⟩) _ hne).set' (p := ⟨k, 2, none⟩) _ hne).set' (p := ⟨k, 3, none⟩) _ hne).set' (p := ⟨k, 4, none⟩) _ hne).set' (p := ⟨k, 5, none⟩) _ hne, ha, hb⟩
set_option maxHeartbeats 6400000 in
set_option maxRecDepth 100000 in
theorem l7Read_any (p : List UInt8) (hp : p.length ≤ 1048576) (ws : List (List UInt8)) (hws : spl 32 p = ws) (base n : Nat) (v : Value) (hn : n = ws.length) (w : World) (h : w.ownsRow base 9 1 v n (cellsT ws)) :
    Calls Tryz.prog 149 #[v] w (L7R p w) := by
  have B0 := Lib.hid (Has6.new w 137 (.int .i64 0) (.int .i64 0) (.int .i64 0) (.int .i64 0) (.int .i64 0) (.float .f32 0))
  have N0 := Lib.hid ((Nw.refl w).alloc (.cells #[.int .i64 0, .int .i64 0, .int .i64 0, .int .i64 0, .int .i64 0, .float .f32 0] 137 (0, 0)))
  obtain ⟨va, vc, rfl⟩ := own_shape' h
  have Ow := Lib.hid h
  have Hw := Lib.hid (And.intro hws hn)
  have hn1 : n ≤ 1048577 := by have := spl_le 32 p; rw [hws] at this; omega
  clear h hws hn
  by_cases h4 : n < 4
  · go_enter Tryz.func149, Tryz.ntmps149
    obtain ⟨b0, ⟨b1, b2, b3, b4, b5, b6⟩, b7, b8, b9, b10, b11, b12⟩ := B0.out
    have h4' : ((n : Int) < 4) := by omega
    go_wp2_with fail
    refine bodyPost_ret (v := .agg #[.int .i64 0, .int .i64 0, .int .i64 0, .int .i64 0, .int .i64 0, .float .f32 0]) (by simp [results, Tryz.results149, go_sem, b0, b1, b2, b3, b4, b5, b6, b7, b8, b9, b10, b11, b12]) rfl
      ⟨N0.out, ⟨0, 0, 0, 0, 0, 0⟩, rfl, ⟨flX_zero, .inr (.inr (.inr rfl))⟩, fun y hy => ?_⟩
    have := evL_short Hw.out.1 hy
    have := Hw.out.2
    omega
  · obtain ⟨t0, t1, t2, t3, ts, hts⟩ : ∃ t0 t1 t2 t3 ts, ws = t0 :: t1 :: t2 :: t3 :: ts := by
      have := Hw.out.2
      rcases ws with _ | ⟨t0, _ | ⟨t1, _ | ⟨t2, _ | ⟨t3, ts⟩⟩⟩⟩
      all_goals first | (simp at this; omega) | exact ⟨_, _, _, _, _, rfl⟩
    subst hts
    have h4' : ¬ ((n : Int) < 4) := by omega
    obtain ⟨g, rfl, hcv, hcm⟩ : ∃ g, va = some ⟨g, 0, none⟩ ∧ n ≤ vc ∧ vc ≤ maxLen := by
      rcases Ow.out.2 with ⟨h0, h1⟩ | ⟨g, cap, cur, hv, hb, hg, hc, hm, -, -⟩
      · omega
      · cases hv; exact ⟨g, rfl, hc, hm⟩
    unfold maxLen at hcm
    have hgw : g < w.heap.size := (Ow.out.lt g rfl).2
    have hgne : g ≠ w.heap.size := by omega
    have lens : ∀ t ∈ t0 :: t1 :: t2 :: t3 :: ts, t.length ≤ 1048576 := fun t ht => by
      rw [← Hw.out.1] at ht
      have := spl_len ht
      omega
    have Ln := Lib.hid lens
    have O1 := Lib.hid (own_nw Ow.out N0.out)
    have e1 := own_word O1.out (j := 1) rfl
    have e3 := own_word O1.out (j := 3) rfl
    have i1 : 1 < n := by omega
    have i2 : 2 < n := by omega
    have i3 : 3 < n := by omega
    have j1 : (1 : Int) < (n : Int) := by omega
    have j2 : (2 : Int) < (n : Int) := by omega
    have j3 : (3 : Int) < (n : Int) := by omega
    clear lens
    go_enter Tryz.func149, Tryz.ntmps149
    have hD : (w.alloc (.cells #[.int .i64 0, .int .i64 0, .int .i64 0, .int .i64 0, .int .i64 0, .float .f32 0] 137 (0, 0))).drew.heap.size = w.heap.size + 1 := by show (w.alloc _).heap.size = _; simp
    go_upto_region 3 with fail
    go_cut [3] (fun v wx => ReadC w t1 t3 v wx)
    case first =>
      go_region_law (first
        | (go_simp
           go_at_call 147
           with_reducible refine (l7Int_any t1 (Ln.out t1 (by simp)) _).mono ?_
           rintro e wA ⟨a, rfl, ha, na⟩
           have NA := Lib.hid (show Nw w wA from (by first | exact (N0.out.draw 1).trans na | exact ((N0.out.draw 1).alloc _).trans na | exact NB.out.trans na | exact (NB.out.alloc _).trans na))
           have BA := Lib.hid (show Has6 wA w.heap.size (.int .i64 0) (.int .i64 0) (.int .i64 0) (.int .i64 0) (.int .i64 0) (.float .f32 0) from (by first | exact (B0.out.nw ((Nw.refl _).draw 1)).nw na | exact ((B0.out.nw ((Nw.refl _).draw 1)).nw ((Nw.refl _).alloc _)).nw na | exact BB.out.nw na | exact (BB.out.nw ((Nw.refl _).alloc _)).nw na))
           have HA := Lib.hid ha
           try (
             first
               | have S := Lib.hid (S.out.nw na)
               | have S := Lib.hid (show Has6 wA (w.heap.size + 1) (.int .i64 0) (.int .i64 0) (.int .i64 0) (.int .i64 0) (.int .i64 0) (.float .f32 0) from by have h := (Has6.new (w.alloc (.cells #[.int .i64 0, .int .i64 0, .int .i64 0, .int .i64 0, .int .i64 0, .float .f32 0] 137 (0, 0))).drew 137 (.int .i64 0) (.int .i64 0) (.int .i64 0) (.int .i64 0) (.int .i64 0) (.float .f32 0)).nw na; rw [hD] at h; exact h)
               | have S := Lib.hid ((Has6.new _ 137 (.int .i64 0) (.int .i64 0) (.int .i64 0) (.int .i64 0) (.int .i64 0) (.float .f32 0)).nw na)
             obtain ⟨s0, ⟨s1, s2, s3, s4, s5, s6⟩, s7, s8, s9, s10, s11, s12⟩ := S.out)
           have e3 := own_word (own_nw Ow.out NA.out) (j := 3) rfl
           have gwA : g < wA.heap.size := Nat.lt_of_lt_of_le hgw NA.out.size
           have kwA : g ≠ wA.heap.size := by omega
           have qwA : w.heap.size < wA.heap.size := BA.out.1
           clear na ha)
        | (go_simp
           go_at_call 147
           with_reducible refine (l7Int_any t3 (Ln.out t3 (by simp)) _).mono ?_
           rintro e wB ⟨b, rfl, hb, na⟩
           have NB := Lib.hid (show Nw w wB from (by first | exact (N0.out.draw 1).trans na | exact ((N0.out.draw 1).alloc _).trans na | exact NA.out.trans na | exact (NA.out.alloc _).trans na))
           have BB := Lib.hid (show Has6 wB w.heap.size (.int .i64 0) (.int .i64 0) (.int .i64 0) (.int .i64 0) (.int .i64 0) (.float .f32 0) from (by first | exact (B0.out.nw ((Nw.refl _).draw 1)).nw na | exact ((B0.out.nw ((Nw.refl _).draw 1)).nw ((Nw.refl _).alloc _)).nw na | exact BA.out.nw na | exact (BA.out.nw ((Nw.refl _).alloc _)).nw na))
           have HB := Lib.hid hb
           try (
             first
               | have S := Lib.hid (S.out.nw na)
               | have S := Lib.hid (show Has6 wB (w.heap.size + 1) (.int .i64 0) (.int .i64 0) (.int .i64 0) (.int .i64 0) (.int .i64 0) (.float .f32 0) from by have h := (Has6.new (w.alloc (.cells #[.int .i64 0, .int .i64 0, .int .i64 0, .int .i64 0, .int .i64 0, .float .f32 0] 137 (0, 0))).drew 137 (.int .i64 0) (.int .i64 0) (.int .i64 0) (.int .i64 0) (.int .i64 0) (.float .f32 0)).nw na; rw [hD] at h; exact h)
               | have S := Lib.hid ((Has6.new _ 137 (.int .i64 0) (.int .i64 0) (.int .i64 0) (.int .i64 0) (.int .i64 0) (.float .f32 0)).nw na)
             obtain ⟨s0, ⟨s1, s2, s3, s4, s5, s6⟩, s7, s8, s9, s10, s11, s12⟩ := S.out)
           have e1 := own_word (own_nw Ow.out NB.out) (j := 1) rfl
           have gwB : g < wB.heap.size := Nat.lt_of_lt_of_le hgw NB.out.size
           have kwB : g ≠ wB.heap.size := by omega
           have qwB : w.heap.size < wB.heap.size := BB.out.1
           clear na hb))
      all_goals
        go_wp2_with fail
        go_meet
        case rel =>
          first
            | with_reducible exact readC_new NB.out BB.out HA.out HB.out
            | with_reducible exact readC_new NA.out BA.out HA.out HB.out
            | with_reducible exact readC_set (by omega) S.out NB.out BB.out HA.out HB.out
            | with_reducible exact readC_set (by omega) S.out NA.out BA.out HA.out HB.out
    case rest =>
      obtain ⟨k, a, b, rfl, hk, hS, hN, hB, ha, hb⟩ := hcut
      have S1 := Lib.hid hS
      have N1 := Lib.hid hN
      have B1 := Lib.hid hB
      have HA := Lib.hid ha
      have HB := Lib.hid hb
      have e2 := own_word (own_nw Ow.out N1.out) (j := 2) rfl
      have hgk : g ≠ k := by omega
      have hkw : k ≠ w.heap.size := by omega
      have hwk : w.heap.size ≤ k := by omega
      have hne : w.heap.size ≠ k := by omega
      have Fm := Lib.hid (fun y (hy : EvL p y) => evL_form Hw.out.1 hy)
      have Hl := Lib.hid (show n = ts.length + 4 by have := Hw.out.2; simpa using this)
      clear hS hN hB ha hb
      obtain ⟨s0, ⟨s1, s2, s3, s4, s5, s6⟩, s7, s8, s9, s10, s11, s12⟩ := S1.out
      obtain ⟨b0, ⟨b1, b2, b3, b4, b5, b6⟩, b7, b8, b9, b10, b11, b12⟩ := B1.out
      by_cases c1 : t2 = wStrike
      · by_cases h7 : ts.length = 3
        · obtain ⟨t4, t5, t6, rfl⟩ : ∃ t4 t5 t6, ts = [t4, t5, t6] := by
            rcases ts with _ | ⟨t4, _ | ⟨t5, _ | ⟨t6, _ | ⟨t7, ts⟩⟩⟩⟩
            all_goals first | (simp at h7; done) | exact ⟨_, _, _, rfl⟩ | (simp at h7; omega)
          have h7n : n = 7 := Hl.out
          subst h7n c1
          have e4 := own_word (own_nw Ow.out N1.out) (j := 4) rfl
          go_wp2_with fail
          clear s0 s1 s2 s3 s4 s5 s6 s7 s8 s9 s10 s11 s12 b0 b1 b2 b3 b4 b5 b6 b7 b8 b9 b10 b11 b12
          refine (l7Int_any t4 (Ln.out t4 (by simp)) _).mono ?_
          rintro e w4 ⟨s, rfl, hs, n4⟩
          have N4 := Lib.hid ((N1.out.set (p := ⟨k, 1, none⟩) hwk (.int .i64 1)).trans n4)
          have S4 := Lib.hid ((S1.out.set1 (.int .i64 1)).nw n4)
          have B4 := Lib.hid ((B1.out.set' (.int .i64 1) (p := ⟨k, 1, none⟩) hkw).nw n4)
          have HS4 := Lib.hid hs
          clear n4 hs
          have e5 := own_word (own_nw Ow.out N4.out) (j := 5) rfl
          obtain ⟨s0, ⟨s1, s2, s3, s4, s5, s6⟩, s7, s8, s9, s10, s11, s12⟩ := S4.out
          obtain ⟨b0, ⟨b1, b2, b3, b4, b5, b6⟩, b7, b8, b9, b10, b11, b12⟩ := B4.out
          go_wp2_with fail
          clear s0 s1 s2 s3 s4 s5 s6 s7 s8 s9 s10 s11 s12 b0 b1 b2 b3 b4 b5 b6 b7 b8 b9 b10 b11 b12
          refine (l7Int_any t5 (Ln.out t5 (by simp)) _).mono ?_
          rintro e w5 ⟨m, rfl, hm, n5⟩
          have N5 := Lib.hid ((N4.out.set (p := ⟨k, 3, none⟩) hwk (.int .i64 s)).trans n5)
          have S5 := Lib.hid ((S4.out.set3 (.int .i64 s)).nw n5)
          have B5 := Lib.hid ((B4.out.set' (.int .i64 s) (p := ⟨k, 3, none⟩) hkw).nw n5)
          have HM5 := Lib.hid hm
          clear n5 hm
          have e6 := own_word (own_nw Ow.out N5.out) (j := 6) rfl
          obtain ⟨s0, ⟨s1, s2, s3, s4, s5, s6⟩, s7, s8, s9, s10, s11, s12⟩ := S5.out
          obtain ⟨b0, ⟨b1, b2, b3, b4, b5, b6⟩, b7, b8, b9, b10, b11, b12⟩ := B5.out
          go_wp2_with fail
          clear s0 s1 s2 s3 s4 s5 s6 s7 s8 s9 s10 s11 s12 b0 b1 b2 b3 b4 b5 b6 b7 b8 b9 b10 b11 b12
          refine (l7Float_any t6 (Ln.out t6 (by simp)) _).mono ?_
          rintro e w6 ⟨f, rfl, hg, hf, n6⟩
          have N6 := Lib.hid ((N5.out.set (p := ⟨k, 4, none⟩) hwk (.int .i64 m)).trans n6)
          have S6 := Lib.hid ((S5.out.set4 (.int .i64 m)).nw n6)
          have B6 := Lib.hid ((B5.out.set' (.int .i64 m) (p := ⟨k, 4, none⟩) hkw).nw n6)
          have HF6 := Lib.hid hf
          have HG := Lib.hid hg
          clear hg
          clear n6 hf
          obtain ⟨s0, ⟨s1, s2, s3, s4, s5, s6⟩, s7, s8, s9, s10, s11, s12⟩ := S6.out
          obtain ⟨b0, ⟨b1, b2, b3, b4, b5, b6⟩, b7, b8, b9, b10, b11, b12⟩ := B6.out
          go_wp2_with fail
          refine bodyPost_ret (v := .agg #[.int .i64 a, .int .i64 1, .int .i64 b, .int .i64 s, .int .i64 m, .float .f32 f]) (by simp [results, Tryz.results149, go_sem, b0, b1, b2, b3, b4, b5, b6, b7, b8, b9, b10, b11, b12]) rfl
            ⟨(((((((N6.out.set (p := ⟨k, 5, none⟩) hwk (.float .f32 f)).set (by exact Nat.le_refl w.heap.size) _).set (by exact Nat.le_refl w.heap.size) _).set (by exact Nat.le_refl w.heap.size) _).set (by exact Nat.le_refl w.heap.size) _).set (by exact Nat.le_refl w.heap.size) _).set (by exact Nat.le_refl w.heap.size) _), ⟨a, 1, b, s, m, f⟩, rfl, ⟨HG.out, .inl rfl⟩, fun y hy => ?_⟩
          obtain ⟨y1, y2, ⟨h1, h3, u4, u5, u6, h2, y4, y5, y6⟩ | ⟨h1, -⟩ | ⟨h1, -⟩⟩ := Fm.out y hy
          · cases h2
            exact ev6_ext (HA.out _ y1) h3.symm (HB.out _ y2) (HS4.out _ y4) (HM5.out _ y5) (HF6.out _ y6)
          · exact absurd h1 (by decide)
          · exact absurd h1 (by decide)
        · have h7' : ¬ ((n : Int) = 7) := by have := Hl.out; omega
          have h7b : ((n : Int) == 7) = false := by simpa using h7'
          have Hno := Lib.hid (show ts.length ≠ 3 from h7)
          subst c1
          go_wp2_with fail
          refine bodyPost_ret (v := .agg #[.int .i64 a, .int .i64 0, .int .i64 b, .int .i64 0, .int .i64 0, .float .f32 0]) (by simp [results, Tryz.results149, go_sem, b0, b1, b2, b3, b4, b5, b6, b7, b8, b9, b10, b11, b12]) rfl
            ⟨((((((N1.out.set (by exact Nat.le_refl w.heap.size) _).set (by exact Nat.le_refl w.heap.size) _).set (by exact Nat.le_refl w.heap.size) _).set (by exact Nat.le_refl w.heap.size) _).set (by exact Nat.le_refl w.heap.size) _).set (by exact Nat.le_refl w.heap.size) _), ⟨a, 0, b, 0, 0, 0⟩, rfl, ⟨flX_zero, .inr (.inr (.inr rfl))⟩, fun y hy => ?_⟩
          obtain ⟨-, -, ⟨h1, -, t4, t5, t6, h2, -⟩ | ⟨h1, -, -, -, t4, h2, -⟩ | ⟨h1, -, -, -, -, h2⟩⟩ := Fm.out y hy
          all_goals first | exact absurd h1 (by decide) | exact absurd h1 c1 | exact absurd h1 c2 | exact absurd h1 c3 | exact absurd (by rw [h2]; rfl) Hno.out
      · by_cases c2 : t2 = wDamp
        · by_cases h5 : ts.length = 1
          · obtain ⟨t4, rfl⟩ : ∃ t4, ts = [t4] := by
              rcases ts with _ | ⟨t4, _ | ⟨t5, ts⟩⟩
              all_goals first | (simp at h5; done) | exact ⟨_, rfl⟩ | (simp at h5; omega)
            have h5n : n = 5 := Hl.out
            subst h5n c2
            have e4 := own_word (own_nw Ow.out N1.out) (j := 4) rfl
            go_wp2_with fail
            clear s0 s1 s2 s3 s4 s5 s6 s7 s8 s9 s10 s11 s12 b0 b1 b2 b3 b4 b5 b6 b7 b8 b9 b10 b11 b12
            refine (l7Float_any t4 (Ln.out t4 (by simp)) _).mono ?_
            rintro e w4 ⟨f, rfl, hg, hf, n4⟩
            have N4 := Lib.hid ((N1.out.set (p := ⟨k, 1, none⟩) hwk (.int .i64 2)).trans n4)
            have S4 := Lib.hid ((S1.out.set1 (.int .i64 2)).nw n4)
            have B4 := Lib.hid ((B1.out.set' (.int .i64 2) (p := ⟨k, 1, none⟩) hkw).nw n4)
            have HF4 := Lib.hid hf
            have HG := Lib.hid hg
            clear hg
            clear n4 hf
            obtain ⟨s0, ⟨s1, s2, s3, s4, s5, s6⟩, s7, s8, s9, s10, s11, s12⟩ := S4.out
            obtain ⟨b0, ⟨b1, b2, b3, b4, b5, b6⟩, b7, b8, b9, b10, b11, b12⟩ := B4.out
            go_wp2_with fail
            refine bodyPost_ret (v := .agg #[.int .i64 a, .int .i64 2, .int .i64 b, .int .i64 0, .int .i64 0, .float .f32 f]) (by simp [results, Tryz.results149, go_sem, b0, b1, b2, b3, b4, b5, b6, b7, b8, b9, b10, b11, b12]) rfl
              ⟨(((((((N4.out.set (p := ⟨k, 5, none⟩) hwk (.float .f32 f)).set (by exact Nat.le_refl w.heap.size) _).set (by exact Nat.le_refl w.heap.size) _).set (by exact Nat.le_refl w.heap.size) _).set (by exact Nat.le_refl w.heap.size) _).set (by exact Nat.le_refl w.heap.size) _).set (by exact Nat.le_refl w.heap.size) _), ⟨a, 2, b, 0, 0, f⟩, rfl, ⟨HG.out, .inr (.inl ⟨rfl, rfl, rfl⟩)⟩, fun y hy => ?_⟩
            obtain ⟨y1, y2, ⟨h1, -⟩ | ⟨h1, h3, h4, h5, u4, h2, y4⟩ | ⟨h1, -⟩⟩ := Fm.out y hy
            · exact absurd h1 (by decide)
            · cases h2
              exact ev6_ext (HA.out _ y1) h3.symm (HB.out _ y2) h4.symm h5.symm (HF4.out _ y4)
            · exact absurd h1 (by decide)
          · have h7' : ¬ ((n : Int) = 5) := by have := Hl.out; omega
            have h7b : ((n : Int) == 5) = false := by simpa using h7'
            have Hno := Lib.hid (show ts.length ≠ 1 from h5)
            subst c2
            go_wp2_with fail
            refine bodyPost_ret (v := .agg #[.int .i64 a, .int .i64 0, .int .i64 b, .int .i64 0, .int .i64 0, .float .f32 0]) (by simp [results, Tryz.results149, go_sem, b0, b1, b2, b3, b4, b5, b6, b7, b8, b9, b10, b11, b12]) rfl
              ⟨((((((N1.out.set (by exact Nat.le_refl w.heap.size) _).set (by exact Nat.le_refl w.heap.size) _).set (by exact Nat.le_refl w.heap.size) _).set (by exact Nat.le_refl w.heap.size) _).set (by exact Nat.le_refl w.heap.size) _).set (by exact Nat.le_refl w.heap.size) _), ⟨a, 0, b, 0, 0, 0⟩, rfl, ⟨flX_zero, .inr (.inr (.inr rfl))⟩, fun y hy => ?_⟩
            obtain ⟨-, -, ⟨h1, -, t4, t5, t6, h2, -⟩ | ⟨h1, -, -, -, t4, h2, -⟩ | ⟨h1, -, -, -, -, h2⟩⟩ := Fm.out y hy
            all_goals first | exact absurd h1 (by decide) | exact absurd h1 c1 | exact absurd h1 c2 | exact absurd h1 c3 | exact absurd (by rw [h2]; rfl) Hno.out
        · by_cases c3 : t2 = wStop
          · by_cases h4e : ts.length = 0
            · obtain rfl : ts = [] := List.eq_nil_of_length_eq_zero h4e
              have h4n : n = 4 := Hl.out
              subst h4n c3
              go_wp2_with fail
              refine bodyPost_ret (v := .agg #[.int .i64 a, .int .i64 3, .int .i64 b, .int .i64 0, .int .i64 0, .float .f32 0]) (by simp [results, Tryz.results149, go_sem, b0, b1, b2, b3, b4, b5, b6, b7, b8, b9, b10, b11, b12]) rfl
                ⟨(((((((N1.out.set (p := ⟨k, 1, none⟩) hwk (.int .i64 3)).set (by exact Nat.le_refl w.heap.size) _).set (by exact Nat.le_refl w.heap.size) _).set (by exact Nat.le_refl w.heap.size) _).set (by exact Nat.le_refl w.heap.size) _).set (by exact Nat.le_refl w.heap.size) _).set (by exact Nat.le_refl w.heap.size) _), ⟨a, 3, b, 0, 0, 0⟩, rfl, ⟨flX_zero, .inr (.inr (.inl ⟨rfl, rfl, rfl, rfl⟩))⟩, fun y hy => ?_⟩
              obtain ⟨y1, y2, ⟨h1, -⟩ | ⟨h1, -⟩ | ⟨h1, h3, h4, h5, h6, h2⟩⟩ := Fm.out y hy
              · exact absurd h1 (by decide)
              · exact absurd h1 (by decide)
              · exact ev6_ext (HA.out _ y1) h3.symm (HB.out _ y2) h4.symm h5.symm h6.symm
            · have h7' : ¬ ((n : Int) = 4) := by have := Hl.out; omega
              have h7b : ((n : Int) == 4) = false := by simpa using h7'
              have Hno := Lib.hid (show ts.length ≠ 0 from h4e)
              subst c3
              go_wp2_with fail
              refine bodyPost_ret (v := .agg #[.int .i64 a, .int .i64 0, .int .i64 b, .int .i64 0, .int .i64 0, .float .f32 0]) (by simp [results, Tryz.results149, go_sem, b0, b1, b2, b3, b4, b5, b6, b7, b8, b9, b10, b11, b12]) rfl
                ⟨((((((N1.out.set (by exact Nat.le_refl w.heap.size) _).set (by exact Nat.le_refl w.heap.size) _).set (by exact Nat.le_refl w.heap.size) _).set (by exact Nat.le_refl w.heap.size) _).set (by exact Nat.le_refl w.heap.size) _).set (by exact Nat.le_refl w.heap.size) _), ⟨a, 0, b, 0, 0, 0⟩, rfl, ⟨flX_zero, .inr (.inr (.inr rfl))⟩, fun y hy => ?_⟩
              obtain ⟨-, -, ⟨h1, -, t4, t5, t6, h2, -⟩ | ⟨h1, -, -, -, t4, h2, -⟩ | ⟨h1, -, -, -, -, h2⟩⟩ := Fm.out y hy
              all_goals first | exact absurd h1 (by decide) | exact absurd h1 c1 | exact absurd h1 c2 | exact absurd h1 c3 | exact absurd (by rw [h2]; rfl) Hno.out
          · have d1 : (t2 == [115, 116, 114, 105, 107, 101]) = false := by simpa [wStrike] using c1
            have d2 : (t2 == [100, 97, 109, 112]) = false := by simpa [wDamp] using c2
            have d3 : (t2 == [115, 116, 111, 112]) = false := by simpa [wStop] using c3
            have f1 : ((⟨t2.toArray⟩ : ByteArray).toList == [115, 116, 114, 105, 107, 101]) = false := by rw [ByteArray.toList_eq]; simpa [wStrike] using c1
            have f2 : ((⟨t2.toArray⟩ : ByteArray).toList == [100, 97, 109, 112]) = false := by rw [ByteArray.toList_eq]; simpa [wDamp] using c2
            have f3 : ((⟨t2.toArray⟩ : ByteArray).toList == [115, 116, 111, 112]) = false := by rw [ByteArray.toList_eq]; simpa [wStop] using c3
            have Hno := Lib.hid (show (0 : Nat) = 0 from rfl)
            go_wp2_with fail
            refine bodyPost_ret (v := .agg #[.int .i64 a, .int .i64 0, .int .i64 b, .int .i64 0, .int .i64 0, .float .f32 0]) (by simp [results, Tryz.results149, go_sem, b0, b1, b2, b3, b4, b5, b6, b7, b8, b9, b10, b11, b12]) rfl
              ⟨((((((N1.out.set (by exact Nat.le_refl w.heap.size) _).set (by exact Nat.le_refl w.heap.size) _).set (by exact Nat.le_refl w.heap.size) _).set (by exact Nat.le_refl w.heap.size) _).set (by exact Nat.le_refl w.heap.size) _).set (by exact Nat.le_refl w.heap.size) _), ⟨a, 0, b, 0, 0, 0⟩, rfl, ⟨flX_zero, .inr (.inr (.inr rfl))⟩, fun y hy => ?_⟩
            obtain ⟨-, -, ⟨h1, -, t4, t5, t6, h2, -⟩ | ⟨h1, -, -, -, t4, h2, -⟩ | ⟨h1, -, -, -, -, h2⟩⟩ := Fm.out y hy
            all_goals first | exact absurd h1 (by decide) | exact absurd h1 c1 | exact absurd h1 c2 | exact absurd h1 c3 | exact absurd (by rw [h2]; rfl) Hno.out
end Go.Proofs.YtnmjkjjmigiabaaGreatDoor

/- The model's l7Line (FnExactParseScore).
   Conditions: those that each statement names. -/
namespace Go.Proofs.YtnmjkjjmigiabaaGreatDoor
set_option linter.unusedSimpArgs false
set_option linter.unusedVariables false
open Go Go.RowKit

/-- what lies below base is as it was -/
structure Up (base : Nat) (w w' : World) : Prop where
  os : w'.os = w.os
  tape : w'.tape = w.tape
  output : w'.output = w.output
  size : w.heap.size ≤ w'.heap.size
  block : ∀ i, i < w.heap.size → i < base → w'.heap[i]? = w.heap[i]?
theorem Up.ofNw {base : Nat} {w w' : World} (h : Nw w w') : Up base w w' := ⟨h.os, h.tape, h.output, h.size, fun i hi _ => h.block i hi (by simp)⟩
theorem Up.trans {base : Nat} {a b c : World} (h : Up base a b) (k : Up base b c) : Up base a c :=
  ⟨k.os.trans h.os, k.tape.trans h.tape, k.output.trans h.output, Nat.le_trans h.size k.size, fun i hi hb => (k.block i (Nat.lt_of_lt_of_le hi h.size) hb).trans (h.block i hi hb)⟩
theorem Up.grown {base : Nat} {w w' : World} {row : Option Nat} (hg : w.grownBy w' row) (hr : ∀ q, row = some q → base ≤ q) : Up base w w' :=
  ⟨hg.os, hg.tape, hg.output, hg.size, fun i hi hb => hg.block i hi (fun e => by have := hr i e.symm; omega)⟩
theorem Up.set {base : Nat} {w : World} {p : Addr} (hp : base ≤ p.block) (u : Value) : Up base w (w.setCell p u) :=
  ⟨rfl, rfl, rfl, by simp, fun i _ hb => Below.heap_setCell _ _ _ _ (fun e => by rw [e] at hb; omega)⟩
theorem Up.nw {base : Nat} {W w w' : World} (h : Up base w w') (hW : Nw W w) (hb : W.heap.size ≤ base) : Nw W w' :=
  ⟨h.os.trans hW.os, h.tape.trans hW.tape, h.output.trans hW.output, Nat.le_trans hW.size h.size, fun i hi hne => (h.block i (Nat.lt_of_lt_of_le hi hW.size) (by omega)).trans (hW.block i hi hne)⟩
theorem Up.has6 {base b : Nat} {w w' : World} {x0 x1 x2 x3 x4 x5 : Value} (h : Up base w w') (hb : b < base) (k : Has6 w b x0 x1 x2 x3 x4 x5) : Has6 w' b x0 x1 x2 x3 x4 x5 := k.of h.size (h.block b k.1 hb)
theorem Has6.grown {w w' : World} {b : Nat} {x0 x1 x2 x3 x4 x5 : Value} {row : Option Nat} (k : Has6 w b x0 x1 x2 x3 x4 x5) (hg : w.grownBy w' row) (hr : row ≠ some b) : Has6 w' b x0 x1 x2 x3 x4 x5 := k.of hg.size (hg.block b k.1 (fun e => hr e.symm))

structure ScM (base : Nat) (w : World) (sv ev : Value) (s : Sco) : Prop where
  bods : BodsI w base sv s.bs
  evs : w.ownsRow base 137 6 ev s.es.length (cellsE s.es)
  sz : base ≤ w.heap.size
theorem ScM.nw {base : Nat} {w w' : World} {sv ev : Value} {s : Sco} (h : ScM base w sv ev s) (hk : Nw w w') : ScM base w' sv ev s := ⟨h.bods.nw hk, own_nw h.evs hk, Nat.le_trans h.sz hk.size⟩
structure StOk (s : Sco) : Prop where
  c : FlX s.C
  r : FlX s.R
  m : ∀ ms ∈ s.bs, ∀ m ∈ ms, m.Fin ∧ m.bits
  e : ∀ e ∈ s.es, EvX e.k e.s e.m e.f
structure StB (N : Nat) (s : Sco) : Prop where
  b : s.bs.length ≤ N
  m : ∀ ms ∈ s.bs, ms.length ≤ N
  e : s.es.length ≤ N
/-! ### boxes are no rows -/
def Bx (w : World) (b : Nat) : Prop := ∃ cs f, w.heap[b]? = some (.cells cs 68 f)
theorem Bx.new (w : World) (cs : Array Value) : Bx (w.alloc (.cells cs 68 (0, 0))) w.heap.size := ⟨cs, (0, 0), by show (w.heap.push _)[w.heap.size]? = _; simp⟩
theorem Bx.of {w w' : World} {b : Nat} (h : Bx w b) (hb : w'.heap[b]? = w.heap[b]?) : Bx w' b := by
  obtain ⟨cs, f, e⟩ := h
  exact ⟨cs, f, by rw [hb, e]⟩
theorem Bx.lt {w : World} {b : Nat} (h : Bx w b) : b < w.heap.size := by
  obtain ⟨cs, f, e⟩ := h
  exact (Array.getElem?_eq_some_iff.1 e).1
theorem Bx.nw {w w' : World} {b : Nat} (h : Bx w b) (k : Nw w w') : Bx w' b := h.of (k.block b h.lt (by simp))
theorem Bx.set {w : World} {b : Nat} (h : Bx w b) (c o : Nat) (u : Value) : Bx (w.setCell ⟨c, o, none⟩ u) b := by
  by_cases e : c = b
  · subst e
    obtain ⟨cs, f, e⟩ := h
    refine ⟨cs.setIfInBounds o u, f, ?_⟩
    simp [World.setCell, Array.getElem?_modify, e]
  · exact h.of (Below.heap_setCell _ _ _ _ (fun h => e h.symm))
theorem own_box {w : World} {base : Nat} {E : TypeId} {size n c : Nat} {v : Value} {xs : List Value} (h : w.ownsRow base E size v n xs) (hB : Bx w c) (hE : E ≠ 68) : v.ownBlock = none ∨ v.ownBlock ≠ some c := by
  obtain ⟨cs, f, e⟩ := hB
  rcases h.2 with ⟨rfl, _⟩ | ⟨g, cap, cur, rfl, hb, hg, _⟩
  · exact .inl rfl
  · right
    intro e2
    simp [Value.ownBlock] at e2
    subst e2
    rw [e] at hg
    injection hg with hg
    injection hg with h1 h2 h3
    exact hE h2.symm
theorem Bx.grown {w w' : World} {base : Nat} {E : TypeId} {size n b : Nat} {v : Value} {xs : List Value} (h : Bx w b) (ho : w.ownsRow base E size v n xs) (hE : E ≠ 68) (hg : w.grownBy w' v.ownBlock) : Bx w' b :=
  h.of (hg.block b h.lt (fun e => by rcases own_box ho h hE with h2 | h2; rw [h2] at e; cases e; exact h2 e.symm))
theorem own_setx {w : World} {base : Nat} {E : TypeId} {size n c : Nat} {v : Value} {xs : List Value} (h : w.ownsRow base E size v n xs) (hB : Bx w c) (hE : E ≠ 68) (o : Nat) (u : Value) : (w.setCell ⟨c, o, none⟩ u).ownsRow base E size v n xs :=
  h.kept ((Kp.refl c w).set o u) (own_box h hB hE)
theorem ScM.box {base c : Nat} {w : World} {sv ev : Value} {s : Sco} (h : ScM base w sv ev s) (hB : Bx w c) (o : Nat) (u : Value) : ScM base (w.setCell ⟨c, o, none⟩ u) sv ev s := by
  obtain ⟨vs, N, g1, g2, h1, h2⟩ := h.bods
  exact ⟨⟨vs, N, g1, by simpa using g2, own_setx h1 hB (by decide) o u, fun p r hp => by obtain ⟨v, a, b, c, d⟩ := h2 p r hp; exact ⟨v, a, own_setx b hB (by decide) o u, c, fun e => own_setx (d e) hB (by decide) o u⟩⟩, own_setx h.evs hB (by decide) o u, by simpa using h.sz⟩
theorem ScM.six {base c : Nat} {w : World} {sv ev : Value} {s : Sco} (h : ScM base w sv ev s) (hB : Bx w c) (x0 x1 x2 x3 x4 x5 : Value) :
    ScM base ((((((w.setCell ⟨c, 0, none⟩ x0).setCell ⟨c, 1, none⟩ x1).setCell ⟨c, 2, none⟩ x2).setCell ⟨c, 3, none⟩ x3).setCell ⟨c, 4, none⟩ x4).setCell ⟨c, 5, none⟩ x5) sv ev s :=
  (((((h.box hB 0 x0).box (hB.set c 0 x0) 1 x1).box ((hB.set c 0 x0).set c 1 x1) 2 x2).box (((hB.set c 0 x0).set c 1 x1).set c 2 x2) 3 x3).box ((((hB.set c 0 x0).set c 1 x1).set c 2 x2).set c 3 x3) 4 x4).box (((((hB.set c 0 x0).set c 1 x1).set c 2 x2).set c 3 x3).set c 4 x4) 5 x5
theorem Up.six {base c : Nat} {a w : World} (h : Up base a w) (hc : base ≤ c) (x0 x1 x2 x3 x4 x5 : Value) :
    Up base a ((((((w.setCell ⟨c, 0, none⟩ x0).setCell ⟨c, 1, none⟩ x1).setCell ⟨c, 2, none⟩ x2).setCell ⟨c, 3, none⟩ x3).setCell ⟨c, 4, none⟩ x4).setCell ⟨c, 5, none⟩ x5) :=
  (((((h.trans (Up.set (p := ⟨c, 0, none⟩) hc x0)).trans (Up.set (p := ⟨c, 1, none⟩) hc x1)).trans (Up.set (p := ⟨c, 2, none⟩) hc x2)).trans (Up.set (p := ⟨c, 3, none⟩) hc x3)).trans (Up.set (p := ⟨c, 4, none⟩) hc x4)).trans (Up.set (p := ⟨c, 5, none⟩) hc x5)
theorem ev_cells (w : World) (x : Ev6) (j : Nat) (u : Value) (h : x.cells[j]? = some u) : (w.alloc (.cells #[.int .i64 x.t, .int .i64 x.k, .int .i64 x.b, .int .i64 x.s, .int .i64 x.m, .float .f32 x.f] 137 (0, 0))).cell? ⟨w.heap.size, j, none⟩ = some u := by
  obtain ⟨-, ⟨h1, h2, h3, h4, h5, h6⟩, -⟩ := Has6.new w 137 (.int .i64 x.t) (.int .i64 x.k) (.int .i64 x.b) (.int .i64 x.s) (.int .i64 x.m) (.float .f32 x.f)
  match j, h with
  | 0, h => simp [Ev6.cells] at h; subst h; exact h1
  | 1, h => simp [Ev6.cells] at h; subst h; exact h2
  | 2, h => simp [Ev6.cells] at h; subst h; exact h3
  | 3, h => simp [Ev6.cells] at h; subst h; exact h4
  | 4, h => simp [Ev6.cells] at h; subst h; exact h5
  | 5, h => simp [Ev6.cells] at h; subst h; exact h6
  | j + 6, h => simp [Ev6.cells] at h

def ModeC (base k : Nat) (p : List UInt8) (L V : Int) (C R q gb sc : Nat) (bs0 : List (List M4)) (ms : List M4) (es : List Ev6) (ev : Value) (w wx : World) : Prop :=
  ∃ m, Rd1 p m ∧ BodsI wx base (.slice (some ⟨gb, 0, none⟩) (q + 1) sc) (bs0 ++ [ms ++ [m]]) ∧ wx.ownsRow base 137 6 ev es.length (cellsE es) ∧ Up base w wx ∧
    Has6 wx k (.int .i64 L) (.int .i64 V) (.float .f32 C) (.float .f32 R) (.slice (some ⟨gb, 0, none⟩) (q + 1) sc) ev ∧ Has6 wx (k + 1) (.int .i64 0) (.int .i64 0) (.float .f32 0) (.float .f32 0) (.slice none 0 0) (.slice none 0 0) ∧ Bx wx (k + 1)
theorem mode_app {base N' k q gb sc vc : Nat} {p : List UInt8} {L V : Int} {C R : Nat} {bs0 : List (List M4)} {ms : List M4} {m : M4} {es : List Ev6} {va : Option Addr} {ev v' : Value} {vs : List Value} {w w1 w6 w7 : World}
    (N1 : Nw w w1) (Ho : w1.ownsRow base 38 1 (.slice (some ⟨gb, 0, none⟩) (q + 1) sc) (q + 1) vs) (Hq : q = bs0.length)
    (Hi : ∀ (p : Nat) r, (bs0 ++ [ms])[p]? = some r → ∃ v, vs[p]? = some v ∧ w1.ownsRow base 93 2 v r.length (cellsM r) ∧ (p + 1 < bs0.length + 1 → ∀ q, v.ownBlock = some q → q < N'))
    (Hl : w1.ownsRow N' 93 2 (.slice va ms.length vc) ms.length (cellsM ms)) (g3 : base ≤ N') (g4 : N' ≤ w1.heap.size) (Vq : vs[q]? = some (.slice va ms.length vc))
    (Ev : w1.ownsRow base 137 6 ev es.length (cellsE es)) (Hr : ∀ x, (Value.slice va ms.length vc).ownBlock = some x → base ≤ x ∧ x < k) (hgk : gb < k) (hbg : base ≤ gb)
    (S1 : Has6 w1 k (.int .i64 L) (.int .i64 V) (.float .f32 C) (.float .f32 R) (.slice (some ⟨gb, 0, none⟩) (q + 1) sc) ev) (R1 : Has6 w1 (k + 1) (.int .i64 0) (.int .i64 0) (.float .f32 0) (.float .f32 0) (.slice none 0 0) (.slice none 0 0)) (Y1 : Bx w1 (k + 1))
    (Rm : Rd1 p m) (A6 : Nw w1 w6) (own7 : w7.ownsRow N' 93 2 v' (ms.length + 1) (cellsM (ms ++ [m]))) (gr7 : (w6.alloc (.cells #[.complex .f32 m.pr m.pi, .complex .f32 m.gr m.gi] 93 (0, 0))).grownBy w7 (Value.slice va ms.length vc).ownBlock) :
    ∃ ta tc, v' = .slice ta (ms.length + 1) tc ∧ Has6 w7 k (.int .i64 L) (.int .i64 V) (.float .f32 C) (.float .f32 R) (.slice (some ⟨gb, 0, none⟩) (q + 1) sc) ev ∧ w7.cell? ⟨gb, q, none⟩ = some (.slice va ms.length vc) ∧ w7.frozen? ⟨gb, q, none⟩ = false ∧ gb < w7.heap.size ∧
      ModeC base k p L V C R q gb sc bs0 ms es ev w (w7.setCell ⟨gb, q, none⟩ (.slice ta (ms.length + 1) tc)) := by
  have A7 := A6.alloc (.cells #[.complex .f32 m.pr m.pi, .complex .f32 m.gr m.gi] 93 (0, 0))
  have U7 := (Up.ofNw (base := base) (N1.trans A7)).trans (Up.grown gr7 (fun q hq => (Hr q hq).1))
  have Ho7 := (own_nw Ho A7).kept gr7 (rows_apart (own_nw Ho A7) (own_nw Hl A7) (by decide))
  have Ev7 := (own_nw Ev A7).kept gr7 (rows_apart (own_nw Ev A7) (own_nw Hl A7) (by decide))
  have S7 := (S1.nw A7).grown gr7 (fun e => by have := (Hr _ e).2; omega)
  have R7 := (R1.nw A7).grown gr7 (fun e => by have := (Hr _ e).2; omega)
  have Y7 := (Y1.nw A7).grown (own_nw Hl A7) (by decide) gr7
  obtain ⟨ta, tc, rfl⟩ := own_shape' own7
  have Bd7 := BodsI.put (bs := bs0) (ms := ms) (vs := vs) (m := m) (g := gb) (cap := sc) (w := w6.alloc (.cells #[.complex .f32 m.pr m.pi, .complex .f32 m.gr m.gi] 93 (0, 0))) (w' := w7) g3 (by have h := own_nw Ho A7; rw [Hq] at h; exact h) (fun p r hp => by obtain ⟨v, a, b, c⟩ := Hi p r hp; exact ⟨v, a, own_nw b A7, c⟩) (own_nw Hl A7) (by have := A7.size; omega) own7 gr7
  rw [← Hq] at Bd7
  have hst := Ho7.stored q (.slice ta (ms.length + 1) tc)
  exact ⟨ta, tc, rfl, S7, by rw [Ho7.cellAt q (by omega), Vq], Ho7.frozenAt q, (Ho7.lt gb rfl).2, m, Rm, Bd7, Ev7.kept hst.2 (rows_apart Ev7 Ho7 (by decide)), U7.trans (Up.set (p := ⟨gb, q, none⟩) hbg _), S7.set' _ (by show gb ≠ k; omega), R7.set' _ (by show gb ≠ k + 1; omega), Y7.set gb q _⟩

def L7L (N base : Nat) (p : List UInt8) (s : Sco) (w : World) (e : Ending) (w' : World) : Prop :=
  ∃ (u : Sco) (sv ev : Value), e = .returned (.agg #[.int .i64 u.L, .int .i64 u.V, .float .f32 u.C, .float .f32 u.R, sv, ev]) ∧ Stp s p u ∧ ScM base w' sv ev u ∧ Up base w w' ∧ StOk u ∧ StB (N + 1) u

set_option maxHeartbeats 25600000 in
set_option maxRecDepth 100000 in
theorem l7Line_any (N base : Nat) (hN : N ≤ 1000) (p : List UInt8) (hp : p.length ≤ 1048576) (s : Sco) (sv ev : Value) (w : World) (hst : StOk s) (hsb : StB N s) (h : ScM base w sv ev s) :
    Calls Tryz.prog 91 #[.agg #[.int .i64 s.L, .int .i64 s.V, .float .f32 s.C, .float .f32 s.R, sv, ev], .string ⟨p.toArray⟩] w (L7L N base p s w) := by
  obtain ⟨L, V, C, R, bs, es⟩ := s
  obtain ⟨i0, hi, hz0, hz1, hz2⟩ := info_parts info_body
  obtain ⟨sa, sc, rfl⟩ := h.bods.r.shape
  obtain ⟨ea, ec, rfl⟩ := own_shape' h.evs
  simp only at h ⊢
  obtain ⟨nb, hnb⟩ : ∃ nb, nb = bs.length := ⟨_, rfl⟩
  obtain ⟨ne, hne⟩ : ∃ ne, ne = es.length := ⟨_, rfl⟩
  rw [← hnb, ← hne] at h ⊢
  have Hn := Lib.hid (And.intro hnb hne)
  have Hs := Lib.hid (And.intro hst hsb)
  have M0 := Lib.hid h
  have hps : (⟨p.toArray⟩ : ByteArray).size ≤ 1048576 := by
    have h3 : (⟨p.toArray⟩ : ByteArray).size = p.length := List.size_toArray
    omega
  have K0 := Lib.hid (l1Split_any 32 ⟨p.toArray⟩ hps)
  have S0 := Lib.hid ((Has6.new w 68 (.int .i64 L) (.int .i64 V) (.float .f32 C) (.float .f32 R) (.slice sa nb sc) (.slice ea ne ec)).nw ((Nw.refl _).alloc (.cells #[.int .i64 0, .int .i64 0, .float .f32 0, .float .f32 0, .slice none 0 0, .slice none 0 0] 68 (0, 0))))
  have R0 := Lib.hid (Has6.new (w.alloc (.cells #[.int .i64 L, .int .i64 V, .float .f32 C, .float .f32 R, .slice sa nb sc, .slice ea ne ec] 68 (0, 0))) 68 (.int .i64 0) (.int .i64 0) (.float .f32 0) (.float .f32 0) (.slice none 0 0) (.slice none 0 0))
  have N0 := Lib.hid (((Nw.refl w).alloc (.cells #[.int .i64 L, .int .i64 V, .float .f32 C, .float .f32 R, .slice sa nb sc, .slice ea ne ec] 68 (0, 0))).alloc (.cells #[.int .i64 0, .int .i64 0, .float .f32 0, .float .f32 0, .slice none 0 0, .slice none 0 0] 68 (0, 0)))
  have hw1 : (w.alloc (.cells #[.int .i64 L, .int .i64 V, .float .f32 C, .float .f32 R, .slice sa nb sc, .slice ea ne ec] 68 (0, 0))).heap.size = w.heap.size + 1 := by simp
  rw [hw1] at R0
  have hbw := h.sz
  have X0 := Lib.hid ((Bx.new w #[.int .i64 L, .int .i64 V, .float .f32 C, .float .f32 R, .slice sa nb sc, .slice ea ne ec]).nw ((Nw.refl _).alloc (.cells #[.int .i64 0, .int .i64 0, .float .f32 0, .float .f32 0, .slice none 0 0, .slice none 0 0] 68 (0, 0))))
  have Y0 := Lib.hid (Bx.new (w.alloc (.cells #[.int .i64 L, .int .i64 V, .float .f32 C, .float .f32 R, .slice sa nb sc, .slice ea ne ec] 68 (0, 0))) #[.int .i64 0, .int .i64 0, .float .f32 0, .float .f32 0, .slice none 0 0, .slice none 0 0])
  rw [hw1] at Y0
  clear h hnb hne hst hsb hw1
  go_enter Tryz.func91, Tryz.ntmps91
  go_wp2_with fail
  refine (K0.out _).mono ?_
  rintro e w1 ⟨qs, q1, v2, rfl, hl20, hq2, hr2, own2, n2⟩
  have hl2 : p = glueC 32 qs ++ q1 := by simpa using hl20
  have hsp2 : spl 32 p = qs ++ [q1] := by rw [hl2, spl_glue hq2, spl_none hr2]
  obtain ⟨t0, ts, hpt⟩ : ∃ t0 ts, qs ++ [q1] = t0 :: ts := by
    cases qs with
    | nil => exact ⟨_, _, rfl⟩
    | cons x xs => exact ⟨_, _, rfl⟩
  have htl : ts.length = qs.length := by have := congrArg List.length hpt; simp at this; omega
  rw [hpt] at hsp2 own2
  rw [← htl] at own2
  obtain ⟨n, hn⟩ : ∃ n, n = ts.length + 1 := ⟨_, rfl⟩
  rw [← hn] at own2
  obtain ⟨g, cap, hv2, hc2, hm2⟩ : ∃ g cap2, v2 = .slice (some ⟨g, 0, none⟩) n cap2 ∧ n ≤ cap2 ∧ cap2 ≤ maxLen := by
    rcases own2.2 with ⟨h0, h1⟩ | ⟨g, cap, cur, hv, hb, hg, hc, hm, -, -⟩
    · omega
    · exact ⟨g, cap, hv, hc, hm⟩
  subst hv2
  unfold maxLen at hm2
  have Sp := Lib.hid hsp2
  have O1 := Lib.hid own2
  have N1 := Lib.hid (N0.out.trans n2)
  have S1 := Lib.hid (S0.out.nw n2)
  have R1 := Lib.hid (R0.out.nw n2)
  have X1 := Lib.hid (X0.out.nw n2)
  have Y1 := Lib.hid (Y0.out.nw n2)
  have M1 := Lib.hid (M0.out.nw N1.out)
  have Hl := Lib.hid hn
  have hgw : g < w1.heap.size := (own2.lt g rfl).2
  have hgw2 : w.heap.size + 1 < g := by
    have := own_ge own2 g rfl
    have e : ((w.alloc (.cells #[.int .i64 L, .int .i64 V, .float .f32 C, .float .f32 R, .slice sa nb sc, .slice ea ne ec] 68 (0, 0))).alloc (.cells #[.int .i64 0, .int .i64 0, .float .f32 0, .float .f32 0, .slice none 0 0, .slice none 0 0] 68 (0, 0))).heap.size = w.heap.size + 2 := by simp
    omega
  have hgk : g ≠ w.heap.size := by omega
  have hgr : g ≠ w.heap.size + 1 := by omega
  have hpos : 0 < n := by omega
  have e0 := own_word own2 (j := 0) rfl
  have lens : ∀ t ∈ t0 :: ts, t.length ≤ 1048576 := fun t ht => by
    rw [← hsp2] at ht
    have := spl_len ht
    omega
  have Ln := Lib.hid lens
  have hn1 : n ≤ 1048577 := by have := spl_le 32 p; rw [hsp2] at this; simp at this; omega
  clear hl20 hl2 hq2 hr2 hpt htl own2 n2 hsp2 lens hn hps
  obtain ⟨s0, ⟨s1, s2, s3, s4, s5, s6⟩, s7, s8, s9, s10, s11, s12⟩ := S1.out
  have Fh := Lib.hid (show ∀ L V c r, HeadT p L V c r → t0 = wScore ∧ ∃ t1 t2 t3 t4, ts = [t1, t2, t3, t4] ∧ IntT t1 L ∧ IntT t2 V ∧ TxS t3 c ∧ TxS t4 r from by
    rintro L V c r ⟨t1, t2, t3, t4, e, k⟩
    rw [Sp.out] at e
    injection e with e1 e2
    exact ⟨e1, t1, t2, t3, t4, e2, k⟩)
  have Iw := Lib.hid (show ∀ x, isW x p = (t0 == x) from fun x => by unfold isW; rw [Sp.out]; rfl)
  by_cases hpb : p = wBody
  · have ht0 : t0 = wBody ∧ ts = [] := by
      have e := Sp.out
      rw [hpb, spl_body] at e
      simp at e
      exact ⟨e.1.symm, e.2⟩
    obtain ⟨rfl, rfl⟩ := ht0
    have Hpb := Lib.hid hpb
    obtain ⟨vs, N', g1, g2, ho, hi'⟩ := M1.out.bods
    simp only at ho hi'
    rw [← Hn.out.1] at ho
    have Ho := Lib.hid ho
    have Hi := Lib.hid hi'
    have Ev1 := Lib.hid M1.out.evs
    have hrow : ∀ q, (Value.slice sa nb sc).ownBlock = some q → base ≤ q ∧ q < w.heap.size := fun q hq => by
      obtain ⟨vs', N'', -, -, ho', -⟩ := M0.out.bods
      exact ⟨own_ge ho' q hq, (ho'.lt q hq).2⟩
    have Hr := Lib.hid hrow
    have hnb1 : nb ≤ 1000 := by have h1 := Hs.out.2.b; have h2 := Hn.out.1; simp only at h1; omega
    have hw1 := N1.out.size
    clear ho hi' hrow g1 g2
    go_wp2_with (at_builtin; refine wpList_append_own _ rfl _ _ 65 rfl base 38 i0 (.agg #[.slice none 0 0]) 1 24 Tryz.underlying65 hi hz0 hz1 hz2 rfl (by decide) _ _ _ rfl (Ho.out.alloc _) ⟨w1.heap.size, 0, none⟩ 1 1 [.slice none 0 0] rfl rfl ?c1 ?c2 ?c3 ?c4 ?c5 ?_)
    case c1 =>
      intro j u hj
      match j, hj with
      | 0, hj => simp at hj; subst hj; simp [Addr.add]
    case c2 => intro u hu; simp at hu; subst hu; rfl
    case c3 => unfold maxLen; omega
    case c4 => omega
    case c5 => simp; omega
    · intro v' w4 hown4 hgrow _
      have U4 := Lib.hid ((Up.ofNw (base := base) (N1.out.alloc (.cells #[.slice none 0 0] 38 (0, 0)))).trans (Up.grown hgrow (fun q hq => (Hr.out q hq).1)))
      have A1 := Lib.hid (show Nw w1 (w1.alloc (.cells #[.slice none 0 0] 38 (0, 0))) from (Nw.refl w1).alloc _)
      have Bd4 := Lib.hid (BodsI.push (bs := bs) (vs := vs) (w := w1.alloc (.cells #[.slice none 0 0] 38 (0, 0))) (by rw [← Hn.out.1]; exact Ho.out.alloc _) (by have := A1.out.size; omega) (fun p r hp => by obtain ⟨v, a, b, -⟩ := Hi.out p r hp; exact ⟨v, a, b.alloc _⟩) (by rw [← Hn.out.1]; exact hown4) hgrow)
      have Ev4 := Lib.hid ((own_nw Ev1.out A1.out).kept hgrow (rows_apart (own_nw Ev1.out A1.out) (Ho.out.alloc _) (by decide)))
      have S4 := Lib.hid ((S1.out.nw A1.out).grown hgrow (fun e => by have := (Hr.out _ e).2; omega))
      have R4 := Lib.hid ((R1.out.nw A1.out).grown hgrow (fun e => by have := (Hr.out _ e).2; omega))
      have X4 := Lib.hid ((X1.out.nw A1.out).grown (Ho.out.alloc _) (by decide) hgrow)
      have Y4 := Lib.hid ((Y1.out.nw A1.out).grown (Ho.out.alloc _) (by decide) hgrow)
      obtain ⟨ta, tc, rfl⟩ := own_shape' hown4
      clear hown4 hgrow s0 s1 s2 s3 s4 s5 s6 s7 s8 s9 s10 s11 s12
      have hkr : w.heap.size ≠ w.heap.size + 1 := by omega
      obtain ⟨s0, ⟨s1, s2, s3, s4, s5, s6⟩, s7, s8, s9, s10, s11, s12⟩ := S4.out
      obtain ⟨b0, ⟨b1, b2, b3, b4, b5, b6⟩, b7, b8, b9, b10, b11, b12⟩ := R4.out
      go_wp2_with fail
      refine bodyPost_ret (v := .agg #[.int .i64 L, .int .i64 V, .float .f32 C, .float .f32 R, .slice ta (nb + 1) tc, .slice ea ne ec]) (by simp [results, Tryz.results91, go_sem, b0, b1, b2, b3, b4, b5, b6, b7, b8, b9, b10, b11, b12]) rfl
        ⟨⟨L, V, C, R, bs ++ [[]], es⟩, _, _, rfl, Stp.body Hpb.out, ScM.six (c := w.heap.size + 1) (ScM.box (c := w.heap.size) ⟨Bd4.out, Ev4.out, Nat.le_trans hbw U4.out.size⟩ X4.out 4 _) (Y4.out.set _ _ _) _ _ _ _ _ _, Up.six (c := w.heap.size + 1) (U4.out.trans (Up.set (p := ⟨w.heap.size, 4, none⟩) hbw _)) (by omega) _ _ _ _ _ _, ⟨Hs.out.1.c, Hs.out.1.r, ?_, Hs.out.1.e⟩, ⟨?_, ?_, ?_⟩⟩
      · intro ms hm m hmm
        rcases List.mem_append.1 hm with hm | hm
        · exact Hs.out.1.m ms hm m hmm
        · simp at hm; subst hm; cases hmm
      · have := Hs.out.2.b; simp at this ⊢; omega
      · intro ms hm
        rcases List.mem_append.1 hm with hm | hm
        · have := Hs.out.2.m ms hm; omega
        · simp at hm; subst hm; simp
      · have := Hs.out.2.e; simp at this ⊢; omega
  · by_cases c1 : t0 = wScore
    · by_cases h5 : ts.length = 4
      · obtain ⟨t1, t2, t3, t4, rfl⟩ : ∃ t1 t2 t3 t4, ts = [t1, t2, t3, t4] := by
          rcases ts with _ | ⟨t1, _ | ⟨t2, _ | ⟨t3, _ | ⟨t4, _ | ⟨t5, ts⟩⟩⟩⟩⟩
          all_goals first | (simp at h5; done) | exact ⟨_, _, _, _, rfl⟩ | (simp at h5; omega)
        have h5n : n = 5 := Hl.out
        subst h5n c1
        have e1 := own_word O1.out (j := 1) rfl
        go_wp2_with fail
        clear s0 s1 s2 s3 s4 s5 s6 s7 s8 s9 s10 s11 s12
        refine (l7Int_any t1 (Ln.out t1 (by simp)) _).mono ?_
        rintro e w2 ⟨a, rfl, ha, n2⟩
        have N2 := Lib.hid (N1.out.trans n2)
        have S2 := Lib.hid (S1.out.nw n2)
        have R2 := Lib.hid (R1.out.nw n2)
        have X2 := Lib.hid (X1.out.nw n2)
        have O2 := Lib.hid (own_nw O1.out n2)
        have H2 := Lib.hid ha
        clear n2 ha
        have e2 := own_word O2.out (j := 2) rfl
        obtain ⟨s0, ⟨s1, s2, s3, s4, s5, s6⟩, s7, s8, s9, s10, s11, s12⟩ := S2.out
        go_wp2_with fail
        clear s0 s1 s2 s3 s4 s5 s6 s7 s8 s9 s10 s11 s12
        refine (l7Int_any t2 (Ln.out t2 (by simp)) _).mono ?_
        rintro e w3 ⟨b, rfl, hb, n3⟩
        have N3 := Lib.hid ((N2.out.set (p := ⟨w.heap.size, 0, none⟩) (by show w.heap.size ≤ w.heap.size; omega) (.int .i64 a)).trans n3)
        have S3 := Lib.hid ((S2.out.set0 (.int .i64 a)).nw n3)
        have R3 := Lib.hid ((R2.out.set' (.int .i64 a) (p := ⟨w.heap.size, 0, none⟩) (by show w.heap.size ≠ w.heap.size + 1; omega)).nw n3)
        have X3 := Lib.hid ((X2.out.set w.heap.size 0 (.int .i64 a)).nw n3)
        have O3 := Lib.hid (own_nw (own_setx O2.out X2.out (by decide) 0 (.int .i64 a)) n3)
        have H3 := Lib.hid hb
        clear n3 hb
        have e3 := own_word O3.out (j := 3) rfl
        obtain ⟨s0, ⟨s1, s2, s3, s4, s5, s6⟩, s7, s8, s9, s10, s11, s12⟩ := S3.out
        go_wp2_with fail
        clear s0 s1 s2 s3 s4 s5 s6 s7 s8 s9 s10 s11 s12
        refine (l7Float_any t3 (Ln.out t3 (by simp)) _).mono ?_
        rintro e w4 ⟨c, rfl, hg4, hc, n4⟩
        have N4 := Lib.hid ((N3.out.set (p := ⟨w.heap.size, 1, none⟩) (by show w.heap.size ≤ w.heap.size; omega) (.int .i64 b)).trans n4)
        have S4 := Lib.hid ((S3.out.set1 (.int .i64 b)).nw n4)
        have R4 := Lib.hid ((R3.out.set' (.int .i64 b) (p := ⟨w.heap.size, 1, none⟩) (by show w.heap.size ≠ w.heap.size + 1; omega)).nw n4)
        have X4 := Lib.hid ((X3.out.set w.heap.size 1 (.int .i64 b)).nw n4)
        have O4 := Lib.hid (own_nw (own_setx O3.out X3.out (by decide) 1 (.int .i64 b)) n4)
        have H4 := Lib.hid hc
        have HG4 := Lib.hid hg4
        clear hg4
        clear n4 hc
        have e4 := own_word O4.out (j := 4) rfl
        obtain ⟨s0, ⟨s1, s2, s3, s4, s5, s6⟩, s7, s8, s9, s10, s11, s12⟩ := S4.out
        go_wp2_with fail
        clear s0 s1 s2 s3 s4 s5 s6 s7 s8 s9 s10 s11 s12
        refine (l7Float_any t4 (Ln.out t4 (by simp)) _).mono ?_
        rintro e w5 ⟨r, rfl, hg5, hr, n5⟩
        have N5 := Lib.hid ((N4.out.set (p := ⟨w.heap.size, 2, none⟩) (by show w.heap.size ≤ w.heap.size; omega) (.float .f32 c)).trans n5)
        have S5 := Lib.hid ((S4.out.set2 (.float .f32 c)).nw n5)
        have R5 := Lib.hid ((R4.out.set' (.float .f32 c) (p := ⟨w.heap.size, 2, none⟩) (by show w.heap.size ≠ w.heap.size + 1; omega)).nw n5)
        have X5 := Lib.hid ((X4.out.set w.heap.size 2 (.float .f32 c)).nw n5)
        have O5 := Lib.hid (own_nw (own_setx O4.out X4.out (by decide) 2 (.float .f32 c)) n5)
        have H5 := Lib.hid hr
        have HG5 := Lib.hid hg5
        clear hg5
        clear n5 hr
        obtain ⟨s0, ⟨s1, s2, s3, s4, s5, s6⟩, s7, s8, s9, s10, s11, s12⟩ := S5.out
        obtain ⟨b0, ⟨b1, b2, b3, b4, b5, b6⟩, b7, b8, b9, b10, b11, b12⟩ := R5.out
        have hkr : w.heap.size ≠ w.heap.size + 1 := by omega
        go_wp2_with fail
        refine bodyPost_ret (v := .agg #[.int .i64 a, .int .i64 b, .float .f32 c, .float .f32 r, .slice sa nb sc, .slice ea ne ec]) (by simp [results, Tryz.results91, go_sem, b0, b1, b2, b3, b4, b5, b6, b7, b8, b9, b10, b11, b12]) rfl ?_
        have NF := (((((((N5.out.set (p := ⟨w.heap.size, 3, none⟩) (by show w.heap.size ≤ w.heap.size; omega) (.float .f32 r)).set (p := ⟨w.heap.size + 1, 0, none⟩) (by show w.heap.size ≤ w.heap.size + 1; omega) (.int .i64 a)).set (p := ⟨w.heap.size + 1, 1, none⟩) (by show w.heap.size ≤ w.heap.size + 1; omega) (.int .i64 b)).set (p := ⟨w.heap.size + 1, 2, none⟩) (by show w.heap.size ≤ w.heap.size + 1; omega) (.float .f32 c)).set (p := ⟨w.heap.size + 1, 3, none⟩) (by show w.heap.size ≤ w.heap.size + 1; omega) (.float .f32 r)).set (p := ⟨w.heap.size + 1, 4, none⟩) (by show w.heap.size ≤ w.heap.size + 1; omega) (.slice sa nb sc)).set (p := ⟨w.heap.size + 1, 5, none⟩) (by show w.heap.size ≤ w.heap.size + 1; omega) (.slice ea ne ec))
        refine ⟨⟨a, b, c, r, bs, es⟩, _, _, rfl, Stp.head (by rw [Iw.out]; rfl) (fun L' V' C' R' h => ?_), ?_, Up.ofNw NF, ⟨HG4.out, HG5.out, Hs.out.1.m, Hs.out.1.e⟩, ⟨?_, ?_, ?_⟩⟩
        · obtain ⟨-, u1, u2, u3, u4, e, k1, k2, k3, k4⟩ := Fh.out _ _ _ _ h
          cases e
          exact ⟨H2.out _ k1, H3.out _ k2, H4.out _ k3, H5.out _ k4⟩
        · have M := M0.out.nw NF
          exact ⟨M.bods, M.evs, M.sz⟩
        · have := Hs.out.2.b; simp at this ⊢; omega
        · intro ms hm; have := Hs.out.2.m ms hm; omega
        · have := Hs.out.2.e; simp at this ⊢; omega
      · have h5' : ¬ ((n : Int) = 5) := by have := Hl.out; omega
        have h5b : ((n : Int) == 5) = false := by simpa using h5'
        subst c1
        have g1 : (p == [98, 111, 100, 121]) = false := by simpa [wBody] using hpb
        have g2 : ((⟨p.toArray⟩ : ByteArray).toList == [98, 111, 100, 121]) = false := by rw [ByteArray.toList_eq]; simpa [wBody] using hpb
        have hrow : ∀ q, (Value.slice ea ne ec).ownBlock = some q → base ≤ q ∧ q < w.heap.size := fun q hq => ⟨own_ge M0.out.evs q hq, (M0.out.evs.lt q hq).2⟩
        have Hr := Lib.hid hrow
        have hne1 : ne ≤ 1000 := by have h1 := Hs.out.2.e; have h2 := Hn.out.2; simp only at h1; omega
        have hw1 := N1.out.size
        clear hrow
        go_upto_region 2 with fail
        have K1 := Lib.hid (l7Read_any p hp _ Sp.out _ n (.slice (some ⟨g, 0, none⟩) n cap) Hl.out w1.drew (own_nw O1.out ((Nw.refl w1).draw 1)))
        go_region_law (first
          | (go_simp
             go_at_call 149
             with_reducible refine K1.out.mono ?_
             rintro e w6 ⟨n6, x, rfl, hx, hxu⟩
             have A6 := Lib.hid (((Nw.refl w1).draw 1).trans n6)
             have S6 := Lib.hid (S1.out.nw A6.out)
             have Ev6' := Lib.hid (own_nw M1.out.evs A6.out)
             have Hx := Lib.hid (And.intro hx hxu)
             obtain ⟨s0, ⟨s1, s2, s3, s4, s5, s6⟩, s7, s8, s9, s10, s11, s12⟩ := S6.out
             clear n6 hx hxu)
          | (refine step_append_event rfl (.tmp 10) (.tmp 13) rfl base ne w6.heap.size (.slice ea ne ec) x es rfl rfl (by have h := Ev6'.out.alloc (.cells #[.int .i64 x.t, .int .i64 x.k, .int .i64 x.b, .int .i64 x.s, .int .i64 x.m, .float .f32 x.f] 137 (0, 0)); rw [← Hn.out.2] at h; exact h) (ev_cells w6 x) (by omega) (by have := A6.out.size; simp; omega) ?_
             intro v8 w8 own8 gr8
             have A7 := Lib.hid (A6.out.alloc (.cells #[.int .i64 x.t, .int .i64 x.k, .int .i64 x.b, .int .i64 x.s, .int .i64 x.m, .float .f32 x.f] 137 (0, 0)))
             have U8 := Lib.hid ((Up.ofNw (base := base) (N1.out.trans A7.out)).trans (Up.grown gr8 (fun q hq => (Hr.out q hq).1)))
             have Bd8 := Lib.hid (BodsI.grown (M1.out.bods.nw A7.out) (own_nw M1.out.evs A7.out) (by decide) (by decide) gr8)
             have Ev8 := Lib.hid own8
             have S8 := Lib.hid ((S1.out.nw A7.out).grown gr8 (fun e => by have := (Hr.out _ e).2; omega))
             have R8 := Lib.hid ((R1.out.nw A7.out).grown gr8 (fun e => by have := (Hr.out _ e).2; omega))
             have X8 := Lib.hid ((X1.out.nw A7.out).grown (own_nw M1.out.evs A7.out) (by decide) gr8)
             have Y8 := Lib.hid ((Y1.out.nw A7.out).grown (own_nw M1.out.evs A7.out) (by decide) gr8)
             obtain ⟨qa, qc, rfl⟩ := own_shape' own8
             clear s0 s1 s2 s3 s4 s5 s6 s7 s8 s9 s10 s11 s12
             obtain ⟨s0, ⟨s1, s2, s3, s4, s5, s6⟩, s7, s8, s9, s10, s11, s12⟩ := S8.out
             clear own8 gr8))
        all_goals
          obtain ⟨b0, ⟨b1, b2, b3, b4, b5, b6⟩, b7, b8, b9, b10, b11, b12⟩ := R8.out
          have hkr : w.heap.size ≠ w.heap.size + 1 := by omega
          go_wp2_with fail
          refine bodyPost_ret (v := .agg #[.int .i64 L, .int .i64 V, .float .f32 C, .float .f32 R, .slice sa nb sc, .slice qa (ne + 1) qc]) (by simp [results, Tryz.results91, go_sem, b0, b1, b2, b3, b4, b5, b6, b7, b8, b9, b10, b11, b12]) rfl
            ⟨⟨L, V, C, R, bs, es ++ [x]⟩, _, _, rfl, Stp.event hpb (by rw [Iw.out]; exact .inl (by decide)) (fun L' V' C' R' h => ?_) Hx.out.2, ScM.six (c := w.heap.size + 1) (ScM.box (c := w.heap.size) ⟨Bd8.out, by have h := Ev8.out; show World.ownsRow _ _ _ _ _ (es ++ [x]).length _; rw [List.length_append, ← Hn.out.2]; exact h, Nat.le_trans hbw U8.out.size⟩ X8.out 5 _) (Y8.out.set _ _ _) _ _ _ _ _ _, Up.six (c := w.heap.size + 1) (U8.out.trans (Up.set (p := ⟨w.heap.size, 5, none⟩) hbw _)) (by omega) _ _ _ _ _ _, ⟨Hs.out.1.c, Hs.out.1.r, Hs.out.1.m, fun y hy => ?_⟩, ⟨?_, ?_, ?_⟩⟩
          · obtain ⟨h1, u1, u2, u3, u4, h2, -⟩ := Fh.out _ _ _ _ h
            first | exact absurd h1 c1 | exact absurd h1 (by decide) | exact h5 (by rw [h2]; rfl)
          · rcases List.mem_append.1 hy with hy | hy
            · exact Hs.out.1.e y hy
            · simp at hy; subst hy; exact Hx.out.1
          · have := Hs.out.2.b; simp at this ⊢; omega
          · intro ms hm; have := Hs.out.2.m ms hm; omega
          · have := Hs.out.2.e; simp at this ⊢; omega
    · by_cases c2 : t0 = wMode
      · by_cases hbs : bs = []
        · subst c2
          have g1 : (p == [98, 111, 100, 121]) = false := by simpa [wBody] using hpb
          have g2 : ((⟨p.toArray⟩ : ByteArray).toList == [98, 111, 100, 121]) = false := by rw [ByteArray.toList_eq]; simpa [wBody] using hpb
          have Hbs := Lib.hid hbs
          have hnb0' : ¬ ((nb : Int) > 0) := by have h := Hn.out.1; rw [hbs] at h; simp at h; omega
          clear hbs
          have hrow : ∀ q, (Value.slice ea ne ec).ownBlock = some q → base ≤ q ∧ q < w.heap.size := fun q hq => ⟨own_ge M0.out.evs q hq, (M0.out.evs.lt q hq).2⟩
          have Hr := Lib.hid hrow
          have hne1 : ne ≤ 1000 := by have h1 := Hs.out.2.e; have h2 := Hn.out.2; simp only at h1; omega
          have hw1 := N1.out.size
          clear hrow
          go_upto_region 2 with fail
          have K1 := Lib.hid (l7Read_any p hp _ Sp.out _ n (.slice (some ⟨g, 0, none⟩) n cap) Hl.out w1.drew (own_nw O1.out ((Nw.refl w1).draw 1)))
          go_region_law (first
            | (go_simp
               go_at_call 149
               with_reducible refine K1.out.mono ?_
               rintro e w6 ⟨n6, x, rfl, hx, hxu⟩
               have A6 := Lib.hid (((Nw.refl w1).draw 1).trans n6)
               have S6 := Lib.hid (S1.out.nw A6.out)
               have Ev6' := Lib.hid (own_nw M1.out.evs A6.out)
               have Hx := Lib.hid (And.intro hx hxu)
               obtain ⟨s0, ⟨s1, s2, s3, s4, s5, s6⟩, s7, s8, s9, s10, s11, s12⟩ := S6.out
               clear n6 hx hxu)
            | (refine step_append_event rfl (.tmp 10) (.tmp 13) rfl base ne w6.heap.size (.slice ea ne ec) x es rfl rfl (by have h := Ev6'.out.alloc (.cells #[.int .i64 x.t, .int .i64 x.k, .int .i64 x.b, .int .i64 x.s, .int .i64 x.m, .float .f32 x.f] 137 (0, 0)); rw [← Hn.out.2] at h; exact h) (ev_cells w6 x) (by omega) (by have := A6.out.size; simp; omega) ?_
               intro v8 w8 own8 gr8
               have A7 := Lib.hid (A6.out.alloc (.cells #[.int .i64 x.t, .int .i64 x.k, .int .i64 x.b, .int .i64 x.s, .int .i64 x.m, .float .f32 x.f] 137 (0, 0)))
               have U8 := Lib.hid ((Up.ofNw (base := base) (N1.out.trans A7.out)).trans (Up.grown gr8 (fun q hq => (Hr.out q hq).1)))
               have Bd8 := Lib.hid (BodsI.grown (M1.out.bods.nw A7.out) (own_nw M1.out.evs A7.out) (by decide) (by decide) gr8)
               have Ev8 := Lib.hid own8
               have S8 := Lib.hid ((S1.out.nw A7.out).grown gr8 (fun e => by have := (Hr.out _ e).2; omega))
               have R8 := Lib.hid ((R1.out.nw A7.out).grown gr8 (fun e => by have := (Hr.out _ e).2; omega))
               have X8 := Lib.hid ((X1.out.nw A7.out).grown (own_nw M1.out.evs A7.out) (by decide) gr8)
               have Y8 := Lib.hid ((Y1.out.nw A7.out).grown (own_nw M1.out.evs A7.out) (by decide) gr8)
               obtain ⟨qa, qc, rfl⟩ := own_shape' own8
               clear s0 s1 s2 s3 s4 s5 s6 s7 s8 s9 s10 s11 s12
               obtain ⟨s0, ⟨s1, s2, s3, s4, s5, s6⟩, s7, s8, s9, s10, s11, s12⟩ := S8.out
               clear own8 gr8))
          all_goals
            obtain ⟨b0, ⟨b1, b2, b3, b4, b5, b6⟩, b7, b8, b9, b10, b11, b12⟩ := R8.out
            have hkr : w.heap.size ≠ w.heap.size + 1 := by omega
            go_wp2_with fail
            refine bodyPost_ret (v := .agg #[.int .i64 L, .int .i64 V, .float .f32 C, .float .f32 R, .slice sa nb sc, .slice qa (ne + 1) qc]) (by simp [results, Tryz.results91, go_sem, b0, b1, b2, b3, b4, b5, b6, b7, b8, b9, b10, b11, b12]) rfl
              ⟨⟨L, V, C, R, bs, es ++ [x]⟩, _, _, rfl, Stp.event hpb (.inr Hbs.out) (fun L' V' C' R' h => ?_) Hx.out.2, ScM.six (c := w.heap.size + 1) (ScM.box (c := w.heap.size) ⟨Bd8.out, by have h := Ev8.out; show World.ownsRow _ _ _ _ _ (es ++ [x]).length _; rw [List.length_append, ← Hn.out.2]; exact h, Nat.le_trans hbw U8.out.size⟩ X8.out 5 _) (Y8.out.set _ _ _) _ _ _ _ _ _, Up.six (c := w.heap.size + 1) (U8.out.trans (Up.set (p := ⟨w.heap.size, 5, none⟩) hbw _)) (by omega) _ _ _ _ _ _, ⟨Hs.out.1.c, Hs.out.1.r, Hs.out.1.m, fun y hy => ?_⟩, ⟨?_, ?_, ?_⟩⟩
            · obtain ⟨h1, u1, u2, u3, u4, h2, -⟩ := Fh.out _ _ _ _ h
              first | exact absurd h1 c1 | exact absurd h1 (by decide) | exact h5 (by rw [h2]; rfl)
            · rcases List.mem_append.1 hy with hy | hy
              · exact Hs.out.1.e y hy
              · simp at hy; subst hy; exact Hx.out.1
            · have := Hs.out.2.b; simp at this ⊢; omega
            · intro ms hm; have := Hs.out.2.m ms hm; omega
            · have := Hs.out.2.e; simp at this ⊢; omega
        · subst c2
          have g1 : (p == [98, 111, 100, 121]) = false := by simpa [wBody] using hpb
          have g2 : ((⟨p.toArray⟩ : ByteArray).toList == [98, 111, 100, 121]) = false := by rw [ByteArray.toList_eq]; simpa [wBody] using hpb
          obtain ⟨bs0, ms, rfl⟩ : ∃ bs0 ms, bs = bs0 ++ [ms] := ⟨_, _, (List.dropLast_concat_getLast hbs).symm⟩
          obtain ⟨q, hq⟩ : ∃ q, q = bs0.length := ⟨_, rfl⟩
          have hnq : nb = q + 1 := by rw [Hn.out.1, hq]; simp
          subst hnq
          have Hq := Lib.hid hq
          clear hbs hq
          obtain ⟨vs, N', g3, g4, ho, hi'⟩ := M1.out.bods
          simp only at ho hi'
          rw [← Hn.out.1] at ho
          obtain ⟨gb, rfl, hcb, hcb2⟩ : ∃ gb, sa = some ⟨gb, 0, none⟩ ∧ q + 1 ≤ sc ∧ sc ≤ maxLen := by
            rcases ho.2 with ⟨h0, h1⟩ | ⟨g, cap, cur, hv, hb, hg, hc, hm, -, -⟩
            · omega
            · cases hv; exact ⟨g, rfl, hc, hm⟩
          unfold maxLen at hcb2
          obtain ⟨v, hvq, -, -, hlast⟩ := hi' q ms (by rw [Hq.out]; simp)
          have hl := hlast (by rw [Hq.out]; simp)
          obtain ⟨va, vc, rfl⟩ := own_shape' hl
          have Ho := Lib.hid ho
          have Hi := Lib.hid (show ∀ (p : Nat) r, (bs0 ++ [ms])[p]? = some r → ∃ v, vs[p]? = some v ∧ w1.ownsRow base 93 2 v r.length (cellsM r) ∧ (p + 1 < bs0.length + 1 → ∀ q, v.ownBlock = some q → q < N') from fun p r hp => by
            obtain ⟨v, a, b, c, -⟩ := hi' p r hp
            exact ⟨v, a, b, fun h => c (by simpa using h)⟩)
          have Hl1 := Lib.hid hl
          have G3 := Lib.hid (And.intro g3 g4)
          have Vq := Lib.hid hvq
          have hms : ms.length ≤ 1000 := by have h1 := Hs.out.2.m ms (by simp); omega
          have hq1 : q ≤ 1000 := by have h1 := Hs.out.2.b; have h2 := Hq.out; simp at h1; omega
          have hgbw : gb < w.heap.size := by
            obtain ⟨vs', N'', -, -, ho', -⟩ := M0.out.bods
            exact (ho'.lt gb rfl).2
          have hlw : ∀ x, (Value.slice va ms.length vc).ownBlock = some x → base ≤ x ∧ x < w.heap.size := fun x hx => by
            obtain ⟨vs', N'', g5, -, ho', hi''⟩ := M0.out.bods
            obtain ⟨v', h1, h2, -⟩ := hi'' bs0.length ms (by simp)
            simp only at ho'
            rw [← Hn.out.1] at ho'
            have hc1 := ho'.cellAt q (by omega)
            have hc2 := ho.cellAt q (by omega)
            have hc3 := (N1.out.cell (p := ⟨gb, q, none⟩) hgbw).symm.trans hc2
            rw [hc1, hvq, Hq.out, h1] at hc3
            have e : v' = .slice va ms.length vc := by simpa using hc3
            rw [← e] at hx
            exact ⟨own_ge h2 x hx, (h2.lt x hx).2⟩
          have Hr := Lib.hid hlw
          have ec1 : w1.cell? ⟨gb, q, none⟩ = some (.slice va ms.length vc) := by rw [ho.cellAt q (by omega), hvq]
          have hw1 := N1.out.size
          have hqq : (q : Int) < (q : Int) + 1 := by omega
          have hgk1 : gb ≠ w.heap.size := by omega
          have hgk2 : gb ≠ w.heap.size + 1 := by omega
          clear ho hi' hl hlast g3 g4 hvq hlw
          have hbg : base ≤ gb := by
            obtain ⟨vs', N'', -, -, ho', -⟩ := M0.out.bods
            exact own_ge ho' gb rfl
          have Ev1 := Lib.hid M1.out.evs
          have P7 := Lib.hid (fun (w6 w7 : World) (m : M4) (v' : Value) Rm A6 own7 gr7 => mode_app (p := p) (w6 := w6) (w7 := w7) (m := m) (v' := v') N1.out Ho.out Hq.out Hi.out Hl1.out G3.out.1 G3.out.2 Vq.out Ev1.out Hr.out hgbw hbg S1.out R1.out Y1.out Rm A6 own7 gr7)
          have hbg : base ≤ gb := by
            obtain ⟨vs', N'', -, -, ho', -⟩ := M0.out.bods
            exact own_ge ho' gb rfl
          have Ev1 := Lib.hid M1.out.evs
          have P7 := Lib.hid (fun (w6 w7 : World) (m : M4) (v' : Value) Rm A6 own7 gr7 => mode_app (p := p) (w6 := w6) (w7 := w7) (m := m) (v' := v') N1.out Ho.out Hq.out Hi.out Hl1.out G3.out.1 G3.out.2 Vq.out Ev1.out Hr.out hgbw hbg S1.out R1.out Y1.out Rm A6 own7 gr7)
          go_upto_region 12 with fail
          have hts : (⟨p.toArray⟩ : ByteArray).size ≤ 1048576 := by
            have h3 : (⟨p.toArray⟩ : ByteArray).size = p.length := List.size_toArray
            omega
          have K1 := Lib.hid (l6Mode_ok ⟨p.toArray⟩ hts w1.drew)
          have hOc := Lib.hid (fun (w6 : World) (A6 : Nw w1 w6) => show w6.cell? ⟨gb, q, none⟩ = some (.slice va ms.length vc) ∧ gb < w6.heap.size ∧ N' ≤ w6.heap.size from ⟨by rw [(own_nw Ho.out A6).cellAt q (by omega), Vq.out], by have := A6.size; omega, by have := A6.size; have := G3.out.2; omega⟩)
          clear hts
          go_region_law (first
            | (go_simp
               go_at_call 79
               with_reducible refine K1.out.mono ?_
               rintro e w6 ⟨n6, m, hf6, hb6, hm6, rfl⟩
               have A6 := Lib.hid (((Nw.refl w1).draw 1).trans n6)
               have Rm := Lib.hid (show Rd1 p m from ⟨⟨hf6, hb6⟩, by simpa using hm6⟩)
               obtain ⟨s0, ⟨s1, s2, s3, s4, s5, s6⟩, s7, s8, s9, s10, s11, s12⟩ := S1.out.nw A6.out
               obtain ⟨ec6, hgb6, hN6⟩ := hOc.out w6 A6.out
               clear n6 hf6 hb6 hm6)
            | (refine step_append_mode rfl (.tmp 78) (.tmp 81) rfl N' ms.length w6.heap.size (.slice va ms.length vc) ms m rfl rfl ((own_nw Hl1.out A6.out).alloc _) ⟨by go_simp, by go_simp⟩ (by omega) (by simp; omega) ?_
               intro v7 w7 own7 gr7
               obtain ⟨ta, tc, rfl, hS7, ec7, ef7, hgb7, hQ⟩ := P7.out w6 w7 m v7 Rm.out A6.out own7 gr7
               have Q := Lib.hid hQ
               clear s0 s1 s2 s3 s4 s5 s6 s7 s8 s9 s10 s11 s12
               obtain ⟨s0, ⟨s1, s2, s3, s4, s5, s6⟩, s7, s8, s9, s10, s11, s12⟩ := hS7
               clear own7 gr7 hQ))
          all_goals
            obtain ⟨m, hRm, hBd, hEv, hU, hS, hR, hY⟩ := Q.out
            have hdf : w7.heap.size = w7.heap.size := rfl
            have Rm := Lib.hid hRm
            have Bd := Lib.hid hBd
            have Ev := Lib.hid hEv
            have U := Lib.hid hU
            have Y := Lib.hid hY
            clear hRm hBd hEv hU hY hS
            obtain ⟨b0, ⟨b1, b2, b3, b4, b5, b6⟩, b7, b8, b9, b10, b11, b12⟩ := hR
            have hkr : w.heap.size ≠ w.heap.size + 1 := by omega
            go_wp2_with fail
            refine bodyPost_ret (v := .agg #[.int .i64 L, .int .i64 V, .float .f32 C, .float .f32 R, .slice (some ⟨gb, 0, none⟩) (q + 1) sc, .slice ea ne ec]) (by simp [results, Tryz.results91, go_sem, b0, b1, b2, b3, b4, b5, b6, b7, b8, b9, b10, b11, b12]) rfl
              ⟨⟨L, V, C, R, bs0 ++ [ms ++ [m]], es⟩, _, _, rfl, Stp.mode hpb (by rw [Iw.out]; rfl) Rm.out rfl, ScM.six (c := w.heap.size + 1) ⟨Bd.out, Ev.out, Nat.le_trans hbw U.out.size⟩ Y.out _ _ _ _ _ _, Up.six (c := w.heap.size + 1) U.out (by omega) _ _ _ _ _ _, ⟨Hs.out.1.c, Hs.out.1.r, ?_, Hs.out.1.e⟩, ⟨?_, ?_, ?_⟩⟩
            · intro ns hm m' hm'
              rcases List.mem_append.1 hm with hm | hm
              · exact Hs.out.1.m ns (List.mem_append_left _ hm) m' hm'
              · simp at hm
                subst hm
                rcases List.mem_append.1 hm' with hm' | hm'
                · exact Hs.out.1.m ms (by simp) m' hm'
                · simp at hm'; subst hm'; exact Rm.out.1
            · have := Hs.out.2.b; simp at this ⊢; omega
            · intro ns hm
              rcases List.mem_append.1 hm with hm | hm
              · have := Hs.out.2.m ns (List.mem_append_left _ hm); omega
              · simp at hm; subst hm; have := Hs.out.2.m ms (by simp); simp; omega
            · have := Hs.out.2.e; simp at this ⊢; omega
      · have d1 : (t0 == [115, 99, 111, 114, 101]) = false := by simpa [wScore] using c1
        have d2 : (t0 == [109, 111, 100, 101]) = false := by simpa [wMode] using c2
        have f1 : ((⟨t0.toArray⟩ : ByteArray).toList == [115, 99, 111, 114, 101]) = false := by rw [ByteArray.toList_eq]; simpa [wScore] using c1
        have f2 : ((⟨t0.toArray⟩ : ByteArray).toList == [109, 111, 100, 101]) = false := by rw [ByteArray.toList_eq]; simpa [wMode] using c2
        have g1 : (p == [98, 111, 100, 121]) = false := by simpa [wBody] using hpb
        have g2 : ((⟨p.toArray⟩ : ByteArray).toList == [98, 111, 100, 121]) = false := by rw [ByteArray.toList_eq]; simpa [wBody] using hpb
        have hrow : ∀ q, (Value.slice ea ne ec).ownBlock = some q → base ≤ q ∧ q < w.heap.size := fun q hq => ⟨own_ge M0.out.evs q hq, (M0.out.evs.lt q hq).2⟩
        have Hr := Lib.hid hrow
        have hne1 : ne ≤ 1000 := by have h1 := Hs.out.2.e; have h2 := Hn.out.2; simp only at h1; omega
        have hw1 := N1.out.size
        clear hrow
        go_upto_region 2 with fail
        have K1 := Lib.hid (l7Read_any p hp _ Sp.out _ n (.slice (some ⟨g, 0, none⟩) n cap) Hl.out w1.drew (own_nw O1.out ((Nw.refl w1).draw 1)))
        go_region_law (first
          | (go_simp
             go_at_call 149
             with_reducible refine K1.out.mono ?_
             rintro e w6 ⟨n6, x, rfl, hx, hxu⟩
             have A6 := Lib.hid (((Nw.refl w1).draw 1).trans n6)
             have S6 := Lib.hid (S1.out.nw A6.out)
             have Ev6' := Lib.hid (own_nw M1.out.evs A6.out)
             have Hx := Lib.hid (And.intro hx hxu)
             obtain ⟨s0, ⟨s1, s2, s3, s4, s5, s6⟩, s7, s8, s9, s10, s11, s12⟩ := S6.out
             clear n6 hx hxu)
          | (refine step_append_event rfl (.tmp 10) (.tmp 13) rfl base ne w6.heap.size (.slice ea ne ec) x es rfl rfl (by have h := Ev6'.out.alloc (.cells #[.int .i64 x.t, .int .i64 x.k, .int .i64 x.b, .int .i64 x.s, .int .i64 x.m, .float .f32 x.f] 137 (0, 0)); rw [← Hn.out.2] at h; exact h) (ev_cells w6 x) (by omega) (by have := A6.out.size; simp; omega) ?_
             intro v8 w8 own8 gr8
             have A7 := Lib.hid (A6.out.alloc (.cells #[.int .i64 x.t, .int .i64 x.k, .int .i64 x.b, .int .i64 x.s, .int .i64 x.m, .float .f32 x.f] 137 (0, 0)))
             have U8 := Lib.hid ((Up.ofNw (base := base) (N1.out.trans A7.out)).trans (Up.grown gr8 (fun q hq => (Hr.out q hq).1)))
             have Bd8 := Lib.hid (BodsI.grown (M1.out.bods.nw A7.out) (own_nw M1.out.evs A7.out) (by decide) (by decide) gr8)
             have Ev8 := Lib.hid own8
             have S8 := Lib.hid ((S1.out.nw A7.out).grown gr8 (fun e => by have := (Hr.out _ e).2; omega))
             have R8 := Lib.hid ((R1.out.nw A7.out).grown gr8 (fun e => by have := (Hr.out _ e).2; omega))
             have X8 := Lib.hid ((X1.out.nw A7.out).grown (own_nw M1.out.evs A7.out) (by decide) gr8)
             have Y8 := Lib.hid ((Y1.out.nw A7.out).grown (own_nw M1.out.evs A7.out) (by decide) gr8)
             obtain ⟨qa, qc, rfl⟩ := own_shape' own8
             clear s0 s1 s2 s3 s4 s5 s6 s7 s8 s9 s10 s11 s12
             obtain ⟨s0, ⟨s1, s2, s3, s4, s5, s6⟩, s7, s8, s9, s10, s11, s12⟩ := S8.out
             clear own8 gr8))
        all_goals
          obtain ⟨b0, ⟨b1, b2, b3, b4, b5, b6⟩, b7, b8, b9, b10, b11, b12⟩ := R8.out
          have hkr : w.heap.size ≠ w.heap.size + 1 := by omega
          go_wp2_with fail
          refine bodyPost_ret (v := .agg #[.int .i64 L, .int .i64 V, .float .f32 C, .float .f32 R, .slice sa nb sc, .slice qa (ne + 1) qc]) (by simp [results, Tryz.results91, go_sem, b0, b1, b2, b3, b4, b5, b6, b7, b8, b9, b10, b11, b12]) rfl
            ⟨⟨L, V, C, R, bs, es ++ [x]⟩, _, _, rfl, Stp.event hpb (by rw [Iw.out]; exact .inl (by simpa using c2)) (fun L' V' C' R' h => ?_) Hx.out.2, ScM.six (c := w.heap.size + 1) (ScM.box (c := w.heap.size) ⟨Bd8.out, by have h := Ev8.out; show World.ownsRow _ _ _ _ _ (es ++ [x]).length _; rw [List.length_append, ← Hn.out.2]; exact h, Nat.le_trans hbw U8.out.size⟩ X8.out 5 _) (Y8.out.set _ _ _) _ _ _ _ _ _, Up.six (c := w.heap.size + 1) (U8.out.trans (Up.set (p := ⟨w.heap.size, 5, none⟩) hbw _)) (by omega) _ _ _ _ _ _, ⟨Hs.out.1.c, Hs.out.1.r, Hs.out.1.m, fun y hy => ?_⟩, ⟨?_, ?_, ?_⟩⟩
          · obtain ⟨h1, u1, u2, u3, u4, h2, -⟩ := Fh.out _ _ _ _ h
            first | exact absurd h1 c1 | exact absurd h1 (by decide) | exact h5 (by rw [h2]; rfl)
          · rcases List.mem_append.1 hy with hy | hy
            · exact Hs.out.1.e y hy
            · simp at hy; subst hy; exact Hx.out.1
          · have := Hs.out.2.b; simp at this ⊢; omega
          · intro ms hm; have := Hs.out.2.m ms hm; omega
          · have := Hs.out.2.e; simp at this ⊢; omega
end Go.Proofs.YtnmjkjjmigiabaaGreatDoor

/- The model's IsScore (FnExactParseScore).
   Conditions: those that each statement names. -/
namespace Go.Proofs.YtnmjkjjmigiabaaGreatDoor
set_option linter.unusedSimpArgs false
set_option linter.unusedVariables false
open Go Go.RowKit

theorem specModes_big (ms : List M4) (n bm : Nat) (v : Value) (hn : ms.length = n) (hn64 : n ≤ 1000) (w : World)
    (hm : w.ownsRow bm 93 2 v n (cellsM ms)) :
    Calls Tryz.prog 138 #[v] w (TestP (bodyB ms) w) := by
  obtain ⟨va, vc, rfl⟩ := own_shape' hm
  have Hm := Lib.hid hm
  have Hn := Lib.hid hn
  clear hm hn
  go_enter Tryz.func138, Tryz.ntmps138
  go_wp2_with fail
  go_loopw [7] (fun i wr => TestI ms n w i wr) (fun i _ => n - (intOf i).toNat)
  case atStart => exact ⟨0, by omega, rfl, fun j hj => absurd hj (by omega), Nw.refl _⟩
  case round =>
    obtain ⟨k, hk, rfl, hal, hnw⟩ := hrel
    have Hnw := Lib.hid hnw
    have Hal := Lib.hid hal
    clear hnw hal
    by_cases hlt : k < n
    · obtain ⟨m, hmk⟩ : ∃ m, ms[k]? = some m := ⟨ms[k]'(by rw [Hn.out]; exact hlt), List.getElem?_eq_getElem _⟩
      have Hmr := Lib.hid (own_nw Hm.out Hnw.out)
      obtain ⟨g, cap, hv, hcap, hmax, hgs, e1, e2⟩ := own_mode Hmr.out hmk Hn.out.symm
      cases hv
      unfold maxLen at hmax
      have Hnw4 := Lib.hid (Hnw.out.alloc (.cells #[.complex .f32 m.pr m.pi, .complex .f32 m.gr m.gi] 93 (0, 0)))
      have Hmk := Lib.hid hmk
      clear hmk
      go_wp2_with fail
      refine (specMode_any _ _ _ _ _).mono ?_
      rintro e w5 ⟨rfl, n5⟩
      have Hnw5 := Lib.hid (Hnw4.out.trans n5)
      clear n5 e1 e2
      cases hb : modeB m.pr m.pi m.gr m.gi labs with
      | false =>
        go_wp2_with fail
        go_ret
        exact ⟨by rw [bodyB_bad (List.mem_of_getElem? Hmk.out) hb]; first | done | rfl, Hnw5.out⟩
      | true =>
        go_wp2_with fail
        go_roundw
        case rel =>
          refine ⟨k + 1, by omega, by rw [show ((k + 1 : Nat) : Int) = (k : Int) + 1 from by omega], fun j hj m' hm' => ?_, Hnw5.out⟩
          by_cases hjk : j < k
          · exact Hal.out j hjk m' hm'
          · obtain rfl : j = k := by omega
            rw [Hmk.out] at hm'
            cases hm'
            exact hb
        case measure => simp only [intOf]; omega
    · go_wp2_with fail
      go_ret
      refine ⟨?_, Hnw.out⟩
      by_cases hn16 : n ≤ 16
      · rw [bodyB_all (by rw [Hn.out]; exact hn16) (fun j hj => Hal.out j (by have := Hn.out; omega))]
        simp [hn16]
        first | done | omega
      · rw [bodyB_long (by rw [Hn.out]; omega)]
        simp [hn16]
        first | done | omega

theorem specIsBody_big (ms : List M4) (n bm : Nat) (v : Value) (hn : ms.length = n) (hn64 : n ≤ 1000) (w : World)
    (hm : w.ownsRow bm 93 2 v n (cellsM ms)) :
    Calls Tryz.prog 80 #[.agg #[v]] w (TestP (bodyB ms) w) := by
  obtain ⟨va, vc, rfl⟩ := own_shape' hm
  have Hm := Lib.hid (hm.alloc (.cells #[.slice va n vc] 38 (0, 0)))
  have Hn0 := Lib.hid ((Nw.refl w).alloc (.cells #[.slice va n vc] 38 (0, 0)))
  clear hm
  go_enter Tryz.func80, Tryz.ntmps80
  go_wp2_with fail
  refine (specModes_big ms n bm _ hn hn64 _ Hm.out).mono ?_
  rintro e w1 ⟨rfl, n1⟩
  have Hn1 := Lib.hid (Hn0.out.trans n1)
  clear n1
  go_wp2
  go_ret
  exact ⟨rfl, Hn1.out⟩


theorem flX_nn {f : Nat} (h : FlX f) : nan32 f = false := by
  rcases h.2 with h | rfl
  · exact sm_nn' h
  · decide
theorem flX_fin {f : Nat} (h : FlX f) : fin .f64 (wid f) = fin .f32 f := by
  rcases h.2 with h | rfl
  · rw [fin_wid h, (fin_iff' .f32 f).2 h]
  · decide +kernel
theorem zero_text {xs : List Int} (h : TxtOf 0 xs) : xs = [48] := by
  rcases h with ⟨h, -⟩ | ⟨-, h⟩ | ⟨h, -⟩ | ⟨sg, m, p, a, q, h, hm, -⟩
  · exact absurd h (by decide)
  · exact h
  · cases h
  · rw [show Ieee.double.read 0 = .number false 0 (-1074) from by decide] at h
    injection h with h1 h2 h3
    exact absurd h2.symm hm
theorem l7Zero_zero (w : World) :
    Calls Tryz.prog 194 #[.float .f32 0] w (TestP true w) := by
  have P := Lib.hid (specTextS 0 (by decide))
  have a1 : ∀ w, fcv w .f32 0 .f64 = 0 := fun w => by rw [fcv_wide (by decide)]; exact wid_zero
  go_enter Tryz.func194, Tryz.ntmps194
  go_wp2_with fail
  refine (P.out _).mono ?_
  rintro e w1 ⟨xs, w2, rfl, ht, n1⟩
  rw [a1] at ht
  have e := zero_text ht
  subst e
  have hz : ((strOfNums [48]).toList == [48]) = true := by rw [ByteArray.toList_eq]; rfl
  have N1 := Lib.hid n1
  clear n1 ht
  go_wp2_with fail
  go_ret
  exact ⟨rfl, N1.out⟩

set_option maxHeartbeats 3200000 in
set_option maxRecDepth 100000 in
theorem l7Event_any (L V : Int) (C R nb : Nat) (sa : Option Addr) (sc : Nat) (ev : Value) (e : Ev6) (h : EvX e.k e.s e.m e.f) (hnb : nb ≤ 1000) (w : World) :
    Calls Tryz.prog 152 #[.agg #[.int .i64 L, .int .i64 V, .float .f32 C, .float .f32 R, .slice sa nb sc, ev], .agg #[.int .i64 e.t, .int .i64 e.k, .int .i64 e.b, .int .i64 e.s, .int .i64 e.m, .float .f32 e.f]] w (TestP (evB nb e) w) := by
  obtain ⟨t, k, b, s, m, f⟩ := e
  obtain ⟨hf, hk⟩ := h
  simp only at hf hk ⊢
  have S0 := Lib.hid ((Has6.new w 68 (.int .i64 L) (.int .i64 V) (.float .f32 C) (.float .f32 R) (.slice sa nb sc) ev).nw ((Nw.refl _).alloc (.cells #[.int .i64 t, .int .i64 k, .int .i64 b, .int .i64 s, .int .i64 m, .float .f32 f] 137 (0, 0))))
  have X := Lib.hid (Has6.new (w.alloc (.cells #[.int .i64 L, .int .i64 V, .float .f32 C, .float .f32 R, .slice sa nb sc, ev] 68 (0, 0))) 137 (.int .i64 t) (.int .i64 k) (.int .i64 b) (.int .i64 s) (.int .i64 m) (.float .f32 f))
  have N := Lib.hid (((Nw.refl w).alloc (.cells #[.int .i64 L, .int .i64 V, .float .f32 C, .float .f32 R, .slice sa nb sc, ev] 68 (0, 0))).alloc (.cells #[.int .i64 t, .int .i64 k, .int .i64 b, .int .i64 s, .int .i64 m, .float .f32 f] 137 (0, 0)))
  have hw1 : (w.alloc (.cells #[.int .i64 L, .int .i64 V, .float .f32 C, .float .f32 R, .slice sa nb sc, ev] 68 (0, 0))).heap.size = w.heap.size + 1 := by simp
  rw [hw1] at X
  clear hw1
  have St : ∀ x : Int, decide (0 ≤ x ∧ x ≤ 2000) = stB x := fun x => by unfold stB; rw [Bool.decide_and]
  cases hst : stB t with
  | false =>
    have E := Lib.hid (evB_no (nb := nb) (e := ⟨t, k, b, s, m, f⟩) (.inl hst))
    clear hk
    go_enter Tryz.func152, Tryz.ntmps152
    go_wp2_with (go_at_call 150; refine (l1In_any _ _ _ _).mono ?_; rintro e w1 ⟨rfl, rfl⟩; rw [St, hst])
    all_goals
      go_ret
      exact ⟨by rw [E.out]; first | done | rfl, N.out⟩
  | true =>
    by_cases h01 : 0 ≤ b ∧ b ≤ (nb : Int) - 1
    · have hd : decide (0 ≤ b ∧ b ≤ (nb : Int) - 1) = true := decide_eq_true h01
      have E := Lib.hid (evB_at (nb := nb) (e := ⟨t, k, b, s, m, f⟩) hst (by show 0 ≤ b; omega) (by show b < (nb : Int); omega))
      rcases hk with rfl | ⟨rfl, rfl, rfl⟩ | ⟨rfl, rfl, rfl, rfl⟩ | rfl
      · have a1 := fcv_wide (flX_nn hf)
        have a2 := fcd_wide (flX_nn hf)
        have a3 := flX_fin hf
        have a4 := Lib.hid (show evB nb ⟨t, 1, b, s, m, f⟩ = (okZ s m && fin .f32 f) from by rw [E.out]; rfl)
        go_enter Tryz.func152, Tryz.ntmps152
        go_wp2_with (go_at_call 150; refine (l1In_any _ _ _ _).mono ?_; rintro e w1 ⟨rfl, rfl⟩; first | rw [St, hst] | rw [hd])
        refine (specStrike_any s m _).mono ?_
        rintro e w2 ⟨g, rfl, own2, n2⟩
        have N2 := Lib.hid (N.out.trans n2)
        obtain ⟨x0, ⟨x1, x2, x3, x4, x5, x6⟩, x7, x8, x9, x10, x11, x12⟩ := X.out.nw n2
        clear own2 n2
        cases ho : okZ s m with
        | true =>
          go_wp2_with fail
          refine (l1Finite_any _ _).mono ?_
          rintro e w3 ⟨rfl, n3, rfl⟩
          rw [a3]
          go_wp2_with fail
          go_ret
          exact ⟨by rw [a4.out, ho]; first | done | rfl, N2.out.draw n3⟩
        | false =>
          go_wp2_with fail
          go_ret
          exact ⟨by rw [a4.out, ho]; first | done | rfl, N2.out⟩
      · have a4 := Lib.hid (show evB nb ⟨t, 2, b, 0, 0, f⟩ = (ge0 f && le1 f) from by rw [E.out]; rfl)
        cases h0 : ge0 f with
        | false =>
          have h0' := h0
          unfold ge0 at h0'
          go_enter Tryz.func152, Tryz.ntmps152
          go_wp2_with (go_at_call 150; refine (l1In_any _ _ _ _).mono ?_; rintro e w1 ⟨rfl, rfl⟩; first | rw [St, hst] | rw [hd])
          all_goals
            go_ret
            exact ⟨by rw [a4.out, h0]; first | done | rfl, N.out⟩
        | true =>
          have h0' := h0
          unfold ge0 at h0'
          cases h1 : le1 f with
          | false =>
            have h1' := h1
            unfold le1 at h1'
            go_enter Tryz.func152, Tryz.ntmps152
            go_wp2_with (go_at_call 150; refine (l1In_any _ _ _ _).mono ?_; rintro e w1 ⟨rfl, rfl⟩; first | rw [St, hst] | rw [hd])
            all_goals
              go_ret
              exact ⟨by rw [a4.out, h0, h1]; first | done | rfl, N.out⟩
          | true =>
            have h1' := h1
            unfold le1 at h1'
            go_enter Tryz.func152, Tryz.ntmps152
            go_wp2_with (go_at_call 150; refine (l1In_any _ _ _ _).mono ?_; rintro e w1 ⟨rfl, rfl⟩; first | rw [St, hst] | rw [hd])
            all_goals
              go_ret
              exact ⟨by rw [a4.out, h0, h1]; first | done | rfl, N.out⟩
      · have a4 := Lib.hid (show evB nb ⟨t, 3, b, 0, 0, 0⟩ = true from by rw [E.out]; rfl)
        go_enter Tryz.func152, Tryz.ntmps152
        go_wp2_with (go_at_call 150; refine (l1In_any _ _ _ _).mono ?_; rintro e w1 ⟨rfl, rfl⟩; first | rw [St, hst] | rw [hd])
        refine (l7Zero_zero _).mono ?_
        rintro e w2 ⟨rfl, n2⟩
        have N2 := Lib.hid (N.out.trans n2)
        clear n2
        go_wp2_with fail
        go_ret
        exact ⟨by rw [a4.out]; first | done | rfl, N2.out⟩
      · have a4 := Lib.hid (show evB nb ⟨t, 0, b, s, m, f⟩ = false from by rw [E.out]; rfl)
        go_enter Tryz.func152, Tryz.ntmps152
        go_wp2_with (go_at_call 150; refine (l1In_any _ _ _ _).mono ?_; rintro e w1 ⟨rfl, rfl⟩; first | rw [St, hst] | rw [hd])
        all_goals
          go_ret
          exact ⟨by rw [a4.out]; first | done | rfl, N.out⟩
    · have hd : decide (0 ≤ b ∧ b ≤ (nb : Int) - 1) = false := decide_eq_false h01
      have E := Lib.hid (evB_no (nb := nb) (e := ⟨t, k, b, s, m, f⟩) (by show stB t = false ∨ b < 0 ∨ (nb : Int) ≤ b; omega))
      clear hk
      go_enter Tryz.func152, Tryz.ntmps152
      go_wp2_with (go_at_call 150; refine (l1In_any _ _ _ _).mono ?_; rintro e w1 ⟨rfl, rfl⟩; first | rw [St, hst] | rw [hd])
      all_goals
        go_ret
        exact ⟨by rw [E.out]; first | done | rfl, N.out⟩
end Go.Proofs.YtnmjkjjmigiabaaGreatDoor
