/- Texts of a proof, put together: LpD, LpE, RdN, Rune, CutL, FmB, RdL, PbS, PbT, RmA, Evs, LpP, LpQ, LpS, LpX, LpY.
   Conditions: those that each statement names. -/
import Derived.Test.YtnmjkjjmigiabaaGreatDoorKParseScE5
import Derived.Deep.CutBlock
import Derived.Laws.RangeString
import Derived.StillTailTactics
import Derived.Laws.AppendOwnNone
import Derived.Deep.RegionLawGrows
import Derived.Laws.StructEq
/- What readEvent is to tell: the text of an event (FnExactParseScore).
   Conditions: those that each statement names. -/
namespace Go.Proofs.YtnmjkjjmigiabaaGreatDoor
set_option linter.unusedSimpArgs false
set_option linter.unusedVariables false
open Go Go.RowKit

def wAt : List UInt8 := [97, 116]
def wStrike : List UInt8 := [115, 116, 114, 105, 107, 101]
def wDamp : List UInt8 := [100, 97, 109, 112]
def wStop : List UInt8 := [115, 116, 111, 112]
/-- the text of an event: time, kind, body, shape, count, force -/
def EvT (l : List UInt8) (a k b s n : Int) (f : Nat) : Prop :=
  (∃ t1 t2 t3 t4 t5, spl 32 l = [wAt, t1, wStrike, t2, t3, t4, t5] ∧ IntT t1 a ∧ k = 1 ∧ IntT t2 b ∧ IntT t3 s ∧ IntT t4 n ∧ TxS t5 f) ∨
  (∃ t1 t2 t3, spl 32 l = [wAt, t1, wDamp, t2, t3] ∧ IntT t1 a ∧ k = 2 ∧ IntT t2 b ∧ s = 0 ∧ n = 0 ∧ TxS t3 f) ∨
  (∃ t1 t2, spl 32 l = [wAt, t1, wStop, t2] ∧ IntT t1 a ∧ k = 3 ∧ IntT t2 b ∧ s = 0 ∧ n = 0 ∧ f = 0)
theorem evT_first {l : List UInt8} {a k b s n : Int} {f : Nat} {p : List UInt8} {ps : List (List UInt8)} (hw : spl 32 l = p :: ps) (h : EvT l a k b s n f) : p = wAt := by
  rcases h with ⟨t1, t2, t3, t4, t5, e, -⟩ | ⟨t1, t2, t3, e, -⟩ | ⟨t1, t2, e, -⟩
  all_goals
    rw [hw] at e
    injection e
theorem evT_word {l : List UInt8} {a k b s n : Int} {f : Nat} {p : List UInt8} {ps : List (List UInt8)} (hw : spl 32 l = p :: ps) (h : EvT l a k b s n f) :
    (ps.tail.headD [] = wStrike ∧ k = 1) ∨ (ps.tail.headD [] = wDamp ∧ k = 2) ∨ (ps.tail.headD [] = wStop ∧ k = 3) := by
  rcases h with ⟨t1, t2, t3, t4, t5, e, -, hk, -⟩ | ⟨t1, t2, t3, e, -, hk, -⟩ | ⟨t1, t2, e, -, hk, -⟩
  all_goals
    rw [hw] at e
    injection e with _ e
    subst e
  · exact .inl ⟨rfl, hk⟩
  · exact .inr (.inl ⟨rfl, hk⟩)
  · exact .inr (.inr ⟨rfl, hk⟩)
/-- one event to a text -/
theorem evT_val {l : List UInt8} {a k b s n a' k' b' s' n' : Int} {f f' : Nat} (h : EvT l a k b s n f) (h' : EvT l a' k' b' s' n' f') : a = a' ∧ k = k' ∧ b = b' ∧ s = s' ∧ n = n' ∧ f = f' := by
  rcases h with ⟨t1, t2, t3, t4, t5, e, x1, x2, x3, x4, x5, x6⟩ | ⟨t1, t2, t3, e, x1, x2, x3, x4, x5, x6⟩ | ⟨t1, t2, e, x1, x2, x3, x4, x5, x6⟩
  all_goals
    rcases h' with ⟨u1, u2, u3, u4, u5, e', y1, y2, y3, y4, y5, y6⟩ | ⟨u1, u2, u3, e', y1, y2, y3, y4, y5, y6⟩ | ⟨u1, u2, e', y1, y2, y3, y4, y5, y6⟩
  all_goals
    rw [e] at e'
    simp [wStrike, wDamp, wStop] at e'
  · obtain ⟨rfl, rfl, rfl, rfl, rfl⟩ := e'
    exact ⟨intT_val x1 y1, by rw [x2, y2], intT_val x3 y3, intT_val x4 y4, intT_val x5 y5, txS_K.val x6 y6⟩
  · obtain ⟨rfl, rfl, rfl⟩ := e'
    exact ⟨intT_val x1 y1, by rw [x2, y2], intT_val x3 y3, by rw [x4, y4], by rw [x5, y5], txS_K.val x6 y6⟩
  · obtain ⟨rfl, rfl⟩ := e'
    exact ⟨intT_val x1 y1, by rw [x2, y2], intT_val x3 y3, by rw [x4, y4], by rw [x5, y5], by rw [x6, y6]⟩
/-- what a read event can hold at all -/
def EvG (k s n : Int) (f : Nat) : Prop := (Sm f ∧ f < 4294967296) ∧ (k = 1 ∨ (k = 2 ∧ s = 0 ∧ n = 0) ∨ (k = 3 ∧ s = 0 ∧ n = 0 ∧ f = 0))
theorem sm_zero0 : Sm 0 := ⟨false, 0, -149, by decide⟩
def EdP (l : List UInt8) (w : World) (e : Ending) (w' : World) : Prop :=
  Nw w w' ∧ ∃ (a k b s n : Int) (f : Nat) (ok : Bool), e = .returned (.tuple #[.agg #[.int .i64 a, .int .i64 k, .int .i64 b, .int .i64 s, .int .i64 n, .float .f32 f], .bool ok]) ∧
    ((ok = true ∧ EvG k s n f ∧ (EvT l a k b s n f ∨ (10 ^ 16 ≤ a.natAbs ∨ 10 ^ 16 ≤ b.natAbs ∨ 10 ^ 16 ≤ s.natAbs ∨ 10 ^ 16 ≤ n.natAbs) ∧ ∀ a k b s n f, ¬ EvT l a k b s n f)) ∨ (ok = false ∧ ∀ a k b s n f, ¬ EvT l a k b s n f))

/-! ### the box of an event -/
theorem Has6.set' {w : World} {b : Nat} {x0 x1 x2 x3 x4 x5 : Value} {p : Addr} (u : Value) (hp : p.block ≠ b) (h : Has6 w b x0 x1 x2 x3 x4 x5) : Has6 (w.setCell p u) b x0 x1 x2 x3 x4 x5 :=
  h.of (by simp [World.setCell]) (Below.heap_setCell _ _ _ _ (fun e => hp e.symm))
theorem Has6.set1 {w : World} {b : Nat} {x0 x1 x2 x3 x4 x5 : Value} (u : Value) (h : Has6 w b x0 x1 x2 x3 x4 x5) : Has6 (w.setCell ⟨b, 1, none⟩ u) b x0 u x2 x3 x4 x5 := by
  obtain ⟨h0, ⟨h1, h2, h3, h4, h5, h6⟩, h7, h8, h9, h10, h11, h12⟩ := h
  refine ⟨by simpa using h0, ⟨?_, ?_, ?_, ?_, ?_, ?_⟩, ?_, ?_, ?_, ?_, ?_, ?_⟩ <;> go_simp
theorem Has6.set2 {w : World} {b : Nat} {x0 x1 x2 x3 x4 x5 : Value} (u : Value) (h : Has6 w b x0 x1 x2 x3 x4 x5) : Has6 (w.setCell ⟨b, 2, none⟩ u) b x0 x1 u x3 x4 x5 := by
  obtain ⟨h0, ⟨h1, h2, h3, h4, h5, h6⟩, h7, h8, h9, h10, h11, h12⟩ := h
  refine ⟨by simpa using h0, ⟨?_, ?_, ?_, ?_, ?_, ?_⟩, ?_, ?_, ?_, ?_, ?_, ?_⟩ <;> go_simp
theorem Has6.set3 {w : World} {b : Nat} {x0 x1 x2 x3 x4 x5 : Value} (u : Value) (h : Has6 w b x0 x1 x2 x3 x4 x5) : Has6 (w.setCell ⟨b, 3, none⟩ u) b x0 x1 x2 u x4 x5 := by
  obtain ⟨h0, ⟨h1, h2, h3, h4, h5, h6⟩, h7, h8, h9, h10, h11, h12⟩ := h
  refine ⟨by simpa using h0, ⟨?_, ?_, ?_, ?_, ?_, ?_⟩, ?_, ?_, ?_, ?_, ?_, ?_⟩ <;> go_simp
theorem Has6.set4 {w : World} {b : Nat} {x0 x1 x2 x3 x4 x5 : Value} (u : Value) (h : Has6 w b x0 x1 x2 x3 x4 x5) : Has6 (w.setCell ⟨b, 4, none⟩ u) b x0 x1 x2 x3 u x5 := by
  obtain ⟨h0, ⟨h1, h2, h3, h4, h5, h6⟩, h7, h8, h9, h10, h11, h12⟩ := h
  refine ⟨by simpa using h0, ⟨?_, ?_, ?_, ?_, ?_, ?_⟩, ?_, ?_, ?_, ?_, ?_, ?_⟩ <;> go_simp
theorem Has6.set5 {w : World} {b : Nat} {x0 x1 x2 x3 x4 x5 : Value} (u : Value) (h : Has6 w b x0 x1 x2 x3 x4 x5) : Has6 (w.setCell ⟨b, 5, none⟩ u) b x0 x1 x2 x3 x4 u := by
  obtain ⟨h0, ⟨h1, h2, h3, h4, h5, h6⟩, h7, h8, h9, h10, h11, h12⟩ := h
  refine ⟨by simpa using h0, ⟨?_, ?_, ?_, ?_, ?_, ?_⟩, ?_, ?_, ?_, ?_, ?_, ?_⟩ <;> go_simp

/-! ### what the parts say of the line -/
def EvE (l : List UInt8) (a k b s n : Int) (f : Nat) (ok : Bool) : Prop :=
  (ok = true ∧ EvG k s n f ∧ (EvT l a k b s n f ∨ (10 ^ 16 ≤ a.natAbs ∨ 10 ^ 16 ≤ b.natAbs ∨ 10 ^ 16 ≤ s.natAbs ∨ 10 ^ 16 ≤ n.natAbs) ∧ ∀ a k b s n f, ¬ EvT l a k b s n f)) ∨ (ok = false ∧ ∀ a k b s n f, ¬ EvT l a k b s n f)
theorem IoK.of {p : List UInt8} {n : Int} (h : IoK p n true) : IntT p n ∨ (10 ^ 16 ≤ n.natAbs ∧ ∀ m, ¬ IntT p m) := by
  rcases h with h | h
  · exact h.2
  · cases h.1
theorem SoK.of {p : List UInt8} {n : Nat} (h : SoK p n true) : TxS p n := by
  rcases h with h | h
  · exact h.2
  · cases h.1
theorem stop_end {l : List UInt8} {ps : List (List UInt8)} {a b : Int} {o1 o2 : Bool} (hw : spl 32 l = wAt :: ps) (hp : wStop = ps.tail.headD [])
    (x1 : IoK (ps.headD []) a o1) (x2 : IoK (ps.tail.tail.headD []) b o2) (ok : Bool) (hok : ok = (ps.tail.tail.tail.isEmpty && (o1 && o2))) : EvE l a 3 b 0 0 0 ok := by
  have form : ∀ {a k b s n f}, EvT l a k b s n f → ∃ t1 t2, ps = [t1, wStop, t2] ∧ IntT t1 a ∧ IntT t2 b := by
    rintro a k b s n f (⟨t1, t2, t3, t4, t5, e, -⟩ | ⟨t1, t2, t3, e, -⟩ | ⟨t1, t2, e, k1, -, k2, -⟩)
    all_goals
      rw [hw] at e
      injection e with _ e
      subst e
    · simp [wStop, wStrike] at hp
    · simp [wStop, wDamp] at hp
    · exact ⟨t1, t2, rfl, k1, k2⟩
  cases hb : ok with
  | false =>
    refine .inr ⟨rfl, fun a' k' b' s' n' f' h => ?_⟩
    obtain ⟨t1, t2, rfl, k1, k2⟩ := form h
    rw [hb, x1.yes k1, x2.yes k2] at hok
    cases hok
  | true =>
    rw [hb] at hok
    have hs := hok.symm
    simp only [Bool.and_eq_true] at hs
    obtain ⟨he, rfl, rfl⟩ := hs
    have y1 := x1.of
    have y2 := x2.of
    rcases ps with _ | ⟨t1, _ | ⟨u, _ | ⟨t2, _ | ⟨t3, ts⟩⟩⟩⟩
    · cases hp
    · cases hp
    · left
      have hno : ∀ m, ¬ IntT ([] : List UInt8) m := fun m h => by have := atoi_ok m (by have := h.1; omega); rw [← h.2] at this; cases this
      rcases y2 with z2 | z2
      · exact absurd z2 (hno b)
      · exact ⟨rfl, ⟨⟨sm_zero0, by decide⟩, .inr (.inr ⟨rfl, rfl, rfl, rfl⟩)⟩, .inr ⟨.inr (.inl z2.1), fun a' k' b' s' n' f' h => by obtain ⟨u1, u2, e, -⟩ := form h; simp at e⟩⟩
    · left
      obtain rfl : wStop = u := hp
      refine ⟨rfl, ⟨⟨sm_zero0, by decide⟩, .inr (.inr ⟨rfl, rfl, rfl, rfl⟩)⟩, ?_⟩
      rcases y1 with z1 | z1
      · rcases y2 with z2 | z2
        · exact .inl (.inr (.inr ⟨t1, t2, hw, z1, rfl, z2, rfl, rfl, rfl⟩))
        · refine .inr ⟨.inr (.inl z2.1), fun a' k' b' s' n' f' h => ?_⟩
          obtain ⟨u1, u2, e, k1, k2⟩ := form h
          cases e
          exact z2.2 _ k2
      · refine .inr ⟨.inl z1.1, fun a' k' b' s' n' f' h => ?_⟩
        obtain ⟨u1, u2, e, k1, -⟩ := form h
        cases e
        exact z1.2 _ k1
    · simp at he
theorem damp_end {l : List UInt8} {ps : List (List UInt8)} {a b : Int} {f : Nat} {o1 o2 o3 : Bool} (hw : spl 32 l = wAt :: ps) (hp : wDamp = ps.tail.headD [])
    (x1 : IoK (ps.headD []) a o1) (x2 : IoK (ps.tail.tail.headD []) b o2) (x3 : SoK (ps.tail.tail.tail.headD []) f o3) (ok : Bool) (hok : ok = (ps.tail.tail.tail.tail.isEmpty && (o1 && o2 && o3))) : EvE l a 2 b 0 0 f ok := by
  have form : ∀ {a k b s n f}, EvT l a k b s n f → ∃ t1 t2 t3, ps = [t1, wDamp, t2, t3] ∧ IntT t1 a ∧ IntT t2 b ∧ TxS t3 f := by
    rintro a k b s n f (⟨t1, t2, t3, t4, t5, e, -⟩ | ⟨t1, t2, t3, e, k1, -, k2, -, -, k3⟩ | ⟨t1, t2, e, -⟩)
    all_goals
      rw [hw] at e
      injection e with _ e
      subst e
    · simp [wDamp, wStrike] at hp
    · exact ⟨t1, t2, t3, rfl, k1, k2, k3⟩
    · simp [wStop, wDamp] at hp
  cases hb : ok with
  | false =>
    refine .inr ⟨rfl, fun a' k' b' s' n' f' h => ?_⟩
    obtain ⟨t1, t2, t3, rfl, k1, k2, k3⟩ := form h
    rw [hb, x1.yes k1, x2.yes k2, x3.yes k3] at hok
    cases hok
  | true =>
    rw [hb] at hok
    have hs := hok.symm
    simp only [Bool.and_eq_true] at hs
    obtain ⟨he, ⟨rfl, rfl⟩, rfl⟩ := hs
    have y1 := x1.of
    have y2 := x2.of
    have y3 := x3.of
    rcases ps with _ | ⟨t1, _ | ⟨u, _ | ⟨t2, _ | ⟨t3, _ | ⟨t4, ts⟩⟩⟩⟩⟩
    · cases hp
    · cases hp
    · exact absurd y3 (txS_empty f)
    · exact absurd y3 (txS_empty f)
    · left
      obtain rfl : wDamp = u := hp
      refine ⟨rfl, ⟨⟨y3.2.1, y3.1⟩, .inr (.inl ⟨rfl, rfl, rfl⟩)⟩, ?_⟩
      rcases y1 with z1 | z1
      · rcases y2 with z2 | z2
        · exact .inl (.inr (.inl ⟨t1, t2, t3, hw, z1, rfl, z2, rfl, rfl, y3⟩))
        · refine .inr ⟨.inr (.inl z2.1), fun a' k' b' s' n' f' h => ?_⟩
          obtain ⟨u1, u2, u3, e, k1, k2, -⟩ := form h
          cases e
          exact z2.2 _ k2
      · refine .inr ⟨.inl z1.1, fun a' k' b' s' n' f' h => ?_⟩
        obtain ⟨u1, u2, u3, e, k1, -⟩ := form h
        cases e
        exact z1.2 _ k1
    · simp at he
theorem strike_end {l : List UInt8} {ps : List (List UInt8)} {a b s n : Int} {f : Nat} {o1 o2 o3 o4 o5 : Bool} (hw : spl 32 l = wAt :: ps) (hp : wStrike = ps.tail.headD [])
    (x1 : IoK (ps.headD []) a o1) (x2 : IoK (ps.tail.tail.headD []) b o2) (x3 : IoK (ps.tail.tail.tail.headD []) s o3) (x4 : IoK (ps.tail.tail.tail.tail.headD []) n o4) (x5 : SoK (ps.tail.tail.tail.tail.tail.headD []) f o5)
    (ok : Bool) (hok : ok = (ps.tail.tail.tail.tail.tail.tail.isEmpty && (o1 && o2 && o3 && o4 && o5))) : EvE l a 1 b s n f ok := by
  have form : ∀ {a k b s n f}, EvT l a k b s n f → ∃ t1 t2 t3 t4 t5, ps = [t1, wStrike, t2, t3, t4, t5] ∧ IntT t1 a ∧ IntT t2 b ∧ IntT t3 s ∧ IntT t4 n ∧ TxS t5 f := by
    rintro a k b s n f (⟨t1, t2, t3, t4, t5, e, k1, -, k2, k3, k4, k5⟩ | ⟨t1, t2, t3, e, -⟩ | ⟨t1, t2, e, -⟩)
    all_goals
      rw [hw] at e
      injection e with _ e
      subst e
    · exact ⟨t1, t2, t3, t4, t5, rfl, k1, k2, k3, k4, k5⟩
    · simp [wDamp, wStrike] at hp
    · simp [wStop, wStrike] at hp
  cases hb : ok with
  | false =>
    refine .inr ⟨rfl, fun a' k' b' s' n' f' h => ?_⟩
    obtain ⟨t1, t2, t3, t4, t5, rfl, k1, k2, k3, k4, k5⟩ := form h
    rw [hb, x1.yes k1, x2.yes k2, x3.yes k3, x4.yes k4, x5.yes k5] at hok
    cases hok
  | true =>
    rw [hb] at hok
    have hs := hok.symm
    simp only [Bool.and_eq_true] at hs
    obtain ⟨he, ⟨⟨⟨rfl, rfl⟩, rfl⟩, rfl⟩, rfl⟩ := hs
    have y1 := x1.of
    have y2 := x2.of
    have y3 := x3.of
    have y4 := x4.of
    have y5 := x5.of
    rcases ps with _ | ⟨t1, _ | ⟨u, _ | ⟨t2, _ | ⟨t3, _ | ⟨t4, _ | ⟨t5, _ | ⟨t6, ts⟩⟩⟩⟩⟩⟩⟩
    · cases hp
    · cases hp
    · exact absurd y5 (txS_empty f)
    · exact absurd y5 (txS_empty f)
    · exact absurd y5 (txS_empty f)
    · exact absurd y5 (txS_empty f)
    · left
      obtain rfl : wStrike = u := hp
      refine ⟨rfl, ⟨⟨y5.2.1, y5.1⟩, .inl rfl⟩, ?_⟩
      rcases y1 with z1 | z1
      · rcases y2 with z2 | z2
        · rcases y3 with z3 | z3
          · rcases y4 with z4 | z4
            · exact .inl (.inl ⟨t1, t2, t3, t4, t5, hw, z1, rfl, z2, z3, z4, y5⟩)
            · refine .inr ⟨.inr (.inr (.inr z4.1)), fun a' k' b' s' n' f' h => ?_⟩
              obtain ⟨u1, u2, u3, u4, u5, e, k1, k2, k3, k4, -⟩ := form h
              cases e
              exact z4.2 _ k4
          · refine .inr ⟨.inr (.inr (.inl z3.1)), fun a' k' b' s' n' f' h => ?_⟩
            obtain ⟨u1, u2, u3, u4, u5, e, k1, k2, k3, -⟩ := form h
            cases e
            exact z3.2 _ k3
        · refine .inr ⟨.inr (.inl z2.1), fun a' k' b' s' n' f' h => ?_⟩
          obtain ⟨u1, u2, u3, u4, u5, e, k1, k2, -⟩ := form h
          cases e
          exact z2.2 _ k2
      · refine .inr ⟨.inl z1.1, fun a' k' b' s' n' f' h => ?_⟩
        obtain ⟨u1, u2, u3, u4, u5, e, k1, -⟩ := form h
        cases e
        exact z1.2 _ k1
    · simp at he
end Go.Proofs.YtnmjkjjmigiabaaGreatDoor

/- The walk of readEvent (FnExactParseScore).
   Conditions: those that each statement names. -/
namespace Go.Proofs.YtnmjkjjmigiabaaGreatDoor
set_option linter.unusedSimpArgs false
set_option linter.unusedVariables false
open Go Go.RowKit

set_option maxHeartbeats 3200000 in
set_option maxRecDepth 100000 in
theorem readEvent_any (l : List UInt8) (hl : l.length ≤ 1048576) (w : World) (hL : LibW w) :
    Calls Tryz.prog 98 #[.string ⟨l.toArray⟩] w (EdP l w) := by
  have L0 := Lib.hid hL
  obtain ⟨p, ps, hws⟩ : ∃ p ps, spl 32 l = p :: ps := by
    cases h : spl 32 l with
    | nil => exact absurd h (spl_ne 32 l)
    | cons p ps => exact ⟨p, ps, rfl⟩
  have Hws := Lib.hid hws
  have N0 := Lib.hid (((Nw.refl w).alloc (.cells #[.int .i64 0, .int .i64 0, .int .i64 0, .int .i64 0, .int .i64 0, .float .f32 0] 137 (0, 0))).alloc (.cells #[.string ⟨l.toArray⟩, .bool false, .bool false] 184 (0, 0)))
  have B0 := Lib.hid ((Has6.new w 137 (.int .i64 0) (.int .i64 0) (.int .i64 0) (.int .i64 0) (.int .i64 0) (.float .f32 0)).nw ((Nw.refl _).alloc (.cells #[.string ⟨l.toArray⟩, .bool false, .bool false] 184 (0, 0))))
  have P0 := Lib.hid (show Lps (w.heap.size + 1) (p :: ps) false false _ from ⟨l, .inr hws, hl, by
    have h := Has3.new (w.alloc (.cells #[.int .i64 0, .int .i64 0, .int .i64 0, .int .i64 0, .int .i64 0, .float .f32 0] 137 (0, 0))) 184 (.string ⟨l.toArray⟩) (.bool false) (.bool false)
    rw [show (w.alloc (.cells #[.int .i64 0, .int .i64 0, .int .i64 0, .int .i64 0, .int .i64 0, .float .f32 0] 137 (0, 0))).heap.size = w.heap.size + 1 from by simp] at h
    exact h⟩)
  clear hL hws hl
  go_enter Tryz.func98, Tryz.ntmps98
  go_wp2_with fail
  obtain ⟨q, hq⟩ : ∃ q, q = w.heap.size + 1 := ⟨_, rfl⟩
  rw [← hq] at P0 ⊢
  have hwq : w.heap.size ≤ q := by omega
  have hne : w.heap.size ≠ q := by omega
  clear hq
  refine (word_ok q (p :: ps) false false _ (L0.out.nw N0.out).2.2.2.2 P0.out).mono ?_
  rintro x w1 ⟨rfl, hpl, h1, k1⟩
  have P1 := Lib.hid (show Lps q ps ps.isEmpty false w1 from h1)
  have N1 := Lib.hid (nw_kp N0.out k1 hwq)
  have B1 := Lib.hid (B0.out.kp k1 hne)
  clear h1 k1 hpl
  obtain ⟨b0, ⟨b1, b2, b3, b4, b5, b6⟩, b7, b8, b9, b10, b11, b12⟩ := B1.out
  simp only [List.headD_cons]
  by_cases hp : p = wAt
  · subst hp
    go_wp2_with fail
    refine (integer_ok w L0.out q hwq ps _ _ w1 N1.out P1.out).mono ?_
    rintro x w2 ⟨a, o1, rfl, h2, n2, k2, hx1⟩
    have P2 := Lib.hid h2
    have N2 := Lib.hid n2
    have B2 := Lib.hid (B1.out.kp k2 hne)
    have X1 := Lib.hid hx1
    clear h2 n2 k2 hx1 b0 b1 b2 b3 b4 b5 b6 b7 b8 b9 b10 b11 b12
    go_upto_region 5 with fail
    have AA := Lib.hid (show Nw w2 (w2.alloc (.cells #[.int .i64 a, .int .i64 0, .int .i64 0, .int .i64 0, .int .i64 0, .float .f32 0] 137 (0, 0))) from (Nw.refl _).alloc _)
    have PA := Lib.hid (P2.out.nw AA.out)
    have BA := Lib.hid (B2.out.nw AA.out)
    have SA := Lib.hid (Has6.new w2 137 (.int .i64 a) (.int .i64 0) (.int .i64 0) (.int .i64 0) (.int .i64 0) (.float .f32 0))
    have NA := Lib.hid (N2.out.trans AA.out)
    have hlt5 := Lib.hid B2.out.1
    have hlq5 := Lib.hid (show q < w2.heap.size from by obtain ⟨r, -, -, h⟩ := P2.out; exact h.1)
    have hne5 : w.heap.size ≠ w2.heap.size := by have := hlt5.out; omega
    have hnq5 : w2.heap.size ≠ q := by have := hlq5.out; omega
    obtain ⟨k5, hk5⟩ : ∃ k5, k5 = w2.heap.size := ⟨_, rfl⟩
    rw [← hk5] at SA hne5 hnq5 ⊢
    have hw5 : w.heap.size ≤ k5 := by rw [hk5]; exact N2.out.size
    obtain ⟨W, hW⟩ : ∃ W, W = w2.alloc (.cells #[.int .i64 a, .int .i64 0, .int .i64 0, .int .i64 0, .int .i64 0, .float .f32 0] 137 (0, 0)) := ⟨_, rfl⟩
    rw [← hW] at PA BA SA NA ⊢
    clear hW hk5 AA
    go_wp2_with fail
    refine (word_ok q ps.tail _ _ W (L0.out.nw NA.out).2.2.2.2 PA.out).mono ?_
    rintro x w3 ⟨rfl, -, h3, k3⟩
    obtain ⟨p2, hp2⟩ : ∃ p2, p2 = ps.tail.headD [] := ⟨_, rfl⟩
    rw [← hp2]
    have Hp2 := Lib.hid hp2
    have P3 := Lib.hid h3
    have N3 := Lib.hid (nw_kp NA.out k3 hwq)
    have B3 := Lib.hid (BA.out.kp k3 hne)
    have S3 := Lib.hid (SA.out.kp k3 hnq5)
    clear h3 k3 hp2
    obtain ⟨b0, ⟨b1, b2, b3, b4, b5, b6⟩, b7, b8, b9, b10, b11, b12⟩ := B3.out
    obtain ⟨s0, ⟨s1, s2, s3, s4, s5, s6⟩, s7, s8, s9, s10, s11, s12⟩ := S3.out
    by_cases c1 : p2 = wStrike
    · subst c1
      go_wp2_with fail
      refine (integer_ok w L0.out q hwq ps.tail.tail _ _ w3 N3.out P3.out).mono ?_
      rintro x w4 ⟨b, o2, rfl, h4, n4, k4, hx2⟩
      have P4 := Lib.hid h4
      have N4 := Lib.hid n4
      have B4 := Lib.hid (B3.out.kp k4 hne)
      have S4 := Lib.hid (S3.out.kp k4 hnq5)
      have X2 := Lib.hid hx2
      clear h4 n4 k4 hx2 b0 b1 b2 b3 b4 b5 b6 b7 b8 b9 b10 b11 b12 s0 s1 s2 s3 s4 s5 s6 s7 s8 s9 s10 s11 s12
      obtain ⟨s0, ⟨s1, s2, s3, s4, s5, s6⟩, s7, s8, s9, s10, s11, s12⟩ := S4.out
      go_wp2_with fail
      have Pa := Lib.hid ((P4.out.set (.int .i64 1) (p := ⟨k5, 1, none⟩) hnq5).set (.int .i64 b) (p := ⟨k5, 2, none⟩) hnq5)
      have Ba := Lib.hid ((B4.out.set' (.int .i64 1) (p := ⟨k5, 1, none⟩) (Ne.symm hne5)).set' (.int .i64 b) (p := ⟨k5, 2, none⟩) (Ne.symm hne5))
      have Sa := Lib.hid ((S4.out.set1 (.int .i64 1)).set2 (.int .i64 b))
      have Na := Lib.hid ((N4.out.set (p := ⟨k5, 1, none⟩) hw5 (.int .i64 1)).set (p := ⟨k5, 2, none⟩) hw5 (.int .i64 b))
      clear s0 s1 s2 s3 s4 s5 s6 s7 s8 s9 s10 s11 s12
      refine (integer_ok w L0.out q hwq ps.tail.tail.tail _ _ _ Na.out Pa.out).mono ?_
      rintro x w6 ⟨s, o3, rfl, h4, n4, k4, hx2⟩
      have P6 := Lib.hid h4
      have N6 := Lib.hid n4
      have B6 := Lib.hid (Ba.out.kp k4 hne)
      have S6 := Lib.hid (Sa.out.kp k4 hnq5)
      have X3 := Lib.hid hx2
      clear h4 n4 k4 hx2
      go_wp2_with fail
      refine (integer_ok w L0.out q hwq ps.tail.tail.tail.tail _ _ w6 N6.out P6.out).mono ?_
      rintro x w7 ⟨n, o4, rfl, h4, n4, k4, hx2⟩
      have P7 := Lib.hid h4
      have N7 := Lib.hid n4
      have B7 := Lib.hid (B6.out.kp k4 hne)
      have S7 := Lib.hid (S6.out.kp k4 hnq5)
      have X4 := Lib.hid hx2
      clear h4 n4 k4 hx2
      go_wp2_with fail
      refine (single_ok w L0.out q hwq ps.tail.tail.tail.tail.tail _ _ w7 N7.out P7.out).mono ?_
      rintro x w8 ⟨f, o5, rfl, h4, n4, k4, hx2⟩
      have P8 := Lib.hid h4
      have N8 := Lib.hid n4
      have B8 := Lib.hid (B7.out.kp k4 hne)
      have S8 := Lib.hid (S7.out.kp k4 hnq5)
      have X5 := Lib.hid hx2
      clear h4 n4 k4 hx2
      obtain ⟨s0, ⟨s1, s2, s3, s4, s5, s6⟩, s7, s8, s9, s10, s11, s12⟩ := S8.out
      go_upto_region 14 with fail
      have PA := Lib.hid (((P8.out.set (.int .i64 s) (p := ⟨k5, 3, none⟩) hnq5).set (.int .i64 n) (p := ⟨k5, 4, none⟩) hnq5).set (.float .f32 f) (p := ⟨k5, 5, none⟩) hnq5)
      have BA := Lib.hid (((B8.out.set' (.int .i64 s) (p := ⟨k5, 3, none⟩) (Ne.symm hne5)).set' (.int .i64 n) (p := ⟨k5, 4, none⟩) (Ne.symm hne5)).set' (.float .f32 f) (p := ⟨k5, 5, none⟩) (Ne.symm hne5))
      have SA := Lib.hid (((S8.out.set3 (.int .i64 s)).set4 (.int .i64 n)).set5 (.float .f32 f))
      have NA := Lib.hid (((N8.out.set (p := ⟨k5, 3, none⟩) hw5 (.int .i64 s)).set (p := ⟨k5, 4, none⟩) hw5 (.int .i64 n)).set (p := ⟨k5, 5, none⟩) hw5 (.float .f32 f))
      obtain ⟨W, hW⟩ : ∃ W, W = ((w8.setCell ⟨k5, 3, none⟩ (.int .i64 s)).setCell ⟨k5, 4, none⟩ (.int .i64 n)).setCell ⟨k5, 5, none⟩ (.float .f32 f) := ⟨_, rfl⟩
      rw [← hW] at PA BA SA NA ⊢
      clear hW s0 s1 s2 s3 s4 s5 s6 s7 s8 s9 s10 s11 s12
      obtain ⟨b0, ⟨b1, b2, b3, b4, b5, b6⟩, b7, b8, b9, b10, b11, b12⟩ := BA.out
      obtain ⟨s0, ⟨s1, s2, s3, s4, s5, s6⟩, s7, s8, s9, s10, s11, s12⟩ := SA.out
      go_region_with (go_at_call 157; refine (allRead_ok q _ _ _ _ (by repeat (first | exact PA.out | exact PA.out.nw ((Nw.refl _).draw 1) | refine Lps.set _ (by exact hne) ?_))).mono ?_; rintro e w' ⟨rfl, rfl⟩)
      all_goals
        go_wp2_with fail
        refine bodyPost_ret (v := .tuple #[.agg #[.int .i64 a, .int .i64 1, .int .i64 b, .int .i64 s, .int .i64 n, .float .f32 f], .bool (ps.tail.tail.tail.tail.tail.tail.isEmpty && (o1 && o2 && o3 && o4 && o5))]) (by simp [results, Tryz.results98, go_sem, b0, b1, b2, b3, b4, b5, b6, b7, b8, b9, b10, b11, b12]) rfl
          ⟨?_, a, 1, b, s, n, f, _, rfl, strike_end Hws.out Hp2.out X1.out X2.out X3.out X4.out X5.out _ rfl⟩
        first
          | exact ((((((NA.out.set (by exact Nat.le_refl w.heap.size) _).set (by exact Nat.le_refl w.heap.size) _).set (by exact Nat.le_refl w.heap.size) _).set (by exact Nat.le_refl w.heap.size) _).set (by exact Nat.le_refl w.heap.size) _).set (by exact Nat.le_refl w.heap.size) _).draw 1
          | exact (((((((NA.out.draw 1).set (by exact Nat.le_refl w.heap.size) _).set (by exact Nat.le_refl w.heap.size) _).set (by exact Nat.le_refl w.heap.size) _).set (by exact Nat.le_refl w.heap.size) _).set (by exact Nat.le_refl w.heap.size) _).set (by exact Nat.le_refl w.heap.size) _)
    · have d1 : (p2 == [115, 116, 114, 105, 107, 101]) = false := by simpa [wStrike] using c1
      have e1 : ((⟨p2.toArray⟩ : ByteArray).toList == [115, 116, 114, 105, 107, 101]) = false := by rw [ByteArray.toList_eq]; simpa [wStrike] using c1
      by_cases c2 : p2 = wDamp
      · subst c2
        go_wp2_with fail
        refine (integer_ok w L0.out q hwq ps.tail.tail _ _ w3 N3.out P3.out).mono ?_
        rintro x w4 ⟨b, o2, rfl, h4, n4, k4, hx2⟩
        have P4 := Lib.hid h4
        have N4 := Lib.hid n4
        have B4 := Lib.hid (B3.out.kp k4 hne)
        have S4 := Lib.hid (S3.out.kp k4 hnq5)
        have X2 := Lib.hid hx2
        clear h4 n4 k4 hx2
        go_wp2_with fail
        refine (single_ok w L0.out q hwq ps.tail.tail.tail _ _ w4 N4.out P4.out).mono ?_
        rintro x w6 ⟨f, o3, rfl, h6, n6, k6, hx3⟩
        have P6 := Lib.hid h6
        have N6 := Lib.hid n6
        have B6 := Lib.hid (B4.out.kp k6 hne)
        have S6 := Lib.hid (S4.out.kp k6 hnq5)
        have X3 := Lib.hid hx3
        clear h6 n6 k6 hx3 b0 b1 b2 b3 b4 b5 b6 b7 b8 b9 b10 b11 b12 s0 s1 s2 s3 s4 s5 s6 s7 s8 s9 s10 s11 s12
        obtain ⟨s0, ⟨s1, s2, s3, s4, s5, s6⟩, s7, s8, s9, s10, s11, s12⟩ := S6.out
        go_upto_region 14 with fail
        have PA := Lib.hid (((P6.out.set (.int .i64 2) (p := ⟨k5, 1, none⟩) hnq5).set (.int .i64 b) (p := ⟨k5, 2, none⟩) hnq5).set (.float .f32 f) (p := ⟨k5, 5, none⟩) hnq5)
        have BA := Lib.hid (((B6.out.set' (.int .i64 2) (p := ⟨k5, 1, none⟩) (Ne.symm hne5)).set' (.int .i64 b) (p := ⟨k5, 2, none⟩) (Ne.symm hne5)).set' (.float .f32 f) (p := ⟨k5, 5, none⟩) (Ne.symm hne5))
        have SA := Lib.hid (((S6.out.set1 (.int .i64 2)).set2 (.int .i64 b)).set5 (.float .f32 f))
        have NA := Lib.hid (((N6.out.set (p := ⟨k5, 1, none⟩) hw5 (.int .i64 2)).set (p := ⟨k5, 2, none⟩) hw5 (.int .i64 b)).set (p := ⟨k5, 5, none⟩) hw5 (.float .f32 f))
        obtain ⟨W, hW⟩ : ∃ W, W = ((w6.setCell ⟨k5, 1, none⟩ (.int .i64 2)).setCell ⟨k5, 2, none⟩ (.int .i64 b)).setCell ⟨k5, 5, none⟩ (.float .f32 f) := ⟨_, rfl⟩
        rw [← hW] at PA BA SA NA ⊢
        clear hW s0 s1 s2 s3 s4 s5 s6 s7 s8 s9 s10 s11 s12
        obtain ⟨b0, ⟨b1, b2, b3, b4, b5, b6⟩, b7, b8, b9, b10, b11, b12⟩ := BA.out
        obtain ⟨s0, ⟨s1, s2, s3, s4, s5, s6⟩, s7, s8, s9, s10, s11, s12⟩ := SA.out
        go_region_with (go_at_call 157; refine (allRead_ok q _ _ _ _ (by repeat (first | exact PA.out | exact PA.out.nw ((Nw.refl _).draw 1) | refine Lps.set _ (by exact hne) ?_))).mono ?_; rintro e w' ⟨rfl, rfl⟩)
        all_goals
          go_wp2_with fail
          refine bodyPost_ret (v := .tuple #[.agg #[.int .i64 a, .int .i64 2, .int .i64 b, .int .i64 0, .int .i64 0, .float .f32 f], .bool (ps.tail.tail.tail.tail.isEmpty && (o1 && o2 && o3))]) (by simp [results, Tryz.results98, go_sem, b0, b1, b2, b3, b4, b5, b6, b7, b8, b9, b10, b11, b12]) rfl
            ⟨?_, a, 2, b, 0, 0, f, _, rfl, damp_end Hws.out Hp2.out X1.out X2.out X3.out _ rfl⟩
          first
            | exact ((((((NA.out.set (by exact Nat.le_refl w.heap.size) _).set (by exact Nat.le_refl w.heap.size) _).set (by exact Nat.le_refl w.heap.size) _).set (by exact Nat.le_refl w.heap.size) _).set (by exact Nat.le_refl w.heap.size) _).set (by exact Nat.le_refl w.heap.size) _).draw 1
            | exact (((((((NA.out.draw 1).set (by exact Nat.le_refl w.heap.size) _).set (by exact Nat.le_refl w.heap.size) _).set (by exact Nat.le_refl w.heap.size) _).set (by exact Nat.le_refl w.heap.size) _).set (by exact Nat.le_refl w.heap.size) _).set (by exact Nat.le_refl w.heap.size) _)
      · have d2 : (p2 == [100, 97, 109, 112]) = false := by simpa [wDamp] using c2
        have e2 : ((⟨p2.toArray⟩ : ByteArray).toList == [100, 97, 109, 112]) = false := by rw [ByteArray.toList_eq]; simpa [wDamp] using c2
        by_cases c3 : p2 = wStop
        · subst c3
          go_wp2_with fail
          refine (integer_ok w L0.out q hwq ps.tail.tail _ _ w3 N3.out P3.out).mono ?_
          rintro x w4 ⟨b, o2, rfl, h4, n4, k4, hx2⟩
          have P4 := Lib.hid h4
          have N4 := Lib.hid n4
          have B4 := Lib.hid (B3.out.kp k4 hne)
          have S4 := Lib.hid (S3.out.kp k4 hnq5)
          have X2 := Lib.hid hx2
          clear h4 n4 k4 hx2 b0 b1 b2 b3 b4 b5 b6 b7 b8 b9 b10 b11 b12 s0 s1 s2 s3 s4 s5 s6 s7 s8 s9 s10 s11 s12
          obtain ⟨s0, ⟨s1, s2, s3, s4, s5, s6⟩, s7, s8, s9, s10, s11, s12⟩ := S4.out
          go_upto_region 14 with fail
          have PA := Lib.hid ((P4.out.set (.int .i64 3) (p := ⟨k5, 1, none⟩) hnq5).set (.int .i64 b) (p := ⟨k5, 2, none⟩) hnq5)
          have BA := Lib.hid ((B4.out.set' (.int .i64 3) (p := ⟨k5, 1, none⟩) (Ne.symm hne5)).set' (.int .i64 b) (p := ⟨k5, 2, none⟩) (Ne.symm hne5))
          have SA := Lib.hid ((S4.out.set1 (.int .i64 3)).set2 (.int .i64 b))
          have NA := Lib.hid ((N4.out.set (p := ⟨k5, 1, none⟩) hw5 (.int .i64 3)).set (p := ⟨k5, 2, none⟩) hw5 (.int .i64 b))
          obtain ⟨W, hW⟩ : ∃ W, W = (w4.setCell ⟨k5, 1, none⟩ (.int .i64 3)).setCell ⟨k5, 2, none⟩ (.int .i64 b) := ⟨_, rfl⟩
          rw [← hW] at PA BA SA NA ⊢
          clear hW s0 s1 s2 s3 s4 s5 s6 s7 s8 s9 s10 s11 s12
          obtain ⟨b0, ⟨b1, b2, b3, b4, b5, b6⟩, b7, b8, b9, b10, b11, b12⟩ := BA.out
          obtain ⟨s0, ⟨s1, s2, s3, s4, s5, s6⟩, s7, s8, s9, s10, s11, s12⟩ := SA.out
          go_region_with (go_at_call 157; refine (allRead_ok q _ _ _ _ (by repeat (first | exact PA.out | exact PA.out.nw ((Nw.refl _).draw 1) | refine Lps.set _ (by exact hne) ?_))).mono ?_; rintro e w' ⟨rfl, rfl⟩)
          all_goals
            go_wp2_with fail
            refine bodyPost_ret (v := .tuple #[.agg #[.int .i64 a, .int .i64 3, .int .i64 b, .int .i64 0, .int .i64 0, .float .f32 0], .bool (ps.tail.tail.tail.isEmpty && (o1 && o2))]) (by simp [results, Tryz.results98, go_sem, b0, b1, b2, b3, b4, b5, b6, b7, b8, b9, b10, b11, b12]) rfl
              ⟨?_, a, 3, b, 0, 0, 0, _, rfl, stop_end Hws.out Hp2.out X1.out X2.out _ rfl⟩
            first
              | exact ((((((NA.out.set (by exact Nat.le_refl w.heap.size) _).set (by exact Nat.le_refl w.heap.size) _).set (by exact Nat.le_refl w.heap.size) _).set (by exact Nat.le_refl w.heap.size) _).set (by exact Nat.le_refl w.heap.size) _).set (by exact Nat.le_refl w.heap.size) _).draw 1
              | exact (((((((NA.out.draw 1).set (by exact Nat.le_refl w.heap.size) _).set (by exact Nat.le_refl w.heap.size) _).set (by exact Nat.le_refl w.heap.size) _).set (by exact Nat.le_refl w.heap.size) _).set (by exact Nat.le_refl w.heap.size) _).set (by exact Nat.le_refl w.heap.size) _)
        · have d3 : (p2 == [115, 116, 111, 112]) = false := by simpa [wStop] using c3
          have e3 : ((⟨p2.toArray⟩ : ByteArray).toList == [115, 116, 111, 112]) = false := by rw [ByteArray.toList_eq]; simpa [wStop] using c3
          go_wp2_with fail
          refine bodyPost_ret (v := .tuple #[.agg #[.int .i64 0, .int .i64 0, .int .i64 0, .int .i64 0, .int .i64 0, .float .f32 0], .bool false]) (by simp [results, Tryz.results98, go_sem, b0, b1, b2, b3, b4, b5, b6, b7, b8, b9, b10, b11, b12]) rfl
            ⟨(((((N3.out.set (by exact Nat.le_refl w.heap.size) _).set (by exact Nat.le_refl w.heap.size) _).set (by exact Nat.le_refl w.heap.size) _).set (by exact Nat.le_refl w.heap.size) _).set (by exact Nat.le_refl w.heap.size) _).set (by exact Nat.le_refl w.heap.size) _,
              0, 0, 0, 0, 0, 0, false, rfl, .inr ⟨rfl, fun a k b s n f h => ?_⟩⟩
          rcases evT_word Hws.out h with h | h | h
          · exact c1 (Hp2.out.trans h.1)
          · exact c2 (Hp2.out.trans h.1)
          · exact c3 (Hp2.out.trans h.1)
  · have hp0 : ¬ p = [97, 116] := hp
    have hp1 : (p == [97, 116]) = false := by simpa using hp0
    have hp2 : ((⟨p.toArray⟩ : ByteArray).toList == [97, 116]) = false := by
      rw [ByteArray.toList_eq]
      simpa using hp0
    go_wp2_with fail
    refine bodyPost_ret (v := .tuple #[.agg #[.int .i64 0, .int .i64 0, .int .i64 0, .int .i64 0, .int .i64 0, .float .f32 0], .bool false]) (by simp [results, Tryz.results98, go_sem, b0, b1, b2, b3, b4, b5, b6, b7, b8, b9, b10, b11, b12]) rfl
      ⟨(((((N1.out.set (by exact Nat.le_refl w.heap.size) _).set (by exact Nat.le_refl w.heap.size) _).set (by exact Nat.le_refl w.heap.size) _).set (by exact Nat.le_refl w.heap.size) _).set (by exact Nat.le_refl w.heap.size) _).set (by exact Nat.le_refl w.heap.size) _,
        0, 0, 0, 0, 0, 0, false, rfl, .inr ⟨rfl, ?_⟩⟩
    exact fun a k b s n f h => hp (evT_first Hws.out h)
end Go.Proofs.YtnmjkjjmigiabaaGreatDoor

/- impl.readNumbers: a line of a word and numbers of single precision.
   Conditions: those that each statement names. -/
namespace Go.Proofs.YtnmjkjjmigiabaaGreatDoor
set_option linter.unusedSimpArgs false
set_option linter.unusedVariables false
open Go Go.RowKit

/-- numbers read so far, then zeros -/
def parS (xs : List Nat) (n : Nat) : List Nat := xs ++ List.replicate (n - xs.length) 0
theorem parS_nil (n : Nat) : parS [] n = List.replicate n 0 := by simp [parS]
theorem parS_full {xs : List Nat} {n : Nat} (h : xs.length = n) : parS xs n = xs := by subst h; simp [parS]
theorem parS_set {xs : List Nat} {n : Nat} (h : xs.length < n) (r : Nat) : (cellsS (parS xs n)).set xs.length (.float .f32 r) = cellsS (parS (xs ++ [r]) n) := by
  unfold parS
  rw [List.length_append, List.length_singleton, show n - xs.length = (n - (xs.length + 1)) + 1 from by omega, List.replicate_succ]
  simp only [cellsS, List.map_append, List.map_cons, List.map_nil, List.append_assoc, List.singleton_append]
  rw [List.set_append_right _ _ (by simp)]
  simp
theorem parS_cell {xs : List Nat} {n : Nat} (h : xs.length < n) : (cellsS (parS xs n))[xs.length]? = some (.float .f32 0) := by
  unfold parS cellsS
  rw [List.getElem?_map, List.getElem?_append_right (by omega)]
  simp [List.getElem?_replicate]
  omega

/-- the pieces of strings.SplitN at one byte -/
theorem splitN_ok (s : ByteArray) (n : Nat) (hn : 1 ≤ n) (hn2 : n ≤ 1048576) (hs : s.size ≤ 1048576) (w : World) (hL : LibW w) :
    Calls Tryz.prog 134 #[.string s, .string ⟨#[32]⟩, .int .i64 (n : Int)] w fun e w' =>
      ∃ (ps : List (List UInt8)) (cap : Nat), e = .returned (.slice (some ⟨w.heap.size, 0, none⟩) ps.length cap) ∧ ps.length = min (spl 32 s.data.toList).length n ∧ ((spl 32 s.data.toList).length ≤ n → ps = spl 32 s.data.toList) ∧
        w'.ownsRow w.heap.size 9 1 (.slice (some ⟨w.heap.size, 0, none⟩) ps.length cap) ps.length (cellsT ps) ∧ Nw w w' := by
  obtain ⟨m, hm⟩ := hL.2.2.2.2
  refine (Tryz.strings_SplitN s ⟨#[32]⟩ n m w (by omega) hm (by decide) hn (by omega)).mono ?_
  rintro e w' ⟨rfl, rfl⟩
  have hl : s.data.toList.length = s.size := Array.length_toList
  obtain ⟨K, hK⟩ : ∃ K, K = min n (s.size + 1) - 1 := ⟨_, rfl⟩
  have hN : min n (s.size + 1) = K + 1 := by omega
  rw [hN, Nat.add_sub_cancel]
  have hd := Lib.splitB_data (⟨#[32]⟩ : ByteArray) 0 K s
  have hq := splitK_spl 32 K s.data.toList
  rw [show (⟨#[32]⟩ : ByteArray).data.toList = [32] from rfl] at hd
  have hsp := spl_le 32 s.data.toList
  refine ⟨(Lib.splitB ⟨#[32]⟩ 0 K s).map (·.data.toList), K + 1, by rw [List.length_map], ?_, ?_, ?_, (Nw.refl w).alloc _⟩
  · rw [hd, hq.1]; omega
  · intro h
    rw [hd]
    exact hq.2 (by omega)
  · have hlen := Lib.splitB_length_le (⟨#[32]⟩ : ByteArray) 0 K s
    rw [List.length_map]
    refine ⟨by simp [cellsT], .inr ⟨w.heap.size, K + 1, _, rfl, Nat.le_refl _, heap_alloc_new w _, hlen, by unfold maxLen; omega, ?_, ?_⟩⟩
    · rw [Lib.cellsOf_size hlen]; omega
    · unfold Lib.cellsOf cellsT
      rw [Nat.mul_one, List.toList_toArray, List.take_append_of_le_length (by simp), List.take_of_length_le (by simp), List.map_map]
      rfl

def NumsI (word : List UInt8) (ts : List (List UInt8)) (n : Nat) (w0 : World) (B g : Nat) (i : Value) (wr : World) : Prop :=
  ∃ xs : List Nat, xs.length ≤ n ∧ i = .int .i64 (xs.length : Int) ∧ All2 TxS (ts.take xs.length) xs ∧ wr.ownsRow B 25 1 (.slice (some ⟨g, 0, none⟩) n n) n (cellsS (parS xs n)) ∧ Nw w0 wr
def NumsP (word l : List UInt8) (n : Nat) (w : World) (e : Ending) (w' : World) : Prop :=
  Nw w w' ∧ ((∃ xs v, xs.length = n ∧ LineT TxS word l xs ∧ e = .returned (.tuple #[v, .bool true]) ∧ w'.ownsRow w.heap.size 25 1 v n (cellsS xs)) ∨
    ((∀ xs, xs.length = n → ¬ LineT TxS word l xs) ∧ e = .returned (.tuple #[.slice none 0 0, .bool false])))

theorem list_str (s : ByteArray) : (⟨s.data.toList.toArray⟩ : ByteArray) = s := rfl
set_option maxHeartbeats 3200000 in
set_option maxRecDepth 100000 in
theorem readNumbersS (word : List UInt8) (hw : 32 ∉ word) (s : ByteArray) (hs : s.size ≤ 1048576) (n : Nat) (hn : n ≤ 16) (w : World) (hL : LibW w) :
    Calls Tryz.prog 67 #[.string s, .string ⟨word.toArray⟩, .int .i64 (n : Int), .func (.func 12) #[] #[]] w (NumsP word s.data.toList n w) := by
  obtain ⟨f0, hf0, hfz0, hfz1, hfz2⟩ := info_parts info_f32
  have C := Lib.hid (splitN_ok s (n + 2) (by omega) (by omega) hs)
  rw [show ((n + 2 : Nat) : Int) = (n : Int) + 2 from by omega] at C
  have L := Lib.hid hL
  have Hw := Lib.hid hw
  clear hL hw
  go_enter Tryz.func67, Tryz.ntmps67
  go_wp2_with fail
  refine (C.out _ L.out).mono ?_
  rintro e w1 ⟨ps, cap, rfl, hlen, hps, own, n1⟩
  have Ow := Lib.hid own
  have N1 := Lib.hid n1
  have HP := Lib.hid (And.intro hlen hps)
  clear own n1 hlen hps
  by_cases hln : ps.length = n + 1
  · obtain ⟨p0, ts, rfl⟩ : ∃ p0 ts, ps = p0 :: ts := by
      cases ps with
      | nil => simp at hln
      | cons p ts => exact ⟨p, ts, rfl⟩
    have hts : ts.length = n := by simpa using hln
    have hsp : spl 32 s.data.toList = p0 :: ts := by
      have h1 := HP.out.1
      have h2 := HP.out.2
      rw [hln] at h1
      exact (h2 (by omega)).symm
    have e0 := Ow.out.cellAt 0 (by omega)
    rw [show (cellsT (p0 :: ts))[0]? = some (.string ⟨p0.toArray⟩) from rfl] at e0
    have Sp := Lib.hid hsp
    have Ht := Lib.hid hts
    clear hsp hts
    rw [hln] at Ow ⊢
    clear hln
    by_cases hw0 : p0 = word
    · subst hw0
      go_wp2_with (first
        | (at_make; refine wpList_make_full _ rfl _ _ 35 rfl w1.heap.size 25 f0 (.float .f32 0) 1 Tryz.underlying35 hf0 hfz0 hfz1 _ _ _ _ n rfl rfl rfl rfl (by rw [hfz2]; omega) (by unfold maxLen; omega) (Nat.le_refl _) ?_))
      intro w3 hown3 hgrow3
      have hn3 : Nw w1 w3 := hgrow3
      have O3 := Lib.hid (show w3.ownsRow w1.heap.size 25 1 (.slice (some ⟨w1.heap.size, 0, none⟩) n n) n (cellsS (parS [] n)) from by
        rw [toList_madeCells_one] at hown3
        rw [parS_nil]
        simpa [cellsS] using hown3)
      have N3 := Lib.hid hn3
      have Ow3 := Lib.hid (own_nw Ow.out hn3)
      have hws := Lib.hid (show w.heap.size ≤ w1.heap.size from N1.out.size)
      clear hown3 hgrow3 hn3 e0
      go_wp2_with fail
      go_loopw [35] (fun i wr => NumsI p0 ts n w1 w1.heap.size w1.heap.size i wr) (fun i _ => n - (intOf i).toNat)
      case atStart => exact ⟨[], by simp, rfl, trivial, O3.out, N3.out⟩
      case round =>
        obtain ⟨xs, hk, rfl, hal, how, hN⟩ := hrel
        have Al := Lib.hid hal
        have Or := Lib.hid how
        have Nr := Lib.hid hN
        clear hal how hN
        by_cases hlt : xs.length < n
        · obtain ⟨t, htk⟩ : ∃ t, ts[xs.length]? = some t := ⟨ts[xs.length]'(by rw [Ht.out]; exact hlt), List.getElem?_eq_getElem _⟩
          have hb : w.heap.size < w1.heap.size := (Ow.out.lt w.heap.size rfl).2
          have e0 := (own_nw Ow.out Nr.out).cellAt (xs.length + 1) (by omega)
          rw [show (cellsT (p0 :: ts))[xs.length + 1]? = some (.string ⟨t.toArray⟩) from by unfold cellsT; rw [List.getElem?_map, List.getElem?_cons_succ, htk]; rfl] at e0
          have htm : t ∈ spl 32 s.data.toList := by rw [Sp.out]; exact List.mem_cons_of_mem _ (List.mem_of_getElem? htk)
          have hsz : (⟨t.toArray⟩ : ByteArray).size ≤ 1048576 := by
            have h1 := spl_len htm
            have h2 : s.data.toList.length = s.size := Array.length_toList
            have h3 : (⟨t.toArray⟩ : ByteArray).size = t.length := List.size_toArray
            omega
          have P := Lib.hid (implSingle ⟨t.toArray⟩ hsz wr (L.out.nw (N1.out.trans Nr.out)))
          have Tk := Lib.hid htk
          clear htk htm hsz
          go_wp2_with fail
          refine P.out.mono ?_
          rintro e w5 ⟨n5, ⟨r, hr, hsm, ht, rfl⟩ | ⟨hno, rfl⟩⟩
          · have N5 := Lib.hid (Nr.out.trans n5)
            have O5 := Lib.hid (own_nw Or.out n5)
            have K := Lib.hid (show TxS t r from ⟨hr, hsm, ht⟩)
            clear n5 hr hsm ht e0
            have e1 := O5.out.cellAt xs.length (by omega)
            rw [parS_cell hlt] at e1
            have e2 := O5.out.frozenAt xs.length
            have hset := O5.out.stored xs.length (.float .f32 r)
            rw [parS_set hlt] at hset
            have F := Lib.hid hset.1
            have N6 := Lib.hid (N5.out.set (p := ⟨w1.heap.size, xs.length, none⟩) (by show w1.heap.size ≤ w1.heap.size; omega) (.float .f32 r))
            clear hset
            go_wp2_with fail
            go_roundw
            case rel =>
              refine ⟨xs ++ [r], by simp; omega, by rw [List.length_append, List.length_singleton, show ((xs.length + 1 : Nat) : Int) = (xs.length : Int) + 1 from by omega], ?_, F.out, N6.out⟩
              rw [List.length_append, List.length_singleton, List.take_add_one, Tk.out]
              exact Al.out.snoc K.out
            case measure => simp only [intOf]; omega
          · have N5 := Lib.hid (Nr.out.trans n5)
            have B := Lib.hid hno
            clear n5 hno e0
            go_wp2_with fail
            go_ret2
            refine ⟨N1.out.trans N5.out, .inr ⟨fun ys _ h => ?_, rfl⟩⟩
            obtain ⟨us, e, a⟩ := h
            rw [Sp.out] at e
            injection e with _ e
            subst e
            obtain ⟨y, -, hy⟩ := a.get Tk.out
            exact B.out y hy.1 hy.2.1 hy.2.2
        · have hxn : xs.length = n := by omega
          go_wp2_with fail
          go_ret2
          refine ⟨N1.out.trans Nr.out, .inl ⟨xs, _, hxn, ⟨ts, Sp.out, ?_⟩, rfl, ?_⟩⟩
          · have h := Al.out
            rw [List.take_of_length_le (by rw [Ht.out]; omega)] at h
            exact h
          · have h := Or.out
            rw [parS_full hxn] at h
            exact own_base h hws.out
    · have hb0 : (p0 == word) = false := by simpa using hw0
      go_wp2_with fail
      go_ret2
      refine ⟨N1.out, .inr ⟨fun xs _ h => ?_, rfl⟩⟩
      obtain ⟨us, e, -⟩ := h
      rw [Sp.out] at e
      injection e with e _
      exact hw0 e
  · go_wp2_with fail
    go_ret2
    refine ⟨N1.out, .inr ⟨fun xs hx h => ?_, rfl⟩⟩
    obtain ⟨us, e, a⟩ := h
    have h1 := HP.out.1
    have h2 := HP.out.2
    have hus := a.len
    rw [e] at h1 h2
    simp at h1 h2
    rw [h2 (by omega)] at hln
    simp at hln
    omega
end Go.Proofs.YtnmjkjjmigiabaaGreatDoor

/- A range over a string of any bytes: one step.
   Conditions: those that each statement names. -/
namespace Go.Proofs.YtnmjkjjmigiabaaGreatDoor
set_option linter.unusedSimpArgs false
set_option linter.unusedVariables false
open Go

theorem next_any {P : Program} (w : World) (s : ByteArray) (pos : Nat) (ty : TypeId) (h : pos < s.size) :
    (Instr.next (.pointer (some ⟨w.heap.size, 0, none⟩)) true ty).run P (w.iter s pos) =
      .ok (.tuple #[.bool true, .int .i64 pos, .int .i32 (Utf8.decode s pos).1]) (w.iter s (pos + (Utf8.decode s pos).2)) := by
  simp only [Instr.next, getObj, setObj, Sem.run_bind, Sem.run, World.iter_heap, Result.andThen, h, if_true, World.iter_set]
  simp [goInt, Sem.run, World.iter_heap, World.iter_set]

/-- a rune is a newline only where its byte is one, and no byte behind its first is -/
theorem dec_nl (s : ByteArray) (pos : Nat) (h : pos < s.size) :
    ((Utf8.decode s pos).1 = 10 ↔ (s.get! pos).toNat = 10) ∧ 1 ≤ (Utf8.decode s pos).2 ∧ ∀ k, k < (Utf8.decode s pos).2 → pos + k < s.size ∧ (0 < k → (s.get! (pos + k)).toNat ≠ 10) := by
  have r : Utf8.runeError ≠ 10 := by decide
  have one : ∀ k, k < 1 → pos + k < s.size ∧ (0 < k → (s.get! (pos + k)).toNat ≠ 10) := fun k hk => ⟨by omega, fun h0 => by omega⟩
  have ct : ∀ k, (decide (pos + k < s.size) && ((s.get! (pos + k)).toNat / 64 == 2)) = true → pos + k < s.size ∧ (s.get! (pos + k)).toNat ≠ 10 := fun k hk => by
    simp only [Bool.and_eq_true, decide_eq_true_eq, beq_iff_eq] at hk
    exact ⟨hk.1, by omega⟩
  unfold Utf8.decode
  simp only [Nat.add_zero]
  split
  · exact ⟨Iff.rfl, Nat.le_refl _, one⟩
  · rename_i hb
    have nb : (s.get! pos).toNat ≠ 10 := by omega
    have er : (Utf8.runeError = 10 ↔ (s.get! pos).toNat = 10) := ⟨fun h => absurd h r, fun h => absurd h nb⟩
    split
    · rename_i hc
      simp only [Bool.and_eq_true] at hc
      have c1 := ct 1 (by simpa using hc.2)
      split
      · exact ⟨⟨fun h => by omega, fun h => absurd h nb⟩, by omega, fun k hk => by
          match k, hk with
          | 0, _ => exact ⟨by omega, fun h0 => by omega⟩
          | 1, _ => exact ⟨c1.1, fun _ => c1.2⟩⟩
      · exact ⟨er, Nat.le_refl _, one⟩
    · split
      · rename_i hc
        simp only [Bool.and_eq_true] at hc
        have c1 := ct 1 (by simpa using hc.1.2)
        have c2 := ct 2 (by simpa using hc.2)
        split
        · rename_i hv
          simp only [Bool.and_eq_true, decide_eq_true_eq] at hv
          exact ⟨⟨fun h => by omega, fun h => absurd h nb⟩, by omega, fun k hk => by
            match k, hk with
            | 0, _ => exact ⟨by omega, fun h0 => by omega⟩
            | 1, _ => exact ⟨c1.1, fun _ => c1.2⟩
            | 2, _ => exact ⟨c2.1, fun _ => c2.2⟩⟩
        · exact ⟨er, Nat.le_refl _, one⟩
      · split
        · rename_i hc
          simp only [Bool.and_eq_true] at hc
          have c1 := ct 1 (by simpa using hc.1.1.2)
          have c2 := ct 2 (by simpa using hc.1.2)
          have c3 := ct 3 (by simpa using hc.2)
          split
          · rename_i hv
            simp only [Bool.and_eq_true, decide_eq_true_eq] at hv
            exact ⟨⟨fun h => by omega, fun h => absurd h nb⟩, by omega, fun k hk => by
              match k, hk with
              | 0, _ => exact ⟨by omega, fun h0 => by omega⟩
              | 1, _ => exact ⟨c1.1, fun _ => c1.2⟩
              | 2, _ => exact ⟨c2.1, fun _ => c2.2⟩
              | 3, _ => exact ⟨c3.1, fun _ => c3.2⟩⟩
          · exact ⟨er, Nat.le_refl _, one⟩
        · exact ⟨er, Nat.le_refl _, one⟩
end Go.Proofs.YtnmjkjjmigiabaaGreatDoor

/- impl.cutLine: a text cut at its first newline.
   Conditions: those that each statement names. -/
namespace Go.Proofs.YtnmjkjjmigiabaaGreatDoor
set_option linter.unusedSimpArgs false
set_option linter.unusedVariables false
open Go Go.RowKit

def itPos (B : Nat) (wr : World) : Nat := match wr.heap[B]? with | some (.stringIter _ p) => p | _ => 0
theorem itPos_iter (w : World) (s : ByteArray) (pos : Nat) : itPos w.heap.size (w.iter s pos) = pos := by unfold itPos; rw [World.iter_heap]
def CutI (s : ByteArray) (w wr : World) : Prop := ∃ pos, wr = w.iter s pos ∧ pos ≤ s.size ∧ (10 : UInt8) ∉ s.data.toList.take pos
/-- the first line and the rest, or none -/
def CutP (l : List UInt8) (w : World) (e : Ending) (w' : World) : Prop :=
  Nw w w' ∧ ((∃ p r, l = p ++ 10 :: r ∧ (10 : UInt8) ∉ p ∧ e = .returned (.tuple #[.string ⟨p.toArray⟩, .string ⟨r.toArray⟩, .bool true])) ∨ ((10 : UInt8) ∉ l ∧ e = .returned (.tuple #[.string ⟨#[]⟩, .string ⟨#[]⟩, .bool false])))

set_option maxHeartbeats 3200000 in
set_option maxRecDepth 100000 in
theorem cutLine_ok (s : ByteArray) (hs : s.size ≤ 1048576) (w : World) :
    Calls Tryz.prog 94 #[.string s] w (CutP s.data.toList w) := by
  have hl : s.data.toList.length = s.size := Array.length_toList
  go_enter Tryz.func94, Tryz.ntmps94
  go_wp2_with fail
  go_loopw [5] (fun i wr => CutI s w wr) (fun _ wr => s.size - itPos w.heap.size wr)
  case atStart => exact ⟨0, rfl, Nat.zero_le _, by simp⟩
  case round =>
    obtain ⟨pos, rfl, hp, hno⟩ := hrel
    have Hno := Lib.hid hno
    clear hno
    by_cases hlt : pos < s.size
    · have hnx := fun ty => next_any (P := Tryz.prog) w s pos ty hlt
      obtain ⟨d1, d2, d3⟩ := dec_nl s pos hlt
      obtain ⟨rn, hrn⟩ : ∃ rn, rn = (Utf8.decode s pos).1 := ⟨_, rfl⟩
      obtain ⟨n, hn⟩ : ∃ n, n = (Utf8.decode s pos).2 := ⟨_, rfl⟩
      rw [← hrn, ← hn] at hnx
      rw [← hrn] at d1
      rw [← hn] at d2 d3
      have D := Lib.hid (And.intro d1 (And.intro d2 d3))
      clear d1 d2 d3 hrn hn
      by_cases h10 : rn = 10
      · have e10 : ((rn : Int) == 10) = true := by rw [h10]; rfl
        go_wp2_with fail
        have hb : s.data.toList[pos]'(by omega) = 10 := by
          have e := D.out.1.1 h10
          have e2 : s.get! pos = s.data.toList[pos]'(by omega) := by
            show s.data[pos]! = _
            rw [getElem!_pos s.data pos (by show pos < s.data.size; rw [← Array.length_toList]; omega)]
            rfl
          rw [← e2]
          exact UInt8.toNat_inj.1 e
        have hsp : s.data.toList = s.data.toList.take pos ++ 10 :: s.data.toList.drop (pos + 1) := by
          conv => lhs; rw [← List.take_append_drop pos s.data.toList, List.drop_eq_getElem_cons (by omega), hb]
        have x1 : s.extract 0 pos = ⟨(s.data.toList.take pos).toArray⟩ := by rw [ext_bytes]; rfl
        have x2 : s.extract (pos + 1) s.size = ⟨(s.data.toList.drop (pos + 1)).toArray⟩ := by rw [ext_bytes, ← hl, List.take_length]
        have X := Lib.hid (And.intro hsp (And.intro x1 x2))
        clear hb hsp x1 x2
        go_quiet (fail)
        go_wp2_with fail
        go_ret3
        exact ⟨((Nw.refl w).alloc _).draw _, .inl ⟨_, _, X.out.1, Hno.out, by rw [← X.out.2.1, ← X.out.2.2]; rfl⟩⟩
      · have e10 : ((rn : Int) == 10) = false := by simp; omega
        go_wp2_with fail
        go_roundw
        case rel =>
          refine ⟨pos + n, rfl, ?_, ?_⟩
          · have := (D.out.2.2 (n - 1) (by have := D.out.2.1; omega)).1
            have := D.out.2.1
            omega
          · intro hm
            obtain ⟨i, hi, he⟩ := List.mem_iff_getElem.1 hm
            rw [List.length_take] at hi
            rw [List.getElem_take] at he
            rcases Nat.lt_or_ge i pos with g | g
            · exact Hno.out (by rw [← he]; exact List.mem_iff_getElem.2 ⟨i, by rw [List.length_take]; omega, by rw [List.getElem_take]⟩)
            · have k := D.out.2.2 (i - pos) (by omega)
              have eb : s.get! (pos + (i - pos)) = s.data.toList[i]'(by omega) := by
                rw [show pos + (i - pos) = i by omega]
                show s.data[i]! = _
                rw [getElem!_pos s.data i (by have := hl; show i < s.data.size; rw [← Array.length_toList]; omega)]
                rfl
              rcases Nat.eq_or_lt_of_le g with g0 | g0
              · have : (s.get! pos).toNat = 10 := by
                  have e1 : s.get! pos = 10 := by rw [← he]; rw [← eb]; congr 1; omega
                  rw [e1]; rfl
                exact h10 (D.out.1.2 this)
              · exact k.2 (by omega) (by rw [eb, he]; rfl)
        case measure =>
          rw [itPos_iter, itPos_iter]
          have := D.out.2.1
          omega
    · have hnx := fun ty => run_next_end (P := Tryz.prog) w s pos ty hlt
      go_wp2_with fail
      go_ret3
      exact ⟨(Nw.refl w).alloc _, .inr ⟨by rw [show pos = s.data.toList.length by omega, List.take_length] at Hno; exact Hno.out, rfl⟩⟩
end Go.Proofs.YtnmjkjjmigiabaaGreatDoor

/- The model's text of a body: its modes' lines.
   Conditions: those that each statement names. -/
namespace Go.Proofs.YtnmjkjjmigiabaaGreatDoor
set_option linter.unusedSimpArgs false
set_option linter.unusedVariables false
open Go Go.RowKit

/-- the text of a finite double, as bytes -/
def TxDP (x : Nat) (w : World) (e : Ending) (w' : World) : Prop := ∃ t, e = .returned (.string ⟨t.toArray⟩) ∧ TxD t x ∧ t.length ≤ 60 ∧ Nw w w'
theorem specTxD (x : Nat) (hx : x < 18446744073709551616) (hf : fin .f64 x = true) (w : World) : Calls Tryz.prog 140 #[.float .f64 x] w (TxDP x w) := by
  refine (specText x hx w).mono ?_
  rintro e w' ⟨xs, rfl, ht, hn⟩
  exact ⟨byts xs, rfl, ⟨hx, hf, xs, ht, rfl⟩, by unfold byts; rw [List.length_map]; exact txt_str ht, hn⟩

/-- a line of a word and four doubles -/
def Ln4 (word : List UInt8) (a b c d : Nat) (w : World) (e : Ending) (w' : World) : Prop :=
  ∃ l, e = .returned (.string ⟨(l ++ [10]).toArray⟩) ∧ LineT TxD word l [a, b, c, d] ∧ l.length ≤ word.length + 244 ∧ Nw w w'
set_option maxRecDepth 100000 in
theorem l6Line_ok (word : List UInt8) (hw : 32 ∉ word) (hl : word.length ≤ 100) (a b c d : Nat) (ha : a < 18446744073709551616 ∧ fin .f64 a = true) (hb : b < 18446744073709551616 ∧ fin .f64 b = true) (hc : c < 18446744073709551616 ∧ fin .f64 c = true) (hd : d < 18446744073709551616 ∧ fin .f64 d = true) (w : World) :
    Calls Tryz.prog 77 #[.string ⟨word.toArray⟩, .complex .f64 a b, .complex .f64 c d] w (Ln4 word a b c d w) := by
  have T1 := Lib.hid (fun w => specTxD a ha.1 ha.2 w)
  have T2 := Lib.hid (fun w => specTxD b hb.1 hb.2 w)
  have T3 := Lib.hid (fun w => specTxD c hc.1 hc.2 w)
  have T4 := Lib.hid (fun w => specTxD d hd.1 hd.2 w)
  have Hw := Lib.hid hw
  clear ha hb hc hd hw
  go_enter Tryz.func77, Tryz.ntmps77
  go_wp2_with fail
  refine (T1.out _).mono ?_
  rintro e w1 ⟨t1, rfl, k1, g1, n1⟩
  have N1 := Lib.hid n1
  have K1 := Lib.hid k1
  clear n1 k1
  go_wp2_with fail
  refine (T2.out _).mono ?_
  rintro e w2 ⟨t2, rfl, k2, g2, n2⟩
  have N2 := Lib.hid (N1.out.trans n2)
  have K2 := Lib.hid k2
  clear n2 k2
  go_wp2_with fail
  refine (T3.out _).mono ?_
  rintro e w3 ⟨t3, rfl, k3, g3, n3⟩
  have N3 := Lib.hid (N2.out.trans n3)
  have K3 := Lib.hid k3
  clear n3 k3
  go_wp2_with fail
  refine (T4.out _).mono ?_
  rintro e w4 ⟨t4, rfl, k4, g4, n4⟩
  have N4 := Lib.hid (N3.out.trans n4)
  have K4 := Lib.hid k4
  clear n4 k4
  go_wp2_with fail
  go_ret
  refine ⟨word ++ [32] ++ t1 ++ [32] ++ t2 ++ [32] ++ t3 ++ [32] ++ t4, congrArg Ending.returned (congrArg Value.string (by apply ByteArray.ext; simp)), ?_, by simp; omega, N4.out⟩
  have h := LineT.of (ts := [t1, t2, t3, t4]) txD_K Hw.out (show All2 TxD [t1, t2, t3, t4] [a, b, c, d] from ⟨K1.out, K2.out, K3.out, K4.out, trivial⟩)
  have e : word ++ [32] ++ t1 ++ [32] ++ t2 ++ [32] ++ t3 ++ [32] ++ t4 = word ++ (([t1, t2, t3, t4] : List (List UInt8)).map (32 :: ·)).flatten := by simp
  rw [e]
  exact h

theorem all2_four {T : List UInt8 → Nat → Prop} {ts : List (List UInt8)} {a b c d : Nat} (h : All2 T ts [a, b, c, d]) : ∃ t1 t2 t3 t4, ts = [t1, t2, t3, t4] ∧ T t1 a ∧ T t2 b ∧ T t3 c ∧ T t4 d := by
  have hl := h.len
  rcases ts with _ | ⟨t1, _ | ⟨t2, _ | ⟨t3, _ | ⟨t4, _ | ⟨t5, ts⟩⟩⟩⟩⟩
  · simp at hl
  · simp at hl
  · simp at hl
  · simp at hl
  · exact ⟨t1, t2, t3, t4, rfl, h.1, h.2.1, h.2.2.1, h.2.2.2.1⟩
  · simp at hl
/-- a line of doubles that single precision has -/
theorem line_nar {word l : List UInt8} {m : M4} (hf : m.Fin) (hb : m.pr < 4294967296 ∧ m.pi < 4294967296 ∧ m.gr < 4294967296 ∧ m.gi < 4294967296) (h : LineT TxD word l [wid m.pr, wid m.pi, wid m.gr, wid m.gi]) : LineT TxS word l [m.pr, m.pi, m.gr, m.gi] := by
  obtain ⟨ts, e, a⟩ := h
  obtain ⟨t1, t2, t3, t4, rfl, a1, a2, a3, a4⟩ := all2_four a
  exact ⟨_, e, ⟨hb.1, hf.1, a1⟩, ⟨hb.2.1, hf.2.1, a2⟩, ⟨hb.2.2.1, hf.2.2.1, a3⟩, ⟨hb.2.2.2, hf.2.2.2, a4⟩, trivial⟩

def M4.bits (m : M4) : Prop := m.pr < 4294967296 ∧ m.pi < 4294967296 ∧ m.gr < 4294967296 ∧ m.gi < 4294967296
def TextI (ms : List M4) (n : Nat) (w : World) (o i : Value) (wr : World) : Prop :=
  ∃ (k : Nat) (l : List UInt8), k ≤ n ∧ i = .int .i64 (k : Int) ∧ o = .string ⟨l.toArray⟩ ∧ LinesT LineM (ms.take k) l ∧ l.length ≤ k * 300 ∧ Nw w wr
def TextP (ms : List M4) (w : World) (e : Ending) (w' : World) : Prop :=
  ∃ l, e = .returned (.string ⟨l.toArray⟩) ∧ LinesT LineM ms l ∧ l.length ≤ 5000 ∧ Nw w w'
theorem glue_snoc (c : UInt8) (ps : List (List UInt8)) (p : List UInt8) : glueC c (ps ++ [p]) = glueC c ps ++ (p ++ [c]) := by simp [glueC]
set_option maxRecDepth 100000 in
theorem l6Modes_ok (ms : List M4) (hf : ∀ m ∈ ms, m.Fin ∧ m.bits) (n bm : Nat) (v : Value) (hn : ms.length = n) (hn16 : n ≤ 16) (w : World) (hm : w.ownsRow bm 93 2 v n (cellsM ms)) :
    Calls Tryz.prog 75 #[v] w (TextP ms w) := by
  obtain ⟨va, vc, rfl⟩ := own_shape' hm
  have H := Lib.hid hm
  have Hf := Lib.hid hf
  have Hn := Lib.hid hn
  clear hm hf hn
  go_enter Tryz.func75, Tryz.ntmps75
  go_wp2_with fail
  go_loopw [3, 8] (fun o i wr => TextI ms n w o i wr) (fun _ i _ => n - (intOf i).toNat)
  case atStart => exact ⟨0, [], by omega, rfl, rfl, ⟨[], trivial, rfl⟩, by simp, Nw.refl _⟩
  case round =>
    obtain ⟨k, l, hk, rfl, rfl, hT, hl, hN⟩ := hrel
    have Nr := Lib.hid hN
    have T := Lib.hid hT
    clear hN hT
    by_cases hlt : k < n
    · obtain ⟨m, hmk⟩ : ∃ m, ms[k]? = some m := ⟨ms[k]'(by rw [Hn.out]; exact hlt), List.getElem?_eq_getElem _⟩
      obtain ⟨g, cap, hv, hcap, hmax, hgs, e1, e2⟩ := own_mode (own_nw H.out Nr.out) hmk Hn.out.symm
      cases hv
      unfold maxLen at hmax
      have Hm := Lib.hid (Hf.out m (List.mem_of_getElem? hmk))
      have Hk := Lib.hid hmk
      have u1 := fun w => fcv_up Hm.out.1.1 w
      have u2 := fun w => fcv_up Hm.out.1.2.1 w
      have u3 := fun w => fcv_up Hm.out.1.2.2.1 w
      have u4 := fun w => fcv_up Hm.out.1.2.2.2 w
      have v1 := fcd_up Hm.out.1.1
      have v2 := fcd_up Hm.out.1.2.1
      have v3 := fcd_up Hm.out.1.2.2.1
      have v4 := fcd_up Hm.out.1.2.2.2
      clear hmk
      have C := Lib.hid (fun w => l6Line_ok wMode (by decide) (by decide) (wid m.pr) (wid m.pi) (wid m.gr) (wid m.gi) ⟨wid_lt _, fin_wid Hm.out.1.1⟩ ⟨wid_lt _, fin_wid Hm.out.1.2.1⟩ ⟨wid_lt _, fin_wid Hm.out.1.2.2.1⟩ ⟨wid_lt _, fin_wid Hm.out.1.2.2.2⟩ w)
      go_wp2_with fail
      refine (C.out _).mono ?_
      rintro e w1 ⟨p, rfl, hp, hpl, n1⟩
      have N1 := Lib.hid n1
      have P := Lib.hid hp
      have hpl2 : p.length ≤ 248 := hpl
      clear n1 hp hpl
      go_wp2_with fail
      go_roundw
      case rel =>
        refine ⟨k + 1, l ++ (p ++ [10]), by omega, by rw [show ((k + 1 : Nat) : Int) = (k : Int) + 1 from by omega], rfl, ?_, by simp; omega, (Nr.out.alloc _).trans N1.out⟩
        obtain ⟨ps, h1, h2⟩ := T.out
        obtain ⟨hk', he⟩ := List.getElem?_eq_some_iff.1 Hk.out
        refine ⟨ps ++ [p], ?_, by rw [h2, glue_snoc]⟩
        rw [List.take_succ_eq_append_getElem hk', he]
        exact h1.snoc (line_nar Hm.out.1 Hm.out.2 P.out)
      case measure => simp only [intOf]; omega
    · obtain rfl : k = n := by omega
      go_wp2_with fail
      go_ret
      refine ⟨l, rfl, ?_, by omega, Nr.out⟩
      have h := T.out
      rw [List.take_of_length_le (by have := Hn.out; omega)] at h
      exact h

set_option maxRecDepth 100000 in
theorem specFormatBody_ok (ms : List M4) (hf : ∀ m ∈ ms, m.Fin ∧ m.bits) (n bm : Nat) (v : Value) (hn : ms.length = n) (hok : bodyB ms = true) (w : World) (hm : w.ownsRow bm 93 2 v n (cellsM ms)) :
    Calls Tryz.prog 81 #[.agg #[v]] w (TextP ms w) := by
  obtain ⟨va, vc, rfl⟩ := own_shape' hm
  have hn16 : n ≤ 16 := by have := ((bodyB_iff ms).1 hok).1; omega
  have H := Lib.hid (hm.alloc (.cells #[.slice va n vc] 38 (0, 0)))
  have N0 := Lib.hid ((Nw.refl w).alloc (.cells #[.slice va n vc] 38 (0, 0)))
  have Hf := Lib.hid hf
  have Hn := Lib.hid hn
  have Ho := Lib.hid hok
  have B := Lib.hid (Has1.new w 38 (.slice va n vc))
  clear hm hf hn hok
  go_enter Tryz.func81, Tryz.ntmps81
  go_wp2_with fail
  refine (specIsBody_fin ms n bm _ Hn.out (by omega) _ H.out).mono ?_
  rintro e w1 ⟨rfl, n1⟩
  rw [Ho.out]
  have N1 := Lib.hid (N0.out.trans n1)
  have H1 := Lib.hid (own_nw H.out n1)
  have B1 := Lib.hid (B.out.nw n1)
  clear n1
  obtain ⟨b0, b1, b2⟩ := B1.out
  go_wp2_with fail
  refine (l6Modes_ok ms Hf.out n bm _ Hn.out (by omega) _ H1.out).mono ?_
  rintro e w2 ⟨l, rfl, hT, hl, n2⟩
  have N2 := Lib.hid (N1.out.trans n2)
  have T := Lib.hid hT
  clear n2 hT
  go_wp2_with fail
  go_ret
  exact ⟨l, rfl, T.out, hl, N2.out⟩
end Go.Proofs.YtnmjkjjmigiabaaGreatDoor

/- impl.readMode, impl.readLines of modes, impl.ParseBody.
   Conditions: those that each statement names. -/
namespace Go.Proofs.YtnmjkjjmigiabaaGreatDoor
set_option linter.unusedSimpArgs false
set_option linter.unusedVariables false
open Go Go.RowKit

def RdMP (l : List UInt8) (w : World) (e : Ending) (w' : World) : Prop :=
  Nw w w' ∧ ((∃ m : M4, LineM l m ∧ e = .returned (.tuple #[.agg #[.complex .f32 m.pr m.pi, .complex .f32 m.gr m.gi], .bool true])) ∨ ((∀ m, ¬ LineM l m) ∧ e = .returned (.tuple #[.agg #[.complex .f32 0 0, .complex .f32 0 0], .bool false])))

theorem four {xs : List Nat} (h : xs.length = 4) : ∃ a b c d, xs = [a, b, c, d] := by
  rcases xs with _ | ⟨a, _ | ⟨b, _ | ⟨c, _ | ⟨d, _ | ⟨x, t⟩⟩⟩⟩⟩
  · simp at h
  · simp at h
  · simp at h
  · simp at h
  · exact ⟨a, b, c, d, rfl⟩
  · simp at h

set_option maxHeartbeats 3200000 in
set_option maxRecDepth 100000 in
theorem readMode_ok (s : ByteArray) (hs : s.size ≤ 1048576) (w : World) (hL : LibW w) :
    Calls Tryz.prog 61 #[.string s] w (RdMP s.data.toList w) := by
  have C := Lib.hid (fun w h => readNumbersS wMode (by decide) s hs 4 (by decide) w h)
  have L := Lib.hid hL
  have B := Lib.hid (Has1.new w 93)
  clear hL
  go_enter Tryz.func61, Tryz.ntmps61
  go_wp2_with fail
  refine (C.out _ (L.out.nw ((Nw.refl w).alloc _))).mono ?_
  rintro e w1 ⟨n1, ⟨xs, v, hx, hl, rfl, own⟩ | ⟨hno, rfl⟩⟩
  · obtain ⟨a, b, c, d, rfl⟩ := four hx
    obtain ⟨va, vc, rfl⟩ := own_shape' own
    obtain ⟨g, cap, hv, hcap, hmax, hgs, e0⟩ := own_sample (k := 0) own rfl rfl
    cases hv
    have e1 : w1.cell? ⟨g, 1, none⟩ = some (.float .f32 b) := own.cellAt 1 (by omega)
    have e2 : w1.cell? ⟨g, 2, none⟩ = some (.float .f32 c) := own.cellAt 2 (by omega)
    have e3 : w1.cell? ⟨g, 3, none⟩ = some (.float .f32 d) := own.cellAt 3 (by omega)
    have B1 := Lib.hid ((HasMode.new w 93 0 0 0 0).nw n1)
    have N1 := Lib.hid (((Nw.refl w).alloc (.cells #[.complex .f32 0 0, .complex .f32 0 0] 93 (0, 0))).trans n1)
    have Hl := Lib.hid hl
    clear n1 hl own hx
    go_upto_region 4 with fail
    refine wp_region_still_tail 15 (by kernel_rfl) (by kernel_rfl) ?_
    simp only [List.take_succ_cons, List.take_zero, List.drop_succ_cons, List.drop_zero]
    repeat still_step
    refine wpStill_nil ?_
    change wpList _ _ _ _ _ (w1.drewN 1)
    have N2 := Lib.hid (N1.out.draw 1)
    obtain ⟨m0, m1, m2, m3, m4⟩ := B1.out
    clear e0 e1 e2 e3
    have q0 : (w1.drewN 1).heap.size = w1.heap.size := rfl
    have q1 : (w1.drewN 1).cell? ⟨w.heap.size, 0, none⟩ = _ := m1
    have q2 : (w1.drewN 1).cell? ⟨w.heap.size, 1, none⟩ = _ := m2
    have q3 : (w1.drewN 1).frozen? ⟨w.heap.size, 0, none⟩ = _ := m3
    have q4 : (w1.drewN 1).frozen? ⟨w.heap.size, 1, none⟩ = _ := m4
    generalize w1.drewN 1 = w5 at *
    clear m0 m1 m2 m3 m4
    go_wp2_with fail
    have hx0 : w.heap.size ≠ w.heap.size + 1 := by omega
    exact bodyPost_ret (v := .tuple #[.agg #[.complex .f32 a b, .complex .f32 c d], .bool true]) (by simp [results, Tryz.results61, go_sem, q0, q1, q2, q3, q4]) rfl
      ⟨(N2.out.set (by show w.heap.size ≤ w.heap.size; omega) _).set (by show w.heap.size ≤ w.heap.size; omega) _, .inl ⟨⟨a, b, c, d⟩, Hl.out, rfl⟩⟩
  · obtain ⟨m0, m1, m2, m3, m4⟩ := (HasMode.new w 93 0 0 0 0).nw n1
    have N1 := Lib.hid (((Nw.refl w).alloc (.cells #[.complex .f32 0 0, .complex .f32 0 0] 93 (0, 0))).trans n1)
    have Hno := Lib.hid hno
    clear n1 hno
    go_wp2_with fail
    refine bodyPost_ret (v := .tuple #[.agg #[.complex .f32 0 0, .complex .f32 0 0], .bool false]) (by simp [results, Tryz.results61, go_sem, m0, m1, m2, m3, m4]) rfl
      ⟨(N1.out.set (by show w.heap.size ≤ w.heap.size; omega) _).set (by show w.heap.size ≤ w.heap.size; omega) _, .inr ⟨fun m h => ?_, rfl⟩⟩
    exact Hno.out _ rfl h

/-! ### the lines -/
def LinesI (l : List UInt8) (w0 : World) (t v i : Value) (wr : World) : Prop :=
  ∃ (k : Nat) (ms : List M4) (ps : List (List UInt8)) (r : List UInt8), k ≤ 16 ∧ ms.length = k ∧ i = .int .i64 (k : Int) ∧ t = .string ⟨r.toArray⟩ ∧ All2 LineM ps ms ∧ l = glueC 10 ps ++ r ∧ wr.ownsRow w0.heap.size 93 2 v k (cellsM ms) ∧ Nw w0 wr
def LinesP (l : List UInt8) (w : World) (e : Ending) (w' : World) : Prop :=
  ∃ (ms : List M4) (r : List UInt8) (v : Value), e = .returned (.tuple #[v, .string ⟨r.toArray⟩]) ∧ ReadT LineM 16 l ms r ∧ w'.ownsRow w.heap.size 93 2 v ms.length (cellsM ms) ∧ Nw w w'
set_option maxHeartbeats 6400000 in
set_option maxRecDepth 100000 in
theorem readLinesM (s : ByteArray) (hs : s.size ≤ 1048576) (w : World) (hL : LibW w) :
    Calls Tryz.prog 60 #[.string s, .int .i64 16, .func (.func 61) #[] #[]] w (LinesP s.data.toList w) := by
  obtain ⟨i0, hi, hz0, hz1, hz2⟩ := info_parts info_mode
  have hl : s.data.toList.length = s.size := Array.length_toList
  have L := Lib.hid hL
  clear hL
  go_enter Tryz.func60, Tryz.ntmps60
  go_wp2_with fail
  go_loopw [0, 8, 15] (fun t v i wr => LinesI s.data.toList w t v i wr) (fun _ _ i _ => 16 - (intOf i).toNat)
  case atStart => exact ⟨0, [], [], s.data.toList, by omega, rfl, rfl, rfl, trivial, rfl, World.ownsRow_nil _ _ _ _, Nw.refl _⟩
  case round =>
    obtain ⟨k, ms, ps, r, hk, hmk, rfl, rfl, hal, hlr, hown, hN⟩ := hrel
    have Al := Lib.hid hal
    have Hl := Lib.hid hlr
    have Ow := Lib.hid hown
    have Nr := Lib.hid hN
    have Mk := Lib.hid hmk
    have hrs : (⟨r.toArray⟩ : ByteArray).size ≤ 1048576 := by
      have h1 : s.data.toList.length = (glueC 10 ps).length + r.length := by rw [hlr, List.length_append]
      have h3 : (⟨r.toArray⟩ : ByteArray).size = r.length := List.size_toArray
      omega
    have hr1 : r.length ≤ 1048576 := by
      have h3 : (⟨r.toArray⟩ : ByteArray).size = r.length := List.size_toArray
      omega
    obtain ⟨sa, sl, sc, rfl⟩ := own_shape hown
    have hsz := Lib.hid (show w.heap.size ≤ wr.heap.size from hN.size)
    clear hal hlr hown hN hmk
    by_cases hlt : k < 16
    · have C := Lib.hid (cutLine_ok ⟨r.toArray⟩ hrs wr)
      clear hrs
      go_wp2_with fail
      refine C.out.mono ?_
      rintro e w1 ⟨n1, ⟨p, q, hpq0, hp, rfl⟩ | ⟨hno0, rfl⟩⟩
      · have hpq : r = p ++ 10 :: q := by simpa using hpq0
        have N1 := Lib.hid (Nr.out.trans n1)
        have O1 := Lib.hid (own_nw Ow.out n1)
        have hps : (⟨p.toArray⟩ : ByteArray).size ≤ 1048576 := by
          have h1 : r.length = p.length + (q.length + 1) := by rw [hpq, List.length_append, List.length_cons]
          have h3 : (⟨p.toArray⟩ : ByteArray).size = p.length := List.size_toArray
          omega
        have P := Lib.hid (readMode_ok ⟨p.toArray⟩ hps w1 (L.out.nw N1.out))
        have Hpq := Lib.hid (And.intro hpq hp)
        have hs1 := Lib.hid (show w.heap.size ≤ w1.heap.size from N1.out.size)
        clear n1 hpq hp hps hr1 hpq0
        go_wp2_with fail
        refine P.out.mono ?_
        rintro e w2 ⟨n2, ⟨m, hm, rfl⟩ | ⟨hno, rfl⟩⟩
        · have N2 := Lib.hid (N1.out.trans n2)
          have O2 := Lib.hid (own_nw O1.out n2)
          have Hm := Lib.hid hm
          obtain ⟨m0, m1, m2, -, -⟩ := HasMode.new w2 93 m.pr m.pi m.gr m.gi
          have hs2 := Lib.hid (show w.heap.size ≤ w2.heap.size from N2.out.size)
          clear n2 hm
          go_wp2_with (at_builtin; refine wpList_append_own _ rfl _ _ 36 rfl w.heap.size 93 i0 (.agg #[.complex .f32 0 0, .complex .f32 0 0]) 2 16 Tryz.underlying36 hi hz0 hz1 hz2 rfl (by decide) _ _ _ rfl ((O2.out.alloc _).alloc _) ⟨w2.heap.size + 1, 0, none⟩ 1 1 [.complex .f32 m.pr m.pi, .complex .f32 m.gr m.gi] rfl rfl ?c1 ?c2 ?c3 ?c4 ?c5 ?_)
          case c1 =>
            intro j u hj
            match j, hj with
            | 0, hj => simp at hj; subst hj; simp [Addr.add]
            | 1, hj => simp at hj; subst hj; simp [Addr.add]
          case c2 => intro u hu; simp at hu; rcases hu with rfl | rfl <;> rfl
          case c3 => unfold maxLen; omega
          case c4 => omega
          case c5 => have := hs2.out; simp; omega
          · intro v' w4 hown4 hgrow _
            have hrow : ∀ q, (Value.slice sa sl sc).ownBlock = some q → w.heap.size ≤ q := fun q hq => own_ge O2.out q hq
            have N4 := Lib.hid (nwg ((N2.out.alloc _).alloc _) hgrow hrow)
            rw [show cellsM ms ++ [Value.complex .f32 m.pr m.pi, Value.complex .f32 m.gr m.gi] = cellsM (ms ++ [m]) from (cellsM_snoc ms m).symm] at hown4
            have O4 := Lib.hid hown4
            clear hown4 hgrow hrow m0 m1 m2
            go_wp2_with fail
            go_roundw
            case rel =>
              refine ⟨k + 1, ms ++ [m], ps ++ [p], q, by omega, by rw [List.length_append, List.length_singleton, Mk.out], by rw [show ((k + 1 : Nat) : Int) = (k : Int) + 1 from by omega], rfl, Al.out.snoc Hm.out, ?_, O4.out, N4.out⟩
              rw [Hl.out, Hpq.out.1, glue_snoc]
              simp
            case measure => simp only [intOf]; omega
        · have N2 := Lib.hid (N1.out.trans n2)
          have O2 := Lib.hid (own_nw O1.out n2)
          have Hno := Lib.hid hno
          clear n2 hno
          go_wp2_with fail
          go_ret2
          exact ⟨ms, r, _, rfl, ⟨ps, Al.out, Hl.out, by rw [Mk.out]; omega, .inr (.inr ⟨p, q, Hpq.out.1, Hpq.out.2, Hno.out⟩)⟩, by rw [Mk.out]; exact own_nw O2.out ((Nw.refl _).alloc _), N2.out.alloc _⟩
      · have hno : (10 : UInt8) ∉ r := by simpa using hno0
        have N1 := Lib.hid (Nr.out.trans n1)
        have O1 := Lib.hid (own_nw Ow.out n1)
        have Hno := Lib.hid hno
        clear n1 hno hno0
        go_wp2_with fail
        go_ret2
        exact ⟨ms, r, _, rfl, ⟨ps, Al.out, Hl.out, by rw [Mk.out]; omega, .inr (.inl Hno.out)⟩, by rw [Mk.out]; exact O1.out, N1.out⟩
    · have hk16 : k = 16 := by omega
      clear hrs
      go_wp2_with fail
      go_ret2
      exact ⟨ms, r, _, rfl, ⟨ps, Al.out, Hl.out, by rw [Mk.out]; omega, .inl (by rw [Mk.out, hk16])⟩, by rw [Mk.out]; exact Ow.out, Nr.out⟩

/-! ### the body -/
def PbP (l : List UInt8) (w : World) (e : Ending) (w' : World) : Prop :=
  Nw w w' ∧ ((∃ (ms : List M4) (v : Value), GoodB l ms ∧ (∀ m ∈ ms, m.Fin ∧ m.bits) ∧ e = .returned (.tuple #[.agg #[v], .bool true]) ∧ w'.ownsRow w.heap.size 93 2 v ms.length (cellsM ms)) ∨
    ((∀ ms, ¬ GoodB l ms) ∧ e = .returned (.tuple #[.agg #[.slice none 0 0], .bool false])))
theorem lineM_fin {p : List UInt8} {m : M4} (h : LineM p m) : m.Fin ∧ m.bits := by
  obtain ⟨ts, -, a⟩ := h
  obtain ⟨t1, t2, t3, t4, rfl, a1, a2, a3, a4⟩ := all2_four a
  exact ⟨⟨a1.2.1, a2.2.1, a3.2.1, a4.2.1⟩, a1.1, a2.1, a3.1, a4.1⟩
theorem All2.memr {α β : Type} {R : α → β → Prop} : ∀ {l : List α} {m : List β}, All2 R l m → ∀ b ∈ m, ∃ a, R a b
  | [], [], _, b, h => by simp at h
  | x :: l, y :: m, h, b, hb => by
    rcases List.mem_cons.1 hb with rfl | hb
    · exact ⟨x, h.1⟩
    · exact h.2.memr b hb
  | [], _ :: _, h, _, _ => h.elim
  | _ :: _, [], h, _, _ => h.elim
set_option maxHeartbeats 3200000 in
set_option maxRecDepth 100000 in
theorem implParseBody (s : ByteArray) (hs : s.size ≤ 1048576) (w : World) (hL : LibW w) :
    Calls Tryz.prog 19 #[.string s] w (PbP s.data.toList w) := by
  have C := Lib.hid (readLinesM s hs)
  have L := Lib.hid hL
  have B := Lib.hid (Has1.new w 38 (.slice none 0 0))
  clear hL
  go_enter Tryz.func19, Tryz.ntmps19
  go_wp2_with fail
  refine (C.out _ (L.out.nw ((Nw.refl w).alloc _))).mono ?_
  rintro e w1 ⟨ms, r, v, rfl, hrd, own, n1⟩
  obtain ⟨va, vc, rfl⟩ := own_shape' own
  have Rd := Lib.hid hrd
  have O1 := Lib.hid own
  have B1 := Lib.hid (B.out.nw n1)
  have N1 := Lib.hid (((Nw.refl w).alloc (.cells #[.slice none 0 0] 38 (0, 0))).trans n1)
  have hfin : ∀ m ∈ ms, m.Fin ∧ m.bits := by
    obtain ⟨ps, h1, -⟩ := hrd
    intro m hm
    obtain ⟨p, hp⟩ := h1.memr m hm
    exact lineM_fin hp
  have Hf := Lib.hid hfin
  have h16 : ms.length ≤ 16 := by obtain ⟨ps, -, -, h, -⟩ := hrd; exact h
  have hs1 : w.heap.size < w1.heap.size := B1.out.1
  have hs0 : (w.alloc (.cells #[.slice none 0 0] 38 (0, 0))).heap.size = w.heap.size + 1 := by simp
  rw [hs0] at O1
  clear hrd own n1 hfin hs0
  obtain ⟨b0, b1, b2⟩ := B1.out
  by_cases hr : r = []
  · subst hr
    have O2 := Lib.hid (own_nw O1.out ((Nw.refl w1).alloc (.cells #[.slice va ms.length vc] 38 (0, 0))))
    have B2 := Lib.hid (B1.out.alloc (.cells #[.slice va ms.length vc] 38 (0, 0)))
    have E2 := Lib.hid (Has1.new w1 38 (.slice va ms.length vc))
    have N2 := Lib.hid (N1.out.alloc (.cells #[.slice va ms.length vc] 38 (0, 0)))
    go_wp2_with fail
    refine (implIsBody_fin ms (fun m hm => (Hf.out m hm).1) ms.length _ _ rfl (by omega) _ O2.out).mono ?_
    rintro e w3 ⟨rfl, n3⟩
    have O3 := Lib.hid (own_nw O2.out n3)
    have B3 := Lib.hid (B2.out.nw n3)
    have E3 := Lib.hid (E2.out.nw n3)
    have N3 := Lib.hid (N2.out.trans n3)
    have hs3 := Lib.hid (show w.heap.size < w3.heap.size from B3.out.1)
    clear n3 b0 b1 b2
    obtain ⟨b0, b1, b2⟩ := B3.out
    obtain ⟨e0, e1, e2⟩ := E3.out
    have hne : w1.heap.size ≠ w.heap.size := by omega
    cases hb : bodyB ms with
    | true =>
      go_wp2_with fail
      refine bodyPost_ret (v := .tuple #[.agg #[.slice va ms.length vc], .bool true]) (by simp [results, Tryz.results19, go_sem, b0, b1, b2]) rfl
        ⟨N3.out.set (by show w.heap.size ≤ w.heap.size; omega) _, .inl ⟨ms, _, ⟨hb, Rd.out.done⟩, Hf.out, rfl, own_base (own_set O3.out (by show w.heap.size < w.heap.size + 1; omega) _) (by omega)⟩⟩
    | false =>
      go_wp2_with fail
      refine bodyPost_ret (v := .tuple #[.agg #[.slice none 0 0], .bool false]) (by simp [results, Tryz.results19, go_sem, b0, b1, b2]) rfl
        ⟨N3.out.set (by show w.heap.size ≤ w.heap.size; omega) _, .inr ⟨fun ns h => ?_, rfl⟩⟩
      have e := LinesT.val lineM_K Rd.out.done h.2
      rw [e, h.1] at hb
      cases hb
  · have hr0 : (r == []) = false := by simpa using hr
    go_wp2_with fail
    refine bodyPost_ret (v := .tuple #[.agg #[.slice none 0 0], .bool false]) (by simp [results, Tryz.results19, go_sem, b0, b1, b2]) rfl
      ⟨(N1.out.set (by show w.heap.size ≤ w.heap.size; omega) _).alloc _, .inr ⟨fun ns h => ?_, rfl⟩⟩
    exact hr (Rd.out.rest lineM_K h.2 ((bodyB_iff ns).1 h.1).1)
end Go.Proofs.YtnmjkjjmigiabaaGreatDoor

/- The model's l6Mode and ParseBody.
   Conditions: those that each statement names. -/
namespace Go.Proofs.YtnmjkjjmigiabaaGreatDoor
set_option linter.unusedSimpArgs false
set_option linter.unusedVariables false
open Go Go.RowKit

/-- a mode is read, or one that is not valid; what is read may have another word -/
def L6P (l : List UInt8) (w : World) (e : Ending) (w' : World) : Prop :=
  Nw w w' ∧ ∃ m : M4, m.Fin ∧ m.bits ∧ (∀ m', LineM l m' → m = m') ∧ e = .returned (.agg #[.complex .f32 m.pr m.pi, .complex .f32 m.gr m.gi])
def badM : M4 := ⟨1073741824, 0, 0, 0⟩
theorem badM_fin : badM.Fin ∧ badM.bits := by
  have z : Sm 0 := ⟨false, 0, -149, by decide⟩
  exact ⟨⟨⟨false, 8388608, -22, by decide⟩, z, z, z⟩, by decide, by decide, by decide, by decide⟩

def L6I (ts : List (List UInt8)) (B : Nat) (w0 : World) (v i : Value) (wr : World) : Prop :=
  ∃ xs : List Nat, xs.length ≤ ts.length ∧ i = .int .i64 (xs.length : Int) ∧ All2 TxS (ts.take xs.length) xs ∧ wr.ownsRow B 25 1 v xs.length (cellsS xs) ∧ Nw w0 wr
set_option maxHeartbeats 6400000 in
set_option maxRecDepth 100000 in
theorem l6Mode_ok (s : ByteArray) (hs : s.size ≤ 1048576) (w : World) :
    Calls Tryz.prog 79 #[.string s] w (L6P s.data.toList w) := by
  obtain ⟨f0, hf0, hfz0, hfz1, hfz2⟩ := info_parts info_f32
  have C := Lib.hid (l1Split_any 32 s hs)
  have B := Lib.hid (HasMode.new w 93 0 0 0 0)
  go_enter Tryz.func79, Tryz.ntmps79
  go_wp2_with fail
  refine (C.out _).mono ?_
  rintro e w1 ⟨ps, r, v, rfl, hl, hps, hr, own, n1⟩
  have hsp : spl 32 s.data.toList = ps ++ [r] := by rw [hl, spl_glue hps, spl_none hr]
  have hs0 : (w.alloc (.cells #[.complex .f32 0 0, .complex .f32 0 0] 93 (0, 0))).heap.size = w.heap.size + 1 := by simp
  rw [hs0] at own
  obtain ⟨qs, hqs⟩ : ∃ qs, qs = ps ++ [r] := ⟨_, rfl⟩
  rw [← hqs] at hsp own
  have hql : ps.length + 1 = qs.length := by rw [hqs]; simp
  rw [hql] at own
  obtain ⟨va, vc, rfl⟩ := own_shape' own
  have Sp := Lib.hid hsp
  have B1 := Lib.hid (B.out.nw n1)
  have hw1 : w.heap.size < w1.heap.size := by have := (B.out.nw n1).1; omega
  have E1 := Lib.hid (HasMode.new w1 93 1073741824 0 0 0)
  have N0 := Lib.hid (((Nw.refl w).alloc (.cells #[.complex .f32 0 0, .complex .f32 0 0] 93 (0, 0))).trans n1)
  have O0 := Lib.hid own
  have N1 := Lib.hid ((((Nw.refl w).alloc (.cells #[.complex .f32 0 0, .complex .f32 0 0] 93 (0, 0))).trans n1).alloc (.cells #[.complex .f32 1073741824 0, .complex .f32 0 0] 93 (0, 0)))
  have O1 := Lib.hid (own.alloc (.cells #[.complex .f32 1073741824 0, .complex .f32 0 0] 93 (0, 0)))
  have hlt1 : ∀ q, (Value.slice va qs.length vc).ownBlock = some q → q < w1.heap.size := fun q hq => (own.lt q hq).2
  have Lt := Lib.hid hlt1
  clear hl hps hr own n1 hs0 hsp hqs hql hlt1
  have hne : w.heap.size ≠ w1.heap.size := by omega
  obtain ⟨m0, m1, m2, m3, m4⟩ := B1.out
  by_cases h5 : qs.length = 5
  · obtain ⟨q0, ts, rfl⟩ : ∃ p0 ts, qs = p0 :: ts := by
      cases qs with
      | nil => simp at h5
      | cons p ts => exact ⟨p, ts, rfl⟩
    have Ht := Lib.hid (show ts.length = 4 by simpa using h5)
    rw [h5] at O0 O1 Lt ⊢
    clear h5
    obtain ⟨g, hva, hcv⟩ : ∃ g, va = some ⟨g, 0, none⟩ ∧ 5 ≤ vc := by
      rcases O0.out.2 with ⟨h0, h1⟩ | ⟨g, cap, cur, hv, hb, hg, hc, hm, -, -⟩
      · exact absurd h1 (by decide)
      · cases hv; exact ⟨g, rfl, hc⟩
    subst hva
    have hgw : g < w1.heap.size := Lt.out g rfl
    have Z := Lib.hid (World.ownsRow_lit (base := w1.heap.size + 1) (e := 25) (size := 1) (w1.alloc (.cells #[.complex .f32 1073741824 0, .complex .f32 0 0] 93 (0, 0))) #[] 0 (by simp) (by decide) rfl)
    go_wp2_with fail
    go_loopw [5, 21] (fun v i wr => L6I ts (w1.heap.size + 1) (w1.alloc (.cells #[.complex .f32 1073741824 0, .complex .f32 0 0] 93 (0, 0))) v i wr) (fun _ i _ => 4 - (intOf i).toNat)
    case atStart => exact ⟨[], by simp, rfl, trivial, by simpa [cellsS] using Z.out, (Nw.refl _).alloc _⟩
    case round =>
      obtain ⟨xs, hk, rfl, hal, how, hN⟩ := hrel
      have Al := Lib.hid hal
      have Or := Lib.hid how
      have Nr := Lib.hid hN
      have hsz := Lib.hid (show w1.heap.size + 1 ≤ wr.heap.size from by have := hN.size; simpa using this)
      have hk4 : xs.length ≤ 4 := by rw [Ht.out] at hk; exact hk
      clear hal hN hk
      obtain ⟨xa, xl, xc, rfl⟩ := own_shape how
      have D := Lib.hid (E1.out.nw (Nr.out))
      clear how
      have Bd := Lib.hid ((B1.out.alloc (.cells #[.complex .f32 1073741824 0, .complex .f32 0 0] 93 (0, 0))).nw Nr.out)
      by_cases hlt : xs.length < 4
      · obtain ⟨t, htk⟩ : ∃ t, ts[xs.length]? = some t := ⟨ts[xs.length]'(by rw [Ht.out]; exact hlt), List.getElem?_eq_getElem _⟩
        have e0 := (own_nw O1.out Nr.out).cellAt (xs.length + 1) (by omega)
        rw [show (cellsT (q0 :: ts))[xs.length + 1]? = some (.string ⟨t.toArray⟩) from by unfold cellsT; rw [List.getElem?_map, List.getElem?_cons_succ, htk]; rfl, Nat.add_comm] at e0
        have htm : t ∈ spl 32 s.data.toList := by rw [Sp.out]; exact List.mem_cons_of_mem _ (List.mem_of_getElem? htk)
        have hts : (⟨t.toArray⟩ : ByteArray).size ≤ 1048576 := by
          have h1 := spl_len htm
          have h2 : s.data.toList.length = s.size := Array.length_toList
          have h3 : (⟨t.toArray⟩ : ByteArray).size = t.length := List.size_toArray
          omega
        have P := Lib.hid (specSingle ⟨t.toArray⟩ hts wr)
        have Tk := Lib.hid htk
        clear htk htm hts
        go_wp2_with fail
        refine P.out.mono ?_
        rintro e w5 ⟨n5, ⟨r, hr, hsm, ht, rfl⟩ | ⟨hno, rfl⟩⟩
        · have N5 := Lib.hid (Nr.out.trans n5)
          have O5 := Lib.hid (own_nw Or.out n5)
          have K := Lib.hid (show TxS t r from ⟨hr, hsm, ht⟩)
          have hs5 := Lib.hid (show w1.heap.size + 1 ≤ w5.heap.size from by have := n5.size; have := hsz.out; omega)
          clear n5 hr hsm ht e0
          go_wp2_with (at_builtin; refine wpList_append_own _ rfl _ _ 35 rfl (w1.heap.size + 1) 25 f0 (.float .f32 0) 1 4 Tryz.underlying35 hf0 hfz0 hfz1 hfz2 rfl (by decide) _ _ _ rfl (O5.out.alloc _) ⟨w5.heap.size, 0, none⟩ 1 1 [.float .f32 r] rfl rfl ?c1 ?c2 ?c3 ?c4 ?c5 ?_)
          case c1 =>
            intro j u hj
            match j, hj with
            | 0, hj => simp at hj; subst hj; simp [Addr.add]
          case c2 => intro u hu; simp at hu; subst hu; rfl
          case c3 => unfold maxLen; omega
          case c4 => omega
          case c5 => have := hs5.out; simp; omega
          · intro v' w6 hown6 hgrow _
            have hrow : ∀ q, (Value.slice xa xl xc).ownBlock = some q → (w1.alloc (.cells #[.complex .f32 1073741824 0, .complex .f32 0 0] 93 (0, 0))).heap.size ≤ q := fun q hq => by have := own_ge O5.out q hq; simpa using this
            have N6 := Lib.hid (nwg (N5.out.alloc _) hgrow hrow)
            rw [show cellsS xs ++ [Value.float .f32 r] = cellsS (xs ++ [r]) from by simp [cellsS]] at hown6
            have O6 := Lib.hid hown6
            clear hown6 hgrow hrow
            go_wp2_with fail
            go_roundw
            case rel =>
              refine ⟨xs ++ [r], by rw [List.length_append, List.length_singleton, Ht.out]; omega, by rw [List.length_append, List.length_singleton, show ((xs.length + 1 : Nat) : Int) = (xs.length : Int) + 1 from by omega], ?_, by rw [List.length_append, List.length_singleton]; exact O6.out, N6.out⟩
              rw [List.length_append, List.length_singleton, List.take_add_one, Tk.out]
              exact Al.out.snoc K.out
            case measure => simp only [intOf]; omega
        · have N5 := Lib.hid (Nr.out.trans n5)
          have Hno := Lib.hid hno
          obtain ⟨d0, d1, d2, d3, d4⟩ := D.out.nw n5
          obtain ⟨m0, m1, m2, m3, m4⟩ := Bd.out.nw n5
          clear n5 hno e0
          go_wp2_with fail
          refine bodyPost_ret (v := .agg #[.complex .f32 1073741824 0, .complex .f32 0 0]) (by simp [results, Tryz.results79, go_sem, m0, m1, m2, m3, m4]) rfl
            ⟨((N1.out.trans N5.out).set (by show w.heap.size ≤ w.heap.size; omega) _).set (by show w.heap.size ≤ w.heap.size; omega) _, badM, badM_fin.1, badM_fin.2, fun m' h => ?_, rfl⟩
          obtain ⟨us, e, a⟩ := h
          rw [Sp.out] at e
          injection e with _ e
          subst e
          obtain ⟨y, -, hy⟩ := a.get Tk.out
          exact absurd hy.2.2 (Hno.out y hy.1 hy.2.1)
      · obtain ⟨a, b, c, d, rfl⟩ := four (show xs.length = 4 by omega)
        have hall : All2 TxS ts [a, b, c, d] := by
          have h := Al.out
          rw [List.take_of_length_le (by rw [Ht.out]; exact Nat.le_refl _)] at h
          exact h
        have All := Lib.hid hall
        clear hall hlt hk4
        obtain ⟨gx, hxa, hxl⟩ : ∃ gx, xa = some ⟨gx, 0, none⟩ ∧ xl = 4 := by
          rcases Or.out.2 with ⟨h0, h1⟩ | ⟨g, cap, cur, hv, hb, hg, hc, hm, -, -⟩
          · exact absurd h1 (by simp)
          · cases hv; exact ⟨g, rfl, rfl⟩
        subst hxa hxl
        have e0 : wr.cell? ⟨gx, 0, none⟩ = some (.float .f32 a) := Or.out.cellAt 0 (by simp)
        have e1 : wr.cell? ⟨gx, 1, none⟩ = some (.float .f32 b) := Or.out.cellAt 1 (by simp)
        have e2 : wr.cell? ⟨gx, 2, none⟩ = some (.float .f32 c) := Or.out.cellAt 2 (by simp)
        have e3 : wr.cell? ⟨gx, 3, none⟩ = some (.float .f32 d) := Or.out.cellAt 3 (by simp)
        go_upto_region 14 with fail
        refine wp_region_still_tail 15 (by kernel_rfl) (by kernel_rfl) ?_
        simp only [List.take_succ_cons, List.take_zero, List.drop_succ_cons, List.drop_zero]
        repeat still_step
        refine wpStill_nil ?_
        change wpList _ _ _ _ _ (wr.drewN 1)
        have N2 := Lib.hid ((N1.out.trans Nr.out).draw 1)
        obtain ⟨m0, m1, m2, m3, m4⟩ := Bd.out.draw 1
        clear e0 e1 e2 e3
        generalize wr.drewN 1 = w7 at *
        go_wp2_with fail
        refine bodyPost_ret (v := .agg #[.complex .f32 a b, .complex .f32 c d]) (by simp [results, Tryz.results79, go_sem, m0, m1, m2, m3, m4]) rfl
          ⟨(N2.out.set (by show w.heap.size ≤ w.heap.size; omega) _).set (by show w.heap.size ≤ w.heap.size; omega) _, ⟨a, b, c, d⟩, ?_, ?_, fun m' h => ?_, rfl⟩
        · obtain ⟨t1, t2, t3, t4, -, a1, a2, a3, a4⟩ := all2_four All.out
          exact ⟨a1.2.1, a2.2.1, a3.2.1, a4.2.1⟩
        · obtain ⟨t1, t2, t3, t4, -, a1, a2, a3, a4⟩ := all2_four All.out
          exact ⟨a1.1, a2.1, a3.1, a4.1⟩
        · obtain ⟨us, e, a2⟩ := h
          rw [Sp.out] at e
          injection e with _ e
          subst e
          have h5 := All2.right (R := TxS) (fun _ _ _ h k => txS_K.val h k) All.out a2
          obtain ⟨a', b', c', d'⟩ := m'
          simp at h5
          obtain ⟨rfl, rfl, rfl, rfl⟩ := h5
          rfl
  · have hq : ((qs.length : Int) == 5) = false := by simp; omega
    obtain ⟨d0, d1, d2, d3, d4⟩ := E1.out
    go_wp2_with fail
    refine bodyPost_ret (v := .agg #[.complex .f32 1073741824 0, .complex .f32 0 0]) (by simp [results, Tryz.results79, go_sem, m0, m1, m2, m3, m4]) rfl
      ⟨((N0.out.set (by show w.heap.size ≤ w.heap.size; omega) _).set (by show w.heap.size ≤ w.heap.size; omega) _).alloc _, badM, badM_fin.1, badM_fin.2, fun m' h => ?_, rfl⟩
    obtain ⟨ts, e, a⟩ := h
    rw [Sp.out] at e
    have := a.len
    simp at this
    rw [e] at h5
    simp [this] at h5
end Go.Proofs.YtnmjkjjmigiabaaGreatDoor

/- The model's ParseBody.
   Conditions: those that each statement names. -/
namespace Go.Proofs.YtnmjkjjmigiabaaGreatDoor
set_option linter.unusedSimpArgs false
set_option linter.unusedVariables false
open Go Go.RowKit

theorem step_append_mode {ops : Array Oper} {o : Oper} {a : Act} {w : World} {K : Act → World → Prop} {Q : Exit → Act → World → Prop} {E : Prop} (hg : o.guard = none) (s x : Operand)
    (hop : o.op = Op.call { callee := Callee.builtin Builtin.append, args := #[s, x], argTypes := #[36, 36] }) (base n h : Nat) (v : Value) (xs : List M4) (m : M4) (hs : a.eval s = v) (hx : a.eval x = .slice (some ⟨h, 0, none⟩) 1 1)
    (hv : w.ownsRow base 93 2 v n (cellsM xs)) (hc : w.cell? ⟨h, 0, none⟩ = some (.complex .f32 m.pr m.pi) ∧ w.cell? ⟨h, 1, none⟩ = some (.complex .f32 m.gr m.gi)) (hn : n ≤ 1048576) (hb : base ≤ w.heap.size)
    (hK : ∀ v' w', w'.ownsRow base 93 2 v' (n + 1) (cellsM (xs ++ [m])) → w.grownBy w' v.ownBlock → K (a.put o.dst v') w') :
    if Region.wanted o (yielded ops a.tmps) = true then Oper.wp Tryz.prog o a w K Q else E := by
  have hw : Region.wanted o (yielded ops a.tmps) = true := by simp [Region.wanted, hg]
  rw [if_pos hw]
  obtain ⟨i0, hi, hz0, hz1, hz2⟩ := info_parts info_mode
  refine wp_append_own w s x 36 hop base 93 i0 (.agg #[.complex .f32 0 0, .complex .f32 0 0]) 2 16 Tryz.underlying36 hi hz0 hz1 hz2 rfl (by decide) v n (cellsM xs) hs hv ⟨h, 0, none⟩ 1 1 m.cells hx rfl ?_ ?_ (by unfold maxLen; omega) (by omega) hb ?_
  · intro j z hj
    match j, hj with
    | 0, hj => simp [M4.cells] at hj; subst hj; simpa [Addr.add] using hc.1
    | 1, hj => simp [M4.cells] at hj; subst hj; simpa [Addr.add] using hc.2
  · intro u hu; simp [M4.cells] at hu; rcases hu with rfl | rfl <;> rfl
  · intro v' w' h1 h2 _
    rw [← cellsM_snoc] at h1
    exact hK v' w' h1 h2

def Rd1 (p : List UInt8) (m : M4) : Prop := (m.Fin ∧ m.bits) ∧ ∀ m', LineM p m' → m = m'
def PbI (ps : List (List UInt8)) (b : Nat) (w0 : World) (i : Value) (wr : World) : Prop :=
  ∃ (k : Nat) (ms : List M4) (v : Value), k ≤ ps.length ∧ i = .int .i64 (k : Int) ∧ ms.length = k ∧ All2 Rd1 (ps.take k) ms ∧ Has1 wr b v ∧ wr.ownsRow (b + 1) 93 2 v k (cellsM ms) ∧ Nw w0 wr

/-- what is read line by line is the body, if there is one -/
theorem rd1_good {l r : List UInt8} {ps : List (List UInt8)} {ms ns : List M4} (hsp : spl 10 l = ps ++ [r]) (h : All2 Rd1 ps ms) (g : GoodB l ns) : ms = ns := by
  obtain ⟨qs, h2, e⟩ := g.2.spl lineM_K
  rw [hsp] at e
  have e2 := (List.append_inj' e rfl).1
  subst e2
  exact go h h2
where
  go : ∀ {ps : List (List UInt8)} {ms ns : List M4}, All2 Rd1 ps ms → All2 LineM ps ns → ms = ns
  | [], [], [], _, _ => rfl
  | _ :: _, _ :: _, _ :: _, h, k => by rw [h.1.2 _ k.1, go h.2 k.2]
  | [], _ :: _, _, h, _ => h.elim
  | _ :: _, [], _, h, _ => h.elim
  | [], [], _ :: _, _, k => k.elim
  | _ :: _, _ :: _, [], _, k => k.elim

set_option maxHeartbeats 12800000 in
set_option maxRecDepth 100000 in
theorem specParseBody (s : ByteArray) (hs : s.size ≤ 1048576) (w : World) :
    Calls Tryz.prog 28 #[.string s] w (PbP s.data.toList w) := by
  have C := Lib.hid (l1Split_any 10 s hs)
  have B := Lib.hid (Has1.new w 38 (.slice none 0 0))
  go_enter Tryz.func28, Tryz.ntmps28
  go_wp2_with fail
  refine (C.out _).mono ?_
  rintro e w1 ⟨ps, r, v, rfl, hl, hps, hr, own, n1⟩
  have hsp : spl 10 s.data.toList = ps ++ [r] := by rw [hl, spl_glue hps, spl_none hr]
  obtain ⟨va, vc, rfl⟩ := own_shape' own
  have Sp := Lib.hid hsp
  have B1 := Lib.hid (B.out.nw n1)
  have hw1 : w.heap.size < w1.heap.size := (B.out.nw n1).1
  have E1 := Lib.hid (Has1.new w1 38 (.slice none 0 0))
  have N1 := Lib.hid (((Nw.refl w).alloc (.cells #[.slice none 0 0] 38 (0, 0))).trans n1)
  have O1 := Lib.hid own
  have hpl : ps.length ≤ 1048576 := by
    have h1 := spl_le 10 s.data.toList
    have h2 : s.data.toList.length = s.size := Array.length_toList
    rw [hsp] at h1
    simp at h1
    omega
  obtain ⟨g, hva, hcv⟩ : ∃ g, va = some ⟨g, 0, none⟩ ∧ ps.length + 1 ≤ vc ∧ vc ≤ maxLen := by
    rcases O1.out.2 with ⟨h0, h1⟩ | ⟨g, cap, cur, hv, hb, hg, hc, hm, -, -⟩
    · omega
    · cases hv; exact ⟨g, rfl, hc, hm⟩
  subst hva
  have hgw : g < w1.heap.size := (O1.out.lt g rfl).2
  unfold maxLen at hcv
  have hne : w.heap.size ≠ w1.heap.size := by omega
  clear hl hps hr own n1 hsp
  by_cases h17 : ps.length + 1 ≤ 17
  · have hi17 : ¬ ((17 : Int) < (ps.length : Int) + 1) := by omega
    obtain ⟨d0, d1, d2⟩ := E1.out
    go_wp2_with fail
    clear d0 d1 d2
    go_loopw [21] (fun i wr => PbI ps w1.heap.size w1 i wr) (fun i _ => ps.length - (intOf i).toNat)
    case atStart => exact ⟨0, [], _, by omega, rfl, rfl, trivial, E1.out, World.ownsRow_nil _ _ _ _, (Nw.refl w1).alloc _⟩
    case round =>
      obtain ⟨k, ms, v, hk, rfl, hmk, hal, hbx, hown, hN⟩ := hrel
      have Al := Lib.hid hal
      have Bx := Lib.hid hbx
      have Ow := Lib.hid hown
      have Nr := Lib.hid hN
      have Mk := Lib.hid hmk
      have hws := Lib.hid (show w1.heap.size < wr.heap.size from hbx.1)
      have R := Lib.hid (B1.out.nw hN)
      obtain ⟨sa, sl, sc, rfl⟩ := own_shape hown
      clear hal hbx hown hN hmk
      by_cases hlt : k < ps.length
      · obtain ⟨p, hpk⟩ : ∃ p, ps[k]? = some p := ⟨ps[k]'hlt, List.getElem?_eq_getElem _⟩
        have e0 := (own_nw O1.out Nr.out).cellAt k (by omega)
        rw [show (cellsT (ps ++ [r]))[k]? = some (.string ⟨p.toArray⟩) from by unfold cellsT; rw [List.getElem?_map, List.getElem?_append_left hlt, hpk]; rfl] at e0
        have hts : (⟨p.toArray⟩ : ByteArray).size ≤ 1048576 := by
          have h1 : p ∈ spl 10 s.data.toList := by rw [Sp.out]; exact List.mem_append_left _ (List.mem_of_getElem? hpk)
          have h1 := spl_len h1
          have h2 : s.data.toList.length = s.size := Array.length_toList
          have h3 : (⟨p.toArray⟩ : ByteArray).size = p.length := List.size_toArray
          omega
        have Pk := Lib.hid hpk
        clear hpk
        go_wp2_with fail
        go_upto_region 8 with fail
        have K1 := Lib.hid (l6Mode_ok ⟨p.toArray⟩ hts wr.drew)
        obtain ⟨d0, d1, d2⟩ := Bx.out
        clear e0 hts
        go_region_law (first
          | (go_simp
             go_at_call 79
             with_reducible refine K1.out.mono ?_
             rintro e w6 ⟨n6, m, hf6, hb6, hm6, rfl⟩
             have N6 := Lib.hid (((Nw.refl wr).draw 1).trans n6)
             have Ow6 := Lib.hid (own_nw Ow.out N6.out)
             have Bx6 := Lib.hid (Bx.out.nw N6.out)
             have Rm := Lib.hid (show Rd1 p m from ⟨⟨hf6, hb6⟩, hm6⟩)
             have hs6 := Lib.hid (show w1.heap.size < w6.heap.size from Bx6.out.1)
             obtain ⟨x0, x1, x2⟩ := Bx6.out
             clear n6 hf6 hb6 hm6)
          | (refine step_append_mode rfl (.tmp 26) (.tmp 29) rfl (w1.heap.size + 1) k w6.heap.size (.slice sa sl sc) ms m rfl rfl (Ow6.out.alloc _) ⟨by go_simp, by go_simp⟩ (by omega) (by have := hs6.out; simp; omega) ?_
             intro v7 w7 own7 gr7
             have hrow : ∀ q, (Value.slice sa sl sc).ownBlock = some q → w1.heap.size + 1 ≤ q := fun q hq => own_ge Ow6.out q hq
             have Bx7 := Lib.hid ((Bx6.out.alloc _).grown gr7 (fun e => by have := hrow _ e; omega))
             have N7 := Lib.hid (nwg ((Nr.out.trans N6.out).alloc _) gr7 (fun q hq => by have := hrow q hq; omega))
             have Ow7 := Lib.hid own7
             obtain ⟨ta, tl, tc, rfl⟩ := own_shape own7
             clear x0 x1 x2
             obtain ⟨x0, x1, x2⟩ := Bx7.out
             clear own7 gr7 hrow))
        all_goals
          go_wp2_with fail
          go_roundw
          case rel =>
            refine ⟨k + 1, ms ++ [m], _, by omega, by rw [show ((k + 1 : Nat) : Int) = (k : Int) + 1 from by omega], by rw [List.length_append, List.length_singleton, Mk.out], ?_, Bx7.out.put _, own_set Ow7.out (by show w1.heap.size < w1.heap.size + 1; omega) _, N7.out.set (by show w1.heap.size ≤ w1.heap.size; omega) _⟩
            rw [List.take_add_one, Pk.out]
            exact Al.out.snoc Rm.out
          case measure => simp only [intOf]; omega
      · have hkn : k = ps.length := by omega
        subst hkn
        obtain ⟨xa, xc, hv⟩ := own_shape' Ow.out
        cases hv
        have hall : All2 Rd1 ps ms := by
          have h := Al.out
          rw [List.take_of_length_le (Nat.le_refl _)] at h
          exact h
        have All := Lib.hid hall
        have hfin : ∀ m ∈ ms, m.Fin ∧ m.bits := fun m hm => by
          obtain ⟨p, hp⟩ := hall.memr m hm
          exact hp.1
        have Hf := Lib.hid hfin
        clear hall hfin
        obtain ⟨d0, d1, d2⟩ := Bx.out
        go_wp2_with fail
        refine (specIsBody_fin ms _ _ _ Mk.out (by omega) _ Ow.out).mono ?_
        rintro e w3 ⟨rfl, n3⟩
        have O3 := Lib.hid (own_nw Ow.out n3)
        have B3 := Lib.hid (Bx.out.nw n3)
        have R3 := Lib.hid (R.out.nw n3)
        have N3 := Lib.hid ((N1.out.trans Nr.out).trans n3)
        clear n3 d0 d1 d2
        obtain ⟨d0, d1, d2⟩ := B3.out
        obtain ⟨b0, b1, b2⟩ := R3.out
        cases hb : bodyB ms with
        | false =>
          go_wp2_with fail
          refine bodyPost_ret (v := .tuple #[.agg #[.slice none 0 0], .bool false]) (by simp [results, Tryz.results28, go_sem, b0, b1, b2]) rfl
            ⟨N3.out.set (by show w.heap.size ≤ w.heap.size; omega) _, .inr ⟨fun ns h => ?_, rfl⟩⟩
          have e := rd1_good Sp.out All.out h
          rw [e, h.1] at hb
          cases hb
        | true =>
          go_wp2_with fail
          refine (specFormatBody_ok ms Hf.out _ _ _ Mk.out hb _ O3.out).mono ?_
          rintro e w4 ⟨t, rfl, hT, htl, n4⟩
          have O4 := Lib.hid (own_nw O3.out n4)
          have B4 := Lib.hid (B3.out.nw n4)
          have R4 := Lib.hid (R3.out.nw n4)
          have N4 := Lib.hid (N3.out.trans n4)
          have T := Lib.hid hT
          clear n4 d0 d1 d2 b0 b1 b2 hT
          obtain ⟨d0, d1, d2⟩ := B4.out
          obtain ⟨b0, b1, b2⟩ := R4.out
          have hss : s = ⟨s.data.toList.toArray⟩ := rfl
          by_cases ht : t = s.data.toList
          · have g : (t == s.toList) = true := by rw [ByteArray.toList_eq]; simpa using ht
            have g2 : ((⟨t.toArray⟩ : ByteArray).toList == s.toList) = true := by rw [ByteArray.toList_eq, ByteArray.toList_eq]; simpa using ht
            have g3 : (t == s.data.toList) = true := by simpa using ht
            go_wp2_with fail
            exact bodyPost_ret (v := .tuple #[.agg #[.slice sa ps.length sc], .bool true]) (by simp [results, Tryz.results28, go_sem, b0, b1, b2]) rfl
              ⟨N4.out.set (by show w.heap.size ≤ w.heap.size; omega) _, .inl ⟨ms, _, ⟨hb, by rw [← ht]; exact T.out⟩, Hf.out, rfl, by rw [Mk.out]; exact own_base (own_set O4.out (by show w.heap.size < w1.heap.size + 1; omega) _) (by omega)⟩⟩
          · have g : (t == s.toList) = false := by rw [ByteArray.toList_eq]; simpa using ht
            have g2 : ((⟨t.toArray⟩ : ByteArray).toList == s.toList) = false := by rw [ByteArray.toList_eq, ByteArray.toList_eq]; simpa using ht
            have g3 : (t == s.data.toList) = false := by simpa using ht
            go_wp2_with fail
            refine bodyPost_ret (v := .tuple #[.agg #[.slice none 0 0], .bool false]) (by simp [results, Tryz.results28, go_sem, b0, b1, b2]) rfl
              ⟨N4.out.set (by show w.heap.size ≤ w.heap.size; omega) _, .inr ⟨fun ns h => ?_, rfl⟩⟩
            have e := rd1_good Sp.out All.out h
            have hT := T.out
            rw [e] at hT
            obtain ⟨p1, a1, e1⟩ := hT
            obtain ⟨p2, a2, e2⟩ := h.2
            apply ht
            rw [e1, e2, All2.left (R := LineM) (fun _ _ _ h k => LineT.txt txS_K h k) a1 a2]
  · have hi17 : ((17 : Int) < (ps.length : Int) + 1) := by omega
    obtain ⟨d0, d1, d2⟩ := E1.out
    obtain ⟨b0, b1, b2⟩ := B1.out
    go_wp2_with fail
    refine bodyPost_ret (v := .tuple #[.agg #[.slice none 0 0], .bool false]) (by simp [results, Tryz.results28, go_sem, b0, b1, b2]) rfl
      ⟨(N1.out.set (by show w.heap.size ≤ w.heap.size; omega) _).alloc _, .inr ⟨fun ns h => ?_, rfl⟩⟩
    obtain ⟨qs, h2, e⟩ := h.2.spl lineM_K
    rw [Sp.out] at e
    have e2 := (List.append_inj' e rfl).1
    subst e2
    have h3 := h2.len
    have h4 := ((bodyB_iff ns).1 h.1).1
    omega
end Go.Proofs.YtnmjkjjmigiabaaGreatDoor

/- Texts of rooms: lines of modes, then lines of places: plain.
   Conditions: those that each statement names. -/
namespace Go.Proofs.YtnmjkjjmigiabaaGreatDoor
set_option linter.unusedSimpArgs false
set_option linter.unusedVariables false
open Go Go.RowKit

theorem cutC {c : UInt8} {p q r t : List UInt8} (h : p ++ c :: r = q ++ c :: t) (hp : c ∉ p) (hq : c ∉ q) : p = q ∧ r = t := by
  induction p generalizing q with
  | nil =>
    cases q with
    | nil => simp at h; exact ⟨rfl, h⟩
    | cons b q =>
      simp at h
      exact absurd (by rw [← h.1]; exact List.mem_cons_self) hq
  | cons a p ih =>
    cases q with
    | nil =>
      simp at h
      exact absurd (by rw [h.1]; exact List.mem_cons_self) hp
    | cons b q =>
      simp at h
      obtain ⟨e1, e2⟩ := ih h.2 (fun hm => hp (List.mem_cons_of_mem _ hm)) (fun hm => hq (List.mem_cons_of_mem _ hm))
      exact ⟨by rw [h.1, e1], e2⟩

def Stop {α : Type} (L : List UInt8 → α → Prop) (r : List UInt8) : Prop := ∃ p q, r = p ++ 10 :: q ∧ 10 ∉ p ∧ ∀ m, ¬ L p m
theorem glue_cons (c : UInt8) (p : List UInt8) (ps : List (List UInt8)) (r : List UInt8) : glueC c (p :: ps) ++ r = p ++ c :: (glueC c ps ++ r) := by simp [glueC]
/-- what is read of a text is what stands there, up to what is no such line -/
theorem read_split {α : Type} {L : List UInt8 → α → Prop} (K : LnK L) {most : Nat} : ∀ {ps qs : List (List UInt8)} {ms ns : List α} {r l2 : List UInt8} {k : Nat}, All2 L ps ms → All2 L qs ns → glueC 10 ps ++ r = glueC 10 qs ++ l2 →
    (ms.length + k = most ∨ 10 ∉ r ∨ Stop L r) → ns.length + k ≤ most → (l2 = [] ∨ Stop L l2) → ms = ns ∧ r = l2
  | [], [], [], [], r, l2, k, _, _, he, _, _, _ => ⟨rfl, by simpa [glueC] using he⟩
  | [], q :: qs, [], n :: ns, r, l2, k, _, h2, he, hs, hl, _ => by
    rw [glue_cons] at he
    have he : r = q ++ 10 :: (glueC 10 qs ++ l2) := by simpa [glueC] using he
    rcases hs with h | h | ⟨p, t, e, hp, hno⟩
    · simp at h hl; omega
    · exact absurd (by rw [he]; simp) h
    · rw [e] at he
      obtain ⟨e1, -⟩ := cutC he hp (K.nl h2.1)
      subst e1
      exact absurd h2.1 (hno n)
  | p :: ps, [], m :: ms, [], r, l2, k, h1, _, he, _, _, h3 => by
    rw [glue_cons] at he
    have he : p ++ 10 :: (glueC 10 ps ++ r) = l2 := by simpa [glueC] using he
    rcases h3 with h | ⟨q, t, e, hq, hno⟩
    · rw [h] at he; simp at he
    · rw [e] at he
      obtain ⟨e1, -⟩ := cutC he (K.nl h1.1) hq
      subst e1
      exact absurd h1.1 (hno m)
  | p :: ps, q :: qs, m :: ms, n :: ns, r, l2, k, h1, h2, he, hs, hl, h3 => by
    rw [glue_cons, glue_cons] at he
    obtain ⟨e1, e2⟩ := cutC he (K.nl h1.1) (K.nl h2.1)
    subst e1
    obtain ⟨f1, f2⟩ := read_split K (most := most) (k := k + 1) h1.2 h2.2 e2 (by rcases hs with h | h; exact .inl (by simp at h; omega); exact .inr h) (by simp at hl; omega) h3
    exact ⟨by rw [K.val h1.1 h2.1, f1], f2⟩
  | [], _, _ :: _, _, _, _, _, h, _, _, _, _, _ => h.elim
  | _ :: _, _, [], _, _, _, _, h, _, _, _, _, _ => h.elim
  | [], [], [], _ :: _, _, _, _, _, h, _, _, _, _ => h.elim
  | [], _ :: _, [], [], _, _, _, _, h, _, _, _, _ => h.elim
  | _ :: _, [], _ :: _, _ :: _, _, _, _, _, h, _, _, _, _ => h.elim
  | _ :: _, _ :: _, _ :: _, [], _, _, _, _, h, _, _, _, _ => h.elim

/-! ### places -/
def wPlace : List UInt8 := [112, 108, 97, 99, 101]
def LineP (p : List UInt8) (r : List Nat) : Prop := LineT TxS wPlace p r
theorem lineP_K : LnK LineP where
  val h k := LineT.val txS_K h k
  nl h := LineT.nl txS_K (by decide) h
/-- a line of a place with n weights -/
def LinePn (n : Nat) (p : List UInt8) (r : List Nat) : Prop := LineP p r ∧ r.length = n
theorem linePn_K (n : Nat) : LnK (LinePn n) where
  val h k := lineP_K.val h.1 k.1
  nl h := lineP_K.nl h.1
def isP (p : List UInt8) : Bool := (spl 32 p).head? == some wPlace
theorem isP_place {p : List UInt8} {r : List Nat} (h : LineP p r) : isP p = true := by
  obtain ⟨ts, e, -⟩ := h
  unfold isP
  rw [e]; rfl
theorem isP_mode {p : List UInt8} {m : M4} (h : LineM p m) : isP p = false := by
  obtain ⟨ts, e, -⟩ := h
  unfold isP
  rw [e]; rfl
theorem place_no {p : List UInt8} {r : List Nat} (h : LineP p r) (m : M4) : ¬ LineM p m := fun k => by
  have h1 := isP_place h
  rw [isP_mode k] at h1
  cases h1

/-! ### rooms -/
def wgt (x : Nat) : Bool := leB (labs (wid x)) 4625196817309499392
def rowB (q : Nat) (r : List Nat) : Bool := decide (r.length = q) && r.all wgt
def roomB (ms : List M4) (rows : List (List Nat)) : Bool := bodyB ms && (decide (rows.length ≤ 16) && rows.all (rowB ms.length))
theorem roomB_iff {ms : List M4} {rows : List (List Nat)} : roomB ms rows = true ↔ bodyB ms = true ∧ rows.length ≤ 16 ∧ ∀ r ∈ rows, rowB ms.length r = true := by
  unfold roomB
  rw [Bool.and_eq_true, Bool.and_eq_true, decide_eq_true_iff, List.all_eq_true]
theorem rowB_iff {q : Nat} {r : List Nat} : rowB q r = true ↔ r.length = q ∧ ∀ x ∈ r, wgt x = true := by
  unfold rowB
  rw [Bool.and_eq_true, decide_eq_true_iff, List.all_eq_true]
/-- a text of a valid room -/
def TextR (l : List UInt8) (ms : List M4) (rows : List (List Nat)) : Prop := ∃ ps qs, All2 LineM ps ms ∧ All2 LineP qs rows ∧ l = glueC 10 ps ++ glueC 10 qs
def GoodR (l : List UInt8) (ms : List M4) (rows : List (List Nat)) : Prop := roomB ms rows = true ∧ TextR l ms rows
theorem All2.imp {α β : Type} {R S : α → β → Prop} : ∀ {l : List α} {m : List β}, All2 R l m → (∀ a b, b ∈ m → R a b → S a b) → All2 S l m
  | [], [], _, _ => trivial
  | x :: l, y :: m, h, f => ⟨f _ _ List.mem_cons_self h.1, h.2.imp (fun a b hb k => f a b (List.mem_cons_of_mem _ hb) k)⟩
  | [], _ :: _, h, _ => h.elim
  | _ :: _, [], h, _ => h.elim
/-- what is read of a valid room's text: the room, to its end -/
theorem room_read {l r1 r2 : List UInt8} {ms ms' : List M4} {rows rows' : List (List Nat)} (h1 : ReadT LineM 16 l ms r1) (h2 : ReadT (LinePn ms.length) 16 r1 rows r2) (g : GoodR l ms' rows') : ms = ms' ∧ rows = rows' ∧ r2 = [] := by
  obtain ⟨gb, ps', qs', a1, a2, e⟩ := g
  obtain ⟨b1, b2, b3⟩ := roomB_iff.1 gb
  obtain ⟨ps, c1, f1, d1, s1⟩ := h1
  obtain ⟨e1, e2⟩ := read_split lineM_K (most := 16) (k := 0) c1 a1 (f1.symm.trans e) (by rcases s1 with h | h | h; exact .inl h; exact .inr (.inl h); exact .inr (.inr h)) (by have := ((bodyB_iff ms').1 b1).1; simpa using this) (by
    cases qs' with
    | nil => left; rfl
    | cons q qs =>
      right
      cases rows' with
      | nil => exact a2.elim
      | cons row rows' => exact ⟨q, glueC 10 qs, by simp [glueC], lineP_K.nl a2.1, fun m => place_no a2.1 m⟩)
  subst e1
  obtain ⟨qs, c2, f2, d2, s2⟩ := h2
  have a3 : All2 (LinePn ms.length) qs' rows' := a2.imp (fun a b hb k => ⟨k, (rowB_iff.1 (b3 b hb)).1⟩)
  obtain ⟨e3, e4⟩ := read_split (linePn_K ms.length) (most := 16) (l2 := []) (k := 0) c2 a3 (by rw [← f2, e2, List.append_nil]) (by rcases s2 with h | h | h; exact .inl h; exact .inr (.inl h); exact .inr (.inr h)) (by simpa using b2) (.inl rfl)
  exact ⟨rfl, e3, e4⟩
theorem room_text {l r1 : List UInt8} {ms : List M4} {rows : List (List Nat)} (h1 : ReadT LineM 16 l ms r1) (h2 : ReadT (LinePn ms.length) 16 r1 rows []) : TextR l ms rows := by
  obtain ⟨ps, c1, f1, -, -⟩ := h1
  obtain ⟨qs, c2, f2, -, -⟩ := h2
  exact ⟨ps, qs, c1, c2.imp (fun _ _ _ k => k.1), by rw [f1, f2, List.append_nil]⟩
theorem textR_txt {l l' : List UInt8} {ms : List M4} {rows : List (List Nat)} (h : TextR l ms rows) (k : TextR l' ms rows) : l = l' := by
  obtain ⟨ps, qs, a1, a2, e⟩ := h
  obtain ⟨ps', qs', b1, b2, e'⟩ := k
  rw [e, e', All2.left (R := LineM) (fun _ _ _ h k => LineT.txt txS_K h k) a1 b1, All2.left (R := LineP) (fun _ _ _ h k => LineT.txt txS_K h k) a2 b2]

/-! ### read line by line -/
def Its (ls : List (List UInt8)) (ms : List M4) (rows : List (List Nat)) : Prop := All2 Rd1 (ls.filter (fun p => !isP p)) ms ∧ All2 LineP (ls.filter isP) rows
theorem Its.mode {ls : List (List UInt8)} {ms : List M4} {rows : List (List Nat)} {p : List UInt8} {m : M4} (h : Its ls ms rows) (hp : isP p = false) (r : Rd1 p m) : Its (ls ++ [p]) (ms ++ [m]) rows := by
  unfold Its
  rw [List.filter_append, List.filter_append, show [p].filter (fun p => !isP p) = [p] from by simp [hp], show [p].filter isP = [] from by simp [hp], List.append_nil]
  exact ⟨h.1.snoc r, h.2⟩
theorem Its.place {ls : List (List UInt8)} {ms : List M4} {rows : List (List Nat)} {p : List UInt8} {row : List Nat} (h : Its ls ms rows) (r : LineP p row) : Its (ls ++ [p]) ms (rows ++ [row]) := by
  have hp := isP_place r
  unfold Its
  rw [List.filter_append, List.filter_append, show [p].filter (fun p => !isP p) = [] from by simp [hp], show [p].filter isP = [p] from by simp [hp], List.append_nil]
  exact ⟨h.1, h.2.snoc r⟩
theorem glue_app (c : UInt8) (ps qs : List (List UInt8)) : glueC c (ps ++ qs) = glueC c ps ++ glueC c qs := by simp [glueC]
theorem textR_lines {l r : List UInt8} {ls : List (List UInt8)} {ms : List M4} {rows : List (List Nat)} (hsp : spl 10 l = ls ++ [r]) (g : TextR l ms rows) :
    ∃ ps qs, All2 LineM ps ms ∧ All2 LineP qs rows ∧ ls = ps ++ qs := by
  obtain ⟨ps, qs, a1, a2, e⟩ := g
  refine ⟨ps, qs, a1, a2, ?_⟩
  have hn : ∀ p ∈ ps ++ qs, 10 ∉ p := fun p hp => by
    rcases List.mem_append.1 hp with h | h
    · exact a1.clean lineM_K p h
    · exact a2.clean lineP_K p h
  have h := spl_glue (l := []) hn
  rw [List.append_nil, glue_app, ← e] at h
  rw [h] at hsp
  have e2 := (List.append_inj' hsp rfl).1
  exact e2.symm
theorem its_good {l r : List UInt8} {ls : List (List UInt8)} {ms ms' : List M4} {rows rows' : List (List Nat)} (hsp : spl 10 l = ls ++ [r]) (h : Its ls ms rows) (g : TextR l ms' rows') : ms = ms' ∧ rows = rows' := by
  obtain ⟨ps, qs, a1, a2, rfl⟩ := textR_lines hsp g
  have f1 : (ps ++ qs).filter (fun p => !isP p) = ps := by
    rw [List.filter_append, List.filter_eq_self.2 (fun p hp => by obtain ⟨m, hm⟩ := a1.mem p hp; rw [isP_mode hm]; rfl), List.filter_eq_nil_iff.2 (fun p hp => by obtain ⟨m, hm⟩ := a2.mem p hp; rw [isP_place hm]; simp), List.append_nil]
  have f2 : (ps ++ qs).filter isP = qs := by
    rw [List.filter_append, List.filter_eq_nil_iff.2 (fun p hp => by obtain ⟨m, hm⟩ := a1.mem p hp; rw [isP_mode hm]; simp), List.filter_eq_self.2 (fun p hp => by obtain ⟨m, hm⟩ := a2.mem p hp; exact isP_place hm), List.nil_append]
  obtain ⟨h1, h2⟩ := h
  rw [f1] at h1
  rw [f2] at h2
  exact ⟨rd1_good.go h1 a1, All2.right (R := LineP) (fun _ _ _ h k => lineP_K.val h k) h2 a2⟩
theorem its_no {l r p : List UInt8} {ls : List (List UInt8)} {ms' : List M4} {rows' : List (List Nat)} (hsp : spl 10 l = ls ++ [r]) (hp : p ∈ ls) (hi : isP p = true) (hno : ∀ row, ¬ LineP p row) : ¬ TextR l ms' rows' := fun g => by
  obtain ⟨ps, qs, a1, a2, rfl⟩ := textR_lines hsp g
  rcases List.mem_append.1 hp with h | h
  · obtain ⟨m, hm⟩ := a1.mem p h
    rw [isP_mode hm] at hi
    cases hi
  · obtain ⟨row, hr⟩ := a2.mem p h
    exact hno row hr
end Go.Proofs.YtnmjkjjmigiabaaGreatDoor

/- Bodies and events in memory, their appends; events compared.
   Conditions: those that each statement names. -/
namespace Go.Proofs.YtnmjkjjmigiabaaGreatDoor
set_option linter.unusedSimpArgs false
set_option linter.unusedVariables false
open Go Go.RowKit

theorem info_body : (Tryz.prog.info? 38).map (fun i => (i.zero, i.size, i.bytes)) = some (some (.agg #[.slice none 0 0]), 1, 24) := by kernel_rfl
theorem info_event : (Tryz.prog.info? 137).map (fun i => (i.zero, i.size, i.bytes)) = some (some (.agg #[.int .i64 0, .int .i64 0, .int .i64 0, .int .i64 0, .int .i64 0, .float .f32 0]), 6, 48) := by kernel_rfl

/-- rows in memory of different types lie in different blocks -/
theorem rows_apart {w : World} {b b' : Nat} {E E' : TypeId} {size size' n n' : Nat} {v v' : Value} {xs xs' : List Value} (h : w.ownsRow b E size v n xs) (k : w.ownsRow b' E' size' v' n' xs') (hE : E ≠ E') : v.ownBlock = none ∨ v.ownBlock ≠ v'.ownBlock := by
  rcases h.2 with ⟨rfl, _⟩ | ⟨g, cap, cur, rfl, hb, hg, _⟩
  · exact .inl rfl
  · rcases k.2 with ⟨rfl, _⟩ | ⟨g', cap', cur', rfl, hb', hg', _⟩
    · right; simp [Value.ownBlock]
    · right
      intro e
      simp [Value.ownBlock] at e
      subst e
      rw [hg] at hg'
      injection hg' with hg'
      injection hg' with h1 h2 h3
      exact hE h2

/-! ### bodies -/
def BodsR (w : World) (base : Nat) (sv : Value) (bs : List (List M4)) : Prop :=
  ∃ vs : List Value, w.ownsRow base 38 1 sv bs.length vs ∧ ∀ (p : Nat) ms, bs[p]? = some ms → ∃ v, vs[p]? = some v ∧ w.ownsRow base 93 2 v ms.length (cellsM ms)
theorem BodsR.nil (w : World) (base : Nat) : BodsR w base (.slice none 0 0) [] := ⟨[], World.ownsRow_nil _ _ _ _, fun p r h => by simp at h⟩
theorem BodsR.nw {w w' : World} {base : Nat} {sv : Value} {bs : List (List M4)} (h : BodsR w base sv bs) (hk : Nw w w') : BodsR w' base sv bs := by
  obtain ⟨vs, h1, h2⟩ := h
  exact ⟨vs, own_nw h1 hk, fun p r hp => by obtain ⟨v, a, b⟩ := h2 p r hp; exact ⟨v, a, own_nw b hk⟩⟩
theorem BodsR.kp {c : Nat} {w w' : World} {base : Nat} {sv : Value} {bs : List (List M4)} (h : BodsR w base sv bs) (hk : Kp c w w') (hc : c < base) : BodsR w' base sv bs := by
  obtain ⟨vs, h1, h2⟩ := h
  exact ⟨vs, own_kp h1 hk hc, fun p r hp => by obtain ⟨v, a, b⟩ := h2 p r hp; exact ⟨v, a, own_kp b hk hc⟩⟩
theorem BodsR.base {w : World} {base b' : Nat} {sv : Value} {bs : List (List M4)} (h : BodsR w base sv bs) (hb : b' ≤ base) : BodsR w b' sv bs := by
  obtain ⟨vs, h1, h2⟩ := h
  exact ⟨vs, own_base h1 hb, fun p r hp => by obtain ⟨v, a, b⟩ := h2 p r hp; exact ⟨v, a, own_base b hb⟩⟩
theorem BodsR.set {w : World} {base : Nat} {sv : Value} {bs : List (List M4)} (h : BodsR w base sv bs) {p : Addr} (hp : p.block < base) (u : Value) : BodsR (w.setCell p u) base sv bs := by
  obtain ⟨vs, h1, h2⟩ := h
  exact ⟨vs, own_set h1 hp u, fun p r hp' => by obtain ⟨v, a, b⟩ := h2 p r hp'; exact ⟨v, a, own_set b hp u⟩⟩
theorem BodsR.shape {w : World} {base : Nat} {sv : Value} {bs : List (List M4)} (h : BodsR w base sv bs) : ∃ a c, sv = .slice a bs.length c := by
  obtain ⟨vs, h1, h2⟩ := h
  exact own_shape' h1
/-- a row of another type grows: the bodies stay -/
theorem BodsR.grown {w w' : World} {base b2 : Nat} {E : TypeId} {size n : Nat} {v sv : Value} {xs : List Value} {bs : List (List M4)} (h : BodsR w base sv bs) (hr : w.ownsRow b2 E size v n xs) (h1 : 38 ≠ E) (h2 : 93 ≠ E) (hg : w.grownBy w' v.ownBlock) : BodsR w' base sv bs := by
  obtain ⟨vs, k1, k2⟩ := h
  exact ⟨vs, k1.kept hg (rows_apart k1 hr h1), fun p r hp => by obtain ⟨v, a, b⟩ := k2 p r hp; exact ⟨v, a, b.kept hg (rows_apart b hr h2)⟩⟩
/-- a body behind the others -/
theorem BodsR.snoc {w w' : World} {base b2 : Nat} {sv sv' rv : Value} {bs : List (List M4)} {vs : List Value} {ms : List M4} (ho : w.ownsRow base 38 1 sv bs.length vs)
    (hi : ∀ (p : Nat) r, bs[p]? = some r → ∃ v, vs[p]? = some v ∧ w.ownsRow base 93 2 v r.length (cellsM r)) (hr : w.ownsRow b2 93 2 rv ms.length (cellsM ms)) (hb : base ≤ b2)
    (hn : w'.ownsRow base 38 1 sv' (bs.length + 1) (vs ++ [rv])) (hg : w.grownBy w' sv.ownBlock) : BodsR w' base sv' (bs ++ [ms]) := by
  refine ⟨vs ++ [rv], by rw [List.length_append]; exact hn, fun p r' hp => ?_⟩
  have hv : vs.length = bs.length := by have := ho.1; omega
  by_cases h : p < bs.length
  · rw [List.getElem?_append_left h] at hp
    obtain ⟨v, b, c⟩ := hi p r' hp
    exact ⟨v, by rw [List.getElem?_append_left (by omega)]; exact b, c.kept hg (rows_apart c ho (by decide))⟩
  · have h2 := (List.getElem?_eq_some_iff.1 hp).1
    rw [List.length_append] at h2
    obtain rfl : p = bs.length := by simp at h2; omega
    rw [List.getElem?_append_right (Nat.le_refl _), Nat.sub_self] at hp
    simp at hp
    subst hp
    exact ⟨rv, by rw [← hv, List.getElem?_append_right (Nat.le_refl _), Nat.sub_self]; rfl, own_base (hr.kept hg (rows_apart hr ho (by decide))) hb⟩
/-- one body, read -/
theorem BodsR.at {w : World} {base n : Nat} {sv : Value} {bs : List (List M4)} (h : BodsR w base sv bs) (hn : n = bs.length) {p : Nat} {ms : List M4} (hp : bs[p]? = some ms) :
    ∃ g cap a c, sv = .slice (some ⟨g, 0, none⟩) n cap ∧ n ≤ cap ∧ cap ≤ maxLen ∧ g < w.heap.size ∧ w.cell? ⟨g, p, none⟩ = some (.slice a ms.length c) ∧ w.ownsRow base 93 2 (.slice a ms.length c) ms.length (cellsM ms) := by
  obtain ⟨vs, ho, hi⟩ := h
  obtain ⟨v, h2, h3⟩ := hi p ms hp
  have hk := (List.getElem?_eq_some_iff.1 hp).1
  obtain ⟨a, c, rfl⟩ := own_shape' h3
  rcases ho.2 with ⟨_, h0⟩ | ⟨g, cap, cur, hv, hb, hg, hc, hm, hs, ht⟩
  · omega
  · subst hv
    have c1 := ho.cellAt p (by omega)
    rw [h2] at c1
    exact ⟨g, cap, a, c, by rw [hn], by omega, hm, (ho.lt g rfl).2, c1, h3⟩

/-! ### events -/
structure Ev6 where
  t : Int
  k : Int
  b : Int
  s : Int
  m : Int
  f : Nat
def Ev6.cells (e : Ev6) : List Value := [.int .i64 e.t, .int .i64 e.k, .int .i64 e.b, .int .i64 e.s, .int .i64 e.m, .float .f32 e.f]
def cellsE (es : List Ev6) : List Value := es.flatMap Ev6.cells
theorem cellsE_len (es : List Ev6) : (cellsE es).length = es.length * 6 := by
  induction es with
  | nil => rfl
  | cons m ms ih => simp only [cellsE, List.flatMap_cons, List.length_append, List.length_cons] at *; simp [Ev6.cells] at *; omega
theorem cellsE_snoc (es : List Ev6) (e : Ev6) : cellsE (es ++ [e]) = cellsE es ++ e.cells := by simp [cellsE]
theorem cellsE_one (es : List Ev6) : ∀ u ∈ cellsE es, u.oneCell' = true := by
  intro u hu
  obtain ⟨e, _, h⟩ := List.mem_flatMap.1 hu
  simp [Ev6.cells] at h
  rcases h with rfl | rfl | rfl | rfl | rfl | rfl <;> rfl
theorem cellsE_at (es : List Ev6) (k j : Nat) (e : Ev6) (h : es[k]? = some e) (hj : j < 6) : (cellsE es)[6 * k + j]? = e.cells[j]? := by
  induction es generalizing k with
  | nil => simp at h
  | cons a es ih =>
    have hl : a.cells.length = 6 := rfl
    cases k with
    | zero =>
      simp at h; subst h
      simp only [cellsE, List.flatMap_cons, Nat.mul_zero, Nat.zero_add]
      rw [List.getElem?_append_left (by rw [hl]; exact hj)]
    | succ k =>
      have := ih k (by simpa using h)
      simp only [cellsE, List.flatMap_cons] at this ⊢
      rw [List.getElem?_append_right (by rw [hl]; omega), hl, show 6 * (k + 1) + j - 6 = 6 * k + j from by omega]
      exact this

/-- append of one body -/
theorem step_append_body {ops : Array Oper} {o : Oper} {a : Act} {w : World} {K : Act → World → Prop} {Q : Exit → Act → World → Prop} {E : Prop} (hg : o.guard = none) (s x : Operand)
    (hop : o.op = Op.call { callee := Callee.builtin Builtin.append, args := #[s, x], argTypes := #[65, 65] }) (base n h : Nat) (v rv : Value) (vs : List Value) (hs : a.eval s = v) (hx : a.eval x = .slice (some ⟨h, 0, none⟩) 1 1)
    (hv : w.ownsRow base 38 1 v n vs) (hc : w.cell? ⟨h, 0, none⟩ = some rv) (h1 : rv.oneCell' = true) (hn : n ≤ 1048576) (hb : base ≤ w.heap.size)
    (hK : ∀ v' w', w'.ownsRow base 38 1 v' (n + 1) (vs ++ [rv]) → w.grownBy w' v.ownBlock → K (a.put o.dst v') w') :
    if Region.wanted o (yielded ops a.tmps) = true then Oper.wp Tryz.prog o a w K Q else E := by
  have hw : Region.wanted o (yielded ops a.tmps) = true := by simp [Region.wanted, hg]
  rw [if_pos hw]
  obtain ⟨j0, hj, hy0, hy1, hy2⟩ := info_parts info_body
  refine wp_append_own w s x 65 hop base 38 j0 (.agg #[.slice none 0 0]) 1 24 Tryz.underlying65 hj hy0 hy1 hy2 rfl (by decide) v n vs hs hv ⟨h, 0, none⟩ 1 1 [rv] hx (by simp) ?_ ?_ (by unfold maxLen; omega) (by omega) hb ?_
  · intro j z hj
    match j, hj with
    | 0, hj => simp at hj; subst hj; simpa [Addr.add] using hc
  · intro u hu; simp at hu; subst hu; exact h1
  · intro v' w' h1 h2 _
    exact hK v' w' h1 h2

/-- one event, read -/
theorem own_event {w : World} {base n : Nat} {v : Value} {es : List Ev6} (h : w.ownsRow base 137 6 v n (cellsE es)) (hn : es.length = n) {k : Nat} {e : Ev6} (hk : es[k]? = some e) :
    ∃ g cap, v = .slice (some ⟨g, 0, none⟩) n cap ∧ n ≤ cap ∧ cap ≤ maxLen ∧ g < w.heap.size ∧ w.cell? ⟨g, k * 6, none⟩ = some (.int .i64 e.t) ∧ w.cell? ⟨g, k * 6 + 1, none⟩ = some (.int .i64 e.k) ∧ w.cell? ⟨g, k * 6 + 2, none⟩ = some (.int .i64 e.b) ∧
      w.cell? ⟨g, k * 6 + 3, none⟩ = some (.int .i64 e.s) ∧ w.cell? ⟨g, k * 6 + 4, none⟩ = some (.int .i64 e.m) ∧ w.cell? ⟨g, k * 6 + 5, none⟩ = some (.float .f32 e.f) := by
  have hkn := (List.getElem?_eq_some_iff.1 hk).1
  rcases h.2 with ⟨_, h0⟩ | ⟨g, cap, cur, hv, hb, hg, hc, hm, hs, ht⟩
  · omega
  · subst hv
    have c : ∀ j, j < 6 → w.cell? ⟨g, k * 6 + j, none⟩ = e.cells[j]? := fun j hj => by
      have := h.cellAt (k * 6 + j) (by omega)
      rw [show k * 6 + j = 6 * k + j from by omega, cellsE_at es k j e hk hj, show 6 * k + j = k * 6 + j from by omega] at this
      exact this
    exact ⟨g, cap, rfl, by omega, hm, (h.lt g rfl).2, c 0 (by omega), c 1 (by omega), c 2 (by omega), c 3 (by omega), c 4 (by omega), c 5 (by omega)⟩

/-- append of one event -/
theorem step_append_event {ops : Array Oper} {o : Oper} {a : Act} {w : World} {K : Act → World → Prop} {Q : Exit → Act → World → Prop} {E : Prop} (hg : o.guard = none) (s x : Operand)
    (hop : o.op = Op.call { callee := Callee.builtin Builtin.append, args := #[s, x], argTypes := #[66, 66] }) (base n h : Nat) (v : Value) (ev : Ev6) (es : List Ev6) (hs : a.eval s = v) (hx : a.eval x = .slice (some ⟨h, 0, none⟩) 1 1)
    (hv : w.ownsRow base 137 6 v n (cellsE es)) (hc : ∀ (j : Nat) u, ev.cells[j]? = some u → w.cell? ⟨h, j, none⟩ = some u) (hn : n ≤ 1048576) (hb : base ≤ w.heap.size)
    (hK : ∀ v' w', w'.ownsRow base 137 6 v' (n + 1) (cellsE (es ++ [ev])) → w.grownBy w' v.ownBlock → K (a.put o.dst v') w') :
    if Region.wanted o (yielded ops a.tmps) = true then Oper.wp Tryz.prog o a w K Q else E := by
  have hw : Region.wanted o (yielded ops a.tmps) = true := by simp [Region.wanted, hg]
  rw [if_pos hw]
  obtain ⟨j0, hj, hy0, hy1, hy2⟩ := info_parts info_event
  refine wp_append_own w s x 66 hop base 137 j0 (.agg #[.int .i64 0, .int .i64 0, .int .i64 0, .int .i64 0, .int .i64 0, .float .f32 0]) 6 48 Tryz.underlying66 hj hy0 hy1 hy2 rfl (by decide) v n (cellsE es) hs hv ⟨h, 0, none⟩ 1 1 ev.cells hx (by simp [Ev6.cells]) ?_ ?_ (by unfold maxLen; omega) (by omega) hb ?_
  · intro j z hj
    rw [show (⟨h, 0, none⟩ : Addr).add j = ⟨h, j, none⟩ from by simp [Addr.add]; first | done | (intro e; omega)]
    exact hc j z hj
  · intro u hu
    simp [Ev6.cells] at hu
    rcases hu with rfl | rfl | rfl | rfl | rfl | rfl <;> rfl
  · intro v' w' h1 h2 _
    exact hK v' w' (by rw [cellsE_snoc]; exact h1) h2

def evV (t k b s m : Int) (f : Nat) : Value := .agg #[.int .i64 t, .int .i64 k, .int .i64 b, .int .i64 s, .int .i64 m, .float .f32 f]
/-- equality of numbers of single precision, as the language has it -/
def feq (x y : Nat) : Bool := FloatKind.f32.format.order x y == some .eq
theorem feq_self {x : Nat} (h : Sm x) : feq x x = true := by
  have o := Flo.order_num Ieee.single x x h h
  unfold feq
  rw [show FloatKind.f32.format = Ieee.single from rfl, beq_iff_eq]
  exact o.2.1.2 rfl
def Ev6.val (e : Ev6) : Value := evV e.t e.k e.b e.s e.m e.f
def Ev6.eqB (x y : Ev6) : Bool := x.t == y.t && (x.k == y.k && (x.b == y.b && (x.s == y.s && (x.m == y.m && feq x.f y.f))))
theorem Ev6.eqB_self {x : Ev6} (h : Sm x.f) : x.eqB x = true := by
  unfold Ev6.eqB
  rw [feq_self h]; simp
theorem eqlIn_f32 (w : World) (d : Nat) (x y : Nat) : (Op.equalIn (d + 1) 25 (.float .f32 x) (.float .f32 y)).run Tryz.prog w = .ok (feq x y) w := by
  have hu := Tryz.underlying25
  simp [Op.equalIn, run_underlying hu, feq, Op.floatEq]
theorem eqlIn_int (w : World) (d : Nat) (x y : Int) : (Op.equalIn (d + 1) 3 (.int .i64 x) (.int .i64 y)).run Tryz.prog w = .ok (x == y) w :=
  run_equalIn_int w d _ _ _ x y Tryz.underlying3
theorem eqFields_step {P : Program} {d : Nat} {xs ys : Array Value} {f : Field} {fs : List Field} {a b : Value} {r : Bool} {w : World} (hn : f.name ≠ "_") (h1 : (part f.type xs f.offset).run P w = .ok a w) (h2 : (part f.type ys f.offset).run P w = .ok b w)
    (h3 : (Op.equalIn d f.type a b).run P w = .ok r w) : (Op.eqFields d xs ys (f :: fs)).run P w = if r = true then (Op.eqFields d xs ys fs).run P w else .ok false w := by
  simp only [Op.eqFields, if_pos hn, Sem.run_bind, h1, h2, h3, Result.andThen_ok]
  cases r <;> simp
set_option maxRecDepth 100000 in
theorem eql_fields (w : World) (d : Nat) (t k b s m t' k' b' s' m' : Int) (f f' : Nat) :
    (Op.equalIn (d + 2) 137 (.agg #[.int .i64 t, .int .i64 k, .int .i64 b, .int .i64 s, .int .i64 m, .float .f32 f]) (.agg #[.int .i64 t', .int .i64 k', .int .i64 b', .int .i64 s', .int .i64 m', .float .f32 f'])).run Tryz.prog w
      = .ok (Ev6.eqB ⟨t, k, b, s, m, f⟩ ⟨t', k', b', s', m', f'⟩) w := by
  have hu := Tryz.underlying137
  have hh : Tryz.prog.stoodInHeld 137 = false := by kernel_rfl
  have hf : Tryz.prog.fieldsOf 137 = #[{ name := "At", type := 3, offset := 0, embedded := false, tag := "", pkgPath := "", byteOffset := 0 },
      { name := "Kind", type := 3, offset := 1, embedded := false, tag := "", pkgPath := "", byteOffset := 8 },
      { name := "Body", type := 3, offset := 2, embedded := false, tag := "", pkgPath := "", byteOffset := 16 },
      { name := "Shape", type := 3, offset := 3, embedded := false, tag := "", pkgPath := "", byteOffset := 24 },
      { name := "Count", type := 3, offset := 4, embedded := false, tag := "", pkgPath := "", byteOffset := 32 },
      { name := "Force", type := 25, offset := 5, embedded := false, tag := "", pkgPath := "", byteOffset := 40 }] := by unfold Program.fieldsOf; rw [hu]
  have a1 : ∀ (x y : Int) (w : World), (Op.equalIn (d + 1) 3 (.int .i64 x) (.int .i64 y)).run Tryz.prog w = .ok (x == y) w := fun x y w => eqlIn_int w d x y
  have a2 : ∀ (x y : Nat) (w : World), (Op.equalIn (d + 1) 25 (.float .f32 x) (.float .f32 y)).run Tryz.prog w = .ok (feq x y) w := fun x y w => eqlIn_f32 w d x y
  rw [run_equalIn_struct w (d + 1) _ _ _ (by rw [hf]; exact hu) hh, hf]
  refine (eqFields_step (by decide) (a := .int .i64 t) (b := .int .i64 t') rfl rfl (a1 _ _ _)).trans ?_
  unfold Ev6.eqB
  cases h0 : (t == t')
  · rfl
  refine (eqFields_step (by decide) (a := .int .i64 k) (b := .int .i64 k') rfl rfl (a1 _ _ _)).trans ?_
  cases h1 : (k == k')
  · rfl
  refine (eqFields_step (by decide) (a := .int .i64 b) (b := .int .i64 b') rfl rfl (a1 _ _ _)).trans ?_
  cases h2 : (b == b')
  · rfl
  refine (eqFields_step (by decide) (a := .int .i64 s) (b := .int .i64 s') rfl rfl (a1 _ _ _)).trans ?_
  cases h3 : (s == s')
  · rfl
  refine (eqFields_step (by decide) (a := .int .i64 m) (b := .int .i64 m') rfl rfl (a1 _ _ _)).trans ?_
  cases h4 : (m == m')
  · rfl
  refine (eqFields_step (by decide) (a := .float .f32 f) (b := .float .f32 f') rfl rfl (a2 _ _ _)).trans ?_
  cases h5 : feq f f'
  · rfl
  · rfl
theorem eql_event (w : World) (t k b s m t' k' b' s' m' : Int) (f f' : Nat) :
    (binOp .eql 137 (.agg #[.int .i64 t, .int .i64 k, .int .i64 b, .int .i64 s, .int .i64 m, .float .f32 f]) (.agg #[.int .i64 t', .int .i64 k', .int .i64 b', .int .i64 s', .int .i64 m', .float .f32 f'])).run Tryz.prog w
      = .ok (.bool (Ev6.eqB ⟨t, k, b, s, m, f⟩ ⟨t', k', b', s', m', f'⟩)) w := by
  rw [run_eql_struct, eql_fields w 9998]
  rfl
theorem neq_event (w : World) (t k b s m t' k' b' s' m' : Int) (f f' : Nat) :
    (binOp .neq 137 (.agg #[.int .i64 t, .int .i64 k, .int .i64 b, .int .i64 s, .int .i64 m, .float .f32 f]) (.agg #[.int .i64 t', .int .i64 k', .int .i64 b', .int .i64 s', .int .i64 m', .float .f32 f'])).run Tryz.prog w
      = .ok (.bool (!Ev6.eqB ⟨t, k, b, s, m, f⟩ ⟨t', k', b', s', m', f'⟩)) w := by
  rw [run_neq_struct, eql_fields w 9998]
  rfl

end Go.Proofs.YtnmjkjjmigiabaaGreatDoor

/- Texts of scores: plain (FnExactParseScore).
   Conditions: those that each statement names. -/
namespace Go.Proofs.YtnmjkjjmigiabaaGreatDoor
set_option linter.unusedSimpArgs false
set_option linter.unusedVariables false
open Go Go.RowKit

/-! ### events -/
def EvL (p : List UInt8) (e : Ev6) : Prop := EvT p e.t e.k e.b e.s e.m e.f
theorem intT_nl {p : List UInt8} {n : Int} (h : IntT p n) : 10 ∉ p := by
  obtain ⟨hn, rfl⟩ := h
  intro hm
  have hb : ∀ c ∈ byts (numL n), 45 ≤ c.toNat := by
    intro c hc
    have hd : ∀ c ∈ byts (dgs n.natAbs), 45 ≤ c.toNat := fun c hc => by have := (byts_dig n.natAbs (by omega) c hc).1; omega
    unfold numL at hc
    split at hc
    · rcases List.mem_cons.1 (show c ∈ 45 :: byts (dgs n.natAbs) from hc) with rfl | hc
      · decide
      · exact hd c hc
    · exact hd c hc
  have := hb _ hm
  revert this; decide
theorem words_nl {l : List UInt8} {w : List UInt8} {ws : List (List UInt8)} (h : spl 32 l = w :: ws) (hw : ∀ p ∈ w :: ws, 10 ∉ p) : 10 ∉ l := by
  rw [spl_join h]
  intro hm
  rcases List.mem_append.1 hm with hm | hm
  · exact hw w List.mem_cons_self hm
  · obtain ⟨q, hq, hm⟩ := List.mem_flatten.1 hm
    obtain ⟨t, ht, rfl⟩ := List.mem_map.1 hq
    rcases List.mem_cons.1 hm with h | hm
    · revert h; decide
    · exact hw t (List.mem_cons_of_mem _ ht) hm
theorem evT_nl {p : List UInt8} {a k b s n : Int} {f : Nat} (h : EvT p a k b s n f) : 10 ∉ p := by
  rcases h with ⟨t1, t2, t3, t4, t5, e, x1, -, x3, x4, x5, x6⟩ | ⟨t1, t2, t3, e, x1, -, x3, -, -, x6⟩ | ⟨t1, t2, e, x1, -, x3, -⟩
  all_goals
    refine words_nl e (fun q hq => ?_)
    simp only [List.mem_cons, List.not_mem_nil, or_false] at hq
  · rcases hq with rfl | rfl | rfl | rfl | rfl | rfl | rfl
    · decide
    · exact intT_nl x1
    · decide
    · exact intT_nl x3
    · exact intT_nl x4
    · exact intT_nl x5
    · exact txS_K.nl x6
  · rcases hq with rfl | rfl | rfl | rfl | rfl
    · decide
    · exact intT_nl x1
    · decide
    · exact intT_nl x3
    · exact txS_K.nl x6
  · rcases hq with rfl | rfl | rfl | rfl
    · decide
    · exact intT_nl x1
    · decide
    · exact intT_nl x3
theorem ev6_ext {x y : Ev6} (h1 : x.t = y.t) (h2 : x.k = y.k) (h3 : x.b = y.b) (h4 : x.s = y.s) (h5 : x.m = y.m) (h6 : x.f = y.f) : x = y := by
  cases x; cases y; simp at *; exact ⟨h1, h2, h3, h4, h5, h6⟩
theorem evL_K : LnK EvL where
  val h k := by
    obtain ⟨h1, h2, h3, h4, h5, h6⟩ := evT_val h k
    exact ev6_ext h1 h2 h3 h4 h5 h6
  nl h := evT_nl h
theorem intT_txt {p q : List UInt8} {n : Int} (h : IntT p n) (k : IntT q n) : p = q := by rw [h.2, k.2]
theorem evT_txt {l l' : List UInt8} {a k b s n : Int} {f : Nat} (h : EvT l a k b s n f) (h' : EvT l' a k b s n f) : l = l' := by
  rcases h with ⟨t1, t2, t3, t4, t5, e, x1, x2, x3, x4, x5, x6⟩ | ⟨t1, t2, t3, e, x1, x2, x3, x4, x5, x6⟩ | ⟨t1, t2, e, x1, x2, x3, x4, x5, x6⟩
  all_goals
    rcases h' with ⟨u1, u2, u3, u4, u5, e', y1, y2, y3, y4, y5, y6⟩ | ⟨u1, u2, u3, e', y1, y2, y3, y4, y5, y6⟩ | ⟨u1, u2, e', y1, y2, y3, y4, y5, y6⟩
  all_goals first | (rw [x2] at y2; exact absurd y2 (by decide)) | skip
  · rw [spl_join e, spl_join e', intT_txt x1 y1, intT_txt x3 y3, intT_txt x4 y4, intT_txt x5 y5, txS_K.txt x6 y6]
  · rw [spl_join e, spl_join e', intT_txt x1 y1, intT_txt x3 y3, txS_K.txt x6 y6]
  · rw [spl_join e, spl_join e', intT_txt x1 y1, intT_txt x3 y3]
theorem headT_nl {p : List UInt8} {L V : Int} {c r : Nat} (h : HeadT p L V c r) : 10 ∉ p := by
  obtain ⟨t1, t2, t3, t4, e, x1, x2, x3, x4⟩ := h
  refine words_nl e (fun q hq => ?_)
  simp only [List.mem_cons, List.not_mem_nil, or_false] at hq
  rcases hq with rfl | rfl | rfl | rfl | rfl
  · decide
  · exact intT_nl x1
  · exact intT_nl x2
  · exact txS_K.nl x3
  · exact txS_K.nl x4
theorem headT_val {p : List UInt8} {L V L' V' : Int} {c r c' r' : Nat} (h : HeadT p L V c r) (h' : HeadT p L' V' c' r') : L = L' ∧ V = V' ∧ c = c' ∧ r = r' := by
  obtain ⟨t1, t2, t3, t4, e, x1, x2, x3, x4⟩ := h
  obtain ⟨u1, u2, u3, u4, e', y1, y2, y3, y4⟩ := h'
  rw [e] at e'
  simp at e'
  obtain ⟨rfl, rfl, rfl, rfl⟩ := e'
  exact ⟨intT_val x1 y1, intT_val x2 y2, txS_K.val x3 y3, txS_K.val x4 y4⟩
theorem headT_txt {p q : List UInt8} {L V : Int} {c r : Nat} (h : HeadT p L V c r) (h' : HeadT q L V c r) : p = q := by
  obtain ⟨t1, t2, t3, t4, e, x1, x2, x3, x4⟩ := h
  obtain ⟨u1, u2, u3, u4, e', y1, y2, y3, y4⟩ := h'
  rw [spl_join e, spl_join e', intT_txt x1 y1, intT_txt x2 y2, txS_K.txt x3 y3, txS_K.txt x4 y4]

/-! ### the kinds of lines -/
def wBody : List UInt8 := [98, 111, 100, 121]
def isW (x p : List UInt8) : Bool := (spl 32 p).head? == some x
theorem isW_ev {p : List UInt8} {e : Ev6} (h : EvL p e) (x : List UInt8) (hx : x ≠ wAt) : isW x p = false := by
  unfold isW
  rcases h with ⟨t1, t2, t3, t4, t5, e, -⟩ | ⟨t1, t2, t3, e, -⟩ | ⟨t1, t2, e, -⟩
  all_goals
    rw [e]
    simpa using fun h => hx h.symm
theorem isW_mode {p : List UInt8} {m : M4} (h : LineM p m) (x : List UInt8) : isW x p = (wMode == x) := by
  obtain ⟨ts, e, -⟩ := h
  unfold isW
  rw [e]
  rfl
theorem isW_head {p : List UInt8} {L V : Int} {c r : Nat} (h : HeadT p L V c r) (x : List UInt8) : isW x p = (wScore == x) := by
  obtain ⟨t1, t2, t3, t4, e, -⟩ := h
  unfold isW
  rw [e]
  rfl
theorem spl_body : spl 32 wBody = [wBody] := by decide
theorem isW_body (x : List UInt8) : isW x wBody = (wBody == x) := by
  unfold isW
  rw [spl_body]
  rfl
theorem body_mode (m : M4) : ¬ LineM wBody m := fun h => by
  have := isW_mode h wMode
  rw [isW_body] at this
  revert this; decide
theorem body_ev (e : Ev6) : ¬ EvL wBody e := fun h => by
  have := isW_ev h wBody (by decide)
  rw [isW_body] at this
  revert this; decide
theorem ev_mode {p : List UInt8} {e : Ev6} (h : EvL p e) (m : M4) : ¬ LineM p m := fun k => by
  have := isW_ev h wMode (by decide)
  rw [isW_mode k] at this
  revert this; decide
theorem body_nl : (10 : UInt8) ∉ wBody := by decide

/-! ### scores -/
/-- the lines of bodies -/
def BodL : List (List M4) → List (List UInt8) → Prop
  | [], ls => ls = []
  | ms :: bs, ls => ∃ ps rs, All2 LineM ps ms ∧ BodL bs rs ∧ ls = wBody :: (ps ++ rs)
structure Sco where
  L : Int
  V : Int
  C : Nat
  R : Nat
  bs : List (List M4)
  es : List Ev6
def TextS (l : List UInt8) (s : Sco) : Prop := ∃ h ls qs, HeadT h s.L s.V s.C s.R ∧ BodL s.bs ls ∧ All2 EvL qs s.es ∧ l = glueC 10 (h :: (ls ++ qs))
theorem bodL_nl {bs : List (List M4)} {ls : List (List UInt8)} (h : BodL bs ls) : ∀ p ∈ ls, 10 ∉ p := by
  induction bs generalizing ls with
  | nil => cases h; simp
  | cons ms bs ih =>
    obtain ⟨ps, rs, a, b, rfl⟩ := h
    intro p hp
    rcases List.mem_cons.1 hp with rfl | hp
    · exact body_nl
    · rcases List.mem_append.1 hp with hp | hp
      · exact a.clean lineM_K p hp
      · exact ih b p hp
theorem bodL_txt {bs : List (List M4)} {ls ls' : List (List UInt8)} (h : BodL bs ls) (k : BodL bs ls') : ls = ls' := by
  induction bs generalizing ls ls' with
  | nil => rw [show ls = [] from h, show ls' = [] from k]
  | cons ms bs ih =>
    obtain ⟨ps, rs, a, b, rfl⟩ := h
    obtain ⟨ps', rs', a', b', rfl⟩ := k
    rw [All2.left (R := LineM) (fun _ _ _ h k => LineT.txt txS_K h k) a a', ih b b']
theorem bodL_snoc {bs : List (List M4)} {ls ps : List (List UInt8)} {ms : List M4} (h : BodL bs ls) (a : All2 LineM ps ms) : BodL (bs ++ [ms]) (ls ++ wBody :: ps) := by
  induction bs generalizing ls with
  | nil => cases h; exact ⟨ps, [], a, rfl, by simp⟩
  | cons m bs ih =>
    obtain ⟨qs, rs, a', b, rfl⟩ := h
    exact ⟨qs, _, a', ih b, by simp⟩
theorem textS_txt {l l' : List UInt8} {s : Sco} (h : TextS l s) (k : TextS l' s) : l = l' := by
  obtain ⟨h1, ls, qs, a1, a2, a3, rfl⟩ := h
  obtain ⟨h1', ls', qs', b1, b2, b3, rfl⟩ := k
  rw [headT_txt a1 b1, bodL_txt a2 b2, All2.left (R := EvL) (fun _ _ _ h k => evT_txt h k) a3 b3]
/-- behind a body's modes there stands no mode -/
theorem tail_stop {bs : List (List M4)} {ls qs : List (List UInt8)} {es : List Ev6} (h : BodL bs ls) (k : All2 EvL qs es) : glueC 10 (ls ++ qs) = [] ∨ Stop LineM (glueC 10 (ls ++ qs)) := by
  cases bs with
  | nil =>
    cases h
    cases qs with
    | nil => left; rfl
    | cons q qs =>
      cases es with
      | nil => exact k.elim
      | cons e es => exact .inr ⟨q, glueC 10 qs, by simp [glueC], evT_nl k.1, fun m => ev_mode k.1 m⟩
  | cons ms bs =>
    obtain ⟨ps, rs, a, b, rfl⟩ := h
    exact .inr ⟨wBody, glueC 10 ((ps ++ rs) ++ qs), by simp [glueC], body_nl, body_mode⟩
theorem no_body {qs : List (List UInt8)} {es : List Ev6} {t : List UInt8} (k : All2 EvL qs es) : glueC 10 qs ≠ wBody ++ 10 :: t := by
  intro e
  cases qs with
  | nil => simp [glueC] at e
  | cons q qs =>
    cases es with
    | nil => exact k.elim
    | cons x es =>
      have e2 : q ++ 10 :: glueC 10 qs = wBody ++ 10 :: t := by rw [← e]; simp [glueC]
      obtain ⟨e3, -⟩ := cutC e2 (evT_nl k.1) body_nl
      subst e3
      exact body_ev x k.1
theorem glueE_val {qs qs' : List (List UInt8)} {es es' : List Ev6} (h : All2 EvL qs es) (k : All2 EvL qs' es') (e : glueC 10 qs = glueC 10 qs') : es = es' :=
  LinesT.val evL_K ⟨qs, h, rfl⟩ ⟨qs', k, e⟩
theorem tail_val {bs bs' : List (List M4)} {ls ls' qs qs' : List (List UInt8)} {es es' : List Ev6} (h : BodL bs ls) (h' : BodL bs' ls') (k : All2 EvL qs es) (k' : All2 EvL qs' es') (e : glueC 10 (ls ++ qs) = glueC 10 (ls' ++ qs')) : bs = bs' ∧ es = es' := by
  induction bs generalizing bs' ls ls' with
  | nil =>
    cases h
    cases bs' with
    | nil => cases h'; exact ⟨rfl, glueE_val k k' e⟩
    | cons ms bs' =>
      obtain ⟨ps, rs, a, b, rfl⟩ := h'
      exact absurd (show glueC 10 qs = wBody ++ 10 :: glueC 10 ((ps ++ rs) ++ qs') from by rw [← List.nil_append qs, e]; simp [glueC]) (no_body k)
  | cons ms bs ih =>
    obtain ⟨ps, rs, a, b, rfl⟩ := h
    cases bs' with
    | nil =>
      cases h'
      exact absurd (show glueC 10 qs' = wBody ++ 10 :: glueC 10 ((ps ++ rs) ++ qs) from by rw [← List.nil_append qs', ← e]; simp [glueC]) (no_body k')
    | cons ms' bs' =>
      obtain ⟨ps', rs', a', b', rfl⟩ := h'
      have e2 : wBody ++ 10 :: (glueC 10 ps ++ glueC 10 (rs ++ qs)) = wBody ++ 10 :: (glueC 10 ps' ++ glueC 10 (rs' ++ qs')) := by
        have h1 : ∀ (x y z : List (List UInt8)), glueC 10 ((wBody :: (x ++ y)) ++ z) = wBody ++ 10 :: (glueC 10 x ++ glueC 10 (y ++ z)) := fun x y z => by simp [glueC]
        rw [← h1, ← h1, e]
      obtain ⟨-, e3⟩ := cutC e2 body_nl body_nl
      obtain ⟨e4, e5⟩ := read_split lineM_K (most := ms'.length) (k := 0) a a' e3 (by rcases tail_stop b k with h | h; exact .inr (.inl (by rw [h]; simp)); exact .inr (.inr h)) (by simp) (tail_stop b' k')
      obtain ⟨e6, e7⟩ := ih b b' e5
      exact ⟨by rw [e4, e6], e7⟩
theorem textS_val {l : List UInt8} {s s' : Sco} (h : TextS l s) (k : TextS l s') : s = s' := by
  obtain ⟨h1, ls, qs, a1, a2, a3, rfl⟩ := h
  obtain ⟨h1', ls', qs', b1, b2, b3, e⟩ := k
  rw [glue_cons' , glue_cons'] at e
  obtain ⟨rfl, e2⟩ := cutC e (headT_nl a1) (headT_nl b1)
  obtain ⟨c1, c2⟩ := tail_val a2 b2 a3 b3 e2
  obtain ⟨d1, d2, d3, d4⟩ := headT_val a1 b1
  cases s; cases s'
  simp at *
  exact ⟨d1, d2, d3, d4, c1, c2⟩
where
  glue_cons' {p : List UInt8} {ps : List (List UInt8)} : glueC 10 (p :: ps) = p ++ 10 :: glueC 10 ps := by simp [glueC]
end Go.Proofs.YtnmjkjjmigiabaaGreatDoor

/- What the program reads of a score's text: plain (FnExactParseScore).
   Conditions: those that each statement names. -/
namespace Go.Proofs.YtnmjkjjmigiabaaGreatDoor
set_option linter.unusedSimpArgs false
set_option linter.unusedVariables false
open Go Go.RowKit

/-- a line that the program reads as an event -/
def EvR (p : List UInt8) (e : Ev6) : Prop := 10 ∉ p ∧ EvG e.k e.s e.m e.f ∧ (EvL p e ∨ ((10 ^ 16 ≤ e.t.natAbs ∨ 10 ^ 16 ≤ e.b.natAbs ∨ 10 ^ 16 ≤ e.s.natAbs ∨ 10 ^ 16 ≤ e.m.natAbs) ∧ ∀ x, ¬ EvL p x))
theorem evR_val {p : List UInt8} {e x : Ev6} (h : EvR p e) (k : EvL p x) : e = x := by
  rcases h.2.2 with h | h
  · exact evL_K.val h k
  · exact absurd k (h.2 x)
theorem sm_TxS {p : List UInt8} {f : Nat} (h : TxS p f) : Sm f ∧ f < 4294967296 := ⟨h.2.1, h.1⟩
theorem evL_G {p : List UInt8} {x : Ev6} (h : EvL p x) : EvG x.k x.s x.m x.f := by
  rcases h with ⟨t1, t2, t3, t4, t5, e, x1, x2, x3, x4, x5, x6⟩ | ⟨t1, t2, t3, e, x1, x2, x3, x4, x5, x6⟩ | ⟨t1, t2, e, x1, x2, x3, x4, x5, x6⟩
  · exact ⟨sm_TxS x6, .inl x2⟩
  · exact ⟨sm_TxS x6, .inr (.inl ⟨x2, x4, x5⟩)⟩
  · exact ⟨by rw [x6]; exact ⟨sm_zero0, by decide⟩, .inr (.inr ⟨x2, x4, x5, x6⟩)⟩
theorem evL_R {p : List UInt8} {x : Ev6} (h : EvL p x) : EvR p x := ⟨evT_nl h, evL_G h, .inl h⟩
def ReadE (l : List UInt8) (ms : List Ev6) (r : List UInt8) : Prop :=
  ∃ ps, All2 EvR ps ms ∧ l = glueC 10 ps ++ r ∧ ms.length ≤ 60 ∧ (ms.length = 60 ∨ 10 ∉ r ∨ ∃ p q, r = p ++ 10 :: q ∧ 10 ∉ p ∧ ∀ m, ¬ EvL p m)
/-- what is read of a text of events: these, to its end -/
theorem read_ev {most : Nat} : ∀ {ps qs : List (List UInt8)} {ms ns : List Ev6} {r : List UInt8} {k : Nat}, All2 EvR ps ms → All2 EvL qs ns → glueC 10 ps ++ r = glueC 10 qs →
    (ms.length + k = most ∨ 10 ∉ r ∨ Stop EvL r) → ns.length + k ≤ most → ms = ns ∧ r = []
  | [], [], [], [], r, k, _, _, he, _, _ => ⟨rfl, by simpa [glueC] using he⟩
  | [], q :: qs, [], n :: ns, r, k, _, h2, he, hs, hl => by
    have he : r = q ++ 10 :: glueC 10 qs := by simpa [glueC] using he
    rcases hs with h | h | ⟨p, t, e, hp, hno⟩
    · simp at h hl; omega
    · exact absurd (by rw [he]; simp) h
    · rw [e] at he
      obtain ⟨e1, -⟩ := cutC he hp (evL_K.nl h2.1)
      subst e1
      exact absurd h2.1 (hno n)
  | p :: ps, [], m :: ms, [], r, k, h1, _, he, _, _ => by
    rw [glue_cons] at he
    simp [glueC] at he
  | p :: ps, q :: qs, m :: ms, n :: ns, r, k, h1, h2, he, hs, hl => by
    have he : p ++ 10 :: (glueC 10 ps ++ r) = q ++ 10 :: glueC 10 qs := by rw [← glue_cons, he]; simp [glueC]
    obtain ⟨e1, e2⟩ := cutC he h1.1.1 (evL_K.nl h2.1)
    subst e1
    obtain ⟨f1, f2⟩ := read_ev (most := most) (k := k + 1) h1.2 h2.2 e2 (by rcases hs with h | h; exact .inl (by simp at h; omega); exact .inr h) (by simp at hl; omega)
    exact ⟨by rw [evR_val h1.1 h2.1, f1], f2⟩
  | [], _, _ :: _, _, _, _, h, _, _, _, _ => h.elim
  | _ :: _, _, [], _, _, _, h, _, _, _, _ => h.elim
  | [], [], [], _ :: _, _, _, _, h, _, _, _ => h.elim
  | [], _ :: _, [], [], _, _, _, h, _, _, _ => h.elim
  | _ :: _, [], _ :: _, _ :: _, _, _, _, h, _, _, _ => h.elim
  | _ :: _, _ :: _, _ :: _, [], _, _, _, h, _, _, _ => h.elim

/-! ### bodies -/
inductive BdR (l : List UInt8) : List (List M4) → List UInt8 → Prop where
  | nil : BdR l [] l
  | snoc {bs : List (List M4)} {t t1 r : List UInt8} {ms : List M4} : BdR l bs t → t = wBody ++ 10 :: t1 → ReadT LineM 16 t1 ms r → BdR l (bs ++ [ms]) r
theorem bdR_text {l t : List UInt8} {bs : List (List M4)} (h : BdR l bs t) : ∃ ls, BodL bs ls ∧ l = glueC 10 ls ++ t := by
  induction h with
  | nil => exact ⟨[], rfl, rfl⟩
  | snoc h e k ih =>
    obtain ⟨ls, a, b⟩ := ih
    obtain ⟨ps, c1, f1, -, -⟩ := k
    exact ⟨_, bodL_snoc a c1, by rw [b, e, f1, glue_app]; simp [glueC]⟩
theorem bdR_len {l t : List UInt8} {bs : List (List M4)} (h : BdR l bs t) : ∀ ms ∈ bs, ms.length ≤ 16 ∧ ∀ m ∈ ms, m.Fin ∧ m.bits := by
  induction h with
  | nil => simp
  | snoc h e k ih =>
    intro ms hm
    rcases List.mem_append.1 hm with hm | hm
    · exact ih ms hm
    · simp at hm
      subst hm
      obtain ⟨ps, c1, f1, d1, -⟩ := k
      exact ⟨d1, fun m hm => by obtain ⟨p, hp⟩ := c1.memr m hm; exact lineM_fin hp⟩
theorem bdR_read {l t : List UInt8} {bs bs' : List (List M4)} {ls qs : List (List UInt8)} {es : List Ev6} (h : BdR l bs t) (a : BodL bs' ls) (k : All2 EvL qs es) (h16 : ∀ ms ∈ bs', ms.length ≤ 16) (e : l = glueC 10 (ls ++ qs)) :
    ∃ rs l1, BodL rs l1 ∧ bs' = bs ++ rs ∧ t = glueC 10 (l1 ++ qs) := by
  induction h with
  | nil => exact ⟨bs', ls, a, rfl, e⟩
  | @snoc bs t t1 r ms h e1 hr ih =>
    obtain ⟨rs, l1, b1, b2, b3⟩ := ih
    cases rs with
    | nil =>
      cases b1
      exact absurd (b3.symm.trans e1) (no_body k)
    | cons ms' rs =>
      obtain ⟨ps, r1, c1, c2, rfl⟩ := b1
      have e2 : wBody ++ 10 :: (glueC 10 ps ++ glueC 10 (r1 ++ qs)) = wBody ++ 10 :: t1 := by
        rw [← e1, b3]; simp [glueC]
      obtain ⟨-, e3⟩ := cutC e2 body_nl body_nl
      obtain ⟨ps', d1, d2, d3, d4⟩ := hr
      obtain ⟨e4, e5⟩ := read_split lineM_K (most := 16) (k := 0) d1 c1 (d2.symm.trans e3.symm) (by rcases d4 with h | h | h; exact .inl h; exact .inr (.inl h); exact .inr (.inr h)) (by have := h16 ms' (by rw [b2]; simp); simpa using this) (tail_stop c2 k)
      subst e4
      exact ⟨rs, r1, c2, by rw [b2]; simp, e5⟩
/-- the bodies are read to their end -/
def BdE (l : List UInt8) (bs : List (List M4)) (t : List UInt8) : Prop := BdR l bs t ∧ bs.length ≤ 8 ∧ (bs.length = 8 ∨ 10 ∉ t ∨ ∃ p q, t = p ++ 10 :: q ∧ 10 ∉ p ∧ p ≠ wBody)
theorem bdE_read {l t : List UInt8} {bs bs' : List (List M4)} {ls qs : List (List UInt8)} {es : List Ev6} (h : BdE l bs t) (a : BodL bs' ls) (k : All2 EvL qs es) (h16 : ∀ ms ∈ bs', ms.length ≤ 16) (h8 : bs'.length ≤ 8) (e : l = glueC 10 (ls ++ qs)) :
    bs = bs' ∧ t = glueC 10 qs := by
  obtain ⟨h1, h2, h3⟩ := h
  obtain ⟨rs, l1, b1, b2, b3⟩ := bdR_read h1 a k h16 e
  cases rs with
  | nil =>
    cases b1
    exact ⟨by rw [b2]; simp, b3⟩
  | cons ms rs =>
    exfalso
    obtain ⟨ps, r1, c1, c2, rfl⟩ := b1
    have e2 : t = wBody ++ 10 :: glueC 10 ((ps ++ r1) ++ qs) := by rw [b3]; simp [glueC]
    rcases h3 with h | h | ⟨p, q, e3, hp, hne⟩
    · rw [b2] at h8; simp at h8; omega
    · exact h (by rw [e2]; simp)
    · rw [e3] at e2
      obtain ⟨e4, -⟩ := cutC e2 hp body_nl
      exact hne e4
/-- what is read of a score's text, whole -/
structure RdS (p q mid r : List UInt8) (s : Sco) : Prop where
  nl : 10 ∉ p
  hd : HeadT p s.L s.V s.C s.R ∨ (10 ^ 16 ≤ s.L.natAbs ∨ 10 ^ 16 ≤ s.V.natAbs) ∧ ∀ L V c r, ¬ HeadT p L V c r
  bd : BdE q s.bs mid
  ev : ReadE mid s.es r
theorem rdS_good {p q mid r : List UInt8} {s s' : Sco} (h : RdS p q mid r s) (k : TextS (p ++ 10 :: q) s') (h16 : ∀ ms ∈ s'.bs, ms.length ≤ 16) (h8 : s'.bs.length ≤ 8) (h60 : s'.es.length ≤ 60) : s = s' ∧ r = [] := by
  obtain ⟨h1, ls, qs, a1, a2, a3, e⟩ := k
  have e : p ++ 10 :: q = h1 ++ 10 :: glueC 10 (ls ++ qs) := by rw [e]; simp [glueC]
  obtain ⟨rfl, e2⟩ := cutC e h.nl (headT_nl a1)
  obtain ⟨b1, b2⟩ := bdE_read h.bd a2 a3 h16 h8 e2
  obtain ⟨ps, c1, c2, c3, c4⟩ := h.ev
  obtain ⟨d1, d2⟩ := read_ev (most := 60) (k := 0) c1 a3 (by rw [← c2, b2]) (by rcases c4 with h | h | h; exact .inl h; exact .inr (.inl h); exact .inr (.inr h)) (by simpa using h60)
  rcases h.hd with g | g
  · obtain ⟨f1, f2, f3, f4⟩ := headT_val g a1
    refine ⟨?_, d2⟩
    cases s; cases s'
    simp at *
    exact ⟨f1, f2, f3, f4, b1, d1⟩
  · exact absurd a1 (g.2 _ _ _ _)
/-- and what was read to its end, is the score of the text, unless a number is out of bounds -/
theorem rdS_text {p q mid : List UInt8} {s : Sco} (h : RdS p q mid [] s) (hL : s.L.natAbs < 10 ^ 16) (hV : s.V.natAbs < 10 ^ 16) (he : ∀ e ∈ s.es, e.t.natAbs < 10 ^ 16 ∧ e.b.natAbs < 10 ^ 16 ∧ e.s.natAbs < 10 ^ 16 ∧ e.m.natAbs < 10 ^ 16) : TextS (p ++ 10 :: q) s := by
  obtain ⟨ls, a, b⟩ := bdR_text h.bd.1
  obtain ⟨ps, c1, c2, -, -⟩ := h.ev
  refine ⟨p, ls, ps, ?_, a, c1.imp (fun x e hx k => ?_), ?_⟩
  · rcases h.hd with g | g
    · exact g
    · omega
  · rcases k.2.2 with k | k
    · exact k
    · have := he e hx; omega
  · rw [b, c2]; simp [glueC]
end Go.Proofs.YtnmjkjjmigiabaaGreatDoor

/- Bodies in memory whose modes lie apart (FnExactParseScore).
   Conditions: those that each statement names. -/
namespace Go.Proofs.YtnmjkjjmigiabaaGreatDoor
set_option linter.unusedSimpArgs false
set_option linter.unusedVariables false
open Go Go.RowKit

/-- rows that lie apart -/
def Apt (vs : List Value) : Prop := ∀ (i j : Nat) v u, i < j → vs[i]? = some v → vs[j]? = some u → v.ownBlock = none ∨ v.ownBlock ≠ u.ownBlock
/-- bodies whose modes lie apart, below N -/
def BodsN (w : World) (base N : Nat) (sv : Value) (bs : List (List M4)) : Prop :=
  ∃ vs : List Value, w.ownsRow base 38 1 sv bs.length vs ∧ (∀ (p : Nat) ms, bs[p]? = some ms → ∃ v, vs[p]? = some v ∧ w.ownsRow base 93 2 v ms.length (cellsM ms)) ∧ Apt vs ∧ ∀ (p : Nat) v, vs[p]? = some v → ∀ q, v.ownBlock = some q → q < N
theorem BodsN.r {w : World} {base N : Nat} {sv : Value} {bs : List (List M4)} (h : BodsN w base N sv bs) : BodsR w base sv bs := by
  obtain ⟨vs, h1, h2, -⟩ := h
  exact ⟨vs, h1, h2⟩
theorem BodsN.nil (w : World) (base N : Nat) : BodsN w base N (.slice none 0 0) [] := ⟨[], World.ownsRow_nil _ _ _ _, fun p r h => by simp at h, fun i j v u _ h => by simp at h, fun p v h => by simp at h⟩
theorem BodsN.nw {w w' : World} {base N : Nat} {sv : Value} {bs : List (List M4)} (h : BodsN w base N sv bs) (hk : Nw w w') : BodsN w' base N sv bs := by
  obtain ⟨vs, h1, h2, h3⟩ := h
  exact ⟨vs, own_nw h1 hk, fun p r hp => by obtain ⟨v, a, b⟩ := h2 p r hp; exact ⟨v, a, own_nw b hk⟩, h3⟩
theorem BodsN.le {w : World} {base N N' : Nat} {sv : Value} {bs : List (List M4)} (h : BodsN w base N sv bs) (hb : N ≤ N') : BodsN w base N' sv bs := by
  obtain ⟨vs, h1, h2, h3, h4⟩ := h
  exact ⟨vs, h1, h2, h3, fun p v hv q hq => Nat.lt_of_lt_of_le (h4 p v hv q hq) hb⟩
theorem BodsN.base {w : World} {base b' N : Nat} {sv : Value} {bs : List (List M4)} (h : BodsN w base N sv bs) (hb : b' ≤ base) : BodsN w b' N sv bs := by
  obtain ⟨vs, h1, h2, h3⟩ := h
  exact ⟨vs, own_base h1 hb, fun p r hp => by obtain ⟨v, a, b⟩ := h2 p r hp; exact ⟨v, a, own_base b hb⟩, h3⟩
theorem BodsN.set {w : World} {base N : Nat} {sv : Value} {bs : List (List M4)} (h : BodsN w base N sv bs) {p : Addr} (hp : p.block < base) (u : Value) : BodsN (w.setCell p u) base N sv bs := by
  obtain ⟨vs, h1, h2, h3⟩ := h
  exact ⟨vs, own_set h1 hp u, fun p r hp' => by obtain ⟨v, a, b⟩ := h2 p r hp'; exact ⟨v, a, own_set b hp u⟩, h3⟩
/-- a row of another type grows: the bodies stay -/
theorem BodsN.grown {w w' : World} {base N b2 : Nat} {E : TypeId} {size n : Nat} {v sv : Value} {xs : List Value} {bs : List (List M4)} (h : BodsN w base N sv bs) (hr : w.ownsRow b2 E size v n xs) (h1 : 38 ≠ E) (h2 : 93 ≠ E) (hg : w.grownBy w' v.ownBlock) : BodsN w' base N sv bs := by
  obtain ⟨vs, k1, k2, k3⟩ := h
  exact ⟨vs, k1.kept hg (rows_apart k1 hr h1), fun p r hp => by obtain ⟨v, a, b⟩ := k2 p r hp; exact ⟨v, a, b.kept hg (rows_apart b hr h2)⟩, k3⟩
/-- a body behind the others, made behind them -/
theorem BodsN.snoc {w w' : World} {base N b2 : Nat} {sv sv' rv : Value} {bs : List (List M4)} {vs : List Value} {ms : List M4} (ho : w.ownsRow base 38 1 sv bs.length vs)
    (hi : ∀ (p : Nat) r, bs[p]? = some r → ∃ v, vs[p]? = some v ∧ w.ownsRow base 93 2 v r.length (cellsM r)) (ha : Apt vs) (hN : ∀ (p : Nat) v, vs[p]? = some v → ∀ q, v.ownBlock = some q → q < N)
    (hr : w.ownsRow b2 93 2 rv ms.length (cellsM ms)) (hb : base ≤ b2) (hNb : N ≤ b2)
    (hn : w'.ownsRow base 38 1 sv' (bs.length + 1) (vs ++ [rv])) (hg : w.grownBy w' sv.ownBlock) (hN2 : b2 ≤ w.heap.size) : BodsN w' base w.heap.size sv' (bs ++ [ms]) := by
  have hv : vs.length = bs.length := by have := ho.1; omega
  have hlt : ∀ q, rv.ownBlock = some q → b2 ≤ q ∧ q < w.heap.size := fun q hq => ⟨own_ge hr q hq, (hr.lt q hq).2⟩
  refine ⟨vs ++ [rv], by rw [List.length_append]; exact hn, fun p r' hp => ?_, fun i j v u hij h1 h2 => ?_, fun p v hp q hq => ?_⟩
  · by_cases h : p < bs.length
    · rw [List.getElem?_append_left h] at hp
      obtain ⟨v, b, c⟩ := hi p r' hp
      exact ⟨v, by rw [List.getElem?_append_left (by omega)]; exact b, c.kept hg (rows_apart c ho (by decide))⟩
    · have h2 := (List.getElem?_eq_some_iff.1 hp).1
      rw [List.length_append] at h2
      obtain rfl : p = bs.length := by simp at h2; omega
      rw [List.getElem?_append_right (Nat.le_refl _), Nat.sub_self] at hp
      simp at hp
      subst hp
      exact ⟨rv, by rw [← hv, List.getElem?_append_right (Nat.le_refl _), Nat.sub_self]; rfl, own_base (hr.kept hg (rows_apart hr ho (by decide))) hb⟩
  · have hjl := (List.getElem?_eq_some_iff.1 h2).1
    simp at hjl
    by_cases hj : j < vs.length
    · rw [List.getElem?_append_left hj] at h2
      rw [List.getElem?_append_left (by omega)] at h1
      exact ha i j v u hij h1 h2
    · obtain rfl : j = vs.length := by omega
      rw [List.getElem?_append_right (Nat.le_refl _), Nat.sub_self] at h2
      simp at h2
      subst h2
      rw [List.getElem?_append_left hij] at h1
      cases hvb : v.ownBlock with
      | none => exact .inl rfl
      | some q =>
        right
        intro e
        have a1 := hN i v h1 q hvb
        have a2 := (hlt q e.symm).1
        omega
  · by_cases h : p < vs.length
    · rw [List.getElem?_append_left h] at hp
      have := hN p v hp q hq
      omega
    · have h2 := (List.getElem?_eq_some_iff.1 hp).1
      simp at h2
      obtain rfl : p = vs.length := by omega
      rw [List.getElem?_append_right (Nat.le_refl _), Nat.sub_self] at hp
      simp at hp
      subst hp
      exact (hlt q hq).2

/-! ### bodies of which the last one grows -/
def BodsI (w : World) (base : Nat) (sv : Value) (bs : List (List M4)) : Prop :=
  ∃ (vs : List Value) (N : Nat), base ≤ N ∧ N ≤ w.heap.size ∧ w.ownsRow base 38 1 sv bs.length vs ∧
    ∀ (p : Nat) ms, bs[p]? = some ms → ∃ v, vs[p]? = some v ∧ w.ownsRow base 93 2 v ms.length (cellsM ms) ∧ (p + 1 < bs.length → ∀ q, v.ownBlock = some q → q < N) ∧ (p + 1 = bs.length → w.ownsRow N 93 2 v ms.length (cellsM ms))
theorem BodsI.r {w : World} {base : Nat} {sv : Value} {bs : List (List M4)} (h : BodsI w base sv bs) : BodsR w base sv bs := by
  obtain ⟨vs, N, -, -, h1, h2⟩ := h
  exact ⟨vs, h1, fun p ms hp => by obtain ⟨v, a, b, -⟩ := h2 p ms hp; exact ⟨v, a, b⟩⟩
theorem BodsI.nil (w : World) (base : Nat) (hb : base ≤ w.heap.size) : BodsI w base (.slice none 0 0) [] := ⟨[], base, Nat.le_refl _, hb, World.ownsRow_nil _ _ _ _, fun p r h => by simp at h⟩
theorem BodsI.nw {w w' : World} {base : Nat} {sv : Value} {bs : List (List M4)} (h : BodsI w base sv bs) (hk : Nw w w') : BodsI w' base sv bs := by
  obtain ⟨vs, N, g1, g2, h1, h2⟩ := h
  exact ⟨vs, N, g1, Nat.le_trans g2 hk.size, own_nw h1 hk, fun p r hp => by obtain ⟨v, a, b, c, d⟩ := h2 p r hp; exact ⟨v, a, own_nw b hk, c, fun e => own_nw (d e) hk⟩⟩
theorem BodsI.set {w : World} {base : Nat} {sv : Value} {bs : List (List M4)} (h : BodsI w base sv bs) {p : Addr} (hp : p.block < base) (u : Value) : BodsI (w.setCell p u) base sv bs := by
  obtain ⟨vs, N, g1, g2, h1, h2⟩ := h
  exact ⟨vs, N, g1, by simpa using g2, own_set h1 hp u, fun p r hp' => by obtain ⟨v, a, b, c, d⟩ := h2 p r hp'; exact ⟨v, a, own_set b hp u, c, fun e => own_set (d e) (by omega) u⟩⟩
theorem BodsI.grown {w w' : World} {base b2 : Nat} {E : TypeId} {size n : Nat} {v sv : Value} {xs : List Value} {bs : List (List M4)} (h : BodsI w base sv bs) (hr : w.ownsRow b2 E size v n xs) (h1 : 38 ≠ E) (h2 : 93 ≠ E) (hg : w.grownBy w' v.ownBlock) : BodsI w' base sv bs := by
  obtain ⟨vs, N, g1, g2, k1, k2⟩ := h
  exact ⟨vs, N, g1, Nat.le_trans g2 hg.size, k1.kept hg (rows_apart k1 hr h1), fun p r hp => by obtain ⟨v, a, b, c, d⟩ := k2 p r hp; exact ⟨v, a, b.kept hg (rows_apart b hr h2), c, fun e => (d e).kept hg (rows_apart (d e) hr h2)⟩⟩
/-- a body without modes is put behind the others -/
theorem BodsI.push {w w' : World} {base : Nat} {sv sv' : Value} {bs : List (List M4)} {vs : List Value} (ho : w.ownsRow base 38 1 sv bs.length vs) (hb : base ≤ w.heap.size)
    (hi : ∀ (p : Nat) r, bs[p]? = some r → ∃ v, vs[p]? = some v ∧ w.ownsRow base 93 2 v r.length (cellsM r))
    (hn : w'.ownsRow base 38 1 sv' (bs.length + 1) (vs ++ [.slice none 0 0])) (hg : w.grownBy w' sv.ownBlock) : BodsI w' base sv' (bs ++ [[]]) := by
  have hv : vs.length = bs.length := by have := ho.1; omega
  refine ⟨vs ++ [.slice none 0 0], w.heap.size, hb, hg.size, by rw [List.length_append]; exact hn, fun p r' hp => ?_⟩
  by_cases h : p < bs.length
  · rw [List.getElem?_append_left h] at hp
    obtain ⟨v, b, c⟩ := hi p r' hp
    refine ⟨v, by rw [List.getElem?_append_left (by omega)]; exact b, c.kept hg (rows_apart c ho (by decide)), fun _ q hq => (c.lt q hq).2, fun e => ?_⟩
    simp at e; omega
  · have h2 := (List.getElem?_eq_some_iff.1 hp).1
    rw [List.length_append] at h2
    obtain rfl : p = bs.length := by simp at h2; omega
    rw [List.getElem?_append_right (Nat.le_refl _), Nat.sub_self] at hp
    simp at hp
    subst hp
    refine ⟨.slice none 0 0, by rw [← hv, List.getElem?_append_right (Nat.le_refl _), Nat.sub_self]; rfl, World.ownsRow_nil _ _ _ _, fun e => by simp at e, fun _ => World.ownsRow_nil _ _ _ _⟩
/-- the last body's modes grow -/
theorem BodsI.put {w w' : World} {base N : Nat} {v v' : Value} {bs : List (List M4)} {ms : List M4} {vs : List Value} {m : M4} {g cap : Nat} (g1 : base ≤ N)
    (ho : w.ownsRow base 38 1 (.slice (some ⟨g, 0, none⟩) (bs.length + 1) cap) (bs.length + 1) vs)
    (hi : ∀ (p : Nat) r, (bs ++ [ms])[p]? = some r → ∃ v, vs[p]? = some v ∧ w.ownsRow base 93 2 v r.length (cellsM r) ∧ (p + 1 < bs.length + 1 → ∀ q, v.ownBlock = some q → q < N))
    (hl : w.ownsRow N 93 2 v ms.length (cellsM ms)) (hN : N ≤ w.heap.size)
    (hn : w'.ownsRow N 93 2 v' (ms.length + 1) (cellsM (ms ++ [m]))) (hg : w.grownBy w' v.ownBlock) :
    BodsI (w'.setCell ⟨g, bs.length, none⟩ v') base (.slice (some ⟨g, 0, none⟩) (bs.length + 1) cap) (bs ++ [ms ++ [m]]) := by
  have ho' := ho.kept hg (rows_apart ho hl (by decide))
  have hst := ho'.stored bs.length v'
  have hv : vs.length = bs.length + 1 := by have := ho.1; omega
  have hap : ∀ {b n : Nat} {u : Value} {xs : List Value}, w'.ownsRow b 93 2 u n xs → (w'.setCell ⟨g, bs.length, none⟩ v').ownsRow b 93 2 u n xs := fun h => h.kept hst.2 (rows_apart h ho' (by decide))
  refine ⟨vs.set bs.length v', N, g1, by have := hg.size; simp; omega, by rw [List.length_append]; exact hst.1, fun p r' hp => ?_⟩
  by_cases h : p < bs.length
  · rw [List.getElem?_append_left h] at hp
    obtain ⟨u, b, c, d⟩ := hi p r' (by rw [List.getElem?_append_left h]; exact hp)
    refine ⟨u, by rw [List.getElem?_set_ne (by omega)]; exact b, hap (c.kept hg ?_), fun _ => d (by omega), fun e => ?_⟩
    · cases hvb : u.ownBlock with
      | none => exact .inl rfl
      | some q =>
        right
        intro e
        have a1 := d (by omega) q hvb
        have a2 := own_ge hl q e.symm
        omega
    · simp at e; omega
  · have h2 := (List.getElem?_eq_some_iff.1 hp).1
    rw [List.length_append] at h2
    obtain rfl : p = bs.length := by simp at h2; omega
    rw [List.getElem?_append_right (Nat.le_refl _), Nat.sub_self] at hp
    simp at hp
    subst hp
    refine ⟨v', by rw [List.getElem?_set_self (by omega)], ?_, fun e => by simp at e, fun _ => ?_⟩
    · rw [List.length_append]; exact own_base (hap hn) g1
    · rw [List.length_append]; exact hap hn
end Go.Proofs.YtnmjkjjmigiabaaGreatDoor

/- The program's lines of events, and its bodies (FnExactParseScore).
   Conditions: those that each statement names. -/
namespace Go.Proofs.YtnmjkjjmigiabaaGreatDoor
set_option linter.unusedSimpArgs false
set_option linter.unusedVariables false
open Go Go.RowKit

def EvP2 (p : List UInt8) (w : World) (e : Ending) (w' : World) : Prop :=
  Nw w w' ∧ ((∃ m : Ev6, EvR p m ∧ e = .returned (.tuple #[.agg #[.int .i64 m.t, .int .i64 m.k, .int .i64 m.b, .int .i64 m.s, .int .i64 m.m, .float .f32 m.f], .bool true])) ∨
    ((∃ m : Ev6, e = .returned (.tuple #[.agg #[.int .i64 m.t, .int .i64 m.k, .int .i64 m.b, .int .i64 m.s, .int .i64 m.m, .float .f32 m.f], .bool false])) ∧ ∀ m, ¬ EvL p m))
theorem readEvent_ok (l : List UInt8) (hl : l.length ≤ 1048576) (h10 : 10 ∉ l) (w : World) (hL : LibW w) :
    Calls Tryz.prog 98 #[.string ⟨l.toArray⟩] w (EvP2 l w) := by
  refine (readEvent_any l hl w hL).mono ?_
  rintro e w' ⟨hn, a, k, b, s, n, f, ok, rfl, ⟨rfl, hg, h⟩ | ⟨rfl, h⟩⟩
  · refine ⟨hn, .inl ⟨⟨a, k, b, s, n, f⟩, ⟨h10, hg, ?_⟩, rfl⟩⟩
    rcases h with h | ⟨h, h2⟩
    · exact .inl h
    · exact .inr ⟨h, fun x hx => h2 _ _ _ _ _ _ hx⟩
  · exact ⟨hn, .inr ⟨⟨⟨a, k, b, s, n, f⟩, rfl⟩, fun m hm => h _ _ _ _ _ _ hm⟩⟩

/-! ### the lines -/
def LinesEI (l : List UInt8) (w0 : World) (t v i : Value) (wr : World) : Prop :=
  ∃ (k : Nat) (ms : List Ev6) (ps : List (List UInt8)) (r : List UInt8), k ≤ 60 ∧ ms.length = k ∧ i = .int .i64 (k : Int) ∧ t = .string ⟨r.toArray⟩ ∧ All2 EvR ps ms ∧ l = glueC 10 ps ++ r ∧ wr.ownsRow w0.heap.size 137 6 v k (cellsE ms) ∧ Nw w0 wr
def LinesEP (l : List UInt8) (w : World) (e : Ending) (w' : World) : Prop :=
  ∃ (ms : List Ev6) (r : List UInt8) (v : Value), e = .returned (.tuple #[v, .string ⟨r.toArray⟩]) ∧ ReadE l ms r ∧ w'.ownsRow w.heap.size 137 6 v ms.length (cellsE ms) ∧ Nw w w'
set_option maxHeartbeats 6400000 in
set_option maxRecDepth 100000 in
theorem readLinesE (s : ByteArray) (hs : s.size ≤ 1048576) (w : World) (hL : LibW w) :
    Calls Tryz.prog 97 #[.string s, .int .i64 60, .func (.func 98) #[] #[]] w (LinesEP s.data.toList w) := by
  obtain ⟨i0, hi, hz0, hz1, hz2⟩ := info_parts info_event
  have hl : s.data.toList.length = s.size := Array.length_toList
  have L := Lib.hid hL
  clear hL
  go_enter Tryz.func97, Tryz.ntmps97
  go_wp2_with fail
  go_loopw [0, 8, 15] (fun t v i wr => LinesEI s.data.toList w t v i wr) (fun _ _ i _ => 60 - (intOf i).toNat)
  case atStart => exact ⟨0, [], [], s.data.toList, by omega, rfl, rfl, rfl, trivial, rfl, World.ownsRow_nil _ _ _ _, Nw.refl _⟩
  case round =>
    obtain ⟨k, ms, ps, r, hk, hmk, rfl, rfl, hal, hlr, hown, hN⟩ := hrel
    have Al := Lib.hid hal
    have Hl := Lib.hid hlr
    have Ow := Lib.hid hown
    have Nr := Lib.hid hN
    have Mk := Lib.hid hmk
    have hrs : (⟨r.toArray⟩ : ByteArray).size ≤ 1048576 := by
      have h1 : s.data.toList.length = (glueC 10 ps).length + r.length := by rw [hlr, List.length_append]
      have h3 : (⟨r.toArray⟩ : ByteArray).size = r.length := List.size_toArray
      omega
    have hr1 : r.length ≤ 1048576 := by
      have h3 : (⟨r.toArray⟩ : ByteArray).size = r.length := List.size_toArray
      omega
    obtain ⟨sa, sl, sc, rfl⟩ := own_shape hown
    have hsz := Lib.hid (show w.heap.size ≤ wr.heap.size from hN.size)
    clear hal hlr hown hN hmk
    by_cases hlt : k < 60
    · have C := Lib.hid (cutLine_ok ⟨r.toArray⟩ hrs wr)
      clear hrs
      go_wp2_with fail
      refine C.out.mono ?_
      rintro e w1 ⟨n1, ⟨p, q, hpq0, hp, rfl⟩ | ⟨hno0, rfl⟩⟩
      · have hpq : r = p ++ 10 :: q := by simpa using hpq0
        have N1 := Lib.hid (Nr.out.trans n1)
        have O1 := Lib.hid (own_nw Ow.out n1)
        have hps : (⟨p.toArray⟩ : ByteArray).size ≤ 1048576 := by
          have h1 : r.length = p.length + (q.length + 1) := by rw [hpq, List.length_append, List.length_cons]
          have h3 : (⟨p.toArray⟩ : ByteArray).size = p.length := List.size_toArray
          omega
        have P := Lib.hid (readEvent_ok p (by have h3 : (⟨p.toArray⟩ : ByteArray).size = p.length := List.size_toArray; omega) hp w1 (L.out.nw N1.out))
        have Hpq := Lib.hid (And.intro hpq hp)
        have hs1 := Lib.hid (show w.heap.size ≤ w1.heap.size from N1.out.size)
        clear n1 hpq hp hps hr1 hpq0
        go_wp2_with fail
        refine P.out.mono ?_
        rintro e w2 ⟨n2, ⟨m, hm, rfl⟩ | ⟨⟨m, rfl⟩, hno⟩⟩
        · have N2 := Lib.hid (N1.out.trans n2)
          have O2 := Lib.hid (own_nw O1.out n2)
          have Hm := Lib.hid hm
          obtain ⟨m0, ⟨m1, m2, m3, m4, m5, m6⟩, -⟩ := Has6.new w2 137 (.int .i64 m.t) (.int .i64 m.k) (.int .i64 m.b) (.int .i64 m.s) (.int .i64 m.m) (.float .f32 m.f)
          have hs2 := Lib.hid (show w.heap.size ≤ w2.heap.size from N2.out.size)
          clear n2 hm
          go_wp2_with (at_builtin; refine wpList_append_own _ rfl _ _ 66 rfl w.heap.size 137 i0 (.agg #[.int .i64 0, .int .i64 0, .int .i64 0, .int .i64 0, .int .i64 0, .float .f32 0]) 6 48 Tryz.underlying66 hi hz0 hz1 hz2 rfl (by decide) _ _ _ rfl ((O2.out.alloc _).alloc _) ⟨w2.heap.size + 1, 0, none⟩ 1 1 m.cells rfl rfl ?c1 ?c2 ?c3 ?c4 ?c5 ?_)
          case c1 =>
            intro j u hj
            match j, hj with
            | 0, hj => simp [Ev6.cells] at hj; subst hj; simp [Addr.add]
            | 1, hj => simp [Ev6.cells] at hj; subst hj; simp [Addr.add]
            | 2, hj => simp [Ev6.cells] at hj; subst hj; simp [Addr.add]
            | 3, hj => simp [Ev6.cells] at hj; subst hj; simp [Addr.add]
            | 4, hj => simp [Ev6.cells] at hj; subst hj; simp [Addr.add]
            | 5, hj => simp [Ev6.cells] at hj; subst hj; simp [Addr.add]
          case c2 => intro u hu; simp [Ev6.cells] at hu; rcases hu with rfl | rfl | rfl | rfl | rfl | rfl <;> rfl
          case c3 => unfold maxLen; omega
          case c4 => omega
          case c5 => have := hs2.out; simp; omega
          · intro v' w4 hown4 hgrow _
            have hrow : ∀ q, (Value.slice sa sl sc).ownBlock = some q → w.heap.size ≤ q := fun q hq => own_ge O2.out q hq
            have N4 := Lib.hid (nwg ((N2.out.alloc _).alloc _) hgrow hrow)
            rw [← cellsE_snoc ms m] at hown4
            have O4 := Lib.hid hown4
            clear hown4 hgrow hrow m0 m1 m2 m3 m4 m5 m6
            go_wp2_with fail
            go_roundw
            case rel =>
              refine ⟨k + 1, ms ++ [m], ps ++ [p], q, by omega, by rw [List.length_append, List.length_singleton, Mk.out], by rw [show ((k + 1 : Nat) : Int) = (k : Int) + 1 from by omega], rfl, Al.out.snoc Hm.out, ?_, O4.out, N4.out⟩
              rw [Hl.out, Hpq.out.1, glue_snoc]
              simp
            case measure => simp only [intOf]; omega
        · have N2 := Lib.hid (N1.out.trans n2)
          have O2 := Lib.hid (own_nw O1.out n2)
          have Hno := Lib.hid hno
          clear n2 hno
          go_wp2_with fail
          go_ret2
          exact ⟨ms, r, _, rfl, ⟨ps, Al.out, Hl.out, by rw [Mk.out]; omega, .inr (.inr ⟨p, q, Hpq.out.1, Hpq.out.2, Hno.out⟩)⟩, by rw [Mk.out]; exact own_nw O2.out ((Nw.refl _).alloc _), N2.out.alloc _⟩
      · have hno : (10 : UInt8) ∉ r := by simpa using hno0
        have N1 := Lib.hid (Nr.out.trans n1)
        have O1 := Lib.hid (own_nw Ow.out n1)
        have Hno := Lib.hid hno
        clear n1 hno hno0
        go_wp2_with fail
        go_ret2
        exact ⟨ms, r, _, rfl, ⟨ps, Al.out, Hl.out, by rw [Mk.out]; omega, .inr (.inl Hno.out)⟩, by rw [Mk.out]; exact O1.out, N1.out⟩
    · have hk16 : k = 60 := by omega
      clear hrs
      go_wp2_with fail
      go_ret2
      exact ⟨ms, r, _, rfl, ⟨ps, Al.out, Hl.out, by rw [Mk.out]; omega, .inl (by rw [Mk.out, hk16])⟩, by rw [Mk.out]; exact Ow.out, Nr.out⟩

end Go.Proofs.YtnmjkjjmigiabaaGreatDoor

/- The program's readBodies (FnExactParseScore).
   Conditions: those that each statement names. -/
namespace Go.Proofs.YtnmjkjjmigiabaaGreatDoor
set_option linter.unusedSimpArgs false
set_option linter.unusedVariables false
open Go Go.RowKit

def RbI (l : List UInt8) (w0 : World) (t v i : Value) (wr : World) : Prop :=
  ∃ (k N : Nat) (bs : List (List M4)) (r : List UInt8), k ≤ 8 ∧ bs.length = k ∧ i = .int .i64 (k : Int) ∧ t = .string ⟨r.toArray⟩ ∧ BdR l bs r ∧ BodsN wr w0.heap.size N v bs ∧ N ≤ wr.heap.size ∧ Nw w0 wr
def RbP (l : List UInt8) (w : World) (e : Ending) (w' : World) : Prop :=
  ∃ (bs : List (List M4)) (r : List UInt8) (v : Value), e = .returned (.tuple #[v, .string ⟨r.toArray⟩]) ∧ BdE l bs r ∧ BodsN w' w.heap.size w'.heap.size v bs ∧ Nw w w'
set_option maxHeartbeats 6400000 in
set_option maxRecDepth 100000 in
theorem readBodies_ok (s : ByteArray) (hs : s.size ≤ 1048576) (w : World) (hL : LibW w) :
    Calls Tryz.prog 96 #[.string s] w (RbP s.data.toList w) := by
  obtain ⟨i0, hi, hz0, hz1, hz2⟩ := info_parts info_body
  have hl : s.data.toList.length = s.size := Array.length_toList
  have L := Lib.hid hL
  clear hL
  go_enter Tryz.func96, Tryz.ntmps96
  go_wp2_with fail
  go_loopw [0, 4, 10] (fun t v i wr => RbI s.data.toList w t v i wr) (fun _ _ i _ => 8 - (intOf i).toNat)
  case atStart => exact ⟨0, w.heap.size, [], s.data.toList, by omega, rfl, rfl, rfl, BdR.nil, BodsN.nil _ _ _, Nat.le_refl _, Nw.refl _⟩
  case round =>
    obtain ⟨k, N, bs, r, hk, hmk, rfl, rfl, hbd, hown, hNs, hN⟩ := hrel
    have Bd := Lib.hid hbd
    have Ow := Lib.hid hown
    have Nr := Lib.hid hN
    have Mk := Lib.hid hmk
    have hr1 : r.length ≤ 1048576 := by
      obtain ⟨ls, -, e⟩ := bdR_text hbd
      have := congrArg List.length e
      rw [List.length_append] at this
      omega
    have hrs : (⟨r.toArray⟩ : ByteArray).size ≤ 1048576 := by
      have h3 : (⟨r.toArray⟩ : ByteArray).size = r.length := List.size_toArray
      omega
    obtain ⟨sa, sc, rfl⟩ := hown.r.shape
    rw [hmk] at Ow ⊢
    have hsz := Lib.hid (And.intro (show w.heap.size ≤ wr.heap.size from hN.size) hNs)
    clear hbd hown hN hmk hNs
    by_cases hlt : k < 8
    · have C := Lib.hid (cutLine_ok ⟨r.toArray⟩ hrs wr)
      clear hrs
      go_wp2_with fail
      refine C.out.mono ?_
      rintro e w1 ⟨n1, ⟨p, q, hpq0, hp, rfl⟩ | ⟨hno0, rfl⟩⟩
      · have hpq : r = p ++ 10 :: q := by simpa using hpq0
        have N1 := Lib.hid (Nr.out.trans n1)
        have O1 := Lib.hid (Ow.out.nw n1)
        have hs1 := Lib.hid (show w.heap.size ≤ w1.heap.size ∧ N ≤ w1.heap.size from ⟨N1.out.size, Nat.le_trans hsz.out.2 n1.size⟩)
        by_cases hpb : p = wBody
        · subst hpb
          have hqs : (⟨q.toArray⟩ : ByteArray).size ≤ 1048576 := by
            have h1 : r.length = wBody.length + (q.length + 1) := by rw [hpq, List.length_append, List.length_cons]
            have h3 : (⟨q.toArray⟩ : ByteArray).size = q.length := List.size_toArray
            omega
          have P := Lib.hid (readLinesM ⟨q.toArray⟩ hqs w1 (L.out.nw N1.out))
          have Hpq := Lib.hid (And.intro hpq hp)
          clear n1 hpq hp hqs hr1 hpq0
          go_wp2_with fail
          refine P.out.mono ?_
          rintro e w2 ⟨ms, r2, rv, rfl, hrd, own2, n2⟩
          have N2 := Lib.hid (N1.out.trans n2)
          have O2 := Lib.hid (O1.out.nw n2)
          have Rd := Lib.hid hrd
          obtain ⟨ra, rc, rfl⟩ := own_shape' own2
          have R2 := Lib.hid own2
          have hs2 := Lib.hid (show w.heap.size ≤ w2.heap.size from N2.out.size)
          have hs12 := Lib.hid (show w1.heap.size ≤ w2.heap.size from n2.size)
          obtain ⟨vs, ho2, hi2, ha2, hb2⟩ := O2.out
          have Vs := Lib.hid (And.intro hi2 (And.intro ha2 hb2))
          rw [Mk.out] at ho2
          have Ho2 := Lib.hid ho2
          clear n2 hrd own2 hi2 ha2 hb2 ho2
          go_wp2_with (at_builtin; refine wpList_append_own _ rfl _ _ 65 rfl w.heap.size 38 i0 (.agg #[.slice none 0 0]) 1 24 Tryz.underlying65 hi hz0 hz1 hz2 rfl (by decide) _ _ _ rfl (Ho2.out.alloc _) ⟨w2.heap.size, 0, none⟩ 1 1 [.slice ra ms.length rc] rfl rfl ?c1 ?c2 ?c3 ?c4 ?c5 ?_)
          case c1 =>
            intro j u hj
            match j, hj with
            | 0, hj => simp at hj; subst hj; simp [Addr.add]
          case c2 => intro u hu; simp at hu; subst hu; rfl
          case c3 => unfold maxLen; omega
          case c4 => omega
          case c5 => have := hs2.out; simp; omega
          · intro v' w4 hown4 hgrow _
            have hrow : ∀ q, (Value.slice sa k sc).ownBlock = some q → w.heap.size ≤ q := fun q hq => own_ge Ho2.out q hq
            have N4 := Lib.hid (nwg (N2.out.alloc (.cells #[.slice ra ms.length rc] 38 (0, 0))) hgrow hrow)
            have hsa : (w2.alloc (.cells #[.slice ra ms.length rc] 38 (0, 0))).heap.size = w2.heap.size + 1 := by simp
            have O4 := Lib.hid (BodsN.snoc (ms := ms) (by rw [Mk.out]; exact Ho2.out.alloc _) (fun p r hp => by obtain ⟨v, a, b⟩ := Vs.out.1 p r hp; exact ⟨v, a, b.alloc _⟩) Vs.out.2.1 Vs.out.2.2 (R2.out.alloc _) hs1.out.1 hs1.out.2 (by rw [Mk.out]; exact hown4) hgrow (by have := hs12.out; rw [hsa]; omega))
            have hs4 := Lib.hid (show w2.heap.size + 1 ≤ w4.heap.size from by have := hgrow.size; rw [hsa] at this; exact this)
            rw [hsa] at O4
            clear hown4 hgrow hrow hsa
            go_wp2_with fail
            go_roundw
            case rel =>
              exact ⟨k + 1, w2.heap.size + 1, bs ++ [ms], r2, by omega, by rw [List.length_append, List.length_singleton, Mk.out], by rw [show ((k + 1 : Nat) : Int) = (k : Int) + 1 from by omega], rfl, BdR.snoc Bd.out Hpq.out.1 (by simpa using Rd.out), O4.out, hs4.out, N4.out⟩
            case measure => simp only [intOf]; omega
        · have d1 : (p == [98, 111, 100, 121]) = false := by simpa [wBody] using hpb
          have e1 : ((⟨p.toArray⟩ : ByteArray).toList == [98, 111, 100, 121]) = false := by rw [ByteArray.toList_eq]; simpa [wBody] using hpb
          have Hpq := Lib.hid (And.intro hpq (And.intro hp hpb))
          clear n1 hpq hp hr1 hpq0
          go_wp2_with fail
          go_ret2
          exact ⟨bs, r, _, rfl, ⟨Bd.out, by rw [Mk.out]; omega, .inr (.inr ⟨p, q, Hpq.out.1, Hpq.out.2.1, Hpq.out.2.2⟩)⟩, O1.out.le hs1.out.2, N1.out⟩
      · have hno : (10 : UInt8) ∉ r := by simpa using hno0
        have N1 := Lib.hid (Nr.out.trans n1)
        have O1 := Lib.hid (Ow.out.nw n1)
        have hs1 := Lib.hid (show N ≤ w1.heap.size from Nat.le_trans hsz.out.2 n1.size)
        have Hno := Lib.hid hno
        clear n1 hno hno0
        go_wp2_with fail
        go_ret2
        exact ⟨bs, r, _, rfl, ⟨Bd.out, by rw [Mk.out]; omega, .inr (.inl Hno.out)⟩, O1.out.le hs1.out, N1.out⟩
    · have hk16 : k = 8 := by omega
      clear hrs
      go_wp2_with fail
      go_ret2
      exact ⟨bs, r, _, rfl, ⟨Bd.out, by rw [Mk.out]; omega, .inl (by rw [Mk.out, hk16])⟩, Ow.out.le hsz.out.2, Nr.out⟩
end Go.Proofs.YtnmjkjjmigiabaaGreatDoor
