/- FormatDouble of any double at all; the laws FnExactFormatDouble, FnExactFormatSingle as calls.
   Conditions: those that each statement names. -/
import Derived.Test.YtjmignhcfmdcaaaDoorFor
namespace Go.Proofs.YtjmignhcfmdcaaaDoor
set_option linter.unusedSimpArgs false
set_option linter.unusedVariables false
open Go Go.RowKit

def TxtOf (x : Nat) (xs : List Int) : Prop :=
  (fin .f64 x = false ∧ xs = []) ∨ (x = 0 ∧ xs = [48]) ∨ (x = 9223372036854775808 ∧ xs = [45, 48]) ∨
  ∃ (sg : Bool) (m : Nat) (p : Int) (a : Nat) (q : Int), Ieee.double.read x = .number sg m p ∧ m ≠ 0 ∧ a % 2 = 1 ∧ a < 9007199254740992 ∧ (a : Rat) * Flo.pw q = (m : Rat) * Flo.pw p ∧ -2000 ≤ q ∧ q ≤ 2000 ∧ xs = sgn sg ++ (dgs a ++ 112 :: numL q)
def TxtP (x : Nat) (w : World) (e : Ending) (w' : World) : Prop := ∃ xs, e = .returned (.string (strOfNums xs)) ∧ TxtOf x xs ∧ Nw w w'

theorem txt_cases (x : Nat) (hx : x < 18446744073709551616) : fin .f64 x = false ∨ x = 0 ∨ x = 9223372036854775808 ∨ ∃ sg m p, Ieee.double.read x = .number sg m p ∧ m ≠ 0 := by
  cases h : FloatKind.f64.decode x with
  | infinity s => left; unfold fin; rw [h]
  | nan s f => left; unfold fin; rw [h]
  | number sg m p =>
    by_cases hm : m = 0
    · subst hm
      obtain ⟨s, hs, hsg, hc⟩ := word_cases x 0 sg p hx h
      rcases hc with ⟨hx1, hm2, hp⟩ | ⟨E, F, hx1, k1, k2, k3, k4, k5⟩
      · rcases Nat.lt_or_ge s 1 with g | g
        · exact .inr (.inl (by omega))
        · exact .inr (.inr (.inl (by omega)))
      · omega
    · exact .inr (.inr (.inr ⟨sg, m, p, h, hm⟩))

theorem txt_unique {x : Nat} {xs ys : List Int} (h1 : TxtOf x xs) (h2 : TxtOf x ys) : xs = ys := by
  have f0 : fin .f64 0 = true := by decide
  have f1 : fin .f64 9223372036854775808 = true := by decide
  have r0 : Ieee.double.read 0 = .number false 0 (-1074) := by decide
  have r1 : Ieee.double.read 9223372036854775808 = .number true 0 (-1074) := by decide
  rcases h1 with ⟨a1, rfl⟩ | ⟨rfl, rfl⟩ | ⟨rfl, rfl⟩ | ⟨sg, m, p, a, q, b1, b2, b3, b4, b5, b6, b7, rfl⟩
  · rcases h2 with ⟨_, rfl⟩ | ⟨rfl, rfl⟩ | ⟨rfl, rfl⟩ | ⟨sg, m, p, a, q, b1, b2, _⟩
    · rfl
    · rw [f0] at a1; simp at a1
    · rw [f1] at a1; simp at a1
    · rw [fin_num ⟨_, _, _, b1⟩] at a1; simp at a1
  · rcases h2 with ⟨a1, rfl⟩ | ⟨_, rfl⟩ | ⟨h, rfl⟩ | ⟨sg, m, p, a, q, b1, b2, _⟩
    · rw [f0] at a1; simp at a1
    · rfl
    · simp at h
    · rw [r0] at b1; injection b1 with _ e _; exact absurd e.symm b2
  · rcases h2 with ⟨a1, rfl⟩ | ⟨h, rfl⟩ | ⟨_, rfl⟩ | ⟨sg, m, p, a, q, b1, b2, _⟩
    · rw [f1] at a1; simp at a1
    · simp at h
    · rfl
    · rw [r1] at b1; injection b1 with _ e _; exact absurd e.symm b2
  · rcases h2 with ⟨a1, rfl⟩ | ⟨rfl, rfl⟩ | ⟨rfl, rfl⟩ | ⟨sg', m', p', a', q', c1, c2, c3, c4, c5, c6, c7, rfl⟩
    · rw [fin_num ⟨_, _, _, b1⟩] at a1; simp at a1
    · rw [r0] at b1; injection b1 with _ e _; exact absurd e.symm b2
    · rw [r1] at b1; injection b1 with _ e _; exact absurd e.symm b2
    · rw [b1] at c1
      injection c1 with e1 e2 e3
      subst e1 e2 e3
      obtain ⟨rfl, rfl⟩ := odd_unique a a' q q' b3 c3 (by rw [b5, c5])
      rfl

set_option maxRecDepth 100000 in
theorem specText (x : Nat) (hx : x < 18446744073709551616) (w : World) : Calls Tryd.prog 9 #[.float .f64 x] w (TxtP x w) := by
  rcases txt_cases x hx with hf | rfl | rfl | ⟨sg, m, p, h, hm⟩
  · have hP : ∀ n, TxtP x w (.returned (.string ⟨#[]⟩)) (w.drewN n) := fun n => ⟨[], rfl, .inl ⟨hf, rfl⟩, (Nw.refl w).draw n⟩
    go_enter Tryd.func9, Tryd.ntmps9
    go_wp2_with fail
    refine (l1Finite_any _ _).mono ?_
    rintro e w1 ⟨rfl, n1, rfl⟩
    rw [hf]
    go_wp2_with fail
    go_ret
    exact hP _
  · exact (specFormat_zero w).mono fun e w' h => ⟨[48], by rw [h.1]; rfl, .inr (.inl ⟨rfl, rfl⟩), h.2⟩
  · exact (specFormat_minus w).mono fun e w' h => ⟨[45, 48], by rw [h.1]; rfl, .inr (.inr (.inl ⟨rfl, rfl⟩)), h.2⟩
  · refine (specFormat_ok x m sg p hx h hm w).mono ?_
    rintro e w' ⟨a, q, b1, b2, b3, b4, b5, rfl, n⟩
    exact ⟨_, rfl, .inr (.inr (.inr ⟨sg, m, p, a, q, h, hm, b1, b2, b3, b4, b5, rfl⟩)), n⟩

set_option maxRecDepth 100000 in
theorem implText (x : Nat) (hx : x < 18446744073709551616) (w : World) (hT : TabAt 1 Lib.deBruijn64tab w) (ht : Lib.TabIs Tryd.prog w "internal/strconv.uint64pow10" .u64 Lib.pow10Tab) : Calls Tryd.prog 10 #[.float .f64 x] w (TxtP x w) := by
  have hx' : x < 2 ^ 64 := hx
  rcases txt_cases x hx with hf | rfl | rfl | ⟨sg, m, p, h, hm⟩
  · have hP : TxtP x w (.returned (.string ⟨#[]⟩)) w := ⟨[], rfl, .inl ⟨hf, rfl⟩, Nw.refl w⟩
    go_enter Tryd.func10, Tryd.ntmps10
    go_wp2_with (go_at_call 20; refine (isFinitePart_any _ _ hx').mono ?_; rintro e w' ⟨rfl, rfl⟩; rw [hf])
    go_ret
    exact hP
  · have hf : fin .f64 0 = true := by decide
    have h0 : (FloatKind.f64.format.order 0 0 == some .eq) = true := by decide
    have hs : decide (2 ^ 63 ≤ 0) = false := by decide
    have hP : TxtP 0 w (.returned (.string ⟨#[48]⟩)) w := ⟨[48], rfl, .inr (.inl ⟨rfl, rfl⟩), Nw.refl w⟩
    have c1 : ∀ w, (Op.stringOp .add (⟨#[]⟩ : ByteArray) (⟨#[48]⟩ : ByteArray)).run Tryd.prog w = .ok (.string ⟨#[48]⟩) w := fun w => by
      rw [show (⟨#[]⟩ : ByteArray) = strOfNums [] from rfl, show (⟨#[48]⟩ : ByteArray) = strOfNums [48] from rfl, add_str _ _ (by simp) (by simp)]; rfl
    go_enter Tryd.func10, Tryd.ntmps10
    go_wp2_with (first
      | (go_at_call 20; refine (isFinitePart_any _ _ hx').mono ?_; rintro e w' ⟨rfl, rfl⟩; rw [hf])
      | (go_at_call 21; refine (signbit_any _ hx' _).mono ?_; rintro e w' ⟨rfl, rfl⟩; rw [hs]))
    go_ret
    exact hP
  · have hf : fin .f64 9223372036854775808 = true := by decide
    have h0 : (FloatKind.f64.format.order 9223372036854775808 0 == some .eq) = true := by decide
    have hs : decide (2 ^ 63 ≤ 9223372036854775808) = true := by decide
    have hP : TxtP 9223372036854775808 w (.returned (.string ⟨#[45, 48]⟩)) w := ⟨[45, 48], rfl, .inr (.inr (.inl ⟨rfl, rfl⟩)), Nw.refl w⟩
    have c1 : ∀ w, (Op.stringOp .add (⟨#[45]⟩ : ByteArray) (⟨#[48]⟩ : ByteArray)).run Tryd.prog w = .ok (.string ⟨#[45, 48]⟩) w := fun w => by
      rw [show (⟨#[45]⟩ : ByteArray) = strOfNums [45] from rfl, show (⟨#[48]⟩ : ByteArray) = strOfNums [48] from rfl, add_str _ _ (by simp) (by simp)]; rfl
    go_enter Tryd.func10, Tryd.ntmps10
    go_wp2_with (first
      | (go_at_call 20; refine (isFinitePart_any _ _ hx').mono ?_; rintro e w' ⟨rfl, rfl⟩; rw [hf])
      | (go_at_call 21; refine (signbit_any _ hx' _).mono ?_; rintro e w' ⟨rfl, rfl⟩; rw [hs]))
    go_ret
    exact hP
  · refine (implFormat_ok x m sg p hx h hm w hT ht).mono ?_
    rintro e w' ⟨a, q, b1, b2, b3, b4, b5, rfl, n⟩
    exact ⟨_, rfl, .inr (.inr (.inr ⟨sg, m, p, a, q, h, hm, b1, b2, b3, b4, b5, rfl⟩)), n⟩

theorem tabAt_lt {w : World} (hT : TabAt 1 Lib.deBruijn64tab w) : 1 < w.heap.size := by
  have h := hT 0 (by decide)
  rcases Nat.lt_or_ge 1 w.heap.size with g | g
  · exact g
  · exfalso
    unfold World.cell? at h
    rw [Array.getElem?_eq_none g] at h
    simp at h

set_option maxRecDepth 100000 in
theorem law_double (x : Nat) (hx : x < 18446744073709551616) (w : World) (hT : TabAt 1 Lib.deBruijn64tab w) (ht : Lib.TabIs Tryd.prog w "internal/strconv.uint64pow10" .u64 Lib.pow10Tab) :
    Calls Tryd.prog 4 #[.float .f64 x] w fun e w' => e = .returned (.bool true) ∧ Nw w w' := by
  have T := Lib.hid (And.intro hT ht)
  clear hT ht
  go_enter Tryd.func4, Tryd.ntmps4
  go_wp2_with fail
  refine (specText x hx _).mono ?_
  rintro e w1 ⟨xs, rfl, t1, n1⟩
  have N1 := Lib.hid n1
  have T1 := Lib.hid t1
  clear n1 t1
  go_wp2_with fail
  refine (implText x hx _ (tabAt_nw N1.out (tabAt_lt T.out.1) T.out.1) (tab_nw N1.out T.out.2)).mono ?_
  rintro e w2 ⟨ys, rfl, t2, n2⟩
  obtain rfl := txt_unique T1.out t2
  have N2 := Lib.hid (N1.out.trans n2)
  clear n2 t2
  go_wp2_with fail
  go_ret
  exact ⟨rfl, N2.out⟩

end Go.Proofs.YtjmignhcfmdcaaaDoor
