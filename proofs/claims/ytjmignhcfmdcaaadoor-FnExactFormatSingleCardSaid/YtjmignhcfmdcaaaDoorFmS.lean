/- The law FnExactFormatSingle as a call.
   Conditions: those that each statement names. -/
import Derived.Test.YtjmignhcfmdcaaaDoorFmL
import Derived.Test.YtjmignhcfmdcaaaDoorWide
namespace Go.Proofs.YtjmignhcfmdcaaaDoor
set_option linter.unusedSimpArgs false
set_option linter.unusedVariables false
open Go Go.RowKit

theorem nan_fin64 {y : Nat} (h : nan64 y = true) : fin .f64 y = false := by
  unfold nan64 at h
  unfold fin
  cases hd : FloatKind.f64.decode y <;> rw [hd] at h <;> simp_all [Ieee.Datum.isNaN]

/-- the texts of a number of single precision, however its NaN is widened -/
theorem txt_wide {x : Nat} {w1 w2 : World} {xs ys : List Int} (h1 : TxtOf (fcv w1 .f32 x .f64) xs) (h2 : TxtOf (fcv w2 .f32 x .f64) ys) : xs = ys := by
  cases hn : nan32 x with
  | false =>
    rw [fcv_wide hn] at h1 h2
    exact txt_unique h1 h2
  | true =>
    have g1 := nan_fin64 (nan_wide hn w1)
    have g2 := nan_fin64 (nan_wide hn w2)
    have key : ∀ {y : Nat} {zs : List Int}, fin .f64 y = false → TxtOf y zs → zs = [] := by
      intro y zs hf ht
      have f0 : fin .f64 0 = true := by decide
      have f1 : fin .f64 9223372036854775808 = true := by decide
      rcases ht with ⟨_, rfl⟩ | ⟨rfl, rfl⟩ | ⟨rfl, rfl⟩ | ⟨sg, m, p, a, q, b1, b2, _⟩
      · rfl
      · rw [f0] at hf; simp at hf
      · rw [f1] at hf; simp at hf
      · rw [fin_num ⟨_, _, _, b1⟩] at hf; simp at hf
    rw [key g1 h1, key g2 h2]

def TxtS (x : Nat) (w : World) (e : Ending) (w' : World) : Prop := ∃ xs w1, e = .returned (.string (strOfNums xs)) ∧ TxtOf (fcv w1 .f32 x .f64) xs ∧ Nw w w'

set_option maxRecDepth 100000 in
theorem specTextS (x : Nat) (hx : x < 4294967296) (w : World) : Calls Tryd.prog 7 #[.float .f32 x] w (TxtS x w) := by
  have hx2 : ∀ w, fcv w .f32 x .f64 < 18446744073709551616 := fun w => fcv_wf w .f32 x .f64 hx
  go_enter Tryd.func7, Tryd.ntmps7
  go_wp2_with fail
  refine (specText _ (hx2 _) _).mono ?_
  rintro e w1 ⟨xs, rfl, t1, n1⟩
  have N1 := Lib.hid (((Nw.refl w).draw _).trans n1)
  have T1 := Lib.hid t1
  clear n1 t1
  go_wp2_with fail
  go_ret
  exact ⟨xs, _, rfl, T1.out, N1.out⟩

set_option maxRecDepth 100000 in
theorem implTextS (x : Nat) (hx : x < 4294967296) (w : World) (hT : TabAt 1 Lib.deBruijn64tab w) (ht : Lib.TabIs Tryd.prog w "internal/strconv.uint64pow10" .u64 Lib.pow10Tab) : Calls Tryd.prog 8 #[.float .f32 x] w (TxtS x w) := by
  have hx2 : ∀ w, fcv w .f32 x .f64 < 18446744073709551616 := fun w => fcv_wf w .f32 x .f64 hx
  have T := Lib.hid (And.intro hT ht)
  clear hT ht
  go_enter Tryd.func8, Tryd.ntmps8
  go_wp2_with fail
  refine (implText _ (hx2 _) _ (tabAt_nw ((Nw.refl w).draw _) (tabAt_lt T.out.1) T.out.1) (tab_nw ((Nw.refl w).draw _) T.out.2)).mono ?_
  rintro e w1 ⟨xs, rfl, t1, n1⟩
  have N1 := Lib.hid (((Nw.refl w).draw _).trans n1)
  have T1 := Lib.hid t1
  clear n1 t1
  go_wp2_with fail
  go_ret
  exact ⟨xs, _, rfl, T1.out, N1.out⟩

set_option maxRecDepth 100000 in
theorem law_single (x : Nat) (hx : x < 4294967296) (w : World) (hT : TabAt 1 Lib.deBruijn64tab w) (ht : Lib.TabIs Tryd.prog w "internal/strconv.uint64pow10" .u64 Lib.pow10Tab) :
    Calls Tryd.prog 3 #[.float .f32 x] w fun e w' => e = .returned (.bool true) ∧ Nw w w' := by
  have T := Lib.hid (And.intro hT ht)
  clear hT ht
  go_enter Tryd.func3, Tryd.ntmps3
  go_wp2_with fail
  refine (specTextS x hx _).mono ?_
  rintro e w1 ⟨xs, u1, rfl, t1, n1⟩
  have N1 := Lib.hid n1
  have T1 := Lib.hid t1
  clear n1 t1
  go_wp2_with fail
  refine (implTextS x hx _ (tabAt_nw N1.out (tabAt_lt T.out.1) T.out.1) (tab_nw N1.out T.out.2)).mono ?_
  rintro e w2 ⟨ys, u2, rfl, t2, n2⟩
  obtain rfl := txt_wide T1.out t2
  have N2 := Lib.hid (N1.out.trans n2)
  clear n2 t2
  go_wp2_with fail
  go_ret
  exact ⟨rfl, N2.out⟩

end Go.Proofs.YtjmignhcfmdcaaaDoor
