/- The walks of FirstDifference, the program's and the model's, for any numbers: the least place at which two rows of samples are not the same.
   Conditions: those that each statement names. -/
import Derived.Test.YtcodiiajmffdoaaFls
import Derived.Test.YtcodiiajmffdoaaSame
import Derived.Test.YtcodiiajmffdoaaInj
namespace Go.Proofs.Ytcodiiajmffdoaa
open Go Go.RowKit

theorem sameB_sameF (a b : Nat) : sameB a b = sameF a b := by
  unfold sameB sameF nan64
  have e : ∀ a, (FloatKind.f64.decode a).isNaN = false → opB .quo .f64 4607182418800017408 a = (floatBits .quo .f64 4607182418800017408 a).getD 0 := by
    intro a h
    rfl
  cases ha : (FloatKind.f64.decode a).isNaN <;> cases hb : (FloatKind.f64.decode b).isNaN <;> simp
  rw [e a ha, e b hb]
theorem run_bits32 (x : Nat) (w : World) : (callFunc 111 #[.float .f32 x]).run Try.prog w = .ok (.value (.int .u32 x)) w := by
  rw [run_callFunc_extern (P := Try.prog) (f := 111) Try.func111 (by kernel_rfl) (by kernel_rfl) (by kernel_rfl) (e := Extern.MathFloatBits.float32bits) (by kernel_rfl)]
  rfl

theorem sameSingle_any (x y : Nat) (w : World) :
    Calls Try.prog 79 #[.float .f32 x, .float .f32 y] w fun e w' => e = .returned (.bool (sameX x y)) ∧ ∃ n, w' = w.drewN n := by
  have h1 := run_bits32
  by_cases hxy : x = y
  · subst hxy
    rw [sameX_self]
    go_enter Try.func79, Try.ntmps79
    go_wp2
    all_goals (go_ret; exact ⟨rfl, 0, rfl⟩)
  · have hs : sameX x y = (nan32 x && nan32 y) := by unfold sameX; rw [show (x == y) = false from by simpa using hxy]; simp
    have hz : ¬ ((x : Int) = (y : Int)) := by omega
    have nn : ∀ x w, (FloatKind.f64.decode (fcv w .f32 x .f64)).isNaN = nan32 x := fun x w => by
      cases hx : nan32 x with
      | true => exact nan_wide hx w
      | false => rw [fcv_wide hx]; exact wid_nan hx
    rw [hs]
    have Nn := Lib.hid nn
    clear nn hs
    go_enter Try.func79, Try.ntmps79
    cases hx : nan32 x with
    | true =>
      go_wp2_with (first | (go_at_call 112; refine (isNaN_any _ _).mono ?_; rintro e w5 ⟨rfl, rfl⟩; rw [Nn.out]; try rw [hx]))
      all_goals (go_ret; exact ⟨by simp [hz], _, rfl⟩)
    | false =>
      go_wp2_with (first | (go_at_call 112; refine (isNaN_any _ _).mono ?_; rintro e w5 ⟨rfl, rfl⟩; rw [Nn.out]; try rw [hx]))
      all_goals (go_ret; exact ⟨by simp [hz], _, rfl⟩)

/-! ### the least place -/
def fdL : List Nat → List Nat → Nat → Int
  | [], [], _ => -1
  | [], _ :: _, k => (k : Int)
  | _ :: _, [], k => (k : Int)
  | x :: xs, y :: ys, k => if sameX x y then fdL xs ys (k + 1) else (k : Int)
theorem fdL_same {xs ys : List Nat} {k x y : Nat} (hx : xs[k]? = some x) (hy : ys[k]? = some y) (h : sameX x y = true) : fdL (xs.drop k) (ys.drop k) k = fdL (xs.drop (k + 1)) (ys.drop (k + 1)) (k + 1) := by
  obtain ⟨a, rfl⟩ := List.getElem?_eq_some_iff.1 hx
  obtain ⟨b, rfl⟩ := List.getElem?_eq_some_iff.1 hy
  rw [List.drop_eq_getElem_cons a, List.drop_eq_getElem_cons b]
  show (if sameX _ _ then _ else _) = _
  rw [h]; rfl
theorem fdL_differ {xs ys : List Nat} {k x y : Nat} (hx : xs[k]? = some x) (hy : ys[k]? = some y) (h : sameX x y = false) : fdL (xs.drop k) (ys.drop k) k = (k : Int) := by
  obtain ⟨a, rfl⟩ := List.getElem?_eq_some_iff.1 hx
  obtain ⟨b, rfl⟩ := List.getElem?_eq_some_iff.1 hy
  rw [List.drop_eq_getElem_cons a, List.drop_eq_getElem_cons b]
  show (if sameX _ _ then _ else _) = _
  rw [h]; rfl
theorem fdL_left {xs ys : List Nat} {k : Nat} (hx : k < xs.length) (hy : ys.length ≤ k) : fdL (xs.drop k) (ys.drop k) k = (k : Int) := by
  rw [List.drop_eq_getElem_cons hx, List.drop_eq_nil_of_le hy]; rfl
theorem fdL_right {xs ys : List Nat} {k : Nat} (hx : xs.length ≤ k) (hy : k < ys.length) : fdL (xs.drop k) (ys.drop k) k = (k : Int) := by
  rw [List.drop_eq_getElem_cons hy, List.drop_eq_nil_of_le hx]; rfl
theorem fdL_end {xs ys : List Nat} {k : Nat} (hx : xs.length ≤ k) (hy : ys.length ≤ k) : fdL (xs.drop k) (ys.drop k) k = -1 := by
  rw [List.drop_eq_nil_of_le hx, List.drop_eq_nil_of_le hy]; rfl
theorem fdL_self (xs : List Nat) : ∀ k, fdL xs xs k = -1 := by
  induction xs with
  | nil => intro k; rfl
  | cons x xs ih => intro k; show (if sameX x x then _ else _) = _; rw [sameX_self]; exact ih (k + 1)

def FdI (xs ys : List Nat) (n m : Nat) (w : World) (i : Value) (wr : World) : Prop :=
  ∃ k : Nat, (k ≤ n ∨ k ≤ m) ∧ i = .int .i64 (k : Int) ∧ fdL xs ys 0 = fdL (xs.drop k) (ys.drop k) k ∧ Nw w wr
def FdP (xs ys : List Nat) (w : World) (e : Ending) (w' : World) : Prop := e = .returned (.int .i64 (fdL xs ys 0)) ∧ Nw w w'

end Go.Proofs.Ytcodiiajmffdoaa
