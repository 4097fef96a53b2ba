/- The walks of what makes a cursor, of the law's own 'fresh', and of the makers of numbers.
   Conditions: those that each statement names. -/
import Derived.Test.YtjmignhcfmdcaaaDoorDraw
namespace Go.Proofs.YtjmignhcfmdcaaaDoor
set_option linter.unusedSimpArgs false
set_option linter.unusedVariables false
open Go Go.RowKit

def NewP (a : Option Addr) (len cap : Nat) (w : World) (e : Ending) (w' : World) : Prop :=
  e = .returned (.pointer (some ⟨w.heap.size, 0, none⟩)) ∧ At w.heap.size w a len cap w.heap.size w'

theorem at_new0 {a : Option Addr} {len cap : Nat} {w : World} (hb : Bys w.heap.size a len w) (h : Int) (T : TypeId) :
    At w.heap.size w a len cap w.heap.size (w.alloc (.cells #[.slice a len cap, .int .i64 0, .int .i64 h] T (0, 0))) := by
  have hB : Below w.heap.size w (w.alloc (.cells #[.slice a len cap, .int .i64 0, .int .i64 h] T (0, 0))) := (Below.refl _ _).alloc (Nat.le_refl _) _
  refine ⟨⟨Nat.le_refl _, by simp, hb.below hB, 0, h, by omega, ?_, ?_, ?_, ?_, ?_, ?_⟩, (Kp.refl _ _).alloc _⟩
  all_goals go_simp

/-- 'fresh' makes bytes of its own -/
def FreshP (w : World) (e : Ending) (w' : World) : Prop :=
  ∃ g len cap, e = .returned (.slice (some ⟨g, 0, none⟩) len cap) ∧ w.heap.size ≤ g ∧ g < w'.heap.size ∧ Bys w'.heap.size (some ⟨g, 0, none⟩) len w' ∧ Below w.heap.size w w'

theorem fresh_done {w wr : World} {v : Value} {k : Nat} {xs : List Value} {T : TypeId} (hk : k ≤ 600) (hown : wr.ownsRow w.heap.size T 1 v (k + 1) xs) (hxs : ∀ u ∈ xs, ∃ x : Nat, x ≤ 255 ∧ u = .int .u8 (x : Int)) (hb : Below w.heap.size w wr) :
    FreshP w (.returned v) wr := by
  have hlen := hown.1
  have hlt := hown.lt
  rcases hown.2 with ⟨_, h0⟩ | ⟨g, cap, cur, rfl, hg, hcur, h1, h2, h3, h4⟩
  · omega
  · have hg2 := hlt g rfl
    refine ⟨g, k + 1, cap, rfl, hg, hg2.2, ⟨by omega, .inr ⟨g, 0, rfl, hg2.2, fun j hj => ?_⟩⟩, hb⟩
    have hj' : j < xs.length := by omega
    obtain ⟨x, hx, he⟩ := hxs xs[j] (List.getElem_mem hj')
    refine ⟨x, hx, ?_⟩
    have := hown.cells (g := g) rfl j (xs[j]) (List.getElem?_eq_getElem hj')
    rw [Nat.zero_add, ← he]
    by_cases h0 : j = 0
    · subst h0; simpa [Addr.add] using this
    · simpa [Addr.add, h0] using this

theorem info_u8 : (Tryd.prog.info? 5).map (fun i => (i.zero, i.size, i.bytes)) = some (some (.int .u8 0), 1, 1) := by kernel_rfl

/-- a complex number of double precision; nothing that was there has turned -/
def MadeP (w : World) (e : Ending) (w' : World) : Prop :=
  ∃ x y : Nat, e = .returned (.complex .f64 x y) ∧ x < 2 ^ 64 ∧ y < 2 ^ 64 ∧ Below w.heap.size w w'


/-- a number of moderate size -/
def Moderate (x y : Nat) : Prop := x < 2 ^ 64 ∧ y < 2 ^ 64 ∧ fin .f64 x = true ∧ fin .f64 y = true ∧
  Flo.pw (-201) ≤ Flo.W (labs x) + Flo.W (labs y) ∧ Flo.W (labs x) + Flo.W (labs y) ≤ Flo.pw 201 ∧ Flo.Nm (labs x) ∧ Flo.Nm (labs y)
def ModP (w : World) (e : Ending) (w' : World) : Prop :=
  ∃ x y : Nat, e = .returned (.complex .f64 x y) ∧ Moderate x y ∧ Below w.heap.size w w'

theorem Nm_of_fin {x : Nat} (h : fin .f64 x = true) : Flo.Nm x := (fin_iff .f64 x).1 h

theorem moderate_const : Moderate 4604930618986332160 13837309855095848960 := by
  have h1 : Ieee.double.read 4604930618986332160 = .number false 6755399441055744 (-53) := by decide
  have h2 : Ieee.double.read 13837309855095848960 = .number true 6755399441055744 (-51) := by decide
  have l1 := labs_num _ (by decide) ⟨_, _, _, h1⟩
  have l2 := labs_num _ (by decide) ⟨_, _, _, h2⟩
  have v1 : Flo.W 4604930618986332160 = 3 / 4 := by
    rw [show Flo.W 4604930618986332160 = _ from Flo.V_eq h1]
    unfold Flo.val
    have := Flo.pw_neg_mul 53
    have e : Flo.pw 53 = 9007199254740992 := Flo.pw_nat 53
    rw [e] at this
    simp only [Bool.false_eq_true, if_false]
    have e2 : ((6755399441055744 : Nat) : Rat) = 6755399441055744 := rfl
    rw [e2]; grind
  have v2 : Flo.W 13837309855095848960 = -3 := by
    rw [show Flo.W 13837309855095848960 = _ from Flo.V_eq h2]
    unfold Flo.val
    have := Flo.pw_neg_mul 51
    have e : Flo.pw 51 = 2251799813685248 := Flo.pw_nat 51
    rw [e] at this
    simp only [if_true]
    have e2 : ((6755399441055744 : Nat) : Rat) = 6755399441055744 := rfl
    rw [e2]; grind
  have a1 : Flo.pw (-201) ≤ 1 := by rw [← Flo.pw_zero]; exact Flo.pw_le (by omega)
  have a2 : Flo.pw 2 ≤ Flo.pw 201 := Flo.pw_le (by omega)
  have a3 : Flo.pw 2 = 4 := Flo.pw_nat 2
  refine ⟨by decide, by decide, by decide, by decide, ?_, ?_, l1.1, l2.1⟩
  · rw [l1.2, l2.2, v1, v2]
    have : ra (3 / 4) = 3 / 4 := by unfold ra; rw [if_neg (by grind)]
    have : ra (-3) = 3 := by unfold ra; rw [if_pos (by grind)]; grind
    grind
  · rw [l1.2, l2.2, v1, v2]
    have : ra (3 / 4) = 3 / 4 := by unfold ra; rw [if_neg (by grind)]
    have : ra (-3) = 3 := by unfold ra; rw [if_pos (by grind)]; grind
    grind

theorem moderate_of (x y : Nat) (hx : x < 2 ^ 64) (hy : y < 2 ^ 64) (fx : fin .f64 x = true) (fy : fin .f64 y = true)
    (h1 : (FloatKind.f64.format.order (szd x y) 3706462493325918208 == some .lt) = false) (h2 : (FloatKind.f64.format.order (szd x y) 5507902344274116608 == some .gt) = false) : Moderate x y := by
  have nx := Nm_of_fin fx
  have ny := Nm_of_fin fy
  have lx := labs_num x hx nx
  have ly := labs_num y hy ny
  have c1 : Ieee.double.read 3706462493325918208 = .number false 4503599627370496 (-252) := by decide
  have c2 : Ieee.double.read 5507902344274116608 = .number false 4503599627370496 148 := by decide
  have e52 : ((4503599627370496 : Nat) : Rat) = Flo.pw 52 := (Flo.pw_nat 52).symm
  have v1 : Flo.V Ieee.double 3706462493325918208 = Flo.pw (-200) := by
    rw [Flo.V_eq c1]; unfold Flo.val; rw [e52, ← Flo.pw_add]; simp only [Bool.false_eq_true, if_false]; rw [show (52 + -252 : Int) = -200 from rfl]; grind
  have v2 : Flo.V Ieee.double 5507902344274116608 = Flo.pw 200 := by
    rw [Flo.V_eq c2]; unfold Flo.val; rw [e52, ← Flo.pw_add]; simp only [Bool.false_eq_true, if_false]; rw [show (52 + 148 : Int) = 200 from rfl]; grind
  have p0 := ra_nonneg (Flo.W x)
  have q0 := ra_nonneg (Flo.W y)
  obtain ⟨r, hr, hor⟩ := Flo.d_add_or (labs x) (labs y) lx.1 ly.1 (Flo.W (labs x) + Flo.W (labs y)) ⟨by rw [lx.2, ly.2]; grind, Rat.le_refl⟩
  have hrs : szd x y = r := by unfold szd; rw [hr]; rfl
  rw [hrs, show FloatKind.f64.format = Ieee.double from rfl] at h1 h2
  rcases hor with ⟨s, hi⟩ | ⟨nr, near⟩
  · exfalso
    unfold Ieee.Format.order at h1 h2
    rw [hi, c1] at h1
    rw [hi, c2] at h2
    cases s <;> simp [Ieee.Datum.order] at h1 h2
  · have o1 := (Flo.order_num Ieee.double r _ nr ⟨_, _, _, c1⟩).1
    have o2 := (Flo.order_num Ieee.double r _ nr ⟨_, _, _, c2⟩).2.2
    rw [v1] at o1
    rw [v2] at o2
    have g1 : ¬ Flo.V Ieee.double r < Flo.pw (-200) := fun g => by rw [o1.2 g] at h1; exact absurd h1 (by decide)
    have g2 : ¬ Flo.pw 200 < Flo.V Ieee.double r := fun g => by rw [o2.2 g] at h2; exact absurd h2 (by decide)
    have k1 : Flo.pw (-200) = 2 * Flo.pw (-201) := by rw [← Flo.pw_succ]; rfl
    have k2 : Flo.pw 201 = 2 * Flo.pw 200 := by rw [← Flo.pw_succ]; rfl
    have k3 : Flo.et ≤ Flo.pw (-210) := Flo.pw_le (by omega)
    have k4 : Flo.pw (-201) = 512 * Flo.pw (-210) := by
      rw [show (-201 : Int) = 9 + -210 from rfl, Flo.pw_add, show Flo.pw 9 = 512 from Flo.pw_nat 9]
    have k5 := Flo.u_le
    have k6 := Flo.u_pos
    have k7 : Flo.pw (-210) ≤ Flo.pw 200 := Flo.pw_le (by omega)
    have k8 := Flo.pw_pos (-210)
    refine ⟨hx, hy, fx, fy, ?_, ?_, lx.1, ly.1⟩
    · have hS : 0 ≤ Flo.W (labs x) + Flo.W (labs y) := by rw [lx.2, ly.2]; grind
      generalize Flo.W (labs x) + Flo.W (labs y) = S at *
      have := Rat.mul_le_mul_of_nonneg_left k5 hS
      unfold Flo.Ab Flo.W at near
      grind
    · have hS : 0 ≤ Flo.W (labs x) + Flo.W (labs y) := by rw [lx.2, ly.2]; grind
      generalize Flo.W (labs x) + Flo.W (labs y) = S at *
      have := Rat.mul_le_mul_of_nonneg_left k5 hS
      unfold Flo.Ab Flo.W at near
      grind


end Go.Proofs.YtjmignhcfmdcaaaDoor
