/- impl.oddPart, and impl.FormatDouble of a number that is not 0.
   Conditions: those that each statement names. -/
import Derived.Test.YtjmignhcfmdcaaaDoorLdx
import Derived.Test.YtjmignhcfmdcaaaDoorFmtU
import Derived.Test.YtjmignhcfmdcaaaDoorParD
import Derived.Test.YtjmignhcfmdcaaaDoorLimit
namespace Go.Proofs.YtjmignhcfmdcaaaDoor
set_option linter.unusedSimpArgs false
set_option linter.unusedVariables false
open Go Go.RowKit

theorem tabAt_nw {g : Nat} {tab : List Nat} {w w' : World} (h : Nw w w') (hg : g < w.heap.size) (t : TabAt g tab w) : TabAt g tab w' := fun j hj => by
  rw [h.cell (p := ⟨g, j, none⟩) hg]; exact t j hj

theorem odd_split (M : Nat) (h0 : M ≠ 0) (h : M < 18446744073709551616) : ∃ a, a % 2 = 1 ∧ M = 2 ^ Lib.ctz 64 M * a ∧ Lib.ctz 64 M < 64 := by
  unfold Lib.ctz
  rw [if_neg h0]
  obtain ⟨j, hj, hl⟩ := Lib.ctzFrom_spec 64 M (Nat.pos_of_ne_zero h0) h
  exact ⟨2 * j + 1, by omega, hj, hl⟩

def OddP (V : Rat) (w : World) (e : Ending) (w' : World) : Prop :=
  ∃ (a : Nat) (q : Int), e = .returned (.tuple #[.int .u64 (a : Int), .int .i64 q]) ∧ a % 2 = 1 ∧ a < 9007199254740992 ∧ (a : Rat) * Flo.pw q = V ∧ -2000 ≤ q ∧ q ≤ 2000 ∧ ∃ n, w' = w.drewN n

set_option maxRecDepth 100000 in
theorem oddPart_ok (x m : Nat) (p : Int) (hx : x < 18446744073709551616) (h : Ieee.double.read x = .number false m p) (hm : m ≠ 0) (w : World) (hT : TabAt 1 Lib.deBruijn64tab w) :
    Calls Tryd.prog 22 #[.float .f64 x] w (OddP ((m : Rat) * Flo.pw p) w) := by
  have H := Lib.hid (And.intro h hm)
  have T := Lib.hid hT
  clear h hm hT
  go_enter Tryd.func22, Tryd.ntmps22
  go_wp2_with fail
  refine (frexp_ok x m false p hx H.out.1 H.out.2 _).mono ?_
  rintro e w' ⟨X, s, E, F, z, rfl, hX, h1, h2, h3, h4, h5, h6, h7, n, rfl⟩
  obtain rfl : s = 0 := by
    rcases Nat.lt_or_ge s 1 with g | g
    · omega
    · rw [show s = 1 by omega] at h2; simp at h2
  have rX : Ieee.double.read X = .number false (4503599627370496 + F) (-53) := by rw [hX]; exact read_nor 0 1022 F (by omega) (by omega) (by omega) h5
  have hXl : X < 18446744073709551616 := by rw [hX]; omega
  obtain ⟨M, hM⟩ : ∃ M : Nat, M = 4503599627370496 + F := ⟨_, rfl⟩
  rw [← hM] at rX h7
  have hM1 : 4503599627370496 ≤ M := by omega
  have hM2 : M < 9007199254740992 := by omega
  have q1 : (4503599627370496 : Rat) ≤ (M : Rat) := by exact_mod_cast hM1
  have q2 : (M : Rat) < 9007199254740992 := by exact_mod_cast hM2
  have b0 : (M : Rat) * Flo.pw (-53 + 53) = (M : Rat) := by rw [show (-53 : Int) + 53 = 0 from rfl, Flo.pw_zero]; grind
  have b1 : Flo.pw (-1022) ≤ (M : Rat) * Flo.pw (-53 + 53) := by
    rw [b0]
    have := Flo.pw_le (show (-1022 : Int) ≤ 0 by omega)
    rw [Flo.pw_zero] at this
    grind
  have b2 : (M : Rat) * Flo.pw (-53 + 53) < Flo.pw 1024 := by
    rw [b0]
    have := Flo.pw_le (show (53 : Int) ≤ 1024 by omega)
    rw [Flo.p53] at this
    grind
  have HH := Lib.hid (And.intro h3 (And.intro h4 (And.intro h6 h7)))
  have HX := Lib.hid (And.intro rX (And.intro b1 (And.intro b2 b0)))
  clear hX h1 h2 h3 h4 h5 h6 h7 rX b1 b2 hM q1 q2 b0
  go_wp2_with fail
  refine (ldexp_nor X M false (-53) 53 hXl HX.out.1 (by omega) (by omega) HX.out.2.1 HX.out.2.2.1 _).mono ?_
  rintro e w' ⟨Y, s', N, F', rfl, hY, g1, g2, g3, g4, g5, g6, n', rfl⟩
  obtain rfl : s' = 0 := by
    rcases Nat.lt_or_ge s' 1 with g | g
    · omega
    · rw [show s' = 1 by omega] at g2; simp at g2
  have rY : Ieee.double.read Y = .number false (4503599627370496 + F') ((N : Int) - 1075) := by rw [hY]; exact read_nor 0 N F' (by omega) g3 g4 g5
  rw [HX.out.2.2.2] at g6
  have q2 : (M : Rat) < Flo.pw 53 := by rw [Flo.p53]; exact_mod_cast hM2
  obtain ⟨iv, t1, t2, t3⟩ := Flo.trunc_ok Y _ _ rY (by rw [g6]; exact q2)
  have eW : Flo.W Y = (M : Rat) := by
    rw [show Flo.W Y = _ from Flo.V_eq rY]; unfold Flo.val; simp only [Bool.false_eq_true, if_false, Rat.one_mul]; exact g6
  rw [eW] at t2 t3
  obtain rfl := Flo.int_eq t2 t3
  have cv := fun w => run_convert_float_int (P := Tryd.prog) w 25 38 .f64 .u64 Y (iv : Int) (by kernel_rfl) Tryd.underlying38 (trunc_u64 t1)
  obtain ⟨a, ha, hs, hc⟩ := odd_split iv (by omega) (by omega)
  clear t1 t2 t3 eW q2 rY g1 g2 g3 g4 g5 g6 hY
  have hT2 : ∀ n, TabAt 1 Lib.deBruijn64tab (w.drewN n) := fun n j hj => by rw [World.cell?_drewN]; exact T.out j hj
  have tz := fun n => tz_ok iv (by omega) (by omega) (w.drewN n) (hT2 n)
  have hsh : (iv : Int) / 2 ^ ((Lib.ctz 64 iv : Nat) : Int).toNat = (a : Int) := by
    rw [Int.toNat_natCast]
    conv => lhs; lhs; rw [hs]
    push_cast
    exact Int.mul_ediv_cancel_left _ (by have := Nat.two_pow_pos (Lib.ctz 64 iv); exact_mod_cast Nat.ne_of_gt this)
  have hval : (a : Rat) * Flo.pw ((E : Int) - 1075 + z + (Lib.ctz 64 iv : Nat)) = (m : Rat) * Flo.pw p := by
    rw [← HH.out.2.2.2, Flo.pw_add _ ((Lib.ctz 64 iv : Nat) : Int), Flo.pw_nat]
    have : (iv : Rat) = ((2 ^ Lib.ctz 64 iv : Nat) : Rat) * (a : Rat) := by
      have e : ((2 ^ Lib.ctz 64 iv * a : Nat) : Rat) = (iv : Rat) := by rw [← hs]
      rw [← e]; push_cast; rfl
    rw [this]; grind
  have ha53 : a < 9007199254740992 := by
    have := Nat.le_mul_of_pos_left a (Nat.two_pow_pos (Lib.ctz 64 iv))
    omega
  have hE := HH.out.1
  have hE2 := HH.out.2.1
  have hz := HH.out.2.2.1
  have HS := Lib.hid (And.intro ha (And.intro ha53 hval))
  generalize Lib.ctz 64 iv = c at *
  clear hs ha hval hT2 HX HH
  go_wp2_with fail
  refine (tz _).mono ?_
  rintro e w' ⟨rfl, rfl⟩
  clear tz
  go_wp2_with fail
  go_ret2
  exact ⟨a, (E : Int) - 1075 + z + (c : Nat), by rw [show (E : Int) - 1075 + z + (c : Nat) = z + ((E : Int) - 1023 + 1) - 53 + (c : Nat) from by omega, ← hsh, Int.toNat_natCast]; rfl, HS.out.1, HS.out.2.1, HS.out.2.2, by omega, by omega, _, rfl⟩

end Go.Proofs.YtjmignhcfmdcaaaDoor
