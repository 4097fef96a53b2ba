/- The walks of MakeMode, and of the program's IsMode, BeatOf and BeatPeriod on valid modes.
   Conditions: those that each statement names. -/
import Derived.Test.YtjmignhcfmdcaaaDoorMode
import Derived.Test.YtjmignhcfmdcaaaDoorQuo
namespace Go.Proofs.YtjmignhcfmdcaaaDoor
set_option linter.unusedSimpArgs false
set_option linter.unusedVariables false
open Go Go.RowKit

theorem Kp.nw {c : Nat} {w w' : World} (h : Kp c w w') (hc : w.heap.size ≤ c) : Nw w w' :=
  ⟨h.os, h.tape, h.output, h.size, fun k hk _ => h.block k hk (fun e => by cases e; omega)⟩

def Valid (pr pi gr gi : Nat) : Prop := modeB pr pi gr gi labs = true
theorem valid_const : Valid 1056964608 1048576000 1065353216 0 := by unfold Valid; decide +kernel

theorem quiet_eq {P : Program} {f : FuncId} {args : Array Value} {w : World} {n : Nat} {v : Value}
    (h : Calls P f args (w.drewN n) fun e w' => e = .returned v ∧ w.drewN n = w') : Calls P f args (w.drewN n) fun e w'' => e = .returned v ∧ ∃ m, w'' = w.drewN m :=
  h.mono fun _ _ ⟨he, hm⟩ => ⟨he, n, hm.symm⟩

/-! ### the program's own functions on valid modes -/
/-- what is known of a valid mode, in numbers -/
theorem Valid.parts {pr pi gr gi : Nat} (h : Valid pr pi gr gi) :
    fin .f32 pr = true ∧ fin .f32 pi = true ∧ fin .f32 gr = true ∧ fin .f32 gi = true ∧ leB (sqr (wid pr) (wid pi)) 4607182418800017408 = true ∧ leB (labs (wid gr)) 4652218415073722368 = true ∧ leB (labs (wid gi)) 4652218415073722368 = true := by
  unfold Valid modeB at h
  simp only [Bool.and_eq_true] at h
  exact ⟨h.1.1.1.1, h.1.1.1.2, h.1.1.2.1, h.1.1.2.2, h.1.2, h.2.1, h.2.2⟩

/-- the two absolute values are the same number, so the tests agree -/
theorem leB_abs {x k : Nat} (hx : x < 2 ^ 64) (h : Flo.Nm x) (hk : Flo.Nm k) : leB (x % signBit) k = leB (labs x) k := by
  have l := labs_num x hx h
  have r := abs_num x h
  rw [show Op.Complex.abs x = x % signBit from rfl] at r
  have i1 := leB_iff r.1 hk
  have i2 := leB_iff l.1 hk
  rw [r.2] at i1
  rw [l.2] at i2
  cases h1 : leB (x % signBit) k <;> cases h2 : leB (labs x) k <;> simp_all

theorem num_1024 : Flo.Nm 4652218415073722368 := ⟨false, 4503599627370496, -42, by decide⟩

theorem fin_wid {b : Nat} (h : Sm b) : fin .f64 (wid b) = true := (fin_iff' .f64 _).2 (wid_num h).1

/-- the poles of valid modes, widened, are of moderate size if their size is at least a small one -/
theorem square_nonneg (q : Rat) : 0 ≤ q * q := by
  rcases Rat.le_total (a := 0) (b := q) with h | h
  · exact Rat.mul_nonneg h h
  · have := Rat.mul_nonneg (show 0 ≤ -q by grind) (show 0 ≤ -q by grind); grind

theorem num_one : Flo.Nm 4607182418800017408 ∧ Flo.W 4607182418800017408 = 1 := by
  refine ⟨one_num.1, ?_⟩
  rw [one_num.2]; exact Flo.pw_zero

/-- a valid pole's square is at most 1, but for rounding -/
theorem Valid.square {pr pi gr gi : Nat} (h : Valid pr pi gr gi) : S pr * S pr + S pi * S pi ≤ 1 + 1 / 100000 := by
  obtain ⟨h1, h2, -, -, h5, -, -⟩ := h.parts
  obtain ⟨a, b, -, -, -, n, e⟩ := sqr_num (Sm_of h1) (Sm_of h2)
  have l := (leB_iff n num_one.1).1 h5
  rw [num_one.2] at l
  have q1 := square_nonneg (S pr)
  have q2 := square_nonneg (S pi)
  have hQ : 0 ≤ S pr * S pr + S pi * S pi := by grind
  generalize S pr * S pr + S pi * S pi = Q at *
  have u1 := Flo.u_le
  have eu : Flo.et ≤ Flo.u := Flo.pw_le (by omega)
  have := Rat.mul_le_mul_of_nonneg_left u1 hQ
  unfold Flo.Ab at e
  grind

theorem ra_sq (q : Rat) : ra q * ra q = q * q := by unfold ra; split <;> grind

/-- .. and the size of such a pole at most 3/2 -/
theorem Valid.size {pr pi gr gi : Nat} (h : Valid pr pi gr gi) : Flo.W (labs (wid pr)) + Flo.W (labs (wid pi)) ≤ 3 / 2 := by
  obtain ⟨h1, h2, -, -, -, -, -⟩ := h.parts
  obtain ⟨n1, v1⟩ := wid_num (Sm_of h1)
  obtain ⟨n2, v2⟩ := wid_num (Sm_of h2)
  rw [(labs_num _ (wid_lt _) n1).2, (labs_num _ (wid_lt _) n2).2, v1, v2]
  have hs := h.square
  rw [← ra_sq (S pr), ← ra_sq (S pi)] at hs
  have a0 := ra_nonneg (S pr)
  have b0 := ra_nonneg (S pi)
  generalize ra (S pr) = A at *
  generalize ra (S pi) = B at *
  have h3 := square_nonneg (A - B)
  rcases Rat.le_total (a := A + B) (b := 3 / 2) with g | g
  · exact g
  · have g2 := Rat.mul_le_mul_of_nonneg_left g (show 0 ≤ A + B by grind)
    have g3 := Rat.mul_le_mul_of_nonneg_right g (show (0 : Rat) ≤ 3 / 2 by grind)
    grind

theorem Valid.moderate {pr pi gr gi k : Nat} (h : Valid pr pi gr gi) (hk : Flo.Nm k) (vk : Flo.W k = Flo.pw (-((20 : Nat) : Int)))
    (ht : (FloatKind.f64.format.order (szd (wid pr) (wid pi)) k == some .lt) = false) : Moderate (wid pr) (wid pi) := by
  have hsz := h.size
  obtain ⟨h1, h2, -, -, -, -, -⟩ := h.parts
  obtain ⟨n1, v1⟩ := wid_num (Sm_of h1)
  obtain ⟨n2, v2⟩ := wid_num (Sm_of h2)
  obtain ⟨l1, l1v⟩ := labs_num _ (wid_lt pr) n1
  obtain ⟨l2, l2v⟩ := labs_num _ (wid_lt pi) n2
  have a0 : 0 ≤ Flo.W (labs (wid pr)) := by rw [l1v]; exact ra_nonneg _
  have b0 : 0 ≤ Flo.W (labs (wid pi)) := by rw [l2v]; exact ra_nonneg _
  have e2 : Flo.pw 2 = 4 := Flo.pw_nat 2
  have l1023 : Flo.pw 2 < Flo.pw 1023 := Flo.pw_lt (by omega)
  obtain ⟨r, r1, r2, r3⟩ := Flo.d_add _ _ l1 l2 (3 / 2) ⟨by grind, hsz⟩ (by grind)
  have hr : szd (wid pr) (wid pi) = r := by unfold szd; rw [r1]; rfl
  rw [hr, show FloatKind.f64.format = Ieee.double from rfl] at ht
  have o := (Flo.order_num Ieee.double r k r2 hk).1
  have g : ¬ Flo.W r < Flo.W k := fun g => by rw [o.2 g] at ht; exact absurd ht (by decide)
  rw [vk] at g
  have u1 : Flo.u ≤ Flo.pw (-25) := Flo.pw_le (by omega)
  have e1 : Flo.et ≤ Flo.pw (-25) := Flo.pw_le (by omega)
  have p25 : Flo.pw (-((20 : Nat) : Int)) = 32 * Flo.pw (-25) := by rw [show (-((20 : Nat) : Int)) = 5 + -25 from rfl, Flo.pw_add, show Flo.pw 5 = 32 from Flo.pw_nat 5]
  have q1 : Flo.pw (-201) ≤ Flo.pw (-25) := Flo.pw_le (by omega)
  have q2 : Flo.pw 2 ≤ Flo.pw 201 := Flo.pw_le (by omega)
  have q3 := Flo.pw_pos (-25)
  unfold Flo.Ab at r3
  exact ⟨wid_lt _, wid_lt _, fin_wid (Sm_of h1), fin_wid (Sm_of h2), by grind, by grind, l1, l2⟩

theorem num_16 : Flo.Nm 4589168020290535424 ∧ Flo.W 4589168020290535424 = 1 / 16 := by
  have h : Ieee.double.read 4589168020290535424 = .number false 4503599627370496 (-56) := by decide
  refine ⟨⟨_, _, _, h⟩, ?_⟩
  rw [show Flo.W 4589168020290535424 = _ from Flo.V_eq h]
  unfold Flo.val
  have := Flo.pw_neg_mul 56
  have e : Flo.pw 56 = 72057594037927936 := Flo.pw_nat 56
  rw [e] at this
  simp only [Bool.false_eq_true, if_false]
  have e2 : ((4503599627370496 : Nat) : Rat) = 4503599627370496 := rfl
  rw [e2]; grind

/-- A NUMBER's QUOTIENT BY ITSELF IS NEAR 1. -/
theorem one_ok (c d : Nat) (h : Moderate c d) : ∃ e f d1 d2 s, divD c d c d = some (e, f) ∧ floatBits .sub .f64 e 4607182418800017408 = some d1 ∧ floatBits .sub .f64 f 0 = some d2 ∧ d1 < 2 ^ 64 ∧ d2 < 2 ^ 64 ∧
    floatBits .add .f64 (d1 % signBit) (d2 % signBit) = some s ∧ leB s 4589168020290535424 = true := by
  obtain ⟨e, f, hdiv, ne, nf, S, T, C, hS, hT, hC, hcC, hdC, haS, hbS, het, hS201, heT, hfT, g1, g2⟩ := quo_moderate c d c d h h
  obtain ⟨cx, dx, fc, fd, s1, s2, nlc, nld⟩ := h
  have nc := Nm_of_fin fc
  have nd := Nm_of_fin fd
  have lc := (labs_num c cx nc).2
  have ld := (labs_num d dx nd).2
  rw [lc, ld] at hS s1
  rw [← hS] at s1
  have hSp : 0 < S := by have := Flo.pw_pos (-201); grind
  have u0 := Flo.u_pos
  have u1 := Flo.u_le
  have hD : S * S / 2 ≤ Flo.W c * Flo.W c + Flo.W d * Flo.W d := by
    rw [← ra_sq (Flo.W c), ← ra_sq (Flo.W d), hS]
    have := square_nonneg (ra (Flo.W c) - ra (Flo.W d))
    grind
  have hSS : 0 < S * S / 2 := by
    have := Rat.mul_pos hSp hSp
    grind
  have x1 : Flo.Ab ((Flo.W e - 1) * (Flo.W c * Flo.W c + Flo.W d * Flo.W d)) (496 * Flo.u * (S * S / 2)) := by
    have := (haS.mul g1).add (hbS.mul g2)
    refine (this.eq ?_).mono ?_
    · clear this; grind
    · clear this g1 g2; grind
  have y1 : Flo.Ab (Flo.W f * (Flo.W c * Flo.W c + Flo.W d * Flo.W d)) (496 * Flo.u * (S * S / 2)) := by
    have := (haS.mul g2).sub (hbS.mul g1)
    refine (this.eq ?_).mono ?_
    · clear this; grind
    · clear this g1 g2; grind
  have x2 := x1.div hSS hD
  have y2 := y1.div hSS hD
  have b1023 : (1 : Rat) < Flo.pw 1023 := by have := Flo.pw_lt (a := 0) (b := 1023) (by omega); rwa [Flo.pw_zero] at this
  have et0 := Flo.et_pos
  have etu : Flo.et ≤ Flo.u := Flo.pw_le (by omega)
  have uu : Flo.u * Flo.u ≤ Flo.u / 1048576 := by have := Rat.mul_le_mul_of_nonneg_left u1 (Rat.le_of_lt u0); grind
  obtain ⟨d1, p1, p2, p3⟩ := Flo.d_sub e 4607182418800017408 ne num_one.1 (496 * Flo.u) (by rw [num_one.2]; exact x2) (by grind)
  obtain ⟨d2, q1, q2, q3⟩ := Flo.d_sub f 0 nf zero_num.1 (496 * Flo.u) (by rw [zero_num.2]; exact y2.eq (by grind)) (by grind)
  rw [num_one.2] at p3
  rw [zero_num.2] at q3
  have p4 : Flo.Ab (Flo.W d1) (500 * Flo.u) := ((p3.add x2).eq (by grind)).mono (by grind)
  have q4 : Flo.Ab (Flo.W d2) (500 * Flo.u) := ((q3.add y2).eq (by grind)).mono (by grind)
  obtain ⟨a1, a1v⟩ := abs_num d1 p2
  obtain ⟨a2, a2v⟩ := abs_num d2 q2
  rw [show Op.Complex.abs d1 = d1 % signBit from rfl] at a1 a1v
  rw [show Op.Complex.abs d2 = d2 % signBit from rfl] at a2 a2v
  have r1 := ra_le p4
  have r2 := ra_le q4
  have r3 := ra_nonneg (Flo.W d1)
  have r4 := ra_nonneg (Flo.W d2)
  rw [← a1v] at r1 r3
  rw [← a2v] at r2 r4
  obtain ⟨s, t1, t2, t3⟩ := Flo.d_add _ _ a1 a2 (1000 * Flo.u) ⟨by grind, by grind⟩ (by grind)
  refine ⟨e, f, d1, d2, s, hdiv, p1, q1, ?_, ?_, t1, (leB_iff t2 num_16.1).2 ?_⟩
  · have := floatBits_wf p1; simpa [Lit.wf] using this
  · have := floatBits_wf q1; simpa [Lit.wf] using this
  · rw [num_16.2]
    unfold Flo.Ab at t3
    grind

/-! ### beats -/
def TupP (v : Value) (w : World) (e : Ending) (w' : World) : Prop := e = .returned v ∧ Nw w w'

end Go.Proofs.YtjmignhcfmdcaaaDoor
