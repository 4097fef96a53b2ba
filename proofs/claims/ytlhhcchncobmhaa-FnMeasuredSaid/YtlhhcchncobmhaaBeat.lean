/- The walks of MakeMode, and of the program's IsMode, BeatOf and BeatPeriod on valid modes.
   Conditions: those that each statement names. -/
import Derived.Test.YtlhhcchncobmhaaMode
import Derived.Test.YtlhhcchncobmhaaQuo
namespace Go.Proofs.Ytlhhcchncobmhaa
set_option linter.unusedSimpArgs false
set_option linter.unusedVariables false
open Go Go.RowKit

theorem Kp.nw {c : Nat} {w w' : World} (h : Kp c w w') (hc : w.heap.size ≤ c) : Nw w w' :=
  ⟨h.os, h.tape, h.output, h.size, fun k hk _ => h.block k hk (fun e => by cases e; omega)⟩

def Valid (pr pi gr gi : Nat) : Prop := modeB pr pi gr gi labs = true
theorem valid_const : Valid 1056964608 1048576000 1065353216 0 := by unfold Valid; decide +kernel

theorem makeMode_any (a : Option Addr) (len cap : Nat) (w : World) (hb : Bys w.heap.size a len w) :
    Calls Try.prog 36 #[.slice a len cap] w (ModeP Valid w) := by
  have Hb := Lib.hid hb
  clear hb
  have hsz : ∀ o, (w.alloc o).heap.size = w.heap.size + 1 := fun o => by simp
  have Hsz := Lib.hid hsz
  clear hsz
  go_enter Try.func36, Try.ntmps36
  go_wp2_with fail
  refine (l01New_any _ _ _ _ ((Hb.out.below ((Below.refl _ _).alloc (Nat.le_refl _) _)).mono (by simp))).mono ?_
  rintro e w1 ⟨rfl, hat⟩
  rw [Hsz.out] at hat
  have Hr1 := Lib.hid ((HasMode.new w 61 0 0 0 0).kp hat.2 (by omega))
  have Hn1 := Lib.hid ((((Nw.refl w).alloc (.cells #[.complex .f32 0 0, .complex .f32 0 0] 61 (0, 0))).trans (hat.2.nw (by simp))))
  have Hat := Lib.hid hat
  clear hat
  go_wp2_with fail
  refine (l2Mode_at _ _ _ _ _ _ _ Hat.out.here).mono ?_
  rintro e w2 ⟨pr, pi, gr, gi, rfl, hc2⟩
  have Hr2 := Lib.hid (Hr1.out.kp hc2.2 (by omega))
  have Hn2 := Lib.hid (show Nw w w2 from ⟨hc2.2.os.trans Hn1.out.os, hc2.2.tape.trans Hn1.out.tape, hc2.2.output.trans Hn1.out.output, Nat.le_trans Hn1.out.size hc2.2.size,
    fun k hk hne => (hc2.2.block k (Nat.lt_of_lt_of_le hk Hn1.out.size) (fun e => by cases e; omega)).trans (Hn1.out.block k hk hne)⟩)
  clear hc2
  go_wp2_with fail
  refine (specMode_any _ _ _ _ _).mono ?_
  rintro e w3 ⟨rfl, hn3⟩
  have Hr3 := Lib.hid ((Hr2.out.alloc (.cells #[.complex .f32 pr pi, .complex .f32 gr gi] 61 (0, 0))).nw hn3)
  have Hm3 := Lib.hid ((HasMode.new w2 61 pr pi gr gi).nw hn3)
  have Hn3 := Lib.hid ((Hn2.out.alloc (.cells #[.complex .f32 pr pi, .complex .f32 gr gi] 61 (0, 0))).trans hn3)
  clear hn3
  obtain ⟨hr0, hr1, hr2, hr3, hr4⟩ := Hr3.out
  obtain ⟨hm0, hm1, hm2, hm3, hm4⟩ := Hm3.out
  cases hv : modeB pr pi gr gi labs
  · go_wp2
    exact bodyPost_ret (v := .agg #[.complex .f32 1056964608 1048576000, .complex .f32 1065353216 0]) (by simp [results, Try.results36, go_sem, hr0, hr1, hr2]) rfl
      ⟨_, _, _, _, rfl, valid_const, (Hn3.out.set (Nat.le_refl _) _).set (Nat.le_refl _) _⟩
  · go_wp2
    exact bodyPost_ret (v := .agg #[.complex .f32 pr pi, .complex .f32 gr gi]) (by simp [results, Try.results36, go_sem, hr0, hr1, hr2]) rfl
      ⟨_, _, _, _, rfl, hv, (Hn3.out.set (Nat.le_refl _) _).set (Nat.le_refl _) _⟩

theorem quiet_eq {P : Program} {f : FuncId} {args : Array Value} {w : World} {n : Nat} {v : Value}
    (h : Calls P f args (w.drewN n) fun e w' => e = .returned v ∧ w.drewN n = w') : Calls P f args (w.drewN n) fun e w'' => e = .returned v ∧ ∃ m, w'' = w.drewN m :=
  h.mono fun _ _ ⟨he, hm⟩ => ⟨he, n, hm.symm⟩

/-! ### the program's own functions on valid modes -/
/-- what is known of a valid mode, in numbers -/
theorem Valid.parts {pr pi gr gi : Nat} (h : Valid pr pi gr gi) :
    fin .f32 pr = true ∧ fin .f32 pi = true ∧ fin .f32 gr = true ∧ fin .f32 gi = true ∧ leB (sqr (wid pr) (wid pi)) 4607182418800017408 = true ∧ leB (labs (wid gr)) 4652218415073722368 = true ∧ leB (labs (wid gi)) 4652218415073722368 = true := by
  unfold Valid modeB at h
  simp only [Bool.and_eq_true] at h
  exact ⟨h.1.1.1.1, h.1.1.1.2, h.1.1.2.1, h.1.1.2.2, h.1.2, h.2.1, h.2.2⟩

/-- the two absolute values are the same number, so the tests agree -/
theorem leB_abs {x k : Nat} (hx : x < 2 ^ 64) (h : Flo.Nm x) (hk : Flo.Nm k) : leB (x % signBit) k = leB (labs x) k := by
  have l := labs_num x hx h
  have r := abs_num x h
  rw [show Op.Complex.abs x = x % signBit from rfl] at r
  have i1 := leB_iff r.1 hk
  have i2 := leB_iff l.1 hk
  rw [r.2] at i1
  rw [l.2] at i2
  cases h1 : leB (x % signBit) k <;> cases h2 : leB (labs x) k <;> simp_all

theorem num_1024 : Flo.Nm 4652218415073722368 := ⟨false, 4503599627370496, -42, by decide⟩

theorem implWiden_fin (x y : Nat) (w : World) (hx : Sm x) (hy : Sm y) :
    Calls Try.prog 79 #[.complex .f32 x y] w fun e w' => e = .returned (.complex .f64 (wid x) (wid y)) ∧ w = w' := by
  have a1 := fcv_up hx
  have a2 := fcv_up hy
  have b1 := fcd_up hx
  have b2 := fcd_up hy
  go_enter Try.func79, Try.ntmps79
  go_wp2
  go_ret
  exact ⟨rfl, rfl⟩

theorem fin_wid {b : Nat} (h : Sm b) : fin .f64 (wid b) = true := (fin_iff' .f64 _).2 (wid_num h).1

theorem isModeOf_valid (pr pi gr gi : Nat) (w : World) (h : Valid pr pi gr gi) :
    Calls Try.prog 113 #[.complex .f64 (wid pr) (wid pi), .complex .f64 (wid gr) (wid gi)] w fun e w' => e = .returned (.bool true) ∧ w = w' := by
  obtain ⟨h1, h2, h3, h4, h5, h6, h7⟩ := h.parts
  have S1 := Sm_of h1
  have S2 := Sm_of h2
  have S3 := Sm_of h3
  have S4 := Sm_of h4
  obtain ⟨a, b, m1, m2, m3, -, -⟩ := sqr_num S1 S2
  have f1 : ∀ w, fres w .mul .f64 (wid pr) (wid pr) = a := fun w => by unfold fres; rw [m1]
  have f2 : ∀ w, fres w .mul .f64 (wid pi) (wid pi) = b := fun w => by unfold fres; rw [m2]
  have f3 : ∀ w, fres w .add .f64 a b = sqr (wid pr) (wid pi) := fun w => by unfold fres; rw [m3]
  have d1 : fdr .mul .f64 (wid pr) (wid pr) = 0 := by unfold fdr; rw [m1]; rfl
  have d2 : fdr .mul .f64 (wid pi) (wid pi) = 0 := by unfold fdr; rw [m2]; rfl
  have d3 : fdr .add .f64 a b = 0 := by unfold fdr; rw [m3]; rfl
  rw [← leB_abs (wid_lt _) (wid_num S3).1 num_1024] at h6
  rw [← leB_abs (wid_lt _) (wid_num S4).1 num_1024] at h7
  have W1 := fin_wid S1
  have W2 := fin_wid S2
  have W3 := fin_wid S3
  have W4 := fin_wid S4
  unfold leB at h5 h6 h7
  clear m1 m2 m3 h S1 S2 S3 S4
  go_enter Try.func113, Try.ntmps113
  go_wp2_with (first
    | (go_at_call 98; refine (implFinite_any _ _ _ (wid_lt _) (wid_lt _)).mono ?_; rintro e w' ⟨rfl, rfl⟩)
    | (go_at_call 101; refine (abs_any _ _ (wid_lt _)).mono ?_; rintro e w' ⟨rfl, rfl⟩))
  all_goals (go_ret; exact ⟨by simp [h5, h6, h7], rfl⟩)

theorem implIsMode_valid (pr pi gr gi : Nat) (w : World) (h : Valid pr pi gr gi) :
    Calls Try.prog 110 #[.agg #[.complex .f32 pr pi, .complex .f32 gr gi]] w (TestP true w) := by
  have H := Lib.hid h
  obtain ⟨h1, h2, h3, h4, -, -, -⟩ := h.parts
  have S1 := Lib.hid (Sm_of h1)
  have S2 := Lib.hid (Sm_of h2)
  have S3 := Lib.hid (Sm_of h3)
  have S4 := Lib.hid (Sm_of h4)
  clear h h1 h2 h3 h4
  go_enter Try.func110, Try.ntmps110
  go_wp2_with fail
  go_quiet (first
    | (go_at_call 79; exact quiet_eq (implWiden_fin _ _ _ S1.out S2.out))
    | (go_at_call 79; exact quiet_eq (implWiden_fin _ _ _ S3.out S4.out))
    | (go_at_call 113; exact quiet_eq (isModeOf_valid _ _ _ _ _ H.out)))
  go_wp2
  go_ret
  exact ⟨rfl, ((Nw.refl _).alloc _).draw _⟩

/-- the poles of valid modes, widened, are of moderate size if their size is at least a small one -/
theorem square_nonneg (q : Rat) : 0 ≤ q * q := by
  rcases Rat.le_total (a := 0) (b := q) with h | h
  · exact Rat.mul_nonneg h h
  · have := Rat.mul_nonneg (show 0 ≤ -q by grind) (show 0 ≤ -q by grind); grind

theorem num_one : Flo.Nm 4607182418800017408 ∧ Flo.W 4607182418800017408 = 1 := by
  refine ⟨one_num.1, ?_⟩
  rw [one_num.2]; exact Flo.pw_zero

/-- a valid pole's square is at most 1, but for rounding -/
theorem Valid.square {pr pi gr gi : Nat} (h : Valid pr pi gr gi) : S pr * S pr + S pi * S pi ≤ 1 + 1 / 100000 := by
  obtain ⟨h1, h2, -, -, h5, -, -⟩ := h.parts
  obtain ⟨a, b, -, -, -, n, e⟩ := sqr_num (Sm_of h1) (Sm_of h2)
  have l := (leB_iff n num_one.1).1 h5
  rw [num_one.2] at l
  have q1 := square_nonneg (S pr)
  have q2 := square_nonneg (S pi)
  have hQ : 0 ≤ S pr * S pr + S pi * S pi := by grind
  generalize S pr * S pr + S pi * S pi = Q at *
  have u1 := Flo.u_le
  have eu : Flo.et ≤ Flo.u := Flo.pw_le (by omega)
  have := Rat.mul_le_mul_of_nonneg_left u1 hQ
  unfold Flo.Ab at e
  grind

theorem ra_sq (q : Rat) : ra q * ra q = q * q := by unfold ra; split <;> grind

/-- .. and the size of such a pole at most 3/2 -/
theorem Valid.size {pr pi gr gi : Nat} (h : Valid pr pi gr gi) : Flo.W (labs (wid pr)) + Flo.W (labs (wid pi)) ≤ 3 / 2 := by
  obtain ⟨h1, h2, -, -, -, -, -⟩ := h.parts
  obtain ⟨n1, v1⟩ := wid_num (Sm_of h1)
  obtain ⟨n2, v2⟩ := wid_num (Sm_of h2)
  rw [(labs_num _ (wid_lt _) n1).2, (labs_num _ (wid_lt _) n2).2, v1, v2]
  have hs := h.square
  rw [← ra_sq (S pr), ← ra_sq (S pi)] at hs
  have a0 := ra_nonneg (S pr)
  have b0 := ra_nonneg (S pi)
  generalize ra (S pr) = A at *
  generalize ra (S pi) = B at *
  have h3 := square_nonneg (A - B)
  rcases Rat.le_total (a := A + B) (b := 3 / 2) with g | g
  · exact g
  · have g2 := Rat.mul_le_mul_of_nonneg_left g (show 0 ≤ A + B by grind)
    have g3 := Rat.mul_le_mul_of_nonneg_right g (show (0 : Rat) ≤ 3 / 2 by grind)
    grind

theorem Valid.moderate {pr pi gr gi k : Nat} (h : Valid pr pi gr gi) (hk : Flo.Nm k) (vk : Flo.W k = Flo.pw (-((20 : Nat) : Int)))
    (ht : (FloatKind.f64.format.order (szd (wid pr) (wid pi)) k == some .lt) = false) : Moderate (wid pr) (wid pi) := by
  have hsz := h.size
  obtain ⟨h1, h2, -, -, -, -, -⟩ := h.parts
  obtain ⟨n1, v1⟩ := wid_num (Sm_of h1)
  obtain ⟨n2, v2⟩ := wid_num (Sm_of h2)
  obtain ⟨l1, l1v⟩ := labs_num _ (wid_lt pr) n1
  obtain ⟨l2, l2v⟩ := labs_num _ (wid_lt pi) n2
  have a0 : 0 ≤ Flo.W (labs (wid pr)) := by rw [l1v]; exact ra_nonneg _
  have b0 : 0 ≤ Flo.W (labs (wid pi)) := by rw [l2v]; exact ra_nonneg _
  have e2 : Flo.pw 2 = 4 := Flo.pw_nat 2
  have l1023 : Flo.pw 2 < Flo.pw 1023 := Flo.pw_lt (by omega)
  obtain ⟨r, r1, r2, r3⟩ := Flo.d_add _ _ l1 l2 (3 / 2) ⟨by grind, hsz⟩ (by grind)
  have hr : szd (wid pr) (wid pi) = r := by unfold szd; rw [r1]; rfl
  rw [hr, show FloatKind.f64.format = Ieee.double from rfl] at ht
  have o := (Flo.order_num Ieee.double r k r2 hk).1
  have g : ¬ Flo.W r < Flo.W k := fun g => by rw [o.2 g] at ht; exact absurd ht (by decide)
  rw [vk] at g
  have u1 : Flo.u ≤ Flo.pw (-25) := Flo.pw_le (by omega)
  have e1 : Flo.et ≤ Flo.pw (-25) := Flo.pw_le (by omega)
  have p25 : Flo.pw (-((20 : Nat) : Int)) = 32 * Flo.pw (-25) := by rw [show (-((20 : Nat) : Int)) = 5 + -25 from rfl, Flo.pw_add, show Flo.pw 5 = 32 from Flo.pw_nat 5]
  have q1 : Flo.pw (-201) ≤ Flo.pw (-25) := Flo.pw_le (by omega)
  have q2 : Flo.pw 2 ≤ Flo.pw 201 := Flo.pw_le (by omega)
  have q3 := Flo.pw_pos (-25)
  unfold Flo.Ab at r3
  exact ⟨wid_lt _, wid_lt _, fin_wid (Sm_of h1), fin_wid (Sm_of h2), by grind, by grind, l1, l2⟩

theorem num_16 : Flo.Nm 4589168020290535424 ∧ Flo.W 4589168020290535424 = 1 / 16 := by
  have h : Ieee.double.read 4589168020290535424 = .number false 4503599627370496 (-56) := by decide
  refine ⟨⟨_, _, _, h⟩, ?_⟩
  rw [show Flo.W 4589168020290535424 = _ from Flo.V_eq h]
  unfold Flo.val
  have := Flo.pw_neg_mul 56
  have e : Flo.pw 56 = 72057594037927936 := Flo.pw_nat 56
  rw [e] at this
  simp only [Bool.false_eq_true, if_false]
  have e2 : ((4503599627370496 : Nat) : Rat) = 4503599627370496 := rfl
  rw [e2]; grind

/-- A NUMBER's QUOTIENT BY ITSELF IS NEAR 1. -/
theorem one_ok (c d : Nat) (h : Moderate c d) : ∃ e f d1 d2 s, divD c d c d = some (e, f) ∧ floatBits .sub .f64 e 4607182418800017408 = some d1 ∧ floatBits .sub .f64 f 0 = some d2 ∧ d1 < 2 ^ 64 ∧ d2 < 2 ^ 64 ∧
    floatBits .add .f64 (d1 % signBit) (d2 % signBit) = some s ∧ leB s 4589168020290535424 = true := by
  obtain ⟨e, f, hdiv, ne, nf, S, T, C, hS, hT, hC, hcC, hdC, haS, hbS, het, hS201, heT, hfT, g1, g2⟩ := quo_moderate c d c d h h
  obtain ⟨cx, dx, fc, fd, s1, s2, nlc, nld⟩ := h
  have nc := Nm_of_fin fc
  have nd := Nm_of_fin fd
  have lc := (labs_num c cx nc).2
  have ld := (labs_num d dx nd).2
  rw [lc, ld] at hS s1
  rw [← hS] at s1
  have hSp : 0 < S := by have := Flo.pw_pos (-201); grind
  have u0 := Flo.u_pos
  have u1 := Flo.u_le
  have hD : S * S / 2 ≤ Flo.W c * Flo.W c + Flo.W d * Flo.W d := by
    rw [← ra_sq (Flo.W c), ← ra_sq (Flo.W d), hS]
    have := square_nonneg (ra (Flo.W c) - ra (Flo.W d))
    grind
  have hSS : 0 < S * S / 2 := by
    have := Rat.mul_pos hSp hSp
    grind
  have x1 : Flo.Ab ((Flo.W e - 1) * (Flo.W c * Flo.W c + Flo.W d * Flo.W d)) (496 * Flo.u * (S * S / 2)) := by
    have := (haS.mul g1).add (hbS.mul g2)
    refine (this.eq ?_).mono ?_
    · clear this; grind
    · clear this g1 g2; grind
  have y1 : Flo.Ab (Flo.W f * (Flo.W c * Flo.W c + Flo.W d * Flo.W d)) (496 * Flo.u * (S * S / 2)) := by
    have := (haS.mul g2).sub (hbS.mul g1)
    refine (this.eq ?_).mono ?_
    · clear this; grind
    · clear this g1 g2; grind
  have x2 := x1.div hSS hD
  have y2 := y1.div hSS hD
  have b1023 : (1 : Rat) < Flo.pw 1023 := by have := Flo.pw_lt (a := 0) (b := 1023) (by omega); rwa [Flo.pw_zero] at this
  have et0 := Flo.et_pos
  have etu : Flo.et ≤ Flo.u := Flo.pw_le (by omega)
  have uu : Flo.u * Flo.u ≤ Flo.u / 1048576 := by have := Rat.mul_le_mul_of_nonneg_left u1 (Rat.le_of_lt u0); grind
  obtain ⟨d1, p1, p2, p3⟩ := Flo.d_sub e 4607182418800017408 ne num_one.1 (496 * Flo.u) (by rw [num_one.2]; exact x2) (by grind)
  obtain ⟨d2, q1, q2, q3⟩ := Flo.d_sub f 0 nf zero_num.1 (496 * Flo.u) (by rw [zero_num.2]; exact y2.eq (by grind)) (by grind)
  rw [num_one.2] at p3
  rw [zero_num.2] at q3
  have p4 : Flo.Ab (Flo.W d1) (500 * Flo.u) := ((p3.add x2).eq (by grind)).mono (by grind)
  have q4 : Flo.Ab (Flo.W d2) (500 * Flo.u) := ((q3.add y2).eq (by grind)).mono (by grind)
  obtain ⟨a1, a1v⟩ := abs_num d1 p2
  obtain ⟨a2, a2v⟩ := abs_num d2 q2
  rw [show Op.Complex.abs d1 = d1 % signBit from rfl] at a1 a1v
  rw [show Op.Complex.abs d2 = d2 % signBit from rfl] at a2 a2v
  have r1 := ra_le p4
  have r2 := ra_le q4
  have r3 := ra_nonneg (Flo.W d1)
  have r4 := ra_nonneg (Flo.W d2)
  rw [← a1v] at r1 r3
  rw [← a2v] at r2 r4
  obtain ⟨s, t1, t2, t3⟩ := Flo.d_add _ _ a1 a2 (1000 * Flo.u) ⟨by grind, by grind⟩ (by grind)
  refine ⟨e, f, d1, d2, s, hdiv, p1, q1, ?_, ?_, t1, (leB_iff t2 num_16.1).2 ?_⟩
  · have := floatBits_wf p1; simpa [Lit.wf] using this
  · have := floatBits_wf q1; simpa [Lit.wf] using this
  · rw [num_16.2]
    unfold Flo.Ab at t3
    grind

/-! ### beats -/
theorem implDiv_some (a b c d e f : Nat) (w : World) (ha : a < 2 ^ 64) (hb : b < 2 ^ 64) (hc : c < 2 ^ 64) (hd : d < 2 ^ 64) (h : divD a b c d = some (e, f)) :
    Calls Try.prog 70 #[.complex .f64 a b, .complex .f64 c d] w fun en w' => en = .returned (.tuple #[.complex .f64 e f, .bool true]) ∧ ∃ m, w' = w.drewN m :=
  (implDiv_any a b c d w ha hb hc hd).mono fun _ _ g => ⟨by rw [g.1, h]; rfl, g.2⟩
def TupP (v : Value) (w : World) (e : Ending) (w' : World) : Prop := e = .returned v ∧ Nw w w'

theorem implSize_any (x y : Nat) (w : World) (hx : x < 2 ^ 64) (hy : y < 2 ^ 64) :
    Calls Try.prog 74 #[.complex .f64 x y] w fun e w' => e = .returned (.float .f64 (fres w .add .f64 (x % signBit) (y % signBit))) ∧ ∃ n, w' = w.drewN n := by
  go_enter Try.func74, Try.ntmps74
  go_wp2_with (go_at_call 101; refine (abs_any _ _ (by assumption)).mono ?_; rintro e w' ⟨rfl, rfl⟩)
  go_ret
  exact ⟨rfl, _, rfl⟩

end Go.Proofs.Ytlhhcchncobmhaa
