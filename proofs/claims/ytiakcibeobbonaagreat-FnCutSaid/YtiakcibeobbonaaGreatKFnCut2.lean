/- Texts of a proof, put together: Beat, Body, Sps, Small, Step, Ring, Evs, RingB, IsBody, Clone, Mono, Damp, StepD, Traj, RingD, TrajS, DampB.
   Conditions: those that each statement names. -/
import Derived.Test.YtiakcibeobbonaaGreatKFnCut1
import Derived.Deep.RegionLawGrows
import Derived.Laws.StructEq
import Derived.Lib.SliceRun
import Derived.StillTailTactics
import Derived.Deep.RegionHeld3
/- The walks of MakeMode, and of the program's IsMode, BeatOf and BeatPeriod on valid modes.
   Conditions: those that each statement names. -/
namespace Go.Proofs.YtiakcibeobbonaaGreat
set_option linter.unusedSimpArgs false
set_option linter.unusedVariables false
open Go Go.RowKit

theorem Kp.nw {c : Nat} {w w' : World} (h : Kp c w w') (hc : w.heap.size ≤ c) : Nw w w' :=
  ⟨h.os, h.tape, h.output, h.size, fun k hk _ => h.block k hk (fun e => by cases e; omega)⟩

def Valid (pr pi gr gi : Nat) : Prop := modeB pr pi gr gi labs = true
theorem valid_const : Valid 1056964608 1048576000 1065353216 0 := by unfold Valid; decide +kernel

theorem quiet_eq {P : Program} {f : FuncId} {args : Array Value} {w : World} {n : Nat} {v : Value}
    (h : Calls P f args (w.drewN n) fun e w' => e = .returned v ∧ w.drewN n = w') : Calls P f args (w.drewN n) fun e w'' => e = .returned v ∧ ∃ m, w'' = w.drewN m :=
  h.mono fun _ _ ⟨he, hm⟩ => ⟨he, n, hm.symm⟩

/-! ### the program's own functions on valid modes -/
/-- what is known of a valid mode, in numbers -/
theorem Valid.parts {pr pi gr gi : Nat} (h : Valid pr pi gr gi) :
    fin .f32 pr = true ∧ fin .f32 pi = true ∧ fin .f32 gr = true ∧ fin .f32 gi = true ∧ leB (sqr (wid pr) (wid pi)) 4607182418800017408 = true ∧ leB (labs (wid gr)) 4652218415073722368 = true ∧ leB (labs (wid gi)) 4652218415073722368 = true := by
  unfold Valid modeB at h
  simp only [Bool.and_eq_true] at h
  exact ⟨h.1.1.1.1, h.1.1.1.2, h.1.1.2.1, h.1.1.2.2, h.1.2, h.2.1, h.2.2⟩

/-- the two absolute values are the same number, so the tests agree -/
theorem leB_abs {x k : Nat} (hx : x < 2 ^ 64) (h : Flo.Nm x) (hk : Flo.Nm k) : leB (x % signBit) k = leB (labs x) k := by
  have l := labs_num x hx h
  have r := abs_num x h
  rw [show Op.Complex.abs x = x % signBit from rfl] at r
  have i1 := leB_iff r.1 hk
  have i2 := leB_iff l.1 hk
  rw [r.2] at i1
  rw [l.2] at i2
  cases h1 : leB (x % signBit) k <;> cases h2 : leB (labs x) k <;> simp_all

theorem num_1024 : Flo.Nm 4652218415073722368 := ⟨false, 4503599627370496, -42, by decide⟩

theorem implWiden_fin (x y : Nat) (w : World) (hx : Sm x) (hy : Sm y) :
    Calls Tryz.prog 115 #[.complex .f32 x y] w fun e w' => e = .returned (.complex .f64 (wid x) (wid y)) ∧ w = w' := by
  have a1 := fcv_up hx
  have a2 := fcv_up hy
  have b1 := fcd_up hx
  have b2 := fcd_up hy
  go_enter Tryz.func115, Tryz.ntmps115
  go_wp2
  go_ret
  exact ⟨rfl, rfl⟩

theorem fin_wid {b : Nat} (h : Sm b) : fin .f64 (wid b) = true := (fin_iff' .f64 _).2 (wid_num h).1

theorem isModeOf_valid (pr pi gr gi : Nat) (w : World) (h : Valid pr pi gr gi) :
    Calls Tryz.prog 114 #[.complex .f64 (wid pr) (wid pi), .complex .f64 (wid gr) (wid gi)] w fun e w' => e = .returned (.bool true) ∧ w = w' := by
  obtain ⟨h1, h2, h3, h4, h5, h6, h7⟩ := h.parts
  have S1 := Sm_of h1
  have S2 := Sm_of h2
  have S3 := Sm_of h3
  have S4 := Sm_of h4
  obtain ⟨a, b, m1, m2, m3, -, -⟩ := sqr_num S1 S2
  have f1 : ∀ w, fres w .mul .f64 (wid pr) (wid pr) = a := fun w => by unfold fres; rw [m1]
  have f2 : ∀ w, fres w .mul .f64 (wid pi) (wid pi) = b := fun w => by unfold fres; rw [m2]
  have f3 : ∀ w, fres w .add .f64 a b = sqr (wid pr) (wid pi) := fun w => by unfold fres; rw [m3]
  have d1 : fdr .mul .f64 (wid pr) (wid pr) = 0 := by unfold fdr; rw [m1]; rfl
  have d2 : fdr .mul .f64 (wid pi) (wid pi) = 0 := by unfold fdr; rw [m2]; rfl
  have d3 : fdr .add .f64 a b = 0 := by unfold fdr; rw [m3]; rfl
  rw [← leB_abs (wid_lt _) (wid_num S3).1 num_1024] at h6
  rw [← leB_abs (wid_lt _) (wid_num S4).1 num_1024] at h7
  have W1 := fin_wid S1
  have W2 := fin_wid S2
  have W3 := fin_wid S3
  have W4 := fin_wid S4
  unfold leB at h5 h6 h7
  clear m1 m2 m3 h S1 S2 S3 S4
  go_enter Tryz.func114, Tryz.ntmps114
  go_wp2_with (first
    | (go_at_call 120; refine (implFinite_any _ _ _ (wid_lt _) (wid_lt _)).mono ?_; rintro e w' ⟨rfl, rfl⟩)
    | (go_at_call 96; refine (abs_any _ _ (wid_lt _)).mono ?_; rintro e w' ⟨rfl, rfl⟩))
  all_goals (go_ret; exact ⟨by simp [h5, h6, h7], rfl⟩)

theorem implIsMode_valid (pr pi gr gi : Nat) (w : World) (h : Valid pr pi gr gi) :
    Calls Tryz.prog 104 #[.agg #[.complex .f32 pr pi, .complex .f32 gr gi]] w (TestP true w) := by
  have H := Lib.hid h
  obtain ⟨h1, h2, h3, h4, -, -, -⟩ := h.parts
  have S1 := Lib.hid (Sm_of h1)
  have S2 := Lib.hid (Sm_of h2)
  have S3 := Lib.hid (Sm_of h3)
  have S4 := Lib.hid (Sm_of h4)
  clear h h1 h2 h3 h4
  go_enter Tryz.func104, Tryz.ntmps104
  go_wp2_with fail
  go_quiet (first
    | (go_at_call 115; exact quiet_eq (implWiden_fin _ _ _ S1.out S2.out))
    | (go_at_call 115; exact quiet_eq (implWiden_fin _ _ _ S3.out S4.out))
    | (go_at_call 114; exact quiet_eq (isModeOf_valid _ _ _ _ _ H.out)))
  go_wp2
  go_ret
  exact ⟨rfl, ((Nw.refl _).alloc _).draw _⟩

/-- the poles of valid modes, widened, are of moderate size if their size is at least a small one -/
theorem square_nonneg (q : Rat) : 0 ≤ q * q := by
  rcases Rat.le_total (a := 0) (b := q) with h | h
  · exact Rat.mul_nonneg h h
  · have := Rat.mul_nonneg (show 0 ≤ -q by grind) (show 0 ≤ -q by grind); grind

theorem num_one : Flo.Nm 4607182418800017408 ∧ Flo.W 4607182418800017408 = 1 := by
  refine ⟨one_num.1, ?_⟩
  rw [one_num.2]; exact Flo.pw_zero

/-- a valid pole's square is at most 1, but for rounding -/
theorem Valid.square {pr pi gr gi : Nat} (h : Valid pr pi gr gi) : S pr * S pr + S pi * S pi ≤ 1 + 1 / 100000 := by
  obtain ⟨h1, h2, -, -, h5, -, -⟩ := h.parts
  obtain ⟨a, b, -, -, -, n, e⟩ := sqr_num (Sm_of h1) (Sm_of h2)
  have l := (leB_iff n num_one.1).1 h5
  rw [num_one.2] at l
  have q1 := square_nonneg (S pr)
  have q2 := square_nonneg (S pi)
  have hQ : 0 ≤ S pr * S pr + S pi * S pi := by grind
  generalize S pr * S pr + S pi * S pi = Q at *
  have u1 := Flo.u_le
  have eu : Flo.et ≤ Flo.u := Flo.pw_le (by omega)
  have := Rat.mul_le_mul_of_nonneg_left u1 hQ
  unfold Flo.Ab at e
  grind

theorem ra_sq (q : Rat) : ra q * ra q = q * q := by unfold ra; split <;> grind

/-- .. and the size of such a pole at most 3/2 -/
theorem Valid.size {pr pi gr gi : Nat} (h : Valid pr pi gr gi) : Flo.W (labs (wid pr)) + Flo.W (labs (wid pi)) ≤ 3 / 2 := by
  obtain ⟨h1, h2, -, -, -, -, -⟩ := h.parts
  obtain ⟨n1, v1⟩ := wid_num (Sm_of h1)
  obtain ⟨n2, v2⟩ := wid_num (Sm_of h2)
  rw [(labs_num _ (wid_lt _) n1).2, (labs_num _ (wid_lt _) n2).2, v1, v2]
  have hs := h.square
  rw [← ra_sq (S pr), ← ra_sq (S pi)] at hs
  have a0 := ra_nonneg (S pr)
  have b0 := ra_nonneg (S pi)
  generalize ra (S pr) = A at *
  generalize ra (S pi) = B at *
  have h3 := square_nonneg (A - B)
  rcases Rat.le_total (a := A + B) (b := 3 / 2) with g | g
  · exact g
  · have g2 := Rat.mul_le_mul_of_nonneg_left g (show 0 ≤ A + B by grind)
    have g3 := Rat.mul_le_mul_of_nonneg_right g (show (0 : Rat) ≤ 3 / 2 by grind)
    grind

theorem Valid.moderate {pr pi gr gi k : Nat} (h : Valid pr pi gr gi) (hk : Flo.Nm k) (vk : Flo.W k = Flo.pw (-((20 : Nat) : Int)))
    (ht : (FloatKind.f64.format.order (szd (wid pr) (wid pi)) k == some .lt) = false) : Moderate (wid pr) (wid pi) := by
  have hsz := h.size
  obtain ⟨h1, h2, -, -, -, -, -⟩ := h.parts
  obtain ⟨n1, v1⟩ := wid_num (Sm_of h1)
  obtain ⟨n2, v2⟩ := wid_num (Sm_of h2)
  obtain ⟨l1, l1v⟩ := labs_num _ (wid_lt pr) n1
  obtain ⟨l2, l2v⟩ := labs_num _ (wid_lt pi) n2
  have a0 : 0 ≤ Flo.W (labs (wid pr)) := by rw [l1v]; exact ra_nonneg _
  have b0 : 0 ≤ Flo.W (labs (wid pi)) := by rw [l2v]; exact ra_nonneg _
  have e2 : Flo.pw 2 = 4 := Flo.pw_nat 2
  have l1023 : Flo.pw 2 < Flo.pw 1023 := Flo.pw_lt (by omega)
  obtain ⟨r, r1, r2, r3⟩ := Flo.d_add _ _ l1 l2 (3 / 2) ⟨by grind, hsz⟩ (by grind)
  have hr : szd (wid pr) (wid pi) = r := by unfold szd; rw [r1]; rfl
  rw [hr, show FloatKind.f64.format = Ieee.double from rfl] at ht
  have o := (Flo.order_num Ieee.double r k r2 hk).1
  have g : ¬ Flo.W r < Flo.W k := fun g => by rw [o.2 g] at ht; exact absurd ht (by decide)
  rw [vk] at g
  have u1 : Flo.u ≤ Flo.pw (-25) := Flo.pw_le (by omega)
  have e1 : Flo.et ≤ Flo.pw (-25) := Flo.pw_le (by omega)
  have p25 : Flo.pw (-((20 : Nat) : Int)) = 32 * Flo.pw (-25) := by rw [show (-((20 : Nat) : Int)) = 5 + -25 from rfl, Flo.pw_add, show Flo.pw 5 = 32 from Flo.pw_nat 5]
  have q1 : Flo.pw (-201) ≤ Flo.pw (-25) := Flo.pw_le (by omega)
  have q2 : Flo.pw 2 ≤ Flo.pw 201 := Flo.pw_le (by omega)
  have q3 := Flo.pw_pos (-25)
  unfold Flo.Ab at r3
  exact ⟨wid_lt _, wid_lt _, fin_wid (Sm_of h1), fin_wid (Sm_of h2), by grind, by grind, l1, l2⟩

theorem num_16 : Flo.Nm 4589168020290535424 ∧ Flo.W 4589168020290535424 = 1 / 16 := by
  have h : Ieee.double.read 4589168020290535424 = .number false 4503599627370496 (-56) := by decide
  refine ⟨⟨_, _, _, h⟩, ?_⟩
  rw [show Flo.W 4589168020290535424 = _ from Flo.V_eq h]
  unfold Flo.val
  have := Flo.pw_neg_mul 56
  have e : Flo.pw 56 = 72057594037927936 := Flo.pw_nat 56
  rw [e] at this
  simp only [Bool.false_eq_true, if_false]
  have e2 : ((4503599627370496 : Nat) : Rat) = 4503599627370496 := rfl
  rw [e2]; grind

/-- A NUMBER's QUOTIENT BY ITSELF IS NEAR 1. -/
theorem one_ok (c d : Nat) (h : Moderate c d) : ∃ e f d1 d2 s, divD c d c d = some (e, f) ∧ floatBits .sub .f64 e 4607182418800017408 = some d1 ∧ floatBits .sub .f64 f 0 = some d2 ∧ d1 < 2 ^ 64 ∧ d2 < 2 ^ 64 ∧
    floatBits .add .f64 (d1 % signBit) (d2 % signBit) = some s ∧ leB s 4589168020290535424 = true := by
  obtain ⟨e, f, hdiv, ne, nf, S, T, C, hS, hT, hC, hcC, hdC, haS, hbS, het, hS201, heT, hfT, g1, g2⟩ := quo_moderate c d c d h h
  obtain ⟨cx, dx, fc, fd, s1, s2, nlc, nld⟩ := h
  have nc := Nm_of_fin fc
  have nd := Nm_of_fin fd
  have lc := (labs_num c cx nc).2
  have ld := (labs_num d dx nd).2
  rw [lc, ld] at hS s1
  rw [← hS] at s1
  have hSp : 0 < S := by have := Flo.pw_pos (-201); grind
  have u0 := Flo.u_pos
  have u1 := Flo.u_le
  have hD : S * S / 2 ≤ Flo.W c * Flo.W c + Flo.W d * Flo.W d := by
    rw [← ra_sq (Flo.W c), ← ra_sq (Flo.W d), hS]
    have := square_nonneg (ra (Flo.W c) - ra (Flo.W d))
    grind
  have hSS : 0 < S * S / 2 := by
    have := Rat.mul_pos hSp hSp
    grind
  have x1 : Flo.Ab ((Flo.W e - 1) * (Flo.W c * Flo.W c + Flo.W d * Flo.W d)) (496 * Flo.u * (S * S / 2)) := by
    have := (haS.mul g1).add (hbS.mul g2)
    refine (this.eq ?_).mono ?_
    · clear this; grind
    · clear this g1 g2; grind
  have y1 : Flo.Ab (Flo.W f * (Flo.W c * Flo.W c + Flo.W d * Flo.W d)) (496 * Flo.u * (S * S / 2)) := by
    have := (haS.mul g2).sub (hbS.mul g1)
    refine (this.eq ?_).mono ?_
    · clear this; grind
    · clear this g1 g2; grind
  have x2 := x1.div hSS hD
  have y2 := y1.div hSS hD
  have b1023 : (1 : Rat) < Flo.pw 1023 := by have := Flo.pw_lt (a := 0) (b := 1023) (by omega); rwa [Flo.pw_zero] at this
  have et0 := Flo.et_pos
  have etu : Flo.et ≤ Flo.u := Flo.pw_le (by omega)
  have uu : Flo.u * Flo.u ≤ Flo.u / 1048576 := by have := Rat.mul_le_mul_of_nonneg_left u1 (Rat.le_of_lt u0); grind
  obtain ⟨d1, p1, p2, p3⟩ := Flo.d_sub e 4607182418800017408 ne num_one.1 (496 * Flo.u) (by rw [num_one.2]; exact x2) (by grind)
  obtain ⟨d2, q1, q2, q3⟩ := Flo.d_sub f 0 nf zero_num.1 (496 * Flo.u) (by rw [zero_num.2]; exact y2.eq (by grind)) (by grind)
  rw [num_one.2] at p3
  rw [zero_num.2] at q3
  have p4 : Flo.Ab (Flo.W d1) (500 * Flo.u) := ((p3.add x2).eq (by grind)).mono (by grind)
  have q4 : Flo.Ab (Flo.W d2) (500 * Flo.u) := ((q3.add y2).eq (by grind)).mono (by grind)
  obtain ⟨a1, a1v⟩ := abs_num d1 p2
  obtain ⟨a2, a2v⟩ := abs_num d2 q2
  rw [show Op.Complex.abs d1 = d1 % signBit from rfl] at a1 a1v
  rw [show Op.Complex.abs d2 = d2 % signBit from rfl] at a2 a2v
  have r1 := ra_le p4
  have r2 := ra_le q4
  have r3 := ra_nonneg (Flo.W d1)
  have r4 := ra_nonneg (Flo.W d2)
  rw [← a1v] at r1 r3
  rw [← a2v] at r2 r4
  obtain ⟨s, t1, t2, t3⟩ := Flo.d_add _ _ a1 a2 (1000 * Flo.u) ⟨by grind, by grind⟩ (by grind)
  refine ⟨e, f, d1, d2, s, hdiv, p1, q1, ?_, ?_, t1, (leB_iff t2 num_16.1).2 ?_⟩
  · have := floatBits_wf p1; simpa [Lit.wf] using this
  · have := floatBits_wf q1; simpa [Lit.wf] using this
  · rw [num_16.2]
    unfold Flo.Ab at t3
    grind

/-! ### beats -/
def TupP (v : Value) (w : World) (e : Ending) (w' : World) : Prop := e = .returned v ∧ Nw w w'

end Go.Proofs.YtiakcibeobbonaaGreat

/- The walk of what draws bodies: the result's modes are valid, and lie in memory of its own.
   Conditions: those that each statement names. -/
namespace Go.Proofs.YtiakcibeobbonaaGreat
set_option linter.unusedSimpArgs false
set_option linter.unusedVariables false
open Go Go.RowKit

structure M4 where
  pr : Nat
  pi : Nat
  gr : Nat
  gi : Nat
def M4.ok (m : M4) : Prop := Valid m.pr m.pi m.gr m.gi
def M4.cells (m : M4) : List Value := [.complex .f32 m.pr m.pi, .complex .f32 m.gr m.gi]
def cellsM (ms : List M4) : List Value := ms.flatMap M4.cells
theorem cellsM_len (ms : List M4) : (cellsM ms).length = ms.length * 2 := by
  induction ms with
  | nil => rfl
  | cons m ms ih => simp only [cellsM, List.flatMap_cons, List.length_append, List.length_cons] at *; simp [M4.cells] at *; omega
theorem cellsM_snoc (ms : List M4) (m : M4) : cellsM (ms ++ [m]) = cellsM ms ++ m.cells := by simp [cellsM]
theorem cellsM_at (ms : List M4) (k : Nat) (m : M4) (h : ms[k]? = some m) : (cellsM ms)[2 * k]? = some (.complex .f32 m.pr m.pi) ∧ (cellsM ms)[2 * k + 1]? = some (.complex .f32 m.gr m.gi) := by
  induction ms generalizing k with
  | nil => simp at h
  | cons a ms ih =>
    cases k with
    | zero => simp at h; subst h; simp [cellsM, M4.cells]
    | succ k =>
      have := ih k (by simpa using h)
      rw [show 2 * (k + 1) = 2 * k + 2 from by omega, show 2 * k + 2 + 1 = 2 * k + 1 + 2 from by omega]
      simpa [cellsM, M4.cells] using this

theorem At.grown {B : Nat} {w0 : World} {a : Option Addr} {len cap c base : Nat} {w w1 : World} {row : Option Nat} (h : At B w0 a len cap c w) (hg : w.grownBy w1 row) (hr : ∀ k, row = some k → base ≤ k) (hc : c < base) (hB : B ≤ base) (hw : w0.heap.size ≤ base) : At B w0 a len cap c w1 := by
  obtain ⟨⟨h1, h2, h3, i, j, h4, h5, h6, h7, h8, h9, h10⟩, hk⟩ := h
  have hb : w1.heap[c]? = w.heap[c]? := hg.block c h2 (fun e => by have := hr c e.symm; omega)
  have k : ∀ q : Addr, q.block = c → w1.cell? q = w.cell? q := fun q hq => World.cell?_of_block (w := w) (by rw [hq]; exact hb)
  have f : ∀ q : Addr, q.block = c → w1.frozen? q = w.frozen? q := fun q hq => World.frozen?_of_block (w := w) (by rw [hq]; exact hb)
  have hs := hg.size
  exact ⟨⟨h1, by omega, h3.below ⟨hg.os, hg.tape, hg.output, hg.size, fun q hq => hg.block q (by omega) (fun e => by have := hr q e.symm; omega)⟩, i, j, h4, by rw [k _ rfl]; exact h5, by rw [k _ rfl]; exact h6, by rw [k _ rfl]; exact h7, by rw [f _ rfl]; exact h8, by rw [f _ rfl]; exact h9, by rw [f _ rfl]; exact h10⟩,
    hg.os.trans hk.os, hg.tape.trans hk.tape, hg.output.trans hk.output, by have := hk.size; omega, fun q hq hne => (hg.block q (by have := hk.size; omega) (fun e => by have := hr q e.symm; omega)).trans (hk.block q hq hne)⟩

/-- block b holds one cell -/
def Has1 (w : World) (b : Nat) (v : Value) : Prop := b < w.heap.size ∧ w.cell? ⟨b, 0, none⟩ = some v ∧ w.frozen? ⟨b, 0, none⟩ = false
theorem Has1.of {w w' : World} {b : Nat} {v : Value} (h : Has1 w b v) (hs : w.heap.size ≤ w'.heap.size) (hb : w'.heap[b]? = w.heap[b]?) : Has1 w' b v := by
  obtain ⟨h0, h1, h3⟩ := h
  have k : ∀ p : Addr, p.block = b → w'.cell? p = w.cell? p := fun p hp => World.cell?_of_block (w := w) (by rw [hp]; exact hb)
  have f : ∀ p : Addr, p.block = b → w'.frozen? p = w.frozen? p := fun p hp => World.frozen?_of_block (w := w) (by rw [hp]; exact hb)
  exact ⟨by omega, by rw [k _ rfl]; exact h1, by rw [f _ rfl]; exact h3⟩
theorem Has1.kp {c : Nat} {w w' : World} {b : Nat} {v : Value} (h : Has1 w b v) (hk : Kp c w w') (hne : b ≠ c) : Has1 w' b v := h.of hk.size (hk.block b h.1 (fun e => hne (by cases e; rfl)))
theorem Has1.nw {w w' : World} {b : Nat} {v : Value} (h : Has1 w b v) (hk : Nw w w') : Has1 w' b v := h.of hk.size (hk.block b h.1 (by simp))
theorem Has1.grown {w w' : World} {b : Nat} {v : Value} {row : Option Nat} (h : Has1 w b v) (hk : w.grownBy w' row) (hr : row ≠ some b) : Has1 w' b v := h.of hk.size (hk.block b h.1 (fun e => hr e.symm))
theorem Has1.alloc {w : World} {b : Nat} {v : Value} (h : Has1 w b v) (o : Obj) : Has1 (w.alloc o) b v := h.nw ((Nw.refl _).alloc _)
theorem Has1.draw {w : World} {b : Nat} {v : Value} (h : Has1 w b v) (n : Nat) : Has1 (w.drewN n) b v := h.nw ((Nw.refl _).draw _)
theorem Has1.set {w : World} {b : Nat} {v : Value} (h : Has1 w b v) {p : Addr} (hp : p.block ≠ b) (u : Value) : Has1 (w.setCell p u) b v :=
  h.of (by simp [World.setCell]) (Below.heap_setCell _ _ _ _ (fun e => hp e.symm))
theorem Has1.put {w : World} {b : Nat} {v : Value} (h : Has1 w b v) (u : Value) : Has1 (w.setCell ⟨b, 0, none⟩ u) b u := by
  obtain ⟨h0, h1, h2⟩ := h
  refine ⟨by simpa using h0, ?_, ?_⟩ <;> go_simp
theorem Has1.new (w : World) (T : TypeId) (v : Value) : Has1 (w.alloc (.cells #[v] T (0, 0))) w.heap.size v := by
  refine ⟨by simp, ?_, ?_⟩ <;> go_simp

section
variable {w w' : World} {base : Nat} {E : TypeId} {size : Nat} {v : Value} {n : Nat} {xs : List Value}
theorem own_shape (h : w.ownsRow base E size v n xs) : ∃ a l c, v = .slice a l c := by
  rcases h.2 with ⟨rfl, _⟩ | ⟨g, cap, cur, rfl, _⟩
  · exact ⟨_, _, _, rfl⟩
  · exact ⟨_, _, _, rfl⟩
theorem own_ge (h : w.ownsRow base E size v n xs) (k : Nat) (hk : v.ownBlock = some k) : base ≤ k := (h.lt k hk).1
theorem own_kp {c : Nat} (h : w.ownsRow base E size v n xs) (hk : Kp c w w') (hc : c < base) : w'.ownsRow base E size v n xs := by
  refine h.kept hk ?_
  cases hv : v.ownBlock with
  | none => exact .inl rfl
  | some k => right; intro e; cases e; have := own_ge h _ hv; omega
theorem own_nw (h : w.ownsRow base E size v n xs) (hk : Nw w w') : w'.ownsRow base E size v n xs := h.kept hk (by cases hv : v.ownBlock <;> simp)
theorem own_set (h : w.ownsRow base E size v n xs) {p : Addr} (hp : p.block < base) (u : Value) : (w.setCell p u).ownsRow base E size v n xs := ownsRow_setCell_below h hp u
theorem own_base {b' : Nat} (h : w.ownsRow base E size v n xs) (hb : b' ≤ base) : w.ownsRow b' E size v n xs := by
  refine ⟨h.1, ?_⟩
  rcases h.2 with h | ⟨g, cap, cur, hv, hg, r⟩
  · exact .inl h
  · exact .inr ⟨g, cap, cur, hv, by omega, r⟩
end
theorem At.nw {B : Nat} {w0 : World} {a : Option Addr} {len cap c : Nat} {w w1 : World} (h : At B w0 a len cap c w) (hg : Nw w w1) : At B w0 a len cap c w1 :=
  h.grown (base := max (c + 1) (max B w0.heap.size)) hg (fun k hk => by cases hk) (by omega) (by omega) (by omega)

theorem info_mode : (Tryz.prog.info? 93).map (fun i => (i.zero, i.size, i.bytes)) = some (some (.agg #[.complex .f32 0 0, .complex .f32 0 0]), 2, 16) := by kernel_rfl

/-- what the loop of l2Body holds -/
def BodyI (B : Nat) (w0 : World) (a : Option Addr) (len cap c bb br base M : Nat) (i : Value) (wr : World) : Prop :=
  ∃ (k : Nat) (ms : List M4) (v : Value), i = .int .i64 (k : Int) ∧ k + ms.length ≤ M ∧ At B w0 a len cap c wr ∧ Has1 wr bb v ∧ (∃ u, Has1 wr br u) ∧ wr.ownsRow base 93 2 v ms.length (cellsM ms) ∧ (∀ m ∈ ms, m.ok) ∧ base ≤ wr.heap.size

/-- a body with at most M modes, all valid, in memory from 'base' on -/
def BodyP (B : Nat) (w0 : World) (a : Option Addr) (len cap c M base : Nat) (e : Ending) (w' : World) : Prop :=
  ∃ (ms : List M4) (v : Value), e = .returned (.agg #[v]) ∧ ms.length ≤ M ∧ (∀ m ∈ ms, m.ok) ∧ w'.ownsRow base 93 2 v ms.length (cellsM ms) ∧ At B w0 a len cap c w'

set_option maxHeartbeats 1600000 in
theorem l2Body_at (B : Nat) (w0 : World) (a : Option Addr) (len cap c M : Nat) (hM : M ≤ 16) (w : World) (hc : At B w0 a len cap c w) :
    Calls Tryz.prog 24 #[.pointer (some ⟨c, 0, none⟩), .int .i64 (M : Int)] w (BodyP B w0 a len cap c M w.heap.size) := by
  obtain ⟨i0, hi, hz0, hz1, hz2⟩ := info_parts info_mode
  have hcs : c < w.heap.size := hc.1.2.1
  have hBc : B ≤ c := hc.1.1
  have hw0 : w0.heap.size ≤ w.heap.size := hc.2.size
  have Hc := Lib.hid hc
  clear hc
  go_enter Tryz.func24, Tryz.ntmps24
  have hsz : ∀ o o', ((w.alloc o).alloc o').heap.size = w.heap.size + 2 := fun o o' => by simp
  have Hsz := Lib.hid hsz
  clear hsz
  go_wp2_with fail
  refine (below_at _ _ _ _ _ _ _ (by omega) (by omega) _ ((Hc.out.alloc _).alloc _).here).mono ?_
  rintro e w1 ⟨x, x0, x1, rfl, hc1⟩
  have Hb1 := Lib.hid ((show Has1 ((w.alloc (.cells #[.slice none 0 0] 65 (0, 0))).alloc (.cells #[.slice none 0 0] 65 (0, 0))) (w.heap.size + 1) (.slice none 0 0) from by
    simpa using Has1.new (w.alloc (.cells #[.slice none 0 0] 65 (0, 0))) 65 (.slice none 0 0)).kp hc1.2 (by omega))
  have Hr1 := Lib.hid (((Has1.new w 65 (.slice none 0 0)).alloc (.cells #[.slice none 0 0] 65 (0, 0))).kp hc1.2 (by omega))
  have Hs1 := Lib.hid (show w.heap.size + 2 ≤ w1.heap.size from by have := hc1.2.size; rw [Hsz.out] at this; exact this)
  have Hc1 := Lib.hid (show At B w0 a len cap c w1 from ⟨hc1.1, ((Hc.out.alloc _).alloc _).2.trans hc1.2⟩)
  clear hc1
  go_wp2_with fail
  go_loopw [6] (fun i wr => BodyI B w0 a len cap c (w.heap.size + 1) w.heap.size (w.heap.size + 2) M i wr) (fun i _ => (intOf i).toNat)
  case atStart => exact ⟨x.toNat, [], _, by rw [Int.toNat_of_nonneg x0], by simp; omega, Hc1.out, Hb1.out, ⟨_, Hr1.out⟩, World.ownsRow_nil _ _ _ _, by simp, Hs1.out⟩
  case round =>
    obtain ⟨k, ms, v, rfl, hk, hat, hbb, ⟨u, hbr⟩, hown, hok, hbase⟩ := hrel
    have Hat := Lib.hid hat
    have Hbb := Lib.hid hbb
    have Hbr := Lib.hid hbr
    have Hown := Lib.hid hown
    have Hok := Lib.hid hok
    clear hat hbb hbr hown hok
    by_cases hk0 : 0 < k
    · go_wp2_with fail
      refine (l2Mode_at _ _ _ _ _ _ _ Hat.out.here).mono ?_
      rintro e w2 ⟨pr, pi, gr, gi, rfl, hc2⟩
      have Hc2 := Lib.hid (show At B w0 a len cap c w2 from ⟨hc2.1, Hat.out.2.trans hc2.2⟩)
      have Hbb2 := Lib.hid (Hbb.out.kp hc2.2 (by omega))
      have Hbr2 := Lib.hid (Hbr.out.kp hc2.2 (by omega))
      have Hown2 := Lib.hid (own_kp Hown.out hc2.2 (by omega))
      have Hs2 := Lib.hid (show w.heap.size + 2 ≤ w2.heap.size from by have := hc2.2.size; omega)
      clear hc2
      go_wp2_with fail
      refine (specMode_any _ _ _ _ _).mono ?_
      rintro e w3 ⟨rfl, n3⟩
      have Hc3 := Lib.hid (At.nw (Hc2.out.alloc _) n3)
      have Hm3 := Lib.hid ((HasMode.new w2 93 pr pi gr gi).nw n3)
      have Hbb3 := Lib.hid ((Hbb2.out.alloc _).nw n3)
      have Hbr3 := Lib.hid ((Hbr2.out.alloc _).nw n3)
      have Hown3 := Lib.hid (own_nw (Hown2.out.alloc _) n3)
      have Hs3 := Lib.hid (show w.heap.size + 2 ≤ w3.heap.size from by have := n3.size; have := Hs2.out; simp at *; omega)
      clear n3
      obtain ⟨sa, sl, sc, rfl⟩ := own_shape Hown3.out
      obtain ⟨m0, m1, m2, -, -⟩ := Hm3.out
      obtain ⟨b0, b1, b2⟩ := Hbb3.out
      cases hv : modeB pr pi gr gi labs
      · go_wp2_with fail
        go_roundw
        case rel => exact ⟨k - 1, ms, _, by rw [show ((k - 1 : Nat) : Int) = (k : Int) - 1 from by omega], by omega, Hc3.out, Hbb3.out, ⟨_, Hbr3.out⟩, Hown3.out, Hok.out, Hs3.out⟩
        case measure => simp only [intOf]; omega
      · go_wp2_with (at_builtin; refine wpList_append_own _ rfl _ _ 56 rfl (w.heap.size + 2) 93 i0 (.agg #[.complex .f32 0 0, .complex .f32 0 0]) 2 16 Tryz.underlying56 hi hz0 hz1 hz2 rfl (by decide) _ _ _ rfl (Hown3.out.alloc _) ⟨w3.heap.size, 0, none⟩ 1 1 [.complex .f32 pr pi, .complex .f32 gr gi] rfl rfl ?c1 ?c2 ?c3 ?c4 ?c5 ?_)
        case c1 =>
          intro j u hj
          match j, hj with
          | 0, hj => simp at hj; subst hj; simp [Addr.add]
          | 1, hj => simp at hj; subst hj; simp [Addr.add]
        case c2 => intro u hu; simp at hu; rcases hu with rfl | rfl <;> rfl
        case c3 => unfold maxLen; omega
        case c4 => omega
        case c5 => have := Hs3.out; simp; omega
        · intro v' w4 hown4 hgrow _
          have hrow : ∀ q, (Value.slice sa sl sc).ownBlock = some q → w.heap.size + 2 ≤ q := fun q hq => own_ge Hown3.out q hq
          have Hc4 := Lib.hid ((Hc3.out.alloc _).grown hgrow hrow (by omega) (by omega) (by omega))
          have Hbb4 := Lib.hid ((Hbb3.out.alloc _).grown hgrow (fun e => by have := hrow _ e; omega))
          have Hbr4 := Lib.hid ((Hbr3.out.alloc _).grown hgrow (fun e => by have := hrow _ e; omega))
          have Hs4 := Lib.hid (show w.heap.size + 2 ≤ w4.heap.size from by have := hgrow.size; have := Hs3.out; simp at *; omega)
          rw [show cellsM ms ++ [Value.complex .f32 pr pi, Value.complex .f32 gr gi] = cellsM (ms ++ [⟨pr, pi, gr, gi⟩]) from (cellsM_snoc ms ⟨pr, pi, gr, gi⟩).symm, show ms.length + 1 = (ms ++ [(⟨pr, pi, gr, gi⟩ : M4)]).length from by simp] at hown4
          obtain ⟨ta, tl, tc, rfl⟩ := own_shape hown4
          have Hown4 := Lib.hid hown4
          have Hok4 := Lib.hid (show ∀ m ∈ ms ++ [(⟨pr, pi, gr, gi⟩ : M4)], m.ok from by
            intro m hm
            rcases List.mem_append.1 hm with hm | hm
            · exact Hok.out m hm
            · simp at hm; subst hm; exact hv)
          clear hown4 hgrow hrow b0 b1 b2 m0 m1 m2
          obtain ⟨b0, b1, b2⟩ := Hbb4.out
          go_wp2_with fail
          go_roundw
          case rel => exact ⟨k - 1, ms ++ [⟨pr, pi, gr, gi⟩], _, by rw [show ((k - 1 : Nat) : Int) = (k : Int) - 1 from by omega], by simp; omega, Hc4.out.set (by show w.heap.size + 1 ≠ c; omega) (by show B ≤ w.heap.size + 1; omega) (by show w0.heap.size ≤ w.heap.size + 1; omega) _, Hbb4.out.put _, ⟨_, Hbr4.out.set (by show w.heap.size + 1 ≠ w.heap.size; omega) _⟩, own_set Hown4.out (by show w.heap.size + 1 < w.heap.size + 2; omega) _, Hok4.out, by simpa using Hs4.out⟩
          case measure => simp only [intOf]; omega
    · obtain ⟨sa, sl, sc, rfl⟩ := own_shape Hown.out
      obtain ⟨b0, b1, b2⟩ := Hbb.out
      obtain ⟨r0, r1, r2⟩ := Hbr.out
      go_wp2_with fail
      exact bodyPost_ret (v := .agg #[.slice sa sl sc]) (by simp [results, Tryz.results24, go_sem, r0, r1, r2]) rfl
        ⟨ms, _, rfl, by omega, Hok.out, own_base (own_set Hown.out (by show w.heap.size < w.heap.size + 2; omega) _) (by omega), Hat.out.set (by show w.heap.size ≠ c; omega) (by show B ≤ w.heap.size; omega) hw0 _⟩

end Go.Proofs.YtiakcibeobbonaaGreat

/- Plain facts on the operations of single precision, with bounded errors; narrowing; whole numbers. No program stands in it.
   Conditions: those that each statement names. -/
namespace Go.Proofs.YtiakcibeobbonaaGreat
set_option linter.unusedSimpArgs false
set_option linter.unusedVariables false
open Go

namespace Flo
def v : Rat := pw (-24)
def es : Rat := pw (-149)
theorem v_pos : 0 < v := pw_pos _
theorem es_pos : 0 < es := pw_pos _
theorem top_single : top Ieee.single = 127 := by decide
theorem lp_single : Ieee.single.leastPlace = -149 := by decide
theorem fb_single : (Ieee.single.fractionBits : Int) = 23 := rfl
theorem err_single (B : Rat) : (B * pw (-(Ieee.single.fractionBits : Int)) + pw Ieee.single.leastPlace) / 2 = B * v + es / 2 := by
  rw [lp_single, fb_single]
  have : pw (-23) = 2 * pw (-24) := by rw [← pw_succ]; rfl
  unfold v es
  rw [this]; grind
theorem v_eq : v * 16777216 = 1 := by
  have e : pw (-24) * pw 24 = 1 := pw_neg_mul 24
  rw [show pw 24 = 16777216 from pw_nat 24] at e
  exact e
theorem es_le : es ≤ v * v * v * v * v := by
  unfold es v
  rw [← pw_add, ← pw_add, ← pw_add, ← pw_add]
  exact pw_le (by omega)
theorem u_le_v : u ≤ v / 536870912 := by
  have h : pw (-24) = pw 29 * pw (-53) := by rw [← pw_add]; rfl
  have e : pw 29 = 536870912 := pw_nat 29
  unfold u v
  rw [h, e]; grind
theorem et_le_es : et ≤ es := pw_le (by omega)

theorem s_add (x y : Nat) (hx : Sm x) (hy : Sm y) (B : Rat) (h : Ab (S x + S y) B) (hB : B < pw 127) :
    ∃ r, floatBits .add .f32 x y = some r ∧ Sm r ∧ Ab (S r - (S x + S y)) (B * v + es) := by
  obtain ⟨r, h1, h2, h3⟩ := add_ok Ieee.single (by decide) x y hx hy B h.2 h.1 (by rw [top_single]; exact hB)
  rw [err_single] at h3
  have := es_pos
  refine ⟨r, h1, h2, ?_⟩
  unfold Near at h3; unfold Ab S; grind
theorem s_sub (x y : Nat) (hx : Sm x) (hy : Sm y) (B : Rat) (h : Ab (S x - S y) B) (hB : B < pw 127) :
    ∃ r, floatBits .sub .f32 x y = some r ∧ Sm r ∧ Ab (S r - (S x - S y)) (B * v + es) := by
  obtain ⟨r, h1, h2, h3⟩ := sub_ok Ieee.single (by decide) x y hx hy B h.2 h.1 (by rw [top_single]; exact hB)
  rw [err_single] at h3
  have := es_pos
  refine ⟨r, h1, h2, ?_⟩
  unfold Near at h3; unfold Ab S; grind
theorem s_mul (x y : Nat) (hx : Sm x) (hy : Sm y) (B : Rat) (h : Ab (S x * S y) B) (hB : B < pw 127) :
    ∃ r, floatBits .mul .f32 x y = some r ∧ Sm r ∧ Ab (S r - S x * S y) (B * v + es) := by
  obtain ⟨r, h1, h2, h3⟩ := mul_ok Ieee.single (by decide) x y hx hy B h.2 h.1 (by rw [top_single]; exact hB)
  rw [err_single] at h3
  have := es_pos
  refine ⟨r, h1, h2, ?_⟩
  unfold Near at h3; unfold Ab S; grind
theorem s_div (x y : Nat) (hx : Sm x) (hy : Sm y) (hy0 : S y ≠ 0) (q B : Rat) (hq : q * S y = S x) (h : Ab q B) (hB : B < pw 126) :
    ∃ r, floatBits .quo .f32 x y = some r ∧ Sm r ∧ Ab (S r - q) (4 * (B * v) + es) := by
  obtain ⟨r, h1, h2, h3⟩ := div_ok Ieee.single (by decide) x y hx hy hy0 q B hq h.2 h.1 (by
    rw [top_single, show (127 : Int) = 126 + 1 from rfl, pw_succ]; grind)
  rw [lp_single, fb_single] at h3
  have e : pw (-23) = 2 * pw (-24) := by rw [← pw_succ]; rfl
  rw [e] at h3
  refine ⟨r, h1, h2, ?_⟩
  unfold Near at h3; unfold Ab S v es; grind

/-- the bits of a narrowed number -/
def nar (b : Nat) : Nat := FloatKind.f32.encode (FloatKind.f64.decode b)
/-- narrowing a number that is not too great -/
theorem narrow_ok (x : Nat) (hx : Nm x) (B : Rat) (h : Ab (W x) B) (hB : B < pw 127) :
    (∀ w, fcv w .f64 x .f32 = nar x) ∧ fcd .f64 x .f32 = 0 ∧ Sm (nar x) ∧ Ab (S (nar x) - W x) (B * v + es) := by
  obtain ⟨s, m, p, hr⟩ := hx
  rw [show W x = _ from V_eq hr] at h ⊢
  obtain ⟨h1, h2⟩ := write_ok Ieee.single (by decide) s m p B h.2 h.1 (by rw [top_single]; exact hB)
  rw [err_single] at h2
  have hd : FloatKind.f64.decode x = .number s m p := hr
  obtain ⟨s', m', p', hn⟩ := h1
  have hinf : (FloatKind.f32.decode (FloatKind.f32.encode (.number s m p))).isInfinity = false := by
    show (Ieee.single.read (Ieee.single.write (.number s m p))).isInfinity = false
    rw [hn]; rfl
  have en : nar x = FloatKind.f32.encode (.number s m p) := by unfold nar; rw [hd]
  rw [en]
  refine ⟨?_, ?_, ⟨s', m', p', hn⟩, ?_⟩
  · intro w
    unfold fcv
    rw [if_neg (by decide), hd]
    simp only [hinf, Bool.false_eq_true, if_false]
  · unfold fcd
    rw [if_neg (by decide), hd]
    simp only [hinf, Bool.false_eq_true, if_false]
  · have := es_pos
    unfold Near at h2
    unfold Ab
    show _ ≤ V Ieee.single (Ieee.single.write (.number s m p)) - _ ∧ V Ieee.single (Ieee.single.write (.number s m p)) - _ ≤ _
    grind

/-- whole numbers that the format has -/
theorem int_exact (k : FloatKind) (n : Int) (hn : n.natAbs < 2 ^ (k.format.fractionBits + 1)) (he : 2 ≤ k.format.exponentBits) (hp : k.format.leastPlace ≤ 0) (ht : (n.natAbs : Rat) < pw (top k.format)) :
    IsNum k.format (floatOfInt k n) ∧ V k.format (floatOfInt k n) = (n : Rat) := by
  have e : floatOfInt k n = k.format.write (.number (decide (n < 0)) n.natAbs 0) := rfl
  rw [e]
  obtain ⟨m', p', w1, w2, w3, w4⟩ := write_exact k.format he (decide (n < 0)) n.natAbs 0 n.natAbs 0 rfl hn hp (by rw [pw_zero]; grind)
  refine ⟨⟨_, _, _, w1⟩, ?_⟩
  rw [V_eq w1]
  unfold val
  rw [w4, pw_zero]
  by_cases h : n < 0
  · rw [if_pos (by simpa using h)]
    have : (n : Rat) = -((n.natAbs : Nat) : Rat) := by
      have h2 : n = -((n.natAbs : Nat) : Int) := by omega
      conv => lhs; rw [h2]
      rw [Rat.intCast_neg, Rat.intCast_natCast]
    rw [this]; grind
  · rw [if_neg (by simpa using h)]
    have : (n : Rat) = ((n.natAbs : Nat) : Rat) := by
      have h2 : n = ((n.natAbs : Nat) : Int) := by omega
      conv => lhs; rw [h2]
      rw [Rat.intCast_natCast]
    rw [this]; grind
theorem int_single (n : Int) (hn : n.natAbs < 16777216) : Sm (floatOfInt .f32 n) ∧ S (floatOfInt .f32 n) = (n : Rat) := by
  refine int_exact .f32 n (by rw [show 2 ^ (FloatKind.f32.format.fractionBits + 1) = 16777216 from by decide]; exact hn) (by decide) (by decide) ?_
  show (n.natAbs : Rat) < pw (top Ieee.single)
  rw [top_single]
  have h1 : ((n.natAbs : Nat) : Rat) < ((16777216 : Nat) : Rat) := by exact_mod_cast hn
  have h2 : pw 24 = ((16777216 : Nat) : Rat) := pw_nat 24
  have h3 := pw_lt (a := 24) (b := 127) (by omega)
  grind
theorem int_double (n : Int) (hn : n.natAbs < 9007199254740992) : Nm (floatOfInt .f64 n) ∧ W (floatOfInt .f64 n) = (n : Rat) := by
  refine int_exact .f64 n (by rw [show 2 ^ (FloatKind.f64.format.fractionBits + 1) = 9007199254740992 from by decide]; exact hn) (by decide) (by decide) ?_
  show (n.natAbs : Rat) < pw (top Ieee.double)
  rw [top_double]
  have h1 : ((n.natAbs : Nat) : Rat) < ((9007199254740992 : Nat) : Rat) := by exact_mod_cast hn
  have h2 : pw 53 = ((9007199254740992 : Nat) : Rat) := pw_nat 53
  have h3 := pw_lt (a := 53) (b := 1023) (by omega)
  grind
end Flo
end Go.Proofs.YtiakcibeobbonaaGreat

/- The walks of MakeBody, MakeSmall and of the laws' own 'at'.
   Conditions: those that each statement names. -/
namespace Go.Proofs.YtiakcibeobbonaaGreat
set_option linter.unusedSimpArgs false
set_option linter.unusedVariables false
open Go Go.RowKit

/-- a body with at most M modes, all valid, in memory of the call's own -/
def MadeB (M : Nat) (w : World) (e : Ending) (w' : World) : Prop :=
  ∃ (ms : List M4) (v : Value), e = .returned (.agg #[v]) ∧ ms.length ≤ M ∧ (∀ m ∈ ms, m.ok) ∧ w'.ownsRow w.heap.size 93 2 v ms.length (cellsM ms) ∧ Nw w w'

theorem Nw.set' {a w : World} (h : Nw a w) {p : Addr} (hp : a.heap.size ≤ p.block) (u : Value) : Nw a (w.setCell p u) := h.set hp u
theorem At.toNw {B : Nat} {w0 : World} {a : Option Addr} {len cap c : Nat} {w : World} (h : At B w0 a len cap c w) (hc : w0.heap.size ≤ c) : Nw w0 w := h.2.nw hc

/-! ### samples -/
theorem num_1000 : Sm 1148846080 ∧ S 1148846080 = 1000 := by
  have h : Ieee.single.read 1148846080 = .number false 16384000 (-14) := by decide
  refine ⟨⟨_, _, _, h⟩, ?_⟩
  rw [show S 1148846080 = _ from Flo.V_eq h]
  unfold Flo.val
  have := Flo.pw_neg_mul 14
  have e : Flo.pw 14 = 16384 := Flo.pw_nat 14
  rw [e] at this
  simp only [Bool.false_eq_true, if_false]
  have e2 : ((16384000 : Nat) : Rat) = 16384000 := rfl
  rw [e2]; grind

/-- a sample that MakeSmall draws, if its greatest one is at most K in absolute value -/
def Samp (K : Rat) (b : Nat) : Prop := Sm b ∧ Flo.Ab (S b) (K + K / 1000000 + 1 / 1000000)

theorem samp_ok (mb : Nat) (K : Rat) (hm : Sm mb) (hK : Flo.Ab (S mb) K) (hK60 : K ≤ Flo.pw 60) (z : Int) (h0 : 0 ≤ z) (h1 : z < 2001) :
    ∃ r1 r2, floatBits .mul .f32 mb (floatOfInt .f32 (z - 1000)) = some r1 ∧ floatBits .quo .f32 r1 1148846080 = some r2 ∧ Samp K r2 := by
  obtain ⟨n1, v1⟩ := Flo.int_single (z - 1000) (by omega)
  have hz : Flo.Ab (S (floatOfInt .f32 (z - 1000))) 1000 := by
    rw [v1]
    have a1 : (-1000 : Rat) ≤ ((z - 1000 : Int) : Rat) := Rat.intCast_le_intCast.2 (show -1000 ≤ z - 1000 by omega)
    have a2 : ((z - 1000 : Int) : Rat) ≤ 1000 := Rat.intCast_le_intCast.2 (show z - 1000 ≤ 1000 by omega)
    exact ⟨a1, a2⟩
  have hK0 := hK.nonneg
  have hp := hK.mul hz
  have e71 : Flo.pw 71 = 2048 * Flo.pw 60 := by rw [show (71 : Int) = 11 + 60 from rfl, Flo.pw_add, show Flo.pw 11 = 2048 from Flo.pw_nat 11]
  have l71 := Flo.pw_lt (a := 71) (b := 126) (by omega)
  have l72 := Flo.pw_lt (a := 126) (b := 127) (by omega)
  have o60 : 1 ≤ Flo.pw 60 := by rw [← Flo.pw_zero]; exact Flo.pw_le (by omega)
  have ve := Flo.v_eq
  have v0 := Flo.v_pos
  have es0 := Flo.es_pos
  have ev : Flo.es ≤ Flo.v := Flo.pw_le (by omega)
  have hKv : K * Flo.v = K / 16777216 := by
    have : Flo.v = 1 / 16777216 := by grind
    rw [this]; grind
  obtain ⟨r1, a1, a2, a3⟩ := Flo.s_mul _ _ hm n1 (K * 1000) hp (by grind)
  have hq : (S r1 / 1000) * S 1148846080 = S r1 := by rw [num_1000.2]; grind
  have h1000 : Flo.Ab (S r1) (K * 1000 + K * 1000 * Flo.v + Flo.es) := ((a3.add hp).eq (by grind)).mono (by grind)
  have hq2 : Flo.Ab (S r1 / 1000) (K + K * Flo.v + Flo.es) := by
    unfold Flo.Ab at *; constructor <;> grind
  obtain ⟨r2, b1, b2, b3⟩ := Flo.s_div r1 1148846080 a2 num_1000.1 (by rw [num_1000.2]; grind) _ _ hq hq2 (by grind)
  refine ⟨r1, r2, a1, b1, b2, ?_⟩
  refine ((b3.add hq2).eq (show S r2 - S r1 / 1000 + S r1 / 1000 = S r2 by grind)).mono ?_
  have hKvv : K * Flo.v * Flo.v = K / 16777216 / 16777216 := by
    rw [hKv]; have : Flo.v = 1 / 16777216 := by grind
    rw [this]; grind
  have hev : Flo.es * Flo.v ≤ Flo.es := by
    have := Rat.mul_le_mul_of_nonneg_left (show Flo.v ≤ 1 by grind) (Rat.le_of_lt es0); grind
  grind

theorem info_f32 : (Tryz.prog.info? 23).map (fun i => (i.zero, i.size, i.bytes)) = some (some (.float .f32 0), 1, 4) := by kernel_rfl

/-- the cells of a row of samples -/
def cellsS (xs : List Nat) : List Value := xs.map (Value.float .f32)

def SmallI (B : Nat) (w0 : World) (a : Option Addr) (len cap c base : Nat) (K : Rat) (v i : Value) (wr : World) : Prop :=
  ∃ (k : Nat) (xs : List Nat), i = .int .i64 (k : Int) ∧ k + xs.length ≤ 11 ∧ At B w0 a len cap c wr ∧ wr.ownsRow base 23 1 v xs.length (cellsS xs) ∧ (∀ x ∈ xs, Samp K x) ∧ base ≤ wr.heap.size

/-- at most eleven samples, in memory of the call's own -/
def SmallP (K : Rat) (w : World) (e : Ending) (w' : World) : Prop :=
  ∃ (xs : List Nat) (v : Value), e = .returned v ∧ xs.length ≤ 11 ∧ (∀ x ∈ xs, Samp K x) ∧ w'.ownsRow w.heap.size 23 1 v xs.length (cellsS xs) ∧ Nw w w'

/-! ### the laws' own bytes -/
theorem ret_int' {k : IntKind} {a b : Int} (h : a = b) : Ending.returned (.int k a) = .returned (.int k b) := by rw [h]
def AtP (w : World) (e : Ending) (w' : World) : Prop := ∃ z : Nat, z ≤ 255 ∧ e = .returned (.int .i64 (z : Int)) ∧ w = w'
theorem at_any (a : Option Addr) (len cap i : Nat) (hl : len ≤ 1048576) (hi : i ≤ 100) (w : World) (hb : Bys w.heap.size a len w) :
    Calls Tryz.prog 6 #[.slice a len cap, .int .i64 (i : Int)] w (AtP w) := by
  by_cases hlt : i < len
  · rcases hb.2 with h00 | ⟨blk, off, rfl, hblk, hcell⟩
    · omega
    · obtain ⟨x, hx, hcx⟩ := hcell i hlt
      clear hcell hb
      go_enter Tryz.func6, Tryz.ntmps6
      go_wp2
      go_ret
      exact ⟨x, hx, rfl, rfl⟩
  · clear hb
    go_enter Tryz.func6, Tryz.ntmps6
    go_wp2
    go_ret
    exact ⟨(i * 37 + len * 11) % 256, by omega, ret_int' (show ((i : Int) * 37 + len * 11) % 256 = (((i * 37 + len * 11) % 256 : Nat) : Int) by omega), rfl⟩

end Go.Proofs.YtiakcibeobbonaaGreat

/- One step of a mode in single precision: its bits, how near it is to the exact step, and the walks of MultiplySingle, ScaleSingle and StepMode.
   Conditions: those that each statement names. -/
namespace Go.Proofs.YtiakcibeobbonaaGreat
set_option linter.unusedSimpArgs false
set_option linter.unusedVariables false
open Go Go.RowKit

/-- the bits of an operation that has a number, or an infinity, as its result -/
def opB (o : BinOp) (k : FloatKind) (x y : Nat) : Nat := (floatBits o k x y).getD 0
/-- it draws nothing -/
def Calm (o : BinOp) (k : FloatKind) (x y : Nat) : Prop := floatBits o k x y = some (opB o k x y)
theorem Calm.of {o : BinOp} {k : FloatKind} {x y r : Nat} (h : floatBits o k x y = some r) : Calm o k x y ∧ opB o k x y = r := by
  have e : opB o k x y = r := by unfold opB; rw [h]; rfl
  exact ⟨by unfold Calm; rw [e]; exact h, e⟩
theorem Calm.res {o : BinOp} {k : FloatKind} {x y : Nat} (h : Calm o k x y) (w : World) : fres w o k x y = opB o k x y := by unfold fres; rw [h]
theorem Calm.fdr {o : BinOp} {k : FloatKind} {x y : Nat} (h : Calm o k x y) : fdr o k x y = 0 := by unfold Go.Proofs.YtiakcibeobbonaaGreat.fdr; rw [h]; rfl

theorem Calm.run {P : Program} {k : FloatKind} {x y : Nat} (h : Calm .add k x y) (t : TypeId) (w : World) : (binOp .add t (.float k x) (.float k y)).run P w = .ok (.float k (opB .add k x y)) w := by
  rw [run_fl_add, h.res, h.fdr]; rfl

/-! ### products in single precision -/
def mulSre (a b c d : Nat) : Nat := Flo.nar (opB .sub .f64 (opB .mul .f64 (wid a) (wid c)) (opB .mul .f64 (wid b) (wid d)))
def mulSim (a b c d : Nat) : Nat := Flo.nar (opB .add .f64 (opB .mul .f64 (wid a) (wid d)) (opB .mul .f64 (wid b) (wid c)))

/-- all that is known of one part of a product: nothing is drawn, and the result is near the exact one -/
structure PartOk (o : BinOp) (a c b d : Nat) (exact D K : Rat) : Prop where
  c1 : Calm .mul .f64 (wid a) (wid c)
  c2 : Calm .mul .f64 (wid b) (wid d)
  c3 : Calm o .f64 (opB .mul .f64 (wid a) (wid c)) (opB .mul .f64 (wid b) (wid d))
  n1 : ∀ w, fcv w .f64 (opB o .f64 (opB .mul .f64 (wid a) (wid c)) (opB .mul .f64 (wid b) (wid d))) .f32 = Flo.nar (opB o .f64 (opB .mul .f64 (wid a) (wid c)) (opB .mul .f64 (wid b) (wid d)))
  n2 : fcd .f64 (opB o .f64 (opB .mul .f64 (wid a) (wid c)) (opB .mul .f64 (wid b) (wid d))) .f32 = 0
  num : Sm (Flo.nar (opB o .f64 (opB .mul .f64 (wid a) (wid c)) (opB .mul .f64 (wid b) (wid d))))
  near : Flo.Ab (S (Flo.nar (opB o .f64 (opB .mul .f64 (wid a) (wid c)) (opB .mul .f64 (wid b) (wid d)))) - exact) (D * Flo.v + (D + K) * Flo.v / 16777216 + 2 * Flo.es)

theorem uv : Flo.u ≤ Flo.v / 536870912 := Flo.u_le_v

/-- the sums of the errors, in plain numbers -/
theorem part_sum (D K u v et es : Rat) (hD : 0 ≤ D) (hK : 0 ≤ K) (u0 : 0 < u) (huv : u ≤ v / 536870912) (ve : v * 16777216 = 1) (e0 : 0 < et) (ee : et ≤ es / 1024) :
    0 ≤ K * u ∧ K * u ≤ K / 1048576 ∧ (D + 2 * (K * u + et)) * u + et + 2 * (K * u + et) ≤ D / 1048576 + K / 1048576 + es ∧
    (D + ((D + 2 * (K * u + et)) * u + et + 2 * (K * u + et))) * v + es + ((D + 2 * (K * u + et)) * u + et + 2 * (K * u + et)) ≤ D * v + (D + K) * v / 16777216 + 2 * es := by
  have hv : v = 1 / 16777216 := by grind
  subst hv
  have u1 : u ≤ 1 / 1048576 := by grind
  have k1 := Rat.mul_le_mul_of_nonneg_left huv hK
  have k2 := Rat.mul_nonneg hK (Rat.le_of_lt u0)
  have d1 := Rat.mul_le_mul_of_nonneg_left huv hD
  have d2 := Rat.mul_nonneg hD (Rat.le_of_lt u0)
  have k3 := Rat.mul_le_mul_of_nonneg_left u1 k2
  have k4 := Rat.mul_nonneg k2 (Rat.le_of_lt u0)
  have t1 := Rat.mul_le_mul_of_nonneg_left u1 (Rat.le_of_lt e0)
  have t2 := Rat.mul_nonneg (Rat.le_of_lt e0) (Rat.le_of_lt u0)
  refine ⟨k2, by grind, by grind, by grind⟩

structure Small' : Prop where
  ee : Flo.et ≤ Flo.es / 1024
  es1 : Flo.es ≤ 1 / 1048576
  o120 : 1 ≤ Flo.pw 120
  l0 : Flo.pw 127 < Flo.pw 1023
  l2 : Flo.pw 123 = 8 * Flo.pw 120
  l3 : Flo.pw 126 = 2 * Flo.pw 125
  l4 : Flo.pw 127 = 2 * Flo.pw 126
  l5 : Flo.pw 125 = 4 * Flo.pw 123
theorem small' : Small' where
  ee := by
    have : Flo.pw (-1074) ≤ Flo.pw (-159) := Flo.pw_le (by omega)
    have e2 : Flo.pw (-149) = 1024 * Flo.pw (-159) := by rw [show (-149 : Int) = 10 + -159 from rfl, Flo.pw_add, show Flo.pw 10 = 1024 from Flo.pw_nat 10]
    unfold Flo.et Flo.es
    grind
  es1 := by
    have h : Flo.pw (-149) ≤ Flo.pw (-20) := Flo.pw_le (by omega)
    have e := Flo.pw_neg_mul 20
    rw [show Flo.pw 20 = 1048576 from Flo.pw_nat 20] at e
    unfold Flo.es; grind
  o120 := by rw [← Flo.pw_zero]; exact Flo.pw_le (by omega)
  l0 := Flo.pw_lt (by omega)
  l2 := by rw [show (123 : Int) = 3 + 120 from rfl, Flo.pw_add, show Flo.pw 3 = 8 from Flo.pw_nat 3]
  l3 := by rw [← Flo.pw_succ]; rfl
  l4 := by rw [← Flo.pw_succ]; rfl
  l5 := by rw [show (125 : Int) = 2 + 123 from rfl, Flo.pw_add, show Flo.pw 2 = 4 from Flo.pw_nat 2]

/-- what the rounded difference of two rounded products is -/
theorem part_sub (a c b d : Nat) (ha : Sm a) (hc : Sm c) (hb : Sm b) (hd : Sm d) (K D : Rat) (h1 : Flo.Ab (S a * S c) K) (h2 : Flo.Ab (S b * S d) K) (hD : Flo.Ab (S a * S c - S b * S d) D) (hK : K ≤ Flo.pw 120) (hDt : D ≤ Flo.pw 125) :
    PartOk .sub a c b d (S a * S c - S b * S d) D K := by
  obtain ⟨na, va⟩ := wid_num ha
  obtain ⟨nc, vc⟩ := wid_num hc
  obtain ⟨nb, vb⟩ := wid_num hb
  obtain ⟨nd, vd⟩ := wid_num hd
  obtain ⟨ee, es1, o120, l0, l2, l3, l4, l5⟩ := small'
  obtain ⟨s0, s1, s2, s3⟩ := part_sum D K Flo.u Flo.v Flo.et Flo.es hD.nonneg h1.nonneg Flo.u_pos uv Flo.v_eq Flo.et_pos ee
  have e0 := Flo.et_pos
  obtain ⟨p, p1, p2, p3⟩ := Flo.d_mul (wid a) (wid c) na nc K (by rw [va, vc]; exact h1) (by grind)
  obtain ⟨q, q1, q2, q3⟩ := Flo.d_mul (wid b) (wid d) nb nd K (by rw [vb, vd]; exact h2) (by grind)
  rw [va, vc] at p3
  rw [vb, vd] at q3
  have hpq : Flo.Ab (Flo.W p - Flo.W q) (D + 2 * (K * Flo.u + Flo.et)) := ((hD.add (p3.sub q3)).eq (by grind)).mono (by grind)
  obtain ⟨r, r1, r2, r3⟩ := Flo.d_sub p q p2 q2 _ hpq (by grind)
  obtain ⟨c1, b1⟩ := Calm.of p1
  obtain ⟨c2, b2⟩ := Calm.of q1
  obtain ⟨c3, b3⟩ := Calm.of r1
  have hr : Flo.Ab (Flo.W r - (S a * S c - S b * S d)) ((D + 2 * (K * Flo.u + Flo.et)) * Flo.u + Flo.et + 2 * (K * Flo.u + Flo.et)) := ((r3.add (p3.sub q3)).eq (by grind)).mono (by grind)
  obtain ⟨m1, m2, m3, m4⟩ := Flo.narrow_ok r r2 _ ((hD.add hr).eq (show _ = Flo.W r by grind)) (by grind)
  rw [← b1, ← b2] at c3 b3
  rw [← b3] at m1 m2 m3 m4 hr
  exact ⟨c1, c2, c3, m1, m2, m3, ((m4.add hr).eq (by grind)).mono s3⟩

/-- .. and the sum -/
theorem part_add (a c b d : Nat) (ha : Sm a) (hc : Sm c) (hb : Sm b) (hd : Sm d) (K D : Rat) (h1 : Flo.Ab (S a * S c) K) (h2 : Flo.Ab (S b * S d) K) (hD : Flo.Ab (S a * S c + S b * S d) D) (hK : K ≤ Flo.pw 120) (hDt : D ≤ Flo.pw 125) :
    PartOk .add a c b d (S a * S c + S b * S d) D K := by
  obtain ⟨na, va⟩ := wid_num ha
  obtain ⟨nc, vc⟩ := wid_num hc
  obtain ⟨nb, vb⟩ := wid_num hb
  obtain ⟨nd, vd⟩ := wid_num hd
  obtain ⟨ee, es1, o120, l0, l2, l3, l4, l5⟩ := small'
  obtain ⟨s0, s1, s2, s3⟩ := part_sum D K Flo.u Flo.v Flo.et Flo.es hD.nonneg h1.nonneg Flo.u_pos uv Flo.v_eq Flo.et_pos ee
  have e0 := Flo.et_pos
  obtain ⟨p, p1, p2, p3⟩ := Flo.d_mul (wid a) (wid c) na nc K (by rw [va, vc]; exact h1) (by grind)
  obtain ⟨q, q1, q2, q3⟩ := Flo.d_mul (wid b) (wid d) nb nd K (by rw [vb, vd]; exact h2) (by grind)
  rw [va, vc] at p3
  rw [vb, vd] at q3
  have hpq : Flo.Ab (Flo.W p + Flo.W q) (D + 2 * (K * Flo.u + Flo.et)) := ((hD.add (p3.add q3)).eq (by grind)).mono (by grind)
  obtain ⟨r, r1, r2, r3⟩ := Flo.d_add p q p2 q2 _ hpq (by grind)
  obtain ⟨c1, b1⟩ := Calm.of p1
  obtain ⟨c2, b2⟩ := Calm.of q1
  obtain ⟨c3, b3⟩ := Calm.of r1
  have hr : Flo.Ab (Flo.W r - (S a * S c + S b * S d)) ((D + 2 * (K * Flo.u + Flo.et)) * Flo.u + Flo.et + 2 * (K * Flo.u + Flo.et)) := ((r3.add (p3.add q3)).eq (by grind)).mono (by grind)
  obtain ⟨m1, m2, m3, m4⟩ := Flo.narrow_ok r r2 _ ((hD.add hr).eq (show _ = Flo.W r by grind)) (by grind)
  rw [← b1, ← b2] at c3 b3
  rw [← b3] at m1 m2 m3 m4 hr
  exact ⟨c1, c2, c3, m1, m2, m3, ((m4.add hr).eq (by grind)).mono s3⟩

/-! ### one step -/
def stepS (m : M4) (s : Nat × Nat) (x : Nat) : Nat × Nat :=
  (opB .add .f32 (mulSre s.1 s.2 m.pr m.pi) (opB .mul .f32 m.gr x), opB .add .f32 (mulSim s.1 s.2 m.pr m.pi) (opB .mul .f32 m.gi x))

structure StepOk (m : M4) (s : Nat × Nat) (x : Nat) : Prop where
  s1 : Sm s.1
  s2 : Sm s.2
  p1 : ∃ e D K, PartOk .sub s.1 m.pr s.2 m.pi e D K
  p2 : ∃ e D K, PartOk .add s.1 m.pi s.2 m.pr e D K
  c1 : Calm .mul .f32 m.gr x
  c2 : Calm .mul .f32 m.gi x
  c3 : Calm .add .f32 (mulSre s.1 s.2 m.pr m.pi) (opB .mul .f32 m.gr x)
  c4 : Calm .add .f32 (mulSim s.1 s.2 m.pr m.pi) (opB .mul .f32 m.gi x)

theorem M4.ok.nums {m : M4} (h : m.ok) : Sm m.pr ∧ Sm m.pi ∧ Sm m.gr ∧ Sm m.gi := by
  obtain ⟨h1, h2, h3, h4, -, -, -⟩ := Valid.parts h
  exact ⟨Sm_of h1, Sm_of h2, Sm_of h3, Sm_of h4⟩

/-- a valid pole's parts are at most 2 -/
theorem M4.ok.pole {m : M4} (h : m.ok) : Flo.Ab (S m.pr) 2 ∧ Flo.Ab (S m.pi) 2 := by
  have hs := Valid.square h
  have a := square_nonneg (S m.pr)
  have b := square_nonneg (S m.pi)
  have key : ∀ q : Rat, q * q ≤ 2 → Flo.Ab q 2 := by
    intro q hq
    constructor
    · rcases Rat.le_total (a := -2) (b := q) with g | g
      · exact g
      · have := Rat.mul_le_mul_of_nonneg_left g (show (0 : Rat) ≤ 2 by grind)
        have g2 := Rat.mul_nonneg (show 0 ≤ -2 - q by grind) (show 0 ≤ -2 - q by grind)
        grind
    · rcases Rat.le_total (a := q) (b := 2) with g | g
      · exact g
      · have g2 := Rat.mul_nonneg (show 0 ≤ q - 2 by grind) (show 0 ≤ q - 2 by grind)
        grind
  exact ⟨key _ (by grind), key _ (by grind)⟩

/-- the sums of the errors of one part, in plain numbers -/
theorem step_sum (D R H v es : Rat) (hD : 0 ≤ D) (hR : 0 ≤ R) (hH : 0 ≤ H) (ve : v * 16777216 = 1) (e0 : 0 < es) :
    (D + (D * v + (D + 2 * R) * v / 16777216 + 2 * es) + (H + (H * v + es))) * v + es + (D * v + (D + 2 * R) * v / 16777216 + 2 * es) + (H * v + es) ≤ (2 * D + 2 * H) * v + (D + R + H) * v / 1024 + 6 * es := by
  have hv : v = 1 / 16777216 := by grind
  subst hv
  grind

theorem part_step (p g x : Nat) (hp : Sm p) (hg : Sm g) (hx : Sm x) (e D R H : Rat) (hR : 0 ≤ R) (he : Flo.Ab e D) (hn : Flo.Ab (S p - e) (D * Flo.v + (D + 2 * R) * Flo.v / 16777216 + 2 * Flo.es)) (hH : Flo.Ab (S g * S x) H)
    (hRt : R ≤ Flo.pw 110) (hDt : D ≤ Flo.pw 112) (hHt : H ≤ Flo.pw 112) :
    Calm .mul .f32 g x ∧ Calm .add .f32 p (opB .mul .f32 g x) ∧ Sm (opB .add .f32 p (opB .mul .f32 g x)) ∧ Flo.Ab (S (opB .add .f32 p (opB .mul .f32 g x)) - (e + S g * S x)) ((2 * D + 2 * H) * Flo.v + (D + R + H) * Flo.v / 1024 + 6 * Flo.es) := by
  have l1 : Flo.pw 112 = 4 * Flo.pw 110 := by rw [show (112 : Int) = 2 + 110 from rfl, Flo.pw_add, show Flo.pw 2 = 4 from Flo.pw_nat 2]
  have l2 : Flo.pw 120 = 256 * Flo.pw 112 := by rw [show (120 : Int) = 8 + 112 from rfl, Flo.pw_add, show Flo.pw 8 = 256 from Flo.pw_nat 8]
  have l3 := Flo.pw_lt (a := 120) (b := 127) (by omega)
  have l4 : 1 ≤ Flo.pw 110 := by rw [← Flo.pw_zero]; exact Flo.pw_le (by omega)
  have es1 := small'.es1
  have es0 := Flo.es_pos
  have v0 := Flo.v_pos
  have ve := Flo.v_eq
  have hv : Flo.v = 1 / 16777216 := by grind
  have hD0 := he.nonneg
  have hH0 := hH.nonneg
  obtain ⟨g1, a1, a2, a3⟩ := Flo.s_mul g x hg hx H hH (by grind)
  obtain ⟨c1, b1⟩ := Calm.of a1
  have hs : Flo.Ab (S p + S g1) (D + (D * Flo.v + (D + 2 * R) * Flo.v / 16777216 + 2 * Flo.es) + (H + (H * Flo.v + Flo.es))) := ((he.add hn).add (hH.add a3)).eq (by grind)
  obtain ⟨r, r1, r2, r3⟩ := Flo.s_add p g1 hp a2 _ hs (by rw [hv]; grind)
  obtain ⟨c2, b2⟩ := Calm.of r1
  rw [← b1] at c2 b2 a3
  rw [← b1] at r3
  refine ⟨c1, c2, by rw [b2]; exact r2, ?_⟩
  rw [b2]
  exact (((r3.add hn).add a3).eq (by grind)).mono (step_sum D R H Flo.v Flo.es hD0 hR hH0 ve es0)

/-- ONE STEP OF A VALID MODE: nothing is drawn, and the new state is near the exact one. -/
theorem step_ok (m : M4) (hm : m.ok) (s : Nat × Nat) (x : Nat) (h1 : Sm s.1) (h2 : Sm s.2) (hx : Sm x) (R D H : Rat) (r1 : Flo.Ab (S s.1) R) (r2 : Flo.Ab (S s.2) R)
    (d1 : Flo.Ab (S s.1 * S m.pr - S s.2 * S m.pi) D) (d2 : Flo.Ab (S s.1 * S m.pi + S s.2 * S m.pr) D) (g1 : Flo.Ab (S m.gr * S x) H) (g2 : Flo.Ab (S m.gi * S x) H) (hRt : R ≤ Flo.pw 110) (hDt : D ≤ Flo.pw 112) (hHt : H ≤ Flo.pw 112) :
    StepOk m s x ∧ Sm (stepS m s x).1 ∧ Sm (stepS m s x).2 ∧
      Flo.Ab (S (stepS m s x).1 - (S s.1 * S m.pr - S s.2 * S m.pi + S m.gr * S x)) ((2 * D + 2 * H) * Flo.v + (D + R + H) * Flo.v / 1024 + 6 * Flo.es) ∧
      Flo.Ab (S (stepS m s x).2 - (S s.1 * S m.pi + S s.2 * S m.pr + S m.gi * S x)) ((2 * D + 2 * H) * Flo.v + (D + R + H) * Flo.v / 1024 + 6 * Flo.es) := by
  obtain ⟨n1, n2, n3, n4⟩ := hm.nums
  obtain ⟨q1, q2⟩ := hm.pole
  have hR0 := r1.nonneg
  have l1 : Flo.pw 120 = 1024 * Flo.pw 110 := by rw [show (120 : Int) = 10 + 110 from rfl, Flo.pw_add, show Flo.pw 10 = 1024 from Flo.pw_nat 10]
  have l2 := Flo.pw_lt (a := 112) (b := 125) (by omega)
  have l3 := Flo.pw_pos 110
  have k1 : Flo.Ab (S s.1 * S m.pr) (2 * R) := (r1.mul q1).mono (by grind)
  have k2 : Flo.Ab (S s.2 * S m.pi) (2 * R) := (r2.mul q2).mono (by grind)
  have k3 : Flo.Ab (S s.1 * S m.pi) (2 * R) := (r1.mul q2).mono (by grind)
  have k4 : Flo.Ab (S s.2 * S m.pr) (2 * R) := (r2.mul q1).mono (by grind)
  have P1 := part_sub s.1 m.pr s.2 m.pi h1 n1 h2 n2 (2 * R) D k1 k2 d1 (by grind) (by grind)
  have P2 := part_add s.1 m.pi s.2 m.pr h1 n2 h2 n1 (2 * R) D k3 k4 d2 (by grind) (by grind)
  obtain ⟨a1, a2, a3, a4⟩ := part_step _ m.gr x P1.num n3 hx _ D R H hR0 d1 P1.near g1 hRt hDt hHt
  obtain ⟨b1, b2, b3, b4⟩ := part_step _ m.gi x P2.num n4 hx _ D R H hR0 d2 P2.near g2 hRt hDt hHt
  exact ⟨⟨h1, h2, ⟨_, _, _, P1⟩, ⟨_, _, _, P2⟩, a1, b1, a2, b2⟩, a3, b3, a4, b4⟩

/-! ### the walks -/
theorem implMul_calm (a b c d : Nat) (w : World) (h1 : Calm .mul .f64 a c) (h2 : Calm .mul .f64 b d) (h3 : Calm .sub .f64 (opB .mul .f64 a c) (opB .mul .f64 b d))
    (h4 : Calm .mul .f64 a d) (h5 : Calm .mul .f64 b c) (h6 : Calm .add .f64 (opB .mul .f64 a d) (opB .mul .f64 b c)) :
    Calls Tryz.prog 119 #[.complex .f64 a b, .complex .f64 c d] w fun e w' =>
      e = .returned (.complex .f64 (opB .sub .f64 (opB .mul .f64 a c) (opB .mul .f64 b d)) (opB .add .f64 (opB .mul .f64 a d) (opB .mul .f64 b c))) ∧ w = w' := by
  have r1 := h1.res
  have r2 := h2.res
  have r3 := h3.res
  have r4 := h4.res
  have r5 := h5.res
  have r6 := h6.res
  have q1 := h1.fdr
  have q2 := h2.fdr
  have q3 := h3.fdr
  have q4 := h4.fdr
  have q5 := h5.fdr
  have q6 := h6.fdr
  clear h1 h2 h3 h4 h5 h6
  go_enter Tryz.func119, Tryz.ntmps119
  go_wp2
  all_goals (go_ret; exact ⟨rfl, rfl⟩)

theorem implNarrow_ok (p q r s : Nat) (w : World) (h1 : ∀ w, fcv w .f64 p .f32 = r) (h2 : ∀ w, fcv w .f64 q .f32 = s) (h3 : fcd .f64 p .f32 = 0) (h4 : fcd .f64 q .f32 = 0) :
    Calls Tryz.prog 118 #[.complex .f64 p q] w fun e w' => e = .returned (.complex .f32 r s) ∧ w = w' := by
  go_enter Tryz.func118, Tryz.ntmps118
  go_wp2
  go_ret
  exact ⟨rfl, rfl⟩

theorem implMulSingle_ok (a b c d : Nat) (w : World) (ha : Sm a) (hb : Sm b) (hc : Sm c) (hd : Sm d) (h1 : ∃ e D K, PartOk .sub a c b d e D K) (h2 : ∃ e D K, PartOk .add a d b c e D K) :
    Calls Tryz.prog 111 #[.complex .f32 a b, .complex .f32 c d] w fun e w' => e = .returned (.complex .f32 (mulSre a b c d) (mulSim a b c d)) ∧ w = w' := by
  obtain ⟨_, _, _, P1⟩ := h1
  obtain ⟨_, _, _, P2⟩ := h2
  go_enter Tryz.func111, Tryz.ntmps111
  go_wp2_with fail
  refine (implWiden_fin _ _ _ ha hb).mono ?_
  rintro e w' ⟨rfl, rfl⟩
  go_wp2_with fail
  refine (implWiden_fin _ _ _ hc hd).mono ?_
  rintro e w' ⟨rfl, rfl⟩
  go_wp2_with fail
  refine (implMul_calm _ _ _ _ _ P1.c1 P1.c2 P1.c3 P2.c1 P2.c2 P2.c3).mono ?_
  rintro e w' ⟨rfl, rfl⟩
  go_wp2_with fail
  refine (implNarrow_ok _ _ _ _ _ P1.n1 P2.n1 P1.n2 P2.n2).mono ?_
  rintro e w' ⟨rfl, rfl⟩
  go_wp2
  go_ret
  exact ⟨rfl, rfl⟩

theorem implScale_ok (a b x : Nat) (w : World) (h1 : Calm .mul .f32 a x) (h2 : Calm .mul .f32 b x) :
    Calls Tryz.prog 109 #[.complex .f32 a b, .float .f32 x] w fun e w' => e = .returned (.complex .f32 (opB .mul .f32 a x) (opB .mul .f32 b x)) ∧ w = w' := by
  have r1 := h1.res
  have r2 := h2.res
  have q1 := h1.fdr
  have q2 := h2.fdr
  clear h1 h2
  go_enter Tryz.func109, Tryz.ntmps109
  go_wp2
  all_goals (go_ret; exact ⟨rfl, rfl⟩)

theorem stepMode_ok (m : M4) (hm : m.ok) (s : Nat × Nat) (x : Nat) (w : World) (h : StepOk m s x) :
    Calls Tryz.prog 95 #[.agg #[.complex .f32 m.pr m.pi, .complex .f32 m.gr m.gi], .complex .f32 s.1 s.2, .float .f32 x] w (TupP (.complex .f32 (stepS m s x).1 (stepS m s x).2) w) := by
  obtain ⟨n1, n2, n3, n4⟩ := hm.nums
  obtain ⟨s1, s2, p1, p2, c1, c2, c3, c4⟩ := h
  have r3 := c3.res
  have r4 := c4.res
  have q3 := c3.fdr
  have q4 := c4.fdr
  have P1 := Lib.hid p1
  have P2 := Lib.hid p2
  have C1 := Lib.hid c1
  have C2 := Lib.hid c2
  clear p1 p2 c1 c2 c3 c4
  go_enter Tryz.func95, Tryz.ntmps95
  go_wp2_with fail
  go_quiet (first
    | (go_at_call 111; exact quiet_eq (implMulSingle_ok _ _ _ _ _ s1 s2 n1 n2 P1.out P2.out))
    | (go_at_call 109; exact quiet_eq (implScale_ok _ _ _ _ C1.out C2.out)))
  go_wp2
  go_ret
  exact ⟨rfl, ((Nw.refl _).alloc _).draw _⟩

end Go.Proofs.YtiakcibeobbonaaGreat

/- The walks of stepStates, IsBody and RingBody, where nothing overflows: bit for bit.
   Conditions: those that each statement names. -/
namespace Go.Proofs.YtiakcibeobbonaaGreat
set_option linter.unusedSimpArgs false
set_option linter.unusedVariables false
open Go Go.RowKit

/-! ### the bits of ringing -/
def stepAll (ms : List M4) (ss : List (Nat × Nat)) (x : Nat) : List (Nat × Nat) := List.zipWith (fun m s => stepS m s x) ms ss
def outS (ss : List (Nat × Nat)) : Nat := ss.foldl (fun y s => opB .add .f32 y s.1) 0
def cellsC (ss : List (Nat × Nat)) : List Value := ss.map fun s => .complex .f32 s.1 s.2

/-- nothing overflows as the outputs are summed -/
def SumOk (ss : List (Nat × Nat)) : Prop := ∀ (k : Nat) s, ss[k]? = some s → Calm .add .f32 (outS (ss.take k)) s.1
theorem outS_take (ss : List (Nat × Nat)) (k : Nat) (s : Nat × Nat) (h : ss[k]? = some s) : outS (ss.take (k + 1)) = opB .add .f32 (outS (ss.take k)) s.1 := by
  have hk := (List.getElem?_eq_some_iff.1 h)
  obtain ⟨hk, he⟩ := hk
  rw [List.take_succ_eq_append_getElem hk, he]
  simp [outS, List.foldl_append]

/-- the states when k modes have been stepped -/
def mixed (ms : List M4) (ss : List (Nat × Nat)) (x k : Nat) : List (Nat × Nat) := (stepAll ms ss x).take k ++ ss.drop k

theorem own_mode {w : World} {base n k : Nat} {v : Value} {ms : List M4} (h : w.ownsRow base 93 2 v n (cellsM ms)) {m : M4} (hk : ms[k]? = some m) (hn : n = ms.length) :
    ∃ g cap, v = .slice (some ⟨g, 0, none⟩) n cap ∧ n ≤ cap ∧ cap ≤ maxLen ∧ g < w.heap.size ∧ w.cell? ⟨g, k * 2, none⟩ = some (.complex .f32 m.pr m.pi) ∧ w.cell? ⟨g, k * 2 + 1, none⟩ = some (.complex .f32 m.gr m.gi) := by
  have hkl := (List.getElem?_eq_some_iff.1 hk).1
  rcases h.2 with ⟨_, h0⟩ | ⟨g, cap, cur, rfl, hb, hg, hc, hm, hs, ht⟩
  · omega
  · have c1 := h.cellAt (2 * k) (by omega)
    have c2 := h.cellAt (2 * k + 1) (by omega)
    rw [(cellsM_at ms k m hk).1] at c1
    rw [(cellsM_at ms k m hk).2] at c2
    rw [Nat.mul_comm] at c1 c2
    exact ⟨g, cap, rfl, hc, hm, (h.lt g rfl).2, c1, c2⟩

theorem own_shape' {w : World} {base : Nat} {E : TypeId} {size : Nat} {v : Value} {n : Nat} {xs : List Value} (h : w.ownsRow base E size v n xs) : ∃ a c, v = .slice a n c := by
  rcases h.2 with ⟨rfl, rfl⟩ | ⟨g, cap, cur, rfl, _⟩
  · exact ⟨_, _, rfl⟩
  · exact ⟨_, _, rfl⟩

theorem mixed_at (ms : List M4) (ss : List (Nat × Nat)) (x k : Nat) (s : Nat × Nat) (hl : ms.length = ss.length) (h : ss[k]? = some s) : (cellsC (mixed ms ss x k))[k]? = some (.complex .f32 s.1 s.2) := by
  have hk := (List.getElem?_eq_some_iff.1 h).1
  have hlen : ((stepAll ms ss x).take k).length = k := by simp [stepAll]; omega
  unfold mixed cellsC
  rw [List.getElem?_map, List.getElem?_append_right (by omega), hlen, Nat.sub_self, List.getElem?_drop, Nat.add_zero, h]
  rfl

theorem _root_.Go.World.grownBy.trans' {a b c : World} {row : Option Nat} (h : a.grownBy b row) (k : b.grownBy c row) : a.grownBy c row :=
  ⟨k.os.trans h.os, k.tape.trans h.tape, k.output.trans h.output, Nat.le_trans h.size k.size, fun i hi hne => (k.block i (Nat.lt_of_lt_of_le hi h.size) hne).trans (h.block i hi hne)⟩

theorem stepAll_at (ms : List M4) (ss : List (Nat × Nat)) (x k : Nat) (m : M4) (s : Nat × Nat) (hm : ms[k]? = some m) (hs : ss[k]? = some s) : (stepAll ms ss x)[k]? = some (stepS m s x) := by
  unfold stepAll; rw [List.getElem?_zipWith, hm, hs]
theorem mixed_step (ms : List M4) (ss : List (Nat × Nat)) (x k : Nat) (m : M4) (s : Nat × Nat) (hm : ms[k]? = some m) (hs : ss[k]? = some s) :
    (cellsC (mixed ms ss x k)).set k (.complex .f32 (stepS m s x).1 (stepS m s x).2) = cellsC (mixed ms ss x (k + 1)) := by
  obtain ⟨hkm, -⟩ := List.getElem?_eq_some_iff.1 hm
  obtain ⟨hks, hse⟩ := List.getElem?_eq_some_iff.1 hs
  have hlen : ((stepAll ms ss x).take k).length = k := by simp [stepAll]; omega
  have hat := stepAll_at ms ss x k m s hm hs
  obtain ⟨hka, hae⟩ := List.getElem?_eq_some_iff.1 hat
  unfold mixed
  rw [List.take_succ_eq_append_getElem hka, hae, List.drop_eq_getElem_cons hks, hse]
  simp only [cellsC, List.map_append, List.map_cons, List.map_nil, List.append_assoc, List.singleton_append]
  rw [List.set_append_right _ _ (by simp [stepAll]; omega)]
  simp [stepAll, show k - min k (min ms.length ss.length) = 0 from by omega]
theorem mixed_after (ms : List M4) (ss : List (Nat × Nat)) (x k : Nat) (m : M4) (s : Nat × Nat) (hm : ms[k]? = some m) (hs : ss[k]? = some s) :
    (cellsC (mixed ms ss x (k + 1)))[k]? = some (.complex .f32 (stepS m s x).1 (stepS m s x).2) := by
  obtain ⟨hkm, -⟩ := List.getElem?_eq_some_iff.1 hm
  obtain ⟨hks, hse⟩ := List.getElem?_eq_some_iff.1 hs
  rw [← mixed_step ms ss x k m s hm hs, List.getElem?_set_self]
  simp [cellsC, mixed, stepAll]; omega
theorem mixed_full (ms : List M4) (ss : List (Nat × Nat)) (x : Nat) (hl : ms.length = ss.length) : mixed ms ss x ms.length = stepAll ms ss x := by
  unfold mixed
  rw [List.take_of_length_le (by simp [stepAll]; omega), List.drop_of_length_le (by omega), List.append_nil]

theorem grown_cell {w w' : World} {row : Option Nat} (h : w.grownBy w' row) {p : Addr} (hp : p.block < w.heap.size) (hne : some p.block ≠ row) : w'.cell? p = w.cell? p :=
  World.cell?_of_block (w := w) (h.block p.block hp hne)
theorem grown_frozen {w w' : World} {row : Option Nat} (h : w.grownBy w' row) {p : Addr} (hp : p.block < w.heap.size) (hne : some p.block ≠ row) : w'.frozen? p = w.frozen? p :=
  World.frozen?_of_block (w := w) (h.block p.block hp hne)

def StepsP (gs bs n : Nat) (ss' : List (Nat × Nat)) (w : World) (e : Ending) (w' : World) : Prop :=
  e = .returned (.float .f32 (outS ss')) ∧ w'.ownsRow bs 91 1 (.slice (some ⟨gs, 0, none⟩) n n) n (cellsC ss') ∧ w.grownBy w' (some gs)

def StepsI (ms : List M4) (ss : List (Nat × Nat)) (x gs bs n : Nat) (w : World) (y i : Value) (wr : World) : Prop :=
  ∃ k : Nat, k ≤ n ∧ i = .int .i64 (k : Int) ∧ y = .float .f32 (outS ((stepAll ms ss x).take k)) ∧ wr.ownsRow bs 91 1 (.slice (some ⟨gs, 0, none⟩) n n) n (cellsC (mixed ms ss x k)) ∧ w.grownBy wr (some gs)

set_option maxHeartbeats 1600000 in
theorem stepStates_ok (ms : List M4) (hms : ∀ m ∈ ms, m.ok) (ss : List (Nat × Nat)) (x n gs bs bm : Nat) (v : Value) (hn : ms.length = n) (hss : ss.length = n) (hn16 : n ≤ 16) (w : World)
    (hm : w.ownsRow bm 93 2 v n (cellsM ms)) (hs : w.ownsRow bs 91 1 (.slice (some ⟨gs, 0, none⟩) n n) n (cellsC ss)) (hne : v.ownBlock ≠ some gs)
    (hok : ∀ (k : Nat) m s, ms[k]? = some m → ss[k]? = some s → StepOk m s x) (hsum : SumOk (stepAll ms ss x)) :
    Calls Tryz.prog 61 #[v, .slice (some ⟨gs, 0, none⟩) n n, .float .f32 x] w (StepsP gs bs n (stepAll ms ss x) w) := by
  obtain ⟨va, vc, rfl⟩ := own_shape' hm
  have Hm := Lib.hid hm
  have Hs := Lib.hid hs
  have Hok := Lib.hid hok
  have Hsum := Lib.hid hsum
  have Hms := Lib.hid hms
  have Hn := Lib.hid hn
  have Hss := Lib.hid hss
  clear hm hs hok hsum hms hn hss
  go_enter Tryz.func61, Tryz.ntmps61
  go_wp2_with fail
  go_loopw [7, 12] (fun y i wr => StepsI ms ss x gs bs n w y i wr) (fun _ i _ => n - (intOf i).toNat)
  case atStart => exact ⟨0, by omega, rfl, rfl, by rw [show mixed ms ss x 0 = ss from by simp [mixed]]; exact Hs.out, World.grownBy.refl _ _⟩
  case round =>
    obtain ⟨k, hk, rfl, rfl, hown, hgr⟩ := hrel
    have Hown := Lib.hid hown
    have Hgr := Lib.hid hgr
    clear hown hgr
    by_cases hlt : k < n
    · obtain ⟨m, hmk⟩ : ∃ m, ms[k]? = some m := ⟨ms[k]'(by rw [Hn.out]; exact hlt), List.getElem?_eq_getElem _⟩
      obtain ⟨s, hsk⟩ : ∃ s, ss[k]? = some s := ⟨ss[k]'(by rw [Hss.out]; exact hlt), List.getElem?_eq_getElem _⟩
      have Hmr := Lib.hid (Hm.out.kept Hgr.out (.inr hne))
      obtain ⟨g, cap, hv, hcap, hmax, hgs, e1, e2⟩ := own_mode Hmr.out hmk Hn.out.symm
      cases hv
      have hgne : g ≠ gs := fun e => hne (by rw [e]; rfl)
      have hst : (cellsC (mixed ms ss x k))[k]? = some (.complex .f32 s.1 s.2) := mixed_at ms ss x k s (by rw [Hn.out, Hss.out]) hsk
      have e3 := Hown.out.cellAt k (by omega)
      rw [hst] at e3
      have e4 := Hown.out.frozenAt k
      have Hmk := Lib.hid hmk
      have Hsk := Lib.hid hsk
      clear hmk hsk hst
      have hmm : maxLen = 9223372036854775807 := rfl
      unfold maxLen at hmax
      clear hmm
      go_upto_region 5 with fail
      have Hmode := Lib.hid (HasMode.new wr 93 m.pr m.pi m.gr m.gi)
      have Hown4 := Lib.hid (Hown.out.alloc (.cells #[.complex .f32 m.pr m.pi, .complex .f32 m.gr m.gi] 93 (0, 0)))
      have Hgr4 := Lib.hid (Hgr.out.trans' (World.grownBy_alloc wr (.cells #[.complex .f32 m.pr m.pi, .complex .f32 m.gr m.gi] 93 (0, 0)) (some gs)))
      clear e1 e2 e3 e4
      go_cut [] (fun wx => wx.ownsRow bs 91 1 (.slice (some ⟨gs, 0, none⟩) n n) n (cellsC (mixed ms ss x (k + 1))) ∧ w.grownBy wx (some gs))
      case first =>
        obtain ⟨w4, hw4⟩ : ∃ w4, w4 = wr.alloc (.cells #[.complex .f32 m.pr m.pi, .complex .f32 m.gr m.gi] 93 (0, 0)) := ⟨_, rfl⟩
        rw [← hw4] at Hmode Hown4 Hgr4
        rw [← hw4]
        clear hw4
        obtain ⟨l0, l1, l2, l3, l4⟩ := Hmode.out
        have e3 := Hown4.out.cellAt k (by omega)
        rw [mixed_at ms ss x k s (by rw [Hn.out, Hss.out]) Hsk.out] at e3
        have e4 := Hown4.out.frozenAt k
        have hgs4 : gs < w4.heap.size := (Hown4.out.lt gs rfl).2
        have Hst := Lib.hid (Hok.out k m s Hmk.out Hsk.out)
        have Hmo := Lib.hid (Hms.out m (List.mem_of_getElem? Hmk.out))
        go_region_with (first
          | (go_at_call 95; refine (stepMode_ok m Hmo.out s x _ Hst.out).mono ?_; rintro e w5 ⟨rfl, n5⟩; have k5 := (n5.cell (p := ⟨gs, k, none⟩) hgs4).trans e3; have f5 := (n5.frozen (p := ⟨gs, k, none⟩) hgs4).trans e4))
        all_goals
          have hfin := And.intro ((own_nw (w := w4.drew) Hown4.out n5).stored k (.complex .f32 (stepS m s x).1 (stepS m s x).2)).1 ((Hgr4.out.trans' ⟨n5.os, n5.tape, n5.output, n5.size, fun q hq _ => n5.block q hq (by simp)⟩).trans' ((own_nw (w := w4.drew) Hown4.out n5).stored k (.complex .f32 (stepS m s x).1 (stepS m s x).2)).2)
          rw [mixed_step ms ss x k m s Hmk.out Hsk.out] at hfin
          have Hfin := Lib.hid hfin
          clear hfin
          go_wp2_with fail
          go_meet
          exact Hfin.out
      case rest =>
        obtain ⟨hown6, hgr6⟩ := hcut
        have e6 := hown6.cellAt k (by omega)
        rw [mixed_after ms ss x k m s Hmk.out Hsk.out] at e6
        have Hown6 := Lib.hid hown6
        have Hgr6 := Lib.hid hgr6
        clear hown6 hgr6
        have hsk := stepAll_at ms ss x k m s Hmk.out Hsk.out
        have hcalm := Hsum.out k _ hsk
        have r1 := hcalm.res
        have d1 := hcalm.fdr
        have Hout := Lib.hid (outS_take _ k _ hsk)
        clear hcalm hsk
        go_wp2_with fail
        go_roundw
        case rel => exact ⟨k + 1, by omega, by rw [show ((k + 1 : Nat) : Int) = (k : Int) + 1 from by omega], by rw [Hout.out], Hown6.out, Hgr6.out⟩
        case measure => simp only [intOf]; omega
    · obtain rfl : k = n := by omega
      have Hfull := Lib.hid (mixed_full ms ss x (Hn.out.trans Hss.out.symm))
      have Hlen := Lib.hid (show (stepAll ms ss x).length = k from by simp [stepAll, Hn.out, Hss.out])
      go_wp2_with fail
      go_ret
      refine ⟨by simp [List.take_of_length_le (Nat.le_of_eq Hlen.out)], ?_, Hgr.out⟩
      have := Hown.out
      rw [show mixed ms ss x k = stepAll ms ss x from by rw [← Hfull.out, Hn.out]] at this
      exact this

end Go.Proofs.YtiakcibeobbonaaGreat

/- Bodies and events in memory, their appends; events compared.
   Conditions: those that each statement names. -/
namespace Go.Proofs.YtiakcibeobbonaaGreat
set_option linter.unusedSimpArgs false
set_option linter.unusedVariables false
open Go Go.RowKit

theorem info_body : (Tryz.prog.info? 65).map (fun i => (i.zero, i.size, i.bytes)) = some (some (.agg #[.slice none 0 0]), 1, 24) := by kernel_rfl
theorem info_event : (Tryz.prog.info? 68).map (fun i => (i.zero, i.size, i.bytes)) = some (some (.agg #[.int .i64 0, .int .i64 0, .int .i64 0, .int .i64 0, .int .i64 0, .float .f32 0]), 6, 48) := by kernel_rfl

/-- rows in memory of different types lie in different blocks -/
theorem rows_apart {w : World} {b b' : Nat} {E E' : TypeId} {size size' n n' : Nat} {v v' : Value} {xs xs' : List Value} (h : w.ownsRow b E size v n xs) (k : w.ownsRow b' E' size' v' n' xs') (hE : E ≠ E') : v.ownBlock = none ∨ v.ownBlock ≠ v'.ownBlock := by
  rcases h.2 with ⟨rfl, _⟩ | ⟨g, cap, cur, rfl, hb, hg, _⟩
  · exact .inl rfl
  · rcases k.2 with ⟨rfl, _⟩ | ⟨g', cap', cur', rfl, hb', hg', _⟩
    · right; simp [Value.ownBlock]
    · right
      intro e
      simp [Value.ownBlock] at e
      subst e
      rw [hg] at hg'
      injection hg' with hg'
      injection hg' with h1 h2 h3
      exact hE h2

/-! ### bodies -/
def BodsR (w : World) (base : Nat) (sv : Value) (bs : List (List M4)) : Prop :=
  ∃ vs : List Value, w.ownsRow base 65 1 sv bs.length vs ∧ ∀ (p : Nat) ms, bs[p]? = some ms → ∃ v, vs[p]? = some v ∧ w.ownsRow base 93 2 v ms.length (cellsM ms)
theorem BodsR.nil (w : World) (base : Nat) : BodsR w base (.slice none 0 0) [] := ⟨[], World.ownsRow_nil _ _ _ _, fun p r h => by simp at h⟩
theorem BodsR.nw {w w' : World} {base : Nat} {sv : Value} {bs : List (List M4)} (h : BodsR w base sv bs) (hk : Nw w w') : BodsR w' base sv bs := by
  obtain ⟨vs, h1, h2⟩ := h
  exact ⟨vs, own_nw h1 hk, fun p r hp => by obtain ⟨v, a, b⟩ := h2 p r hp; exact ⟨v, a, own_nw b hk⟩⟩
theorem BodsR.kp {c : Nat} {w w' : World} {base : Nat} {sv : Value} {bs : List (List M4)} (h : BodsR w base sv bs) (hk : Kp c w w') (hc : c < base) : BodsR w' base sv bs := by
  obtain ⟨vs, h1, h2⟩ := h
  exact ⟨vs, own_kp h1 hk hc, fun p r hp => by obtain ⟨v, a, b⟩ := h2 p r hp; exact ⟨v, a, own_kp b hk hc⟩⟩
theorem BodsR.base {w : World} {base b' : Nat} {sv : Value} {bs : List (List M4)} (h : BodsR w base sv bs) (hb : b' ≤ base) : BodsR w b' sv bs := by
  obtain ⟨vs, h1, h2⟩ := h
  exact ⟨vs, own_base h1 hb, fun p r hp => by obtain ⟨v, a, b⟩ := h2 p r hp; exact ⟨v, a, own_base b hb⟩⟩
theorem BodsR.set {w : World} {base : Nat} {sv : Value} {bs : List (List M4)} (h : BodsR w base sv bs) {p : Addr} (hp : p.block < base) (u : Value) : BodsR (w.setCell p u) base sv bs := by
  obtain ⟨vs, h1, h2⟩ := h
  exact ⟨vs, own_set h1 hp u, fun p r hp' => by obtain ⟨v, a, b⟩ := h2 p r hp'; exact ⟨v, a, own_set b hp u⟩⟩
theorem BodsR.shape {w : World} {base : Nat} {sv : Value} {bs : List (List M4)} (h : BodsR w base sv bs) : ∃ a c, sv = .slice a bs.length c := by
  obtain ⟨vs, h1, h2⟩ := h
  exact own_shape' h1
/-- a row of another type grows: the bodies stay -/
theorem BodsR.grown {w w' : World} {base b2 : Nat} {E : TypeId} {size n : Nat} {v sv : Value} {xs : List Value} {bs : List (List M4)} (h : BodsR w base sv bs) (hr : w.ownsRow b2 E size v n xs) (h1 : 65 ≠ E) (h2 : 93 ≠ E) (hg : w.grownBy w' v.ownBlock) : BodsR w' base sv bs := by
  obtain ⟨vs, k1, k2⟩ := h
  exact ⟨vs, k1.kept hg (rows_apart k1 hr h1), fun p r hp => by obtain ⟨v, a, b⟩ := k2 p r hp; exact ⟨v, a, b.kept hg (rows_apart b hr h2)⟩⟩
/-- a body behind the others -/
theorem BodsR.snoc {w w' : World} {base b2 : Nat} {sv sv' rv : Value} {bs : List (List M4)} {vs : List Value} {ms : List M4} (ho : w.ownsRow base 65 1 sv bs.length vs)
    (hi : ∀ (p : Nat) r, bs[p]? = some r → ∃ v, vs[p]? = some v ∧ w.ownsRow base 93 2 v r.length (cellsM r)) (hr : w.ownsRow b2 93 2 rv ms.length (cellsM ms)) (hb : base ≤ b2)
    (hn : w'.ownsRow base 65 1 sv' (bs.length + 1) (vs ++ [rv])) (hg : w.grownBy w' sv.ownBlock) : BodsR w' base sv' (bs ++ [ms]) := by
  refine ⟨vs ++ [rv], by rw [List.length_append]; exact hn, fun p r' hp => ?_⟩
  have hv : vs.length = bs.length := by have := ho.1; omega
  by_cases h : p < bs.length
  · rw [List.getElem?_append_left h] at hp
    obtain ⟨v, b, c⟩ := hi p r' hp
    exact ⟨v, by rw [List.getElem?_append_left (by omega)]; exact b, c.kept hg (rows_apart c ho (by decide))⟩
  · have h2 := (List.getElem?_eq_some_iff.1 hp).1
    rw [List.length_append] at h2
    obtain rfl : p = bs.length := by simp at h2; omega
    rw [List.getElem?_append_right (Nat.le_refl _), Nat.sub_self] at hp
    simp at hp
    subst hp
    exact ⟨rv, by rw [← hv, List.getElem?_append_right (Nat.le_refl _), Nat.sub_self]; rfl, own_base (hr.kept hg (rows_apart hr ho (by decide))) hb⟩
/-- one body, read -/
theorem BodsR.at {w : World} {base n : Nat} {sv : Value} {bs : List (List M4)} (h : BodsR w base sv bs) (hn : n = bs.length) {p : Nat} {ms : List M4} (hp : bs[p]? = some ms) :
    ∃ g cap a c, sv = .slice (some ⟨g, 0, none⟩) n cap ∧ n ≤ cap ∧ cap ≤ maxLen ∧ g < w.heap.size ∧ w.cell? ⟨g, p, none⟩ = some (.slice a ms.length c) ∧ w.ownsRow base 93 2 (.slice a ms.length c) ms.length (cellsM ms) := by
  obtain ⟨vs, ho, hi⟩ := h
  obtain ⟨v, h2, h3⟩ := hi p ms hp
  have hk := (List.getElem?_eq_some_iff.1 hp).1
  obtain ⟨a, c, rfl⟩ := own_shape' h3
  rcases ho.2 with ⟨_, h0⟩ | ⟨g, cap, cur, hv, hb, hg, hc, hm, hs, ht⟩
  · omega
  · subst hv
    have c1 := ho.cellAt p (by omega)
    rw [h2] at c1
    exact ⟨g, cap, a, c, by rw [hn], by omega, hm, (ho.lt g rfl).2, c1, h3⟩

/-! ### events -/
structure Ev6 where
  t : Int
  k : Int
  b : Int
  s : Int
  m : Int
  f : Nat
def Ev6.cells (e : Ev6) : List Value := [.int .i64 e.t, .int .i64 e.k, .int .i64 e.b, .int .i64 e.s, .int .i64 e.m, .float .f32 e.f]
def cellsE (es : List Ev6) : List Value := es.flatMap Ev6.cells
theorem cellsE_len (es : List Ev6) : (cellsE es).length = es.length * 6 := by
  induction es with
  | nil => rfl
  | cons m ms ih => simp only [cellsE, List.flatMap_cons, List.length_append, List.length_cons] at *; simp [Ev6.cells] at *; omega
theorem cellsE_snoc (es : List Ev6) (e : Ev6) : cellsE (es ++ [e]) = cellsE es ++ e.cells := by simp [cellsE]
theorem cellsE_one (es : List Ev6) : ∀ u ∈ cellsE es, u.oneCell' = true := by
  intro u hu
  obtain ⟨e, _, h⟩ := List.mem_flatMap.1 hu
  simp [Ev6.cells] at h
  rcases h with rfl | rfl | rfl | rfl | rfl | rfl <;> rfl
theorem cellsE_at (es : List Ev6) (k j : Nat) (e : Ev6) (h : es[k]? = some e) (hj : j < 6) : (cellsE es)[6 * k + j]? = e.cells[j]? := by
  induction es generalizing k with
  | nil => simp at h
  | cons a es ih =>
    have hl : a.cells.length = 6 := rfl
    cases k with
    | zero =>
      simp at h; subst h
      simp only [cellsE, List.flatMap_cons, Nat.mul_zero, Nat.zero_add]
      rw [List.getElem?_append_left (by rw [hl]; exact hj)]
    | succ k =>
      have := ih k (by simpa using h)
      simp only [cellsE, List.flatMap_cons] at this ⊢
      rw [List.getElem?_append_right (by rw [hl]; omega), hl, show 6 * (k + 1) + j - 6 = 6 * k + j from by omega]
      exact this

/-- append of one body -/
theorem step_append_body {ops : Array Oper} {o : Oper} {a : Act} {w : World} {K : Act → World → Prop} {Q : Exit → Act → World → Prop} {E : Prop} (hg : o.guard = none) (s x : Operand)
    (hop : o.op = Op.call { callee := Callee.builtin Builtin.append, args := #[s, x], argTypes := #[24, 24] }) (base n h : Nat) (v rv : Value) (vs : List Value) (hs : a.eval s = v) (hx : a.eval x = .slice (some ⟨h, 0, none⟩) 1 1)
    (hv : w.ownsRow base 65 1 v n vs) (hc : w.cell? ⟨h, 0, none⟩ = some rv) (h1 : rv.oneCell' = true) (hn : n ≤ 1048576) (hb : base ≤ w.heap.size)
    (hK : ∀ v' w', w'.ownsRow base 65 1 v' (n + 1) (vs ++ [rv]) → w.grownBy w' v.ownBlock → K (a.put o.dst v') w') :
    if Region.wanted o (yielded ops a.tmps) = true then Oper.wp Tryz.prog o a w K Q else E := by
  have hw : Region.wanted o (yielded ops a.tmps) = true := by simp [Region.wanted, hg]
  rw [if_pos hw]
  obtain ⟨j0, hj, hy0, hy1, hy2⟩ := info_parts info_body
  refine wp_append_own w s x 24 hop base 65 j0 (.agg #[.slice none 0 0]) 1 24 Tryz.underlying24 hj hy0 hy1 hy2 rfl (by decide) v n vs hs hv ⟨h, 0, none⟩ 1 1 [rv] hx (by simp) ?_ ?_ (by unfold maxLen; omega) (by omega) hb ?_
  · intro j z hj
    match j, hj with
    | 0, hj => simp at hj; subst hj; simpa [Addr.add] using hc
  · intro u hu; simp at hu; subst hu; exact h1
  · intro v' w' h1 h2 _
    exact hK v' w' h1 h2

/-- one event, read -/
theorem own_event {w : World} {base n : Nat} {v : Value} {es : List Ev6} (h : w.ownsRow base 68 6 v n (cellsE es)) (hn : es.length = n) {k : Nat} {e : Ev6} (hk : es[k]? = some e) :
    ∃ g cap, v = .slice (some ⟨g, 0, none⟩) n cap ∧ n ≤ cap ∧ cap ≤ maxLen ∧ g < w.heap.size ∧ w.cell? ⟨g, k * 6, none⟩ = some (.int .i64 e.t) ∧ w.cell? ⟨g, k * 6 + 1, none⟩ = some (.int .i64 e.k) ∧ w.cell? ⟨g, k * 6 + 2, none⟩ = some (.int .i64 e.b) ∧
      w.cell? ⟨g, k * 6 + 3, none⟩ = some (.int .i64 e.s) ∧ w.cell? ⟨g, k * 6 + 4, none⟩ = some (.int .i64 e.m) ∧ w.cell? ⟨g, k * 6 + 5, none⟩ = some (.float .f32 e.f) := by
  have hkn := (List.getElem?_eq_some_iff.1 hk).1
  rcases h.2 with ⟨_, h0⟩ | ⟨g, cap, cur, hv, hb, hg, hc, hm, hs, ht⟩
  · omega
  · subst hv
    have c : ∀ j, j < 6 → w.cell? ⟨g, k * 6 + j, none⟩ = e.cells[j]? := fun j hj => by
      have := h.cellAt (k * 6 + j) (by omega)
      rw [show k * 6 + j = 6 * k + j from by omega, cellsE_at es k j e hk hj, show 6 * k + j = k * 6 + j from by omega] at this
      exact this
    exact ⟨g, cap, rfl, by omega, hm, (h.lt g rfl).2, c 0 (by omega), c 1 (by omega), c 2 (by omega), c 3 (by omega), c 4 (by omega), c 5 (by omega)⟩

/-- append of one event -/
theorem step_append_event {ops : Array Oper} {o : Oper} {a : Act} {w : World} {K : Act → World → Prop} {Q : Exit → Act → World → Prop} {E : Prop} (hg : o.guard = none) (s x : Operand)
    (hop : o.op = Op.call { callee := Callee.builtin Builtin.append, args := #[s, x], argTypes := #[25, 25] }) (base n h : Nat) (v : Value) (ev : Ev6) (es : List Ev6) (hs : a.eval s = v) (hx : a.eval x = .slice (some ⟨h, 0, none⟩) 1 1)
    (hv : w.ownsRow base 68 6 v n (cellsE es)) (hc : ∀ (j : Nat) u, ev.cells[j]? = some u → w.cell? ⟨h, j, none⟩ = some u) (hn : n ≤ 1048576) (hb : base ≤ w.heap.size)
    (hK : ∀ v' w', w'.ownsRow base 68 6 v' (n + 1) (cellsE (es ++ [ev])) → w.grownBy w' v.ownBlock → K (a.put o.dst v') w') :
    if Region.wanted o (yielded ops a.tmps) = true then Oper.wp Tryz.prog o a w K Q else E := by
  have hw : Region.wanted o (yielded ops a.tmps) = true := by simp [Region.wanted, hg]
  rw [if_pos hw]
  obtain ⟨j0, hj, hy0, hy1, hy2⟩ := info_parts info_event
  refine wp_append_own w s x 25 hop base 68 j0 (.agg #[.int .i64 0, .int .i64 0, .int .i64 0, .int .i64 0, .int .i64 0, .float .f32 0]) 6 48 Tryz.underlying25 hj hy0 hy1 hy2 rfl (by decide) v n (cellsE es) hs hv ⟨h, 0, none⟩ 1 1 ev.cells hx (by simp [Ev6.cells]) ?_ ?_ (by unfold maxLen; omega) (by omega) hb ?_
  · intro j z hj
    rw [show (⟨h, 0, none⟩ : Addr).add j = ⟨h, j, none⟩ from by simp [Addr.add]; first | done | (intro e; omega)]
    exact hc j z hj
  · intro u hu
    simp [Ev6.cells] at hu
    rcases hu with rfl | rfl | rfl | rfl | rfl | rfl <;> rfl
  · intro v' w' h1 h2 _
    exact hK v' w' (by rw [cellsE_snoc]; exact h1) h2

def evV (t k b s m : Int) (f : Nat) : Value := .agg #[.int .i64 t, .int .i64 k, .int .i64 b, .int .i64 s, .int .i64 m, .float .f32 f]
/-- equality of numbers of single precision, as the language has it -/
def feq (x y : Nat) : Bool := FloatKind.f32.format.order x y == some .eq
theorem feq_self {x : Nat} (h : Sm x) : feq x x = true := by
  have o := Flo.order_num Ieee.single x x h h
  unfold feq
  rw [show FloatKind.f32.format = Ieee.single from rfl, beq_iff_eq]
  exact o.2.1.2 rfl
def Ev6.val (e : Ev6) : Value := evV e.t e.k e.b e.s e.m e.f
def Ev6.eqB (x y : Ev6) : Bool := x.t == y.t && (x.k == y.k && (x.b == y.b && (x.s == y.s && (x.m == y.m && feq x.f y.f))))
theorem Ev6.eqB_self {x : Ev6} (h : Sm x.f) : x.eqB x = true := by
  unfold Ev6.eqB
  rw [feq_self h]; simp
theorem eqlIn_f32 (w : World) (d : Nat) (x y : Nat) : (Op.equalIn (d + 1) 23 (.float .f32 x) (.float .f32 y)).run Tryz.prog w = .ok (feq x y) w := by
  have hu := Tryz.underlying23
  simp [Op.equalIn, run_underlying hu, feq, Op.floatEq]
theorem eqlIn_int (w : World) (d : Nat) (x y : Int) : (Op.equalIn (d + 1) 3 (.int .i64 x) (.int .i64 y)).run Tryz.prog w = .ok (x == y) w :=
  run_equalIn_int w d _ _ _ x y Tryz.underlying3
theorem eqFields_step {P : Program} {d : Nat} {xs ys : Array Value} {f : Field} {fs : List Field} {a b : Value} {r : Bool} {w : World} (hn : f.name ≠ "_") (h1 : (part f.type xs f.offset).run P w = .ok a w) (h2 : (part f.type ys f.offset).run P w = .ok b w)
    (h3 : (Op.equalIn d f.type a b).run P w = .ok r w) : (Op.eqFields d xs ys (f :: fs)).run P w = if r = true then (Op.eqFields d xs ys fs).run P w else .ok false w := by
  simp only [Op.eqFields, if_pos hn, Sem.run_bind, h1, h2, h3, Result.andThen_ok]
  cases r <;> simp
set_option maxRecDepth 100000 in
theorem eql_fields (w : World) (d : Nat) (t k b s m t' k' b' s' m' : Int) (f f' : Nat) :
    (Op.equalIn (d + 2) 68 (.agg #[.int .i64 t, .int .i64 k, .int .i64 b, .int .i64 s, .int .i64 m, .float .f32 f]) (.agg #[.int .i64 t', .int .i64 k', .int .i64 b', .int .i64 s', .int .i64 m', .float .f32 f'])).run Tryz.prog w
      = .ok (Ev6.eqB ⟨t, k, b, s, m, f⟩ ⟨t', k', b', s', m', f'⟩) w := by
  have hu := Tryz.underlying68
  have hh : Tryz.prog.stoodInHeld 68 = false := by kernel_rfl
  have hf : Tryz.prog.fieldsOf 68 = #[{ name := "At", type := 3, offset := 0, embedded := false, tag := "", pkgPath := "", byteOffset := 0 },
      { name := "Kind", type := 3, offset := 1, embedded := false, tag := "", pkgPath := "", byteOffset := 8 },
      { name := "Body", type := 3, offset := 2, embedded := false, tag := "", pkgPath := "", byteOffset := 16 },
      { name := "Shape", type := 3, offset := 3, embedded := false, tag := "", pkgPath := "", byteOffset := 24 },
      { name := "Count", type := 3, offset := 4, embedded := false, tag := "", pkgPath := "", byteOffset := 32 },
      { name := "Force", type := 23, offset := 5, embedded := false, tag := "", pkgPath := "", byteOffset := 40 }] := by unfold Program.fieldsOf; rw [hu]
  have a1 : ∀ (x y : Int) (w : World), (Op.equalIn (d + 1) 3 (.int .i64 x) (.int .i64 y)).run Tryz.prog w = .ok (x == y) w := fun x y w => eqlIn_int w d x y
  have a2 : ∀ (x y : Nat) (w : World), (Op.equalIn (d + 1) 23 (.float .f32 x) (.float .f32 y)).run Tryz.prog w = .ok (feq x y) w := fun x y w => eqlIn_f32 w d x y
  rw [run_equalIn_struct w (d + 1) _ _ _ (by rw [hf]; exact hu) hh, hf]
  refine (eqFields_step (by decide) (a := .int .i64 t) (b := .int .i64 t') rfl rfl (a1 _ _ _)).trans ?_
  unfold Ev6.eqB
  cases h0 : (t == t')
  · rfl
  refine (eqFields_step (by decide) (a := .int .i64 k) (b := .int .i64 k') rfl rfl (a1 _ _ _)).trans ?_
  cases h1 : (k == k')
  · rfl
  refine (eqFields_step (by decide) (a := .int .i64 b) (b := .int .i64 b') rfl rfl (a1 _ _ _)).trans ?_
  cases h2 : (b == b')
  · rfl
  refine (eqFields_step (by decide) (a := .int .i64 s) (b := .int .i64 s') rfl rfl (a1 _ _ _)).trans ?_
  cases h3 : (s == s')
  · rfl
  refine (eqFields_step (by decide) (a := .int .i64 m) (b := .int .i64 m') rfl rfl (a1 _ _ _)).trans ?_
  cases h4 : (m == m')
  · rfl
  refine (eqFields_step (by decide) (a := .float .f32 f) (b := .float .f32 f') rfl rfl (a2 _ _ _)).trans ?_
  cases h5 : feq f f'
  · rfl
  · rfl
theorem eql_event (w : World) (t k b s m t' k' b' s' m' : Int) (f f' : Nat) :
    (binOp .eql 68 (.agg #[.int .i64 t, .int .i64 k, .int .i64 b, .int .i64 s, .int .i64 m, .float .f32 f]) (.agg #[.int .i64 t', .int .i64 k', .int .i64 b', .int .i64 s', .int .i64 m', .float .f32 f'])).run Tryz.prog w
      = .ok (.bool (Ev6.eqB ⟨t, k, b, s, m, f⟩ ⟨t', k', b', s', m', f'⟩)) w := by
  rw [run_eql_struct, eql_fields w 9998]
  rfl
theorem neq_event (w : World) (t k b s m t' k' b' s' m' : Int) (f f' : Nat) :
    (binOp .neq 68 (.agg #[.int .i64 t, .int .i64 k, .int .i64 b, .int .i64 s, .int .i64 m, .float .f32 f]) (.agg #[.int .i64 t', .int .i64 k', .int .i64 b', .int .i64 s', .int .i64 m', .float .f32 f'])).run Tryz.prog w
      = .ok (.bool (!Ev6.eqB ⟨t, k, b, s, m, f⟩ ⟨t', k', b', s', m', f'⟩)) w := by
  rw [run_neq_struct, eql_fields w 9998]
  rfl

end Go.Proofs.YtiakcibeobbonaaGreat

/- The walks of IsBody, sampleAt and RingBody, where nothing overflows: bit for bit.
   Conditions: those that each statement names. -/
namespace Go.Proofs.YtiakcibeobbonaaGreat
set_option linter.unusedSimpArgs false
set_option linter.unusedVariables false
open Go Go.RowKit

def ValI (n : Nat) (w : World) (i : Value) (wr : World) : Prop := ∃ k : Nat, k ≤ n ∧ i = .int .i64 (k : Int) ∧ Nw w wr

theorem implIsBody_ok (ms : List M4) (hms : ∀ m ∈ ms, m.ok) (n bm : Nat) (v : Value) (hn : ms.length = n) (hn16 : n ≤ 16) (w : World)
    (hm : w.ownsRow bm 93 2 v n (cellsM ms)) :
    Calls Tryz.prog 78 #[.agg #[v]] w (TestP true w) := by
  obtain ⟨va, vc, rfl⟩ := own_shape' hm
  have Hm := Lib.hid hm
  have Hms := Lib.hid hms
  have Hn := Lib.hid hn
  have Hn0 := Lib.hid ((Nw.refl w).alloc (.cells #[.slice va n vc] 65 (0, 0)))
  clear hm hms hn
  go_enter Tryz.func78, Tryz.ntmps78
  go_wp2_with fail
  go_loopw [12] (fun i wr => ValI n w i wr) (fun i _ => n - (intOf i).toNat)
  case atStart => exact ⟨0, by omega, rfl, Hn0.out⟩
  case round =>
    obtain ⟨k, hk, rfl, hnw⟩ := hrel
    have Hnw := Lib.hid hnw
    clear hnw
    by_cases hlt : k < n
    · obtain ⟨m, hmk⟩ : ∃ m, ms[k]? = some m := ⟨ms[k]'(by rw [Hn.out]; exact hlt), List.getElem?_eq_getElem _⟩
      have Hmr := Lib.hid (own_nw Hm.out Hnw.out)
      obtain ⟨g, cap, hv, hcap, hmax, hgs, e1, e2⟩ := own_mode Hmr.out hmk Hn.out.symm
      cases hv
      have Hmo := Lib.hid (Hms.out m (List.mem_of_getElem? hmk))
      unfold maxLen at hmax
      have Hnw4 := Lib.hid (Hnw.out.alloc (.cells #[.complex .f32 m.pr m.pi, .complex .f32 m.gr m.gi] 93 (0, 0)))
      clear hmk
      go_wp2_with fail
      refine (implIsMode_valid _ _ _ _ _ Hmo.out).mono ?_
      rintro e w5 ⟨rfl, n5⟩
      have Hnw5 := Lib.hid (Hnw4.out.trans n5)
      clear n5 e1 e2
      go_wp2_with fail
      go_roundw
      case rel => exact ⟨k + 1, by omega, by rw [show ((k + 1 : Nat) : Int) = (k : Int) + 1 from by omega], Hnw5.out⟩
      case measure => simp only [intOf]; omega
    · go_wp2_with fail
      go_ret
      exact ⟨rfl, Hnw.out⟩

theorem own_sample {w : World} {base n k : Nat} {v : Value} {xs : List Nat} (h : w.ownsRow base 23 1 v n (cellsS xs)) {x : Nat} (hk : xs[k]? = some x) (hn : n = xs.length) :
    ∃ g cap, v = .slice (some ⟨g, 0, none⟩) n cap ∧ n ≤ cap ∧ cap ≤ maxLen ∧ g < w.heap.size ∧ w.cell? ⟨g, k, none⟩ = some (.float .f32 x) := by
  have hkl := (List.getElem?_eq_some_iff.1 hk).1
  rcases h.2 with ⟨_, h0⟩ | ⟨g, cap, cur, rfl, hb, hg, hc, hm, hs, ht⟩
  · omega
  · have c1 := h.cellAt k (by omega)
    rw [show (cellsS xs)[k]? = some (.float .f32 x) from by simp [cellsS, hk]] at c1
    exact ⟨g, cap, rfl, hc, hm, (h.lt g rfl).2, c1⟩

def inputOf (xs : List Nat) (i : Nat) : Nat := xs.getD i 0
theorem sampleAt_any (xs : List Nat) (n bi i : Nat) (v : Value) (hn : xs.length = n) (hi : i ≤ 1048576) (hn2 : n ≤ 1048576) (w : World) (h : w.ownsRow bi 23 1 v n (cellsS xs)) :
    Calls Tryz.prog 62 #[v, .int .i64 (i : Int)] w fun e w' => e = .returned (.float .f32 (inputOf xs i)) ∧ w = w' := by
  obtain ⟨va, vc, rfl⟩ := own_shape' h
  by_cases hlt : i < n
  · obtain ⟨x, hx⟩ : ∃ x, xs[i]? = some x := ⟨xs[i]'(by omega), List.getElem?_eq_getElem _⟩
    obtain ⟨g, cap, hv, hcap, hmax, hgs, e1⟩ := own_sample h hx hn.symm
    cases hv
    have Hx := Lib.hid (show inputOf xs i = x from by unfold inputOf; rw [List.getD_eq_getElem?_getD, hx]; rfl)
    unfold maxLen at hmax
    clear h hx hn
    go_enter Tryz.func62, Tryz.ntmps62
    go_wp2
    go_ret
    exact ⟨by rw [Hx.out]; rfl, rfl⟩
  · have Hx := Lib.hid (show inputOf xs i = 0 from by unfold inputOf; rw [List.getD_eq_getElem?_getD, List.getElem?_eq_none (by omega)]; rfl)
    clear h hn
    go_enter Tryz.func62, Tryz.ntmps62
    go_wp2
    go_ret
    exact ⟨by rw [Hx.out]; rfl, rfl⟩

/-! ### ringing -/
def stAt (ms : List M4) (x : Nat → Nat) : Nat → List (Nat × Nat)
  | 0 => ms.map fun _ => (0, 0)
  | i + 1 => stepAll ms (stAt ms x i) (x i)
theorem stAt_len (ms : List M4) (x : Nat → Nat) : ∀ i, (stAt ms x i).length = ms.length
  | 0 => by simp [stAt]
  | i + 1 => by simp [stAt, stepAll, stAt_len ms x i]
/-- nothing overflows in the first n steps -/
def RingOk (ms : List M4) (x : Nat → Nat) (n : Nat) : Prop :=
  ∀ i, i < n → (∀ (k : Nat) m s, ms[k]? = some m → (stAt ms x i)[k]? = some s → StepOk m s (x i)) ∧ SumOk (stAt ms x (i + 1))
def ringS (ms : List M4) (x : Nat → Nat) (n : Nat) : List Nat := (List.range n).map fun i => outS (stAt ms x (i + 1))

def RingP (B : Nat) (outs : List Nat) (w : World) (e : Ending) (w' : World) : Prop :=
  ∃ v : Value, e = .returned (.tuple #[v, .bool true]) ∧ w'.ownsRow B 23 1 v outs.length (cellsS outs) ∧ Nw w w'

theorem isSteps_ok (n : Nat) (hn : n ≤ 2000) (w : World) :
    Calls Tryz.prog 50 #[.int .i64 (n : Int)] w fun e w' => e = .returned (.bool true) ∧ w = w' := by
  go_enter Tryz.func50, Tryz.ntmps50
  go_wp2
  go_ret
  exact ⟨by simp; omega, rfl⟩

theorem info_c64 : (Tryz.prog.info? 91).map (fun i => (i.zero, i.size, i.bytes)) = some (some (.complex .f32 0 0), 1, 8) := by kernel_rfl

/-- the outputs when k steps are done -/
def outsAt (ms : List M4) (x : Nat → Nat) (n k : Nat) : List Nat := (ringS ms x n).take k ++ List.replicate (n - k) 0
theorem outsAt_zero (ms : List M4) (x : Nat → Nat) (n : Nat) : outsAt ms x n 0 = List.replicate n 0 := by simp [outsAt]
theorem outsAt_full (ms : List M4) (x : Nat → Nat) (n : Nat) : outsAt ms x n n = ringS ms x n := by
  unfold outsAt; rw [List.take_of_length_le (by simp [ringS])]; simp
theorem outsAt_set (ms : List M4) (x : Nat → Nat) (n k : Nat) (h : k < n) : (cellsS (outsAt ms x n k)).set k (.float .f32 (outS (stAt ms x (k + 1)))) = cellsS (outsAt ms x n (k + 1)) := by
  have hk : k < (ringS ms x n).length := by simpa [ringS] using h
  have hv : (ringS ms x n)[k] = outS (stAt ms x (k + 1)) := by simp [ringS]
  unfold outsAt
  rw [List.take_succ_eq_append_getElem hk, hv, show n - k = (n - (k + 1)) + 1 from by omega, List.replicate_succ]
  simp only [cellsS, List.map_append, List.map_cons, List.map_nil, List.append_assoc, List.singleton_append]
  rw [List.set_append_right _ _ (by simp [ringS]; omega)]
  simp [ringS, show k - min k n = 0 from by omega]

theorem outs_cell (ms : List M4) (x : Nat → Nat) (n k : Nat) (h : k < n) : (cellsS (outsAt ms x n k))[k]? = some (.float .f32 0) := by
  unfold outsAt cellsS
  rw [List.getElem?_map, List.getElem?_append_right (by simp [ringS]; omega)]
  simp [ringS, List.getElem?_replicate]
  omega

theorem nw_grown {w wr w' w6 : World} {g : Nat} (h : Nw w wr) (hd : Nw wr w') (hg : w'.grownBy w6 (some g)) (hge : w.heap.size ≤ g) : Nw w w6 := by
  have h2 := h.trans hd
  exact ⟨hg.os.trans h2.os, hg.tape.trans h2.tape, hg.output.trans h2.output, Nat.le_trans h2.size hg.size, fun k hk hne => (hg.block k (Nat.lt_of_lt_of_le hk h2.size) (fun e => by cases e; omega)).trans (h2.block k hk hne)⟩

def RingI (B bb gs gu n q : Nat) (ms : List M4) (x : Nat → Nat) (bv : Value) (w : World) (i : Value) (wr : World) : Prop :=
  ∃ k : Nat, k ≤ n ∧ i = .int .i64 (k : Int) ∧ wr.ownsRow B 91 1 (.slice (some ⟨gs, 0, none⟩) q q) q (cellsC (stAt ms x k)) ∧
    wr.ownsRow B 23 1 (.slice (some ⟨gu, 0, none⟩) n n) n (cellsS (outsAt ms x n k)) ∧ Has1 wr bb bv ∧ Nw w wr

/-- .. and the row is no nil slice -/
def RingP2 (B : Nat) (outs : List Nat) (n : Nat) (w : World) (e : Ending) (w' : World) : Prop :=
  ∃ g : Nat, e = .returned (.tuple #[.slice (some ⟨g, 0, none⟩) n n, .bool true]) ∧ w'.ownsRow B 23 1 (.slice (some ⟨g, 0, none⟩) n n) n (cellsS outs) ∧ Nw w w'

end Go.Proofs.YtiakcibeobbonaaGreat

/- The walks of the tests of modes and bodies whose parts are finite, the program's and the law's: both say what 'modeB' says.
   Conditions: those that each statement names. -/
namespace Go.Proofs.YtiakcibeobbonaaGreat
set_option linter.unusedSimpArgs false
set_option linter.unusedVariables false
open Go Go.RowKit

set_option maxHeartbeats 1600000 in
theorem isModeOf_fin (pr pi gr gi : Nat) (w : World) (S1 : Sm pr) (S2 : Sm pi) (S3 : Sm gr) (S4 : Sm gi) :
    Calls Tryz.prog 114 #[.complex .f64 (wid pr) (wid pi), .complex .f64 (wid gr) (wid gi)] w fun e w' => e = .returned (.bool (modeB pr pi gr gi labs)) ∧ w = w' := by
  have hB : modeB pr pi gr gi labs = (leB (sqr (wid pr) (wid pi)) 4607182418800017408 && (leB (labs (wid gr)) 4652218415073722368 && leB (labs (wid gi)) 4652218415073722368)) := by
    unfold modeB
    rw [(fin_iff' .f32 pr).2 S1, (fin_iff' .f32 pi).2 S2, (fin_iff' .f32 gr).2 S3, (fin_iff' .f32 gi).2 S4]
    rfl
  rw [hB]
  clear hB
  obtain ⟨a, b, m1, m2, m3, -, -⟩ := sqr_num S1 S2
  have f1 : ∀ w, fres w .mul .f64 (wid pr) (wid pr) = a := fun w => by unfold fres; rw [m1]
  have f2 : ∀ w, fres w .mul .f64 (wid pi) (wid pi) = b := fun w => by unfold fres; rw [m2]
  have f3 : ∀ w, fres w .add .f64 a b = sqr (wid pr) (wid pi) := fun w => by unfold fres; rw [m3]
  have d1 : fdr .mul .f64 (wid pr) (wid pr) = 0 := by unfold fdr; rw [m1]; rfl
  have d2 : fdr .mul .f64 (wid pi) (wid pi) = 0 := by unfold fdr; rw [m2]; rfl
  have d3 : fdr .add .f64 a b = 0 := by unfold fdr; rw [m3]; rfl
  rw [← leB_abs (wid_lt _) (wid_num S3).1 num_1024, ← leB_abs (wid_lt _) (wid_num S4).1 num_1024]
  have W1 := fin_wid S1
  have W2 := fin_wid S2
  have W3 := fin_wid S3
  have W4 := fin_wid S4
  clear m1 m2 m3 S1 S2 S3 S4
  cases h5 : leB (sqr (wid pr) (wid pi)) 4607182418800017408 <;> cases h6 : leB (wid gr % signBit) 4652218415073722368 <;> cases h7 : leB (wid gi % signBit) 4652218415073722368
  all_goals
    unfold leB at h5 h6 h7
    go_enter Tryz.func114, Tryz.ntmps114
    go_wp2_with (first
      | (go_at_call 120; refine (implFinite_any _ _ _ (wid_lt _) (wid_lt _)).mono ?_; rintro e w' ⟨rfl, rfl⟩)
      | (go_at_call 96; refine (abs_any _ _ (wid_lt _)).mono ?_; rintro e w' ⟨rfl, rfl⟩))
    all_goals (go_ret; exact ⟨by simp [h5, h6, h7], rfl⟩)

theorem implIsMode_fin (pr pi gr gi : Nat) (w : World) (h1 : Sm pr) (h2 : Sm pi) (h3 : Sm gr) (h4 : Sm gi) :
    Calls Tryz.prog 104 #[.agg #[.complex .f32 pr pi, .complex .f32 gr gi]] w (TestP (modeB pr pi gr gi labs) w) := by
  have S1 := Lib.hid h1
  have S2 := Lib.hid h2
  have S3 := Lib.hid h3
  have S4 := Lib.hid h4
  clear h1 h2 h3 h4
  go_enter Tryz.func104, Tryz.ntmps104
  go_wp2_with fail
  go_quiet (first
    | (go_at_call 115; with_reducible exact quiet_eq (implWiden_fin _ _ _ S1.out S2.out))
    | (go_at_call 115; with_reducible exact quiet_eq (implWiden_fin _ _ _ S3.out S4.out))
    | (go_at_call 114; exact quiet_eq (isModeOf_fin _ _ _ _ _ S1.out S2.out S3.out S4.out)))
  go_wp2
  go_ret
  exact ⟨rfl, ((Nw.refl _).alloc _).draw _⟩

def M4.okB (m : M4) : Bool := modeB m.pr m.pi m.gr m.gi labs
def M4.Fin (m : M4) : Prop := Sm m.pr ∧ Sm m.pi ∧ Sm m.gr ∧ Sm m.gi
theorem M4.okB_iff (m : M4) : m.okB = true ↔ m.ok := Iff.rfl
def bodyB (ms : List M4) : Bool := decide (ms.length ≤ 16) && ms.all M4.okB
theorem bodyB_iff (ms : List M4) : bodyB ms = true ↔ ms.length ≤ 16 ∧ ∀ m ∈ ms, m.ok := by
  unfold bodyB
  rw [Bool.and_eq_true, decide_eq_true_iff, List.all_eq_true]
  exact Iff.rfl
theorem bodyB_bad {ms : List M4} {m : M4} (hm : m ∈ ms) (h : m.okB = false) : bodyB ms = false := by
  cases hb : bodyB ms
  · rfl
  · have := ((bodyB_iff ms).1 hb).2 m hm
    rw [← M4.okB_iff, h] at this
    cases this
theorem bodyB_all {ms : List M4} (hl : ms.length ≤ 16) (h : ∀ k : Nat, k < ms.length → ∀ m, ms[k]? = some m → m.okB = true) : bodyB ms = true := by
  rw [bodyB_iff]
  refine ⟨hl, fun m hm => ?_⟩
  obtain ⟨k, hk⟩ := List.getElem?_of_mem hm
  exact h k (List.getElem?_eq_some_iff.1 hk).1 m hk
theorem bodyB_long {ms : List M4} (h : 16 < ms.length) : bodyB ms = false := by
  unfold bodyB
  rw [decide_eq_false (by omega)]; rfl

def TestI (ms : List M4) (n : Nat) (w : World) (i : Value) (wr : World) : Prop := ∃ k : Nat, k ≤ n ∧ i = .int .i64 (k : Int) ∧ (∀ j : Nat, j < k → ∀ m, ms[j]? = some m → m.okB = true) ∧ Nw w wr

theorem implIsBody_fin (ms : List M4) (hms : ∀ m ∈ ms, m.Fin) (n bm : Nat) (v : Value) (hn : ms.length = n) (hn64 : n ≤ 64) (w : World)
    (hm : w.ownsRow bm 93 2 v n (cellsM ms)) :
    Calls Tryz.prog 78 #[.agg #[v]] w (TestP (bodyB ms) w) := by
  obtain ⟨va, vc, rfl⟩ := own_shape' hm
  have Hm := Lib.hid hm
  have Hms := Lib.hid hms
  have Hn := Lib.hid hn
  have Hn0 := Lib.hid ((Nw.refl w).alloc (.cells #[.slice va n vc] 65 (0, 0)))
  clear hm hms hn
  by_cases hn16 : n ≤ 16
  · go_enter Tryz.func78, Tryz.ntmps78
    go_wp2_with fail
    go_loopw [12] (fun i wr => TestI ms n w i wr) (fun i _ => n - (intOf i).toNat)
    case atStart => exact ⟨0, by omega, rfl, fun j hj => absurd hj (by omega), Hn0.out⟩
    case round =>
      obtain ⟨k, hk, rfl, hal, hnw⟩ := hrel
      have Hnw := Lib.hid hnw
      have Hal := Lib.hid hal
      clear hnw hal
      by_cases hlt : k < n
      · obtain ⟨m, hmk⟩ : ∃ m, ms[k]? = some m := ⟨ms[k]'(by rw [Hn.out]; exact hlt), List.getElem?_eq_getElem _⟩
        have Hmr := Lib.hid (own_nw Hm.out Hnw.out)
        obtain ⟨g, cap, hv, hcap, hmax, hgs, e1, e2⟩ := own_mode Hmr.out hmk Hn.out.symm
        cases hv
        have Hmo := Lib.hid (Hms.out m (List.mem_of_getElem? hmk))
        unfold maxLen at hmax
        have Hnw4 := Lib.hid (Hnw.out.alloc (.cells #[.complex .f32 m.pr m.pi, .complex .f32 m.gr m.gi] 93 (0, 0)))
        have Hmk := Lib.hid hmk
        clear hmk
        go_wp2_with fail
        refine (implIsMode_fin _ _ _ _ _ Hmo.out.1 Hmo.out.2.1 Hmo.out.2.2.1 Hmo.out.2.2.2).mono ?_
        rintro e w5 ⟨rfl, n5⟩
        have Hnw5 := Lib.hid (Hnw4.out.trans n5)
        clear n5 e1 e2
        cases hb : modeB m.pr m.pi m.gr m.gi labs with
        | false =>
          go_wp2_with fail
          go_ret
          exact ⟨by rw [bodyB_bad (List.mem_of_getElem? Hmk.out) hb]; first | done | rfl, Hnw5.out⟩
        | true =>
          go_wp2_with fail
          go_roundw
          case rel =>
            refine ⟨k + 1, by omega, by rw [show ((k + 1 : Nat) : Int) = (k : Int) + 1 from by omega], fun j hj m' hm' => ?_, Hnw5.out⟩
            by_cases hjk : j < k
            · exact Hal.out j hjk m' hm'
            · obtain rfl : j = k := by omega
              rw [Hmk.out] at hm'
              cases hm'
              exact hb
          case measure => simp only [intOf]; omega
      · go_wp2_with fail
        go_ret
        exact ⟨by rw [bodyB_all (by rw [Hn.out]; exact hn16) (fun j hj => Hal.out j (by have := Hn.out; omega))]; first | done | rfl, Hnw.out⟩
  · go_enter Tryz.func78, Tryz.ntmps78
    go_wp2_with fail
    go_ret
    exact ⟨by rw [bodyB_long (by rw [Hn.out]; omega)]; first | done | rfl, Hn0.out⟩

theorem specModes_fin (ms : List M4) (n bm : Nat) (v : Value) (hn : ms.length = n) (hn64 : n ≤ 64) (w : World)
    (hm : w.ownsRow bm 93 2 v n (cellsM ms)) :
    Calls Tryz.prog 47 #[v] w (TestP (bodyB ms) w) := by
  obtain ⟨va, vc, rfl⟩ := own_shape' hm
  have Hm := Lib.hid hm
  have Hn := Lib.hid hn
  clear hm hn
  go_enter Tryz.func47, Tryz.ntmps47
  go_wp2_with fail
  go_loopw [7] (fun i wr => TestI ms n w i wr) (fun i _ => n - (intOf i).toNat)
  case atStart => exact ⟨0, by omega, rfl, fun j hj => absurd hj (by omega), Nw.refl _⟩
  case round =>
    obtain ⟨k, hk, rfl, hal, hnw⟩ := hrel
    have Hnw := Lib.hid hnw
    have Hal := Lib.hid hal
    clear hnw hal
    by_cases hlt : k < n
    · obtain ⟨m, hmk⟩ : ∃ m, ms[k]? = some m := ⟨ms[k]'(by rw [Hn.out]; exact hlt), List.getElem?_eq_getElem _⟩
      have Hmr := Lib.hid (own_nw Hm.out Hnw.out)
      obtain ⟨g, cap, hv, hcap, hmax, hgs, e1, e2⟩ := own_mode Hmr.out hmk Hn.out.symm
      cases hv
      unfold maxLen at hmax
      have Hnw4 := Lib.hid (Hnw.out.alloc (.cells #[.complex .f32 m.pr m.pi, .complex .f32 m.gr m.gi] 93 (0, 0)))
      have Hmk := Lib.hid hmk
      clear hmk
      go_wp2_with fail
      refine (specMode_any _ _ _ _ _).mono ?_
      rintro e w5 ⟨rfl, n5⟩
      have Hnw5 := Lib.hid (Hnw4.out.trans n5)
      clear n5 e1 e2
      cases hb : modeB m.pr m.pi m.gr m.gi labs with
      | false =>
        go_wp2_with fail
        go_ret
        exact ⟨by rw [bodyB_bad (List.mem_of_getElem? Hmk.out) hb]; first | done | rfl, Hnw5.out⟩
      | true =>
        go_wp2_with fail
        go_roundw
        case rel =>
          refine ⟨k + 1, by omega, by rw [show ((k + 1 : Nat) : Int) = (k : Int) + 1 from by omega], fun j hj m' hm' => ?_, Hnw5.out⟩
          by_cases hjk : j < k
          · exact Hal.out j hjk m' hm'
          · obtain rfl : j = k := by omega
            rw [Hmk.out] at hm'
            cases hm'
            exact hb
        case measure => simp only [intOf]; omega
    · go_wp2_with fail
      go_ret
      refine ⟨?_, Hnw.out⟩
      by_cases hn16 : n ≤ 16
      · rw [bodyB_all (by rw [Hn.out]; exact hn16) (fun j hj => Hal.out j (by have := Hn.out; omega))]
        simp [hn16]
        first | done | omega
      · rw [bodyB_long (by rw [Hn.out]; omega)]
        simp [hn16]
        first | done | omega

theorem specIsBody_fin (ms : List M4) (n bm : Nat) (v : Value) (hn : ms.length = n) (hn64 : n ≤ 64) (w : World)
    (hm : w.ownsRow bm 93 2 v n (cellsM ms)) :
    Calls Tryz.prog 28 #[.agg #[v]] w (TestP (bodyB ms) w) := by
  obtain ⟨va, vc, rfl⟩ := own_shape' hm
  have Hm := Lib.hid (hm.alloc (.cells #[.slice va n vc] 65 (0, 0)))
  have Hn0 := Lib.hid ((Nw.refl w).alloc (.cells #[.slice va n vc] 65 (0, 0)))
  clear hm
  go_enter Tryz.func28, Tryz.ntmps28
  go_wp2_with fail
  refine (specModes_fin ms n bm _ hn hn64 _ Hm.out).mono ?_
  rintro e w1 ⟨rfl, n1⟩
  have Hn1 := Lib.hid (Hn0.out.trans n1)
  clear n1
  go_wp2
  go_ret
  exact ⟨rfl, Hn1.out⟩

end Go.Proofs.YtiakcibeobbonaaGreat

/- The walks of slices.Clone over a body's modes.
   Conditions: those that each statement names. -/
namespace Go.Proofs.YtiakcibeobbonaaGreat
set_option linter.unusedSimpArgs false
set_option linter.unusedVariables false
open Go Go.RowKit

theorem Nw.grown {a w w1 : World} {row : Option Nat} (h : Nw a w) (hg : w.grownBy w1 row) (hr : ∀ q, row = some q → a.heap.size ≤ q) : Nw a w1 :=
  ⟨hg.os.trans h.os, hg.tape.trans h.tape, hg.output.trans h.output, Nat.le_trans h.size hg.size, fun i hi hne => (hg.block i (Nat.lt_of_lt_of_le hi h.size) (fun e => by have := hr i e.symm; omega)).trans (h.block i hi hne)⟩

def RowP (ms : List M4) (w : World) (e : Ending) (w' : World) : Prop :=
  ∃ v : Value, e = .returned v ∧ w'.ownsRow w.heap.size 93 2 v ms.length (cellsM ms) ∧ Nw w w'

set_option maxRecDepth 100000 in
theorem clone_modes (ms : List M4) (n bm : Nat) (v : Value) (hn : ms.length = n) (hn64 : n ≤ 64) (w : World)
    (hm : w.ownsRow bm 93 2 v n (cellsM ms)) :
    Calls Tryz.prog 64 #[v] w (RowP ms w) := by
  obtain ⟨va, vc, rfl⟩ := own_shape' hm
  have Hm := Lib.hid hm
  have Hn := Lib.hid hn
  clear hm hn
  go_enter Tryz.func64, Tryz.ntmps64
  have q0 : ∀ (w : World) (a : Option Addr) (n c n' c' : Nat), (binOp .eql 56 (.slice a n c) (.slice none n' c')).run Tryz.prog w = .ok (.bool a.isNone) w := fun w a n c n' c' => Lib.run_eql_slice_nil w _ _ a n c n' c' Tryz.underlying56
  obtain ⟨i0, hi, hz0, hz1, hz2⟩ := info_parts info_mode
  rcases Hm.out.2 with ⟨h1, h2⟩ | ⟨g, cap, cur, h1, hb, hg, hc, hmx, hs, ht⟩
  · cases h1
    have hms : ms = [] := List.eq_nil_of_length_eq_zero (by rw [Hn.out])
    subst hms
    go_wp2_with fail
    go_ret
    exact ⟨_, rfl, World.ownsRow_nil _ _ _ _, Nw.refl _⟩
  · cases h1
    have Hbel := Lib.hid ((Nw.refl w).alloc (.cells #[] 93 (0, 0)))
    clear hb hg hc hmx hs ht
    go_wp2_with (at_builtin; refine wpList_append_own _ rfl _ _ 56 rfl w.heap.size 93 i0 (.agg #[.complex .f32 0 0, .complex .f32 0 0]) 2 16 Tryz.underlying56 hi hz0 hz1 hz2 rfl (by decide) _ _ _ rfl (World.ownsRow_made w #[] 0 (Nat.le_refl _) (Nat.zero_le _) rfl) ⟨g, 0, none⟩ n vc (cellsM ms) rfl ?qc1 ?qc2 ?qc3 ?qc4 ?qc5 ?qc6 ?_)
    case qc1 => rw [cellsM_len, Hn.out]
    case qc2 =>
      intro j u hj
      have hj' : j < n * 2 := by
        have := (List.getElem?_eq_some_iff.1 hj).1
        rw [cellsM_len, Hn.out] at this
        exact this
      have c1 := Hm.out.cellAt j hj'
      rw [hj] at c1
      rw [show (⟨g, 0, none⟩ : Addr).add j = ⟨g, j, none⟩ from by simp [Addr.add]; first | done | (intro h; omega)]
      exact Lib.cell?_alloc_some _ c1
    case qc3 =>
      intro u hu
      obtain ⟨m, _, hu⟩ := List.mem_flatMap.1 hu
      simp [M4.cells] at hu
      rcases hu with rfl | rfl <;> rfl
    case qc4 => unfold maxLen; omega
    case qc5 => omega
    case qc6 => simp
    · intro v' w1 hown hgrow hnil
      have Hown := Lib.hid hown
      have Hgr := Lib.hid (Hbel.out.grown hgrow (fun q hq => by simp [Value.ownBlock] at hq; omega))
      clear hown hgrow hnil
      go_wp2
      go_ret
      exact ⟨v', rfl, by have h := Hown.out; simpa [Hn.out] using h, Hgr.out⟩

end Go.Proofs.YtiakcibeobbonaaGreat

/- Plain facts: rounding is monotone, and what is written of a number depends on its value alone. No program stands in it.
   Conditions: those that each statement names. -/
namespace Go.Proofs.YtiakcibeobbonaaGreat
set_option linter.unusedSimpArgs false
set_option linter.unusedVariables false
open Go
open Ieee
namespace Flo

/-- a tie goes to the even one -/
theorem cut_tie (neg : Bool) (n drop : Nat) (h : 2 * (Toward.even.cut neg n drop * 2 ^ drop) = 2 * n + 2 ^ drop ∨ 2 * n = 2 * (Toward.even.cut neg n drop * 2 ^ drop) + 2 ^ drop) :
    Toward.even.cut neg n drop % 2 = 0 := by
  revert h
  unfold Toward.cut
  simp only [Nat.shiftLeft_eq, Nat.one_mul]
  by_cases hd : drop ≤ n.log2 + 2
  · rw [Nat.min_eq_left hd]
    generalize hg : 2 ^ drop = gap
    have hpos : 0 < gap := by rw [← hg]; exact Nat.two_pow_pos _
    have hdm := Nat.div_add_mod n gap
    have hlt := Nat.mod_lt n hpos
    generalize n / gap = low at *
    generalize n % gap = rest at *
    rw [Nat.add_mul]
    have hc : low * gap = gap * low := Nat.mul_comm _ _
    rw [hc]
    by_cases h1 : gap < 2 * rest
    · simp only [h1, decide_true, Bool.true_or, Bool.toNat_true, Nat.one_mul]; omega
    · by_cases h2 : (gap == 2 * rest && low % 2 == 1) = true
      · simp only [h1, h2, decide_false, Bool.false_or, Bool.toNat_true, Nat.one_mul]
        simp at h2; omega
      · simp only [Bool.not_eq_true] at h2
        simp only [h1, h2, decide_false, Bool.false_or, Bool.toNat_false, Nat.zero_mul]
        simp at h2
        omega
  · have hd' : n.log2 + 2 ≤ drop := by omega
    rw [Nat.min_eq_right hd']
    have hn : n < 2 ^ (n.log2 + 1) := Nat.lt_log2_self
    have hn2 : 2 * n < 2 ^ (n.log2 + 2) := by rw [Nat.pow_succ]; omega
    have hz : n / 2 ^ (n.log2 + 2) = 0 := Nat.div_eq_of_lt (by omega)
    have hm : n % 2 ^ (n.log2 + 2) = n := Nat.mod_eq_of_lt (by omega)
    rw [hz, hm]
    have h1 : ¬ 2 ^ (n.log2 + 2) < 2 * n := by omega
    have h2 : (2 ^ (n.log2 + 2) == 2 * n && 0 % 2 == 1) = false := by simp
    simp only [h1, h2, decide_false, Bool.false_or, Bool.toNat_false, Nat.add_zero]
    intro _; trivial

theorem kept_tie (f : Format) (neg : Bool) (m : Nat) (p : Int)
    (h : 2 * ((keptOf f neg m p : Rat) * pw (lastOf f m p)) = 2 * ((m : Rat) * pw p) + pw (lastOf f m p) ∨ 2 * ((m : Rat) * pw p) = 2 * ((keptOf f neg m p : Rat) * pw (lastOf f m p)) + pw (lastOf f m p)) :
    keptOf f neg m p % 2 = 0 := by
  unfold keptOf at *
  generalize lastOf f m p = l at *
  apply cut_tie
  generalize Toward.even.cut neg (m <<< (p - l).toNat) (l - p).toNat = k at *
  rw [Nat.shiftLeft_eq]
  generalize hs1 : (p - l).toNat = s1 at *
  generalize hs2 : (l - p).toNat = s2 at *
  have e1 : pw p = pw s1 * pw (l - s2) := by rw [← pw_add]; congr 1; omega
  have e2 : pw l = pw s2 * pw (l - s2) := by rw [← pw_add]; congr 1; omega
  rw [e1, e2] at h
  have hp := pw_pos (l - s2)
  generalize pw (l - s2) = t at *
  have key : ∀ a b : Rat, a * t = b * t → a = b := fun a b h => by
    have h1 : a * t ≤ b * t := by grind
    have h2 : b * t ≤ a * t := by grind
    have := Rat.le_of_mul_le_mul_right h1 hp
    have := Rat.le_of_mul_le_mul_right h2 hp
    grind
  rcases h with h | h
  · left
    have h' := key (2 * (k * pw s2)) (2 * (m * pw s1) + pw s2) (by grind)
    rw [pw_nat, pw_nat] at h'
    exact_mod_cast h'
  · right
    have h' := key (2 * (m * pw s1)) (2 * (k * pw s2) + pw s2) (by grind)
    rw [pw_nat, pw_nat] at h'
    exact_mod_cast h'

/-- WHAT IS KEPT GROWS WITH THE NUMBER. -/
theorem kept_mono (f : Format) (s t : Bool) (m n : Nat) (p q : Int) (hm : m ≠ 0) (hn : n ≠ 0) (h : (m : Rat) * pw p ≤ (n : Rat) * pw q) :
    (keptOf f s m p : Rat) * pw (lastOf f m p) ≤ (keptOf f t n q : Rat) * pw (lastOf f n q) := by
  have z1 := size_pw m p hm
  have z2 := size_pw n q hn
  have z3 : p + (m.log2 : Int) < q + n.log2 + 1 := lt_of_pw_lt (by grind)
  have hl : lastOf f m p ≤ lastOf f n q := by unfold lastOf; omega
  obtain ⟨a1, a2⟩ := kept_near f s m p
  obtain ⟨b1, b2⟩ := kept_near f t n q
  rcases Int.lt_or_le (lastOf f m p) (lastOf f n q) with hlt | hge
  · have hb := le_kept f t n q hn (by unfold lastOf at *; omega)
    have ha := kept_le f s m p hm
    have ha' : (keptOf f s m p : Rat) ≤ ((2 ^ (f.fractionBits + 1) : Nat) : Rat) := by exact_mod_cast ha
    have hb' : ((2 ^ f.fractionBits : Nat) : Rat) ≤ (keptOf f t n q : Rat) := by exact_mod_cast hb
    rw [← pw_nat] at ha' hb'
    have g1 := Rat.mul_le_mul_of_nonneg_right ha' (Rat.le_of_lt (pw_pos (lastOf f m p)))
    have g2 := Rat.mul_le_mul_of_nonneg_right hb' (Rat.le_of_lt (pw_pos (lastOf f n q)))
    rw [← pw_add] at g1 g2
    have g3 : pw (((f.fractionBits + 1 : Nat) : Int) + lastOf f m p) ≤ pw ((f.fractionBits : Int) + lastOf f n q) := pw_le (by omega)
    grind
  · have he : lastOf f n q = lastOf f m p := by omega
    have t1 := kept_tie f s m p
    have t2 := kept_tie f t n q
    rw [he] at b1 b2 t2 ⊢
    generalize keptOf f s m p = kx at *
    generalize keptOf f t n q = ky at *
    have hp := pw_pos (lastOf f m p)
    generalize pw (lastOf f m p) = L at *
    rcases Nat.lt_or_ge ky kx with hk | hk
    · exfalso
      have hk' : ((ky + 1 : Nat) : Rat) ≤ (kx : Rat) := by exact_mod_cast hk
      rw [show ((ky + 1 : Nat) : Rat) = (ky : Rat) + 1 from by exact_mod_cast rfl] at hk'
      have g := Rat.mul_le_mul_of_nonneg_right hk' (Rat.le_of_lt hp)
      have u1 := t1 (.inl (by grind))
      have u2 := t2 (.inr (by grind))
      have e1 : ((kx : Rat) - (ky + 1)) * L = 0 := by grind
      have hk2 : ((ky + 2 : Nat) : Rat) ≤ (kx : Rat) := by exact_mod_cast (by omega : ky + 2 ≤ kx)
      rw [show ((ky + 2 : Nat) : Rat) = (ky : Rat) + 2 from by exact_mod_cast rfl] at hk2
      have g' := Rat.mul_le_mul_of_nonneg_right hk2 (Rat.le_of_lt hp)
      grind
    · have hk' : (kx : Rat) ≤ (ky : Rat) := by exact_mod_cast hk
      exact Rat.mul_le_mul_of_nonneg_right hk' (Rat.le_of_lt hp)

theorem mag_nonneg (m : Nat) (p : Int) : 0 ≤ (m : Rat) * pw p := Rat.mul_nonneg (by exact_mod_cast Nat.zero_le m) (Rat.le_of_lt (pw_pos p))
theorem mag_zero {m : Nat} {p : Int} (h : (m : Rat) * pw p ≤ 0) : m = 0 := by
  rcases Nat.eq_zero_or_pos m with h0 | h0
  · exact h0
  · exfalso
    have h1 := (size_pw m p (by omega)).1
    have := pw_pos (p + (m.log2 : Int))
    grind

/-- what is written, read again: the sign stays, the size grows with the number's -/
theorem write_mono (f : Format) (he : 2 ≤ f.exponentBits) (s t : Bool) (m n : Nat) (p q : Int) (h : (m : Rat) * pw p ≤ (n : Rat) * pw q) (hB : (n : Rat) * pw q < pw (top f)) :
    ∃ m' p' n' q', f.read (f.write (.number s m p)) = .number s m' p' ∧ f.read (f.write (.number t n q)) = .number t n' q' ∧ (m' : Rat) * pw p' ≤ (n' : Rat) * pw q' := by
  have e1 : f.write (.number s m p) = f.nearest s m p := rfl
  have e2 : f.write (.number t n q) = f.nearest t n q := rfl
  rw [e1, e2]
  by_cases hm : m = 0
  · subst hm
    have : f.nearest s 0 p = f.word s 0 := by unfold Format.nearest; simp
    rw [this, zero_read]
    by_cases hn : n = 0
    · subst hn
      have : f.nearest t 0 q = f.word t 0 := by unfold Format.nearest; simp
      rw [this, zero_read]
      exact ⟨_, _, _, _, rfl, rfl, by simp⟩
    · obtain ⟨n', q', h1, h2, h3, h4⟩ := read_nearest f t n q hn (rung_lt f t n q hn he hB)
      exact ⟨_, _, _, _, rfl, h1, by have := mag_nonneg n' q'; simp; grind⟩
  · have hn : n ≠ 0 := by
      intro hn; subst hn
      exact hm (mag_zero (by simpa using h))
    obtain ⟨n', q', h1, h2, h3, h4⟩ := read_nearest f t n q hn (rung_lt f t n q hn he hB)
    obtain ⟨m', p', k1, k2, k3, k4⟩ := read_nearest f s m p hm (rung_lt f s m p hm he (by grind))
    refine ⟨_, _, _, _, k1, h1, ?_⟩
    rw [k2, h2]
    exact kept_mono f s t m n p q hm hn h

end Flo
end Go.Proofs.YtiakcibeobbonaaGreat

/- Plain facts: a product with a factor from 0 to 1 is no greater; squares and sums of squares grow with the parts; a damped pole stays valid. No program stands in it.
   Conditions: those that each statement names. -/
namespace Go.Proofs.YtiakcibeobbonaaGreat
set_option linter.unusedSimpArgs false
set_option linter.unusedVariables false
open Go

namespace Flo
theorem val_ra (s : Bool) (m : Nat) (p : Int) : ra (val s m p) = (m : Rat) * pw p := by
  have h := mag_nonneg m p
  unfold ra val
  cases s
  · simp only [Bool.false_eq_true, if_false]; rw [if_neg (by grind)]; grind
  · simp only [if_true]
    split <;> grind
theorem mul_mono (f : Ieee.Format) (he : 2 ≤ f.exponentBits) (x y x' y' : Nat) (hx : IsNum f x) (hy : IsNum f y) (hx' : IsNum f x') (hy' : IsNum f y') (h : ra (V f x * V f y) ≤ ra (V f x' * V f y')) (hB : ra (V f x' * V f y') < pw (top f)) :
    ∃ r r', f.mul x y = some r ∧ f.mul x' y' = some r' ∧ IsNum f r ∧ IsNum f r' ∧ ra (V f r) ≤ ra (V f r') := by
  obtain ⟨s, m, i, hx⟩ := hx
  obtain ⟨t, n, j, hy⟩ := hy
  obtain ⟨s', m', i', hx'⟩ := hx'
  obtain ⟨t', n', j', hy'⟩ := hy'
  rw [V_eq hx, V_eq hy, V_eq hx', V_eq hy', ← val_mul, ← val_mul, val_ra, val_ra] at h
  rw [V_eq hx', V_eq hy', ← val_mul, val_ra] at hB
  obtain ⟨a, b, c, d, k1, k2, k3⟩ := write_mono f he (s ^^ t) (s' ^^ t') (m * n) (m' * n') (i + j) (i' + j') h hB
  refine ⟨_, _, ?_, ?_, ⟨_, _, _, k1⟩, ⟨_, _, _, k2⟩, ?_⟩
  · unfold Ieee.Format.mul; rw [hx, hy]; rfl
  · unfold Ieee.Format.mul; rw [hx', hy']; rfl
  · rw [V_eq k1, V_eq k2, val_ra, val_ra]; exact k3
theorem add_mono (f : Ieee.Format) (he : 2 ≤ f.exponentBits) (x y x' y' : Nat) (hx : IsNum f x) (hy : IsNum f y) (hx' : IsNum f x') (hy' : IsNum f y') (h : ra (V f x + V f y) ≤ ra (V f x' + V f y')) (hB : ra (V f x' + V f y') < pw (top f)) :
    ∃ r r', f.add x y = some r ∧ f.add x' y' = some r' ∧ IsNum f r ∧ IsNum f r' ∧ ra (V f r) ≤ ra (V f r') := by
  obtain ⟨s, m, i, hx⟩ := hx
  obtain ⟨t, n, j, hy⟩ := hy
  obtain ⟨s', m', i', hx'⟩ := hx'
  obtain ⟨t', n', j', hy'⟩ := hy'
  obtain ⟨q, k, b, h3, h4⟩ := sum_val s t m n i j
  obtain ⟨q', k', b', h3', h4'⟩ := sum_val s' t' m' n' i' j'
  rw [V_eq hx, V_eq hy, V_eq hx', V_eq hy', ← h4, ← h4', val_ra, val_ra] at h
  rw [V_eq hx', V_eq hy', ← h4', val_ra] at hB
  obtain ⟨a, b1, c, d, k1, k2, k3⟩ := write_mono f he q q' k k' b b' h hB
  refine ⟨_, _, ?_, ?_, ⟨_, _, _, k1⟩, ⟨_, _, _, k2⟩, ?_⟩
  · unfold Ieee.Format.add; rw [hx, hy, h3]; rfl
  · unfold Ieee.Format.add; rw [hx', hy', h3']; rfl
  · rw [V_eq k1, V_eq k2, val_ra, val_ra]; exact k3
/-- a product that the format has is exact -/
theorem mul_fix (f : Ieee.Format) (he : 2 ≤ f.exponentBits) (x y z : Nat) (hx : IsNum f x) (hy : IsNum f y) (hz : IsNum f z) (h : ra (V f x * V f y) = ra (V f z)) (hB : ra (V f z) < pw (top f)) :
    ∃ r, f.mul x y = some r ∧ IsNum f r ∧ V f r = V f x * V f y := by
  obtain ⟨s, m, i, hx⟩ := hx
  obtain ⟨t, n, j, hy⟩ := hy
  obtain ⟨q, k, e, hz⟩ := hz
  obtain ⟨b1, b2, -⟩ := read_bound f he z q k e hz
  rw [V_eq hx, V_eq hy, V_eq hz, ← val_mul, val_ra, val_ra] at h
  rw [V_eq hz, val_ra] at hB
  obtain ⟨m', p', k1, k2, k3, k4⟩ := write_exact f he (s ^^ t) (m * n) (i + j) k e h b1 b2 (by rw [h]; exact hB)
  refine ⟨_, ?_, ⟨_, _, _, k1⟩, ?_⟩
  · unfold Ieee.Format.mul; rw [hx, hy]; rfl
  · rw [V_eq k1, V_eq hx, V_eq hy, ← val_mul]; unfold val; rw [k4]
/-- a number's product with itself is not below 0 -/
theorem self_pos (f : Ieee.Format) (he : 2 ≤ f.exponentBits) (x : Nat) (hx : IsNum f x) (hB : ra (V f x * V f x) < pw (top f)) : ∃ r, f.mul x x = some r ∧ 0 ≤ V f r := by
  obtain ⟨s, m, i, hx⟩ := hx
  rw [V_eq hx, ← val_mul, val_ra] at hB
  obtain ⟨a, b, c, d, k1, k2, k3⟩ := write_mono f he (s ^^ s) (s ^^ s) (m * m) (m * m) (i + i) (i + i) (Rat.le_refl) hB
  refine ⟨f.write (.number (s ^^ s) (m * m) (i + i)), ?_, ?_⟩
  · unfold Ieee.Format.mul; rw [hx]; rfl
  · rw [V_eq k1]; unfold val; rw [show (s ^^ s) = false by cases s <;> rfl]; have := mag_nonneg a b; simp only [Bool.false_eq_true, if_false]; grind
end Flo

theorem ra_mul (a b : Rat) : ra (a * b) = ra a * ra b := by
  have le_of : ∀ q : Rat, ¬ q < 0 → 0 ≤ q := fun q h => by grind
  by_cases ha : a < 0 <;> by_cases hb : b < 0
  · have := Rat.mul_pos (show 0 < -a by grind) (show 0 < -b by grind)
    unfold ra
    rw [if_neg (by grind), if_pos ha, if_pos hb]; grind
  · have := Rat.mul_nonneg (show 0 ≤ -a by grind) (le_of b hb)
    unfold ra
    rw [if_pos ha, if_neg hb]
    split <;> grind
  · have := Rat.mul_nonneg (le_of a ha) (show 0 ≤ -b by grind)
    unfold ra
    rw [if_neg ha, if_pos hb]
    split <;> grind
  · have := Rat.mul_nonneg (le_of a ha) (le_of b hb)
    unfold ra
    rw [if_neg (by grind), if_neg ha, if_neg hb]
theorem ra_pos {q : Rat} (h : 0 ≤ q) : ra q = q := by unfold ra; rw [if_neg (by grind)]
theorem sm_mag {b : Nat} (h : Sm b) : ra (S b) < Flo.pw 129 := by
  have h1 := ra_le (single_abs h)
  have h2 : Flo.pw 128 < Flo.pw 129 := Flo.pw_lt (by omega)
  grind

/-- a factor from 0 to 1 makes no part greater -/
theorem damp_part (q t : Nat) (hq : Sm q) (ht : Sm t) (h0 : 0 ≤ S t) (h1 : S t ≤ 1) (hb : ra (S q) ≤ 4) :
    Calm .mul .f32 q t ∧ Sm (opB .mul .f32 q t) ∧ ra (S (opB .mul .f32 q t)) ≤ ra (S q) := by
  have n1 : Sm 1065353216 ∧ S 1065353216 = 1 := by
    have h : Ieee.single.read 1065353216 = .number false 8388608 (-23) := by decide
    refine ⟨⟨_, _, _, h⟩, ?_⟩
    rw [show S 1065353216 = _ from Flo.V_eq h]
    unfold Flo.val
    have := Flo.pw_neg_mul 23
    rw [show Flo.pw 23 = 8388608 from Flo.pw_nat 23] at this
    simp only [Bool.false_eq_true, if_false]
    have e2 : ((8388608 : Nat) : Rat) = 8388608 := rfl
    rw [e2]; grind
  have l1 : (4 : Rat) < Flo.pw 127 := by
    have : Flo.pw 2 < Flo.pw 127 := Flo.pw_lt (by omega)
    rw [show Flo.pw 2 = 4 from Flo.pw_nat 2] at this
    exact this
  have hqn := ra_nonneg (S q)
  have hm := Rat.mul_le_mul_of_nonneg_left h1 hqn
  obtain ⟨r, r', e1, e2, e3, e4, e5⟩ := Flo.mul_mono Ieee.single (by decide) q t q 1065353216 hq ht hq n1.1
    (by rw [ra_mul, ra_mul, ra_pos (show 0 ≤ Flo.V Ieee.single t from h0), show Flo.V Ieee.single 1065353216 = 1 from n1.2, ra_pos (show (0:Rat) ≤ 1 by grind)]; exact hm)
    (by rw [ra_mul, show Flo.V Ieee.single 1065353216 = 1 from n1.2, ra_pos (show (0:Rat) ≤ 1 by grind), show Flo.top Ieee.single = 127 from by decide]; show ra (S q) * 1 < _; grind)
  obtain ⟨z, z1, z2, z3⟩ := Flo.mul_fix Ieee.single (by decide) q 1065353216 q hq n1.1 hq
    (by rw [show Flo.V Ieee.single 1065353216 = 1 from n1.2, show Flo.V Ieee.single q * 1 = Flo.V Ieee.single q by grind])
    (by rw [show Flo.top Ieee.single = 127 from by decide]; show ra (S q) < _; grind)
  rw [e2] at z1
  cases z1
  rw [z3, show Flo.V Ieee.single 1065353216 = 1 from n1.2, show Flo.V Ieee.single q * 1 = Flo.V Ieee.single q by grind] at e5
  obtain ⟨c1, b1⟩ := Calm.of (show floatBits .mul .f32 q t = some r from e1)
  rw [b1]
  exact ⟨c1, e3, e5⟩

/-- squares grow with the numbers -/
theorem square_part (p q : Nat) (hp : Sm p) (hq : Sm q) (h : ra (S p) ≤ ra (S q)) (hb : ra (S q) ≤ 4) :
    Calm .mul .f32 p p ∧ Calm .mul .f32 q q ∧ Sm (opB .mul .f32 p p) ∧ Sm (opB .mul .f32 q q) ∧ ra (S (opB .mul .f32 p p)) ≤ ra (S (opB .mul .f32 q q)) := by
  have l1 : (16 : Rat) < Flo.pw 127 := by
    have : Flo.pw 4 < Flo.pw 127 := Flo.pw_lt (by omega)
    rw [show Flo.pw 4 = 16 from Flo.pw_nat 4] at this
    exact this
  have a0 := ra_nonneg (S p)
  have b0 := ra_nonneg (S q)
  have k1 := Rat.mul_le_mul_of_nonneg_left h a0
  have k2 := Rat.mul_le_mul_of_nonneg_right h b0
  have k3 := Rat.mul_le_mul_of_nonneg_left hb b0
  obtain ⟨r, r', e1, e2, e3, e4, e5⟩ := Flo.mul_mono Ieee.single (by decide) p p q q hp hp hq hq
    (by rw [ra_mul, ra_mul]; show ra (S p) * ra (S p) ≤ ra (S q) * ra (S q); grind)
    (by rw [ra_mul, show Flo.top Ieee.single = 127 from by decide]; show ra (S q) * ra (S q) < _; grind)
  obtain ⟨c1, b1⟩ := Calm.of (show floatBits .mul .f32 p p = some r from e1)
  obtain ⟨c2, b2⟩ := Calm.of (show floatBits .mul .f32 q q = some r' from e2)
  rw [b1, b2]
  exact ⟨c1, c2, e3, e4, e5⟩

/-- the sum of the squares grows with the parts -/
theorem sqr_mono (a b c d : Nat) (ha : Sm a) (hb : Sm b) (hc : Sm c) (hd : Sm d) (h1 : ra (S a) ≤ ra (S c)) (h2 : ra (S b) ≤ ra (S d)) (hc4 : ra (S c) ≤ 4) (hd4 : ra (S d) ≤ 4) :
    ra (Flo.W (sqr (wid a) (wid b))) ≤ ra (Flo.W (sqr (wid c) (wid d))) := by
  obtain ⟨na, va⟩ := wid_num ha
  obtain ⟨nb, vb⟩ := wid_num hb
  obtain ⟨nc, vc⟩ := wid_num hc
  obtain ⟨nd, vd⟩ := wid_num hd
  have l1 : (64 : Rat) < Flo.pw 1023 := by
    have : Flo.pw 6 < Flo.pw 1023 := Flo.pw_lt (by omega)
    rw [show Flo.pw 6 = 64 from Flo.pw_nat 6] at this
    exact this
  have sqm : ∀ x y : Nat, Flo.Nm x → Flo.Nm y → ra (Flo.W x) ≤ ra (Flo.W y) → ra (Flo.W y) ≤ 4 →
      ∃ r r', floatBits .mul .f64 x x = some r ∧ floatBits .mul .f64 y y = some r' ∧ Flo.Nm r ∧ Flo.Nm r' ∧ 0 ≤ Flo.W r ∧ 0 ≤ Flo.W r' ∧ Flo.W r ≤ Flo.W r' ∧ Flo.W r' ≤ 17 := by
    intro x y nx ny h h4
    have a0 := ra_nonneg (Flo.W x)
    have b0 := ra_nonneg (Flo.W y)
    have k1 := Rat.mul_le_mul_of_nonneg_left h a0
    have k2 := Rat.mul_le_mul_of_nonneg_right h b0
    have k3 := Rat.mul_le_mul_of_nonneg_left h4 b0
    obtain ⟨r, r', e1, e2, e3, e4, e5⟩ := Flo.mul_mono Ieee.double (by decide) x x y y nx nx ny ny
      (by rw [ra_mul, ra_mul]; show ra (Flo.W x) * ra (Flo.W x) ≤ ra (Flo.W y) * ra (Flo.W y); grind)
      (by rw [ra_mul, Flo.top_double]; show ra (Flo.W y) * ra (Flo.W y) < _; grind)
    obtain ⟨q, q1, q2⟩ := Flo.self_pos Ieee.double (by decide) x nx (by rw [ra_mul, Flo.top_double]; show ra (Flo.W x) * ra (Flo.W x) < _; grind)
    obtain ⟨q', q1', q2'⟩ := Flo.self_pos Ieee.double (by decide) y ny (by rw [ra_mul, Flo.top_double]; show ra (Flo.W y) * ra (Flo.W y) < _; grind)
    rw [e1] at q1
    rw [e2] at q1'
    cases q1
    cases q1'
    obtain ⟨r2, d1, d2, d3⟩ := Flo.d_mul y y ny ny 16 ⟨by have := ra_mul (Flo.W y) (Flo.W y); have := ra_ab (Flo.W y * Flo.W y); unfold Flo.Ab at this; grind, by have := ra_mul (Flo.W y) (Flo.W y); have := ra_ab (Flo.W y * Flo.W y); unfold Flo.Ab at this; grind⟩ (by grind)
    rw [show floatBits .mul .f64 y y = some r' from e2] at d1
    cases d1
    have u1 := Flo.u_le
    have eu : Flo.et ≤ Flo.u := Flo.pw_le (by omega)
    have hy2 : Flo.W y * Flo.W y ≤ 16 := by have := ra_mul (Flo.W y) (Flo.W y); have := ra_ab (Flo.W y * Flo.W y); unfold Flo.Ab at this; grind
    refine ⟨r, r', e1, e2, e3, e4, q2, q2', ?_, ?_⟩
    · rw [ra_pos q2, ra_pos q2'] at e5; exact e5
    · unfold Flo.Ab at d3; grind
  obtain ⟨r1, r1', a1, a2, a3, a4, a5, a6, a7, a8⟩ := sqm (wid a) (wid c) na nc (by rw [va, vc]; exact h1) (by rw [vc]; exact hc4)
  obtain ⟨r2, r2', b1, b2, b3, b4, b5, b6, b7, b8⟩ := sqm (wid b) (wid d) nb nd (by rw [vb, vd]; exact h2) (by rw [vd]; exact hd4)
  obtain ⟨r, r', e1, e2, e3, e4, e5⟩ := Flo.add_mono Ieee.double (by decide) r1 r2 r1' r2' a3 b3 a4 b4
    (by show ra (Flo.W r1 + Flo.W r2) ≤ ra (Flo.W r1' + Flo.W r2'); rw [ra_pos (by grind), ra_pos (by grind)]; grind)
    (by rw [Flo.top_double]; show ra (Flo.W r1' + Flo.W r2') < _; rw [ra_pos (by grind)]; grind)
  have f1 : sqr (wid a) (wid b) = r := by
    unfold sqr; rw [a1, b1]; simp only [Option.getD_some]; rw [show floatBits .add .f64 r1 r2 = some r from e1]; rfl
  have f2 : sqr (wid c) (wid d) = r' := by
    unfold sqr; rw [a2, b2]; simp only [Option.getD_some]; rw [show floatBits .add .f64 r1' r2' = some r' from e2]; rfl
  rw [f1, f2]
  exact e5
end Go.Proofs.YtiakcibeobbonaaGreat

/- One step of a mode in double precision: its bits, how near it is to the exact step, and the walk of stepDouble; no NaN and no infinity is met.
   Conditions: those that each statement names. -/
namespace Go.Proofs.YtiakcibeobbonaaGreat
set_option linter.unusedSimpArgs false
set_option linter.unusedVariables false
open Go Go.RowKit

def mulDre (a b c d : Nat) : Nat := opB .sub .f64 (opB .mul .f64 a c) (opB .mul .f64 b d)
def mulDim (a b c d : Nat) : Nat := opB .add .f64 (opB .mul .f64 a d) (opB .mul .f64 b c)
def stepD (m : M4) (s : Nat × Nat) (x : Nat) : Nat × Nat :=
  (opB .add .f64 (mulDre s.1 s.2 (wid m.pr) (wid m.pi)) (opB .mul .f64 (wid m.gr) x), opB .add .f64 (mulDim s.1 s.2 (wid m.pr) (wid m.pi)) (opB .mul .f64 (wid m.gi) x))

structure StepDOk (m : M4) (s : Nat × Nat) (x : Nat) : Prop where
  a1 : Calm .mul .f64 s.1 (wid m.pr)
  a2 : Calm .mul .f64 s.2 (wid m.pi)
  a3 : Calm .sub .f64 (opB .mul .f64 s.1 (wid m.pr)) (opB .mul .f64 s.2 (wid m.pi))
  a4 : Calm .mul .f64 s.1 (wid m.pi)
  a5 : Calm .mul .f64 s.2 (wid m.pr)
  a6 : Calm .add .f64 (opB .mul .f64 s.1 (wid m.pi)) (opB .mul .f64 s.2 (wid m.pr))
  c1 : Calm .mul .f64 (wid m.gr) x
  c2 : Calm .mul .f64 (wid m.gi) x
  c3 : Calm .add .f64 (mulDre s.1 s.2 (wid m.pr) (wid m.pi)) (opB .mul .f64 (wid m.gr) x)
  c4 : Calm .add .f64 (mulDim s.1 s.2 (wid m.pr) (wid m.pi)) (opB .mul .f64 (wid m.gi) x)

/-- the sums of the errors of one part, in plain numbers -/
theorem stepD_sum (D R H u v et es : Rat) (hD : 0 ≤ D) (hR : 0 ≤ R) (hH : 0 ≤ H) (u0 : 0 < u) (huv : u ≤ v / 536870912) (ve : v * 16777216 = 1) (e0 : 0 < et) (ee : et ≤ es / 1024) :
    0 ≤ R * u ∧ 0 ≤ D * u ∧ 0 ≤ H * u ∧ 0 ≤ et * u ∧ R * u ≤ R / 1048576 ∧ D * u ≤ D / 1048576 ∧ H * u ≤ H / 1048576 ∧ et * u ≤ et ∧ 
    (D + 2 * (2 * R * u + et)) * u + et + 2 * (2 * R * u + et) ≤ D / 1048576 + R / 65536 + es ∧
    (D + ((D + 2 * (2 * R * u + et)) * u + et + 2 * (2 * R * u + et)) + (H + (H * u + et))) * u + et + ((D + 2 * (2 * R * u + et)) * u + et + 2 * (2 * R * u + et)) + (H * u + et) ≤ (2 * D + 2 * H) * v + (D + R + H) * v / 1024 + 6 * es := by
  have hv : v = 1 / 16777216 := by grind
  subst hv
  have u1 : u ≤ 1 / 1048576 := by grind
  have k1 := Rat.mul_le_mul_of_nonneg_left huv hR
  have k2 := Rat.mul_nonneg hR (Rat.le_of_lt u0)
  have d1 := Rat.mul_le_mul_of_nonneg_left huv hD
  have d2 := Rat.mul_nonneg hD (Rat.le_of_lt u0)
  have h1 := Rat.mul_le_mul_of_nonneg_left huv hH
  have h2 := Rat.mul_nonneg hH (Rat.le_of_lt u0)
  have t1 := Rat.mul_le_mul_of_nonneg_left u1 (Rat.le_of_lt e0)
  have t2 := Rat.mul_nonneg (Rat.le_of_lt e0) (Rat.le_of_lt u0)
  have k3 := Rat.mul_le_mul_of_nonneg_left u1 k2
  have k4 := Rat.mul_nonneg k2 (Rat.le_of_lt u0)
  have k5 := Rat.mul_le_mul_of_nonneg_left u1 k4
  have d3 := Rat.mul_le_mul_of_nonneg_left u1 d2
  have d4 := Rat.mul_nonneg d2 (Rat.le_of_lt u0)
  have h3 := Rat.mul_le_mul_of_nonneg_left u1 h2
  have t3 := Rat.mul_le_mul_of_nonneg_left u1 t2
  refine ⟨k2, d2, h2, t2, by grind, by grind, by grind, by grind, by grind, by grind⟩

theorem partD_step (o : BinOp) (a c b d g x : Nat) (ha : Flo.Nm a) (hc : Flo.Nm c) (hb : Flo.Nm b) (hd : Flo.Nm d) (hg : Flo.Nm g) (hx : Flo.Nm x) (e D R H : Rat) (ho : (o = .sub ∧ e = Flo.W a * Flo.W c - Flo.W b * Flo.W d) ∨ (o = .add ∧ e = Flo.W a * Flo.W c + Flo.W b * Flo.W d))
    (h1 : Flo.Ab (Flo.W a * Flo.W c) (2 * R)) (h2 : Flo.Ab (Flo.W b * Flo.W d) (2 * R)) (he : Flo.Ab e D) (hH : Flo.Ab (Flo.W g * Flo.W x) H) (hRt : R ≤ Flo.pw 110) (hDt : D ≤ Flo.pw 112) (hHt : H ≤ Flo.pw 112) :
    Calm .mul .f64 a c ∧ Calm .mul .f64 b d ∧ Calm o .f64 (opB .mul .f64 a c) (opB .mul .f64 b d) ∧ Calm .mul .f64 g x ∧ Calm .add .f64 (opB o .f64 (opB .mul .f64 a c) (opB .mul .f64 b d)) (opB .mul .f64 g x) ∧
      Flo.Nm (opB .add .f64 (opB o .f64 (opB .mul .f64 a c) (opB .mul .f64 b d)) (opB .mul .f64 g x)) ∧
      Flo.Ab (Flo.W (opB .add .f64 (opB o .f64 (opB .mul .f64 a c) (opB .mul .f64 b d)) (opB .mul .f64 g x)) - (e + Flo.W g * Flo.W x)) ((2 * D + 2 * H) * Flo.v + (D + R + H) * Flo.v / 1024 + 6 * Flo.es) := by
  have hR0 : 0 ≤ R := by have := h1.nonneg; grind
  obtain ⟨s1, s2, s3, s4, s5, s6, s7, s8, s9, s10⟩ := stepD_sum D R H Flo.u Flo.v Flo.et Flo.es he.nonneg hR0 hH.nonneg Flo.u_pos uv Flo.v_eq Flo.et_pos small'.ee
  have l1 : Flo.pw 112 = 4 * Flo.pw 110 := by rw [show (112 : Int) = 2 + 110 from rfl, Flo.pw_add, show Flo.pw 2 = 4 from Flo.pw_nat 2]
  have l2 : Flo.pw 120 = 256 * Flo.pw 112 := by rw [show (120 : Int) = 8 + 112 from rfl, Flo.pw_add, show Flo.pw 8 = 256 from Flo.pw_nat 8]
  have l3 := Flo.pw_lt (a := 120) (b := 1023) (by omega)
  have l4 : 1 ≤ Flo.pw 110 := by rw [← Flo.pw_zero]; exact Flo.pw_le (by omega)
  have es1 := small'.es1
  have ee := small'.ee
  have et0 := Flo.et_pos
  obtain ⟨p, p1, p2, p3⟩ := Flo.d_mul a c ha hc (2 * R) h1 (by grind)
  obtain ⟨q, q1, q2, q3⟩ := Flo.d_mul b d hb hd (2 * R) h2 (by grind)
  obtain ⟨c1, b1⟩ := Calm.of p1
  obtain ⟨c2, b2⟩ := Calm.of q1
  obtain ⟨r, r1, r2, r3⟩ : ∃ r, floatBits o .f64 p q = some r ∧ Flo.Nm r ∧ Flo.Ab (Flo.W r - e) ((D + 2 * (2 * R * Flo.u + Flo.et)) * Flo.u + Flo.et + 2 * (2 * R * Flo.u + Flo.et)) := by
    rcases ho with ⟨rfl, rfl⟩ | ⟨rfl, rfl⟩
    · have hpq : Flo.Ab (Flo.W p - Flo.W q) (D + 2 * (2 * R * Flo.u + Flo.et)) := ((he.add (p3.sub q3)).eq (by grind)).mono (by grind)
      obtain ⟨r, r1, r2, r3⟩ := Flo.d_sub p q p2 q2 _ hpq (by grind)
      exact ⟨r, r1, r2, ((r3.add (p3.sub q3)).eq (by grind)).mono (by grind)⟩
    · have hpq : Flo.Ab (Flo.W p + Flo.W q) (D + 2 * (2 * R * Flo.u + Flo.et)) := ((he.add (p3.add q3)).eq (by grind)).mono (by grind)
      obtain ⟨r, r1, r2, r3⟩ := Flo.d_add p q p2 q2 _ hpq (by grind)
      exact ⟨r, r1, r2, ((r3.add (p3.add q3)).eq (by grind)).mono (by grind)⟩
  obtain ⟨c3, b3⟩ := Calm.of r1
  obtain ⟨y, y1, y2, y3⟩ := Flo.d_mul g x hg hx H hH (by grind)
  obtain ⟨c4, b4⟩ := Calm.of y1
  have hs : Flo.Ab (Flo.W r + Flo.W y) (D + ((D + 2 * (2 * R * Flo.u + Flo.et)) * Flo.u + Flo.et + 2 * (2 * R * Flo.u + Flo.et)) + (H + (H * Flo.u + Flo.et))) := ((he.add r3).add (hH.add y3)).eq (by grind)
  obtain ⟨z, z1, z2, z3⟩ := Flo.d_add r y r2 y2 _ hs (by grind)
  obtain ⟨c5, b5⟩ := Calm.of z1
  rw [← b1, ← b2] at c3 b3
  rw [← b3, ← b4] at c5 b5
  refine ⟨c1, c2, c3, c4, c5, by rw [b5]; exact z2, ?_⟩
  rw [b5]
  exact (((z3.add r3).add y3).eq (by grind)).mono s10

/-- ONE STEP OF A VALID MODE, in double precision. -/
theorem stepD_ok (m : M4) (hm : m.ok) (s : Nat × Nat) (x : Nat) (h1 : Flo.Nm s.1) (h2 : Flo.Nm s.2) (hx : Flo.Nm x) (R D H : Rat) (r1 : Flo.Ab (Flo.W s.1) R) (r2 : Flo.Ab (Flo.W s.2) R)
    (d1 : Flo.Ab (Flo.W s.1 * S m.pr - Flo.W s.2 * S m.pi) D) (d2 : Flo.Ab (Flo.W s.1 * S m.pi + Flo.W s.2 * S m.pr) D) (g1 : Flo.Ab (S m.gr * Flo.W x) H) (g2 : Flo.Ab (S m.gi * Flo.W x) H) (hRt : R ≤ Flo.pw 110) (hDt : D ≤ Flo.pw 112) (hHt : H ≤ Flo.pw 112) :
    StepDOk m s x ∧ Flo.Nm (stepD m s x).1 ∧ Flo.Nm (stepD m s x).2 ∧
      Flo.Ab (Flo.W (stepD m s x).1 - (Flo.W s.1 * S m.pr - Flo.W s.2 * S m.pi + S m.gr * Flo.W x)) ((2 * D + 2 * H) * Flo.v + (D + R + H) * Flo.v / 1024 + 6 * Flo.es) ∧
      Flo.Ab (Flo.W (stepD m s x).2 - (Flo.W s.1 * S m.pi + Flo.W s.2 * S m.pr + S m.gi * Flo.W x)) ((2 * D + 2 * H) * Flo.v + (D + R + H) * Flo.v / 1024 + 6 * Flo.es) := by
  obtain ⟨n1, n2, n3, n4⟩ := hm.nums
  obtain ⟨q1, q2⟩ := hm.pole
  obtain ⟨m1, v1⟩ := wid_num n1
  obtain ⟨m2, v2⟩ := wid_num n2
  obtain ⟨m3, v3⟩ := wid_num n3
  obtain ⟨m4, v4⟩ := wid_num n4
  rw [← v1] at d1 d2 q1 ⊢
  rw [← v2] at d1 d2 q2 ⊢
  rw [← v3] at g1 ⊢
  rw [← v4] at g2 ⊢
  have k1 : Flo.Ab (Flo.W s.1 * Flo.W (wid m.pr)) (2 * R) := (r1.mul q1).mono (by grind)
  have k2 : Flo.Ab (Flo.W s.2 * Flo.W (wid m.pi)) (2 * R) := (r2.mul q2).mono (by grind)
  have k3 : Flo.Ab (Flo.W s.1 * Flo.W (wid m.pi)) (2 * R) := (r1.mul q2).mono (by grind)
  have k4 : Flo.Ab (Flo.W s.2 * Flo.W (wid m.pr)) (2 * R) := (r2.mul q1).mono (by grind)
  obtain ⟨a1, a2, a3, a4, a5, a6, a7⟩ := partD_step .sub s.1 (wid m.pr) s.2 (wid m.pi) (wid m.gr) x h1 m1 h2 m2 m3 hx _ D R H (.inl ⟨rfl, rfl⟩) k1 k2 d1 g1 hRt hDt hHt
  obtain ⟨b1, b2, b3, b4, b5, b6, b7⟩ := partD_step .add s.1 (wid m.pi) s.2 (wid m.pr) (wid m.gi) x h1 m2 h2 m1 m4 hx _ D R H (.inr ⟨rfl, rfl⟩) k3 k4 d2 g2 hRt hDt hHt
  exact ⟨⟨a1, a2, a3, b1, b2, b3, a4, b4, a5, b5⟩, a6, b6, a7, b7⟩

/-! ### the walks -/
end Go.Proofs.YtiakcibeobbonaaGreat

/- Plain facts: how far the states of a mode that is stepped with small errors lie from those of the mode that is stepped exactly. No program stands in it.
   Conditions: those that each statement names. -/
namespace Go.Proofs.YtiakcibeobbonaaGreat
set_option linter.unusedSimpArgs false
set_option linter.unusedVariables false
open Go

/-! ### sizes in the plane -/
def N (a b B : Rat) : Prop := 0 ≤ B ∧ a * a + b * b ≤ B * B
theorem le_of_sq {a B : Rat} (hB : 0 ≤ B) (h : a * a ≤ B * B) : a ≤ B := by
  rcases Rat.le_total (a := a) (b := B) with g | g
  · exact g
  · have h1 := Rat.mul_nonneg (show 0 ≤ a - B by grind) hB
    have h2 := Rat.mul_nonneg (show 0 ≤ a - B by grind) (show 0 ≤ a - B by grind)
    by_cases e : a = B
    · grind
    · have : 0 < a - B := by grind
      have h3 := Rat.mul_pos this this
      grind
theorem N.ab {a b B : Rat} (h : N a b B) : Flo.Ab a B ∧ Flo.Ab b B := by
  obtain ⟨h0, h1⟩ := h
  have ha := square_nonneg a
  have hb := square_nonneg b
  have k1 := le_of_sq h0 (show a * a ≤ B * B by grind)
  have k2 := le_of_sq h0 (show b * b ≤ B * B by grind)
  have k3 := le_of_sq (a := -a) h0 (by grind)
  have k4 := le_of_sq (a := -b) h0 (by grind)
  exact ⟨⟨by grind, k1⟩, ⟨by grind, k2⟩⟩
theorem N.zero : N 0 0 0 := ⟨by grind, by grind⟩
theorem N.mono {a b B C : Rat} (h : N a b B) (hC : B ≤ C) : N a b C := by
  obtain ⟨h0, h1⟩ := h
  refine ⟨by grind, ?_⟩
  have h2 := Rat.mul_le_mul_of_nonneg_left hC h0
  have h3 := Rat.mul_le_mul_of_nonneg_right hC (show 0 ≤ C by grind)
  grind
theorem N.eq {a b a' b' B : Rat} (h : N a b B) (h1 : a = a') (h2 : b = b') : N a' b' B := h1 ▸ h2 ▸ h
theorem N.add {a b c d B C : Rat} (h : N a b B) (g : N c d C) : N (a + c) (b + d) (B + C) := by
  obtain ⟨h0, h1⟩ := h
  obtain ⟨g0, g1⟩ := g
  refine ⟨by grind, ?_⟩
  have hBC := Rat.mul_nonneg h0 g0
  have k1 := Rat.mul_le_mul_of_nonneg_left g1 (show 0 ≤ a * a + b * b by have := square_nonneg a; have := square_nonneg b; grind)
  have k2 := Rat.mul_le_mul_of_nonneg_right h1 (square_nonneg C)
  have k3 := square_nonneg (a * d - b * c)
  have k4 := le_of_sq (a := a * c + b * d) hBC (by grind)
  grind
theorem N.mul {a b c d B T : Rat} (h : N a b B) (hT : 0 ≤ T) (g : c * c + d * d ≤ T * T) : N (a * c - b * d) (a * d + b * c) (B * T) := by
  obtain ⟨h0, h1⟩ := h
  refine ⟨Rat.mul_nonneg h0 hT, ?_⟩
  have k1 := Rat.mul_le_mul_of_nonneg_left g (show 0 ≤ a * a + b * b by have := square_nonneg a; have := square_nonneg b; grind)
  have k2 := Rat.mul_le_mul_of_nonneg_right h1 (square_nonneg T)
  grind
theorem N.parts {a b L : Rat} (h : Flo.Ab a L) (g : Flo.Ab b L) : N a b (3 / 2 * L) := by
  have hL := h.nonneg
  have h2 := h.mul h
  have g2 := g.mul g
  unfold Flo.Ab at h2 g2
  have := square_nonneg L
  exact ⟨by grind, by grind⟩
theorem N.gain (g h x : Rat) : N (g * x) (h * x) ((ra g + ra h) * ra x) := by
  have a := ra_nonneg g
  have b := ra_nonneg h
  have c := ra_nonneg x
  refine ⟨Rat.mul_nonneg (by grind) c, ?_⟩
  have e1 := ra_sq g
  have e2 := ra_sq h
  have e3 := ra_sq x
  have k := Rat.mul_nonneg (Rat.mul_nonneg a b) (square_nonneg (ra x))
  have : g * x * (g * x) + h * x * (h * x) = (ra g * ra g) * (ra x * ra x) + (ra h * ra h) * (ra x * ra x) := by rw [e1, e2, e3]; grind
  rw [this]
  grind

/-! ### trajectories -/
def psum (x : Nat → Rat) : Nat → Rat
  | 0 => 0
  | i + 1 => psum x i + ra (x i)
theorem psum_nonneg (x : Nat → Rat) : ∀ i, 0 ≤ psum x i
  | 0 => by simp [psum]
  | i + 1 => by have := psum_nonneg x i; have := ra_nonneg (x i); simp only [psum]; grind

/-- the states of a mode that is stepped exactly -/
def zt (c d g h : Rat) (x : Nat → Rat) : Nat → Rat × Rat
  | 0 => (0, 0)
  | i + 1 => ((zt c d g h x i).1 * c - (zt c d g h x i).2 * d + g * x i, (zt c d g h x i).1 * d + (zt c d g h x i).2 * c + h * x i)

theorem pole_T {c d : Rat} (hp : c * c + d * d ≤ 1 + 1 / 100000) : c * c + d * d ≤ (1 + 1 / 200000) * (1 + 1 / 200000) := by grind

/-- growth by at most one part in 200,000 a step -/
theorem grow (i : Nat) (hi : i < 2000) : (1 + (i : Rat) / 100000) * (1 + 1 / 200000) ≤ 1 + ((i + 1 : Nat) : Rat) / 100000 := by
  have h1 : (i : Rat) ≤ 2000 := by have : ((i : Nat) : Rat) ≤ ((2000 : Nat) : Rat) := by exact_mod_cast (by omega : i ≤ 2000)
                                   exact this
  have h2 : ((i + 1 : Nat) : Rat) = (i : Rat) + 1 := by exact_mod_cast rfl
  rw [h2]
  grind

theorem zt_N (c d g h : Rat) (x : Nat → Rat) (hp : c * c + d * d ≤ 1 + 1 / 100000) : ∀ i, i ≤ 2000 → N (zt c d g h x i).1 (zt c d g h x i).2 ((ra g + ra h) * psum x i * (1 + (i : Rat) / 100000))
  | 0, _ => by
    have : (ra g + ra h) * psum x 0 * (1 + ((0 : Nat) : Rat) / 100000) = 0 := by simp [psum]
    rw [this]; exact N.zero
  | i + 1, hi => by
    have ih := zt_N c d g h x hp i (by omega)
    have h1 := (ih.mul (show (0 : Rat) ≤ 1 + 1 / 200000 by grind) (pole_T hp)).add (N.gain g h (x i))
    refine (h1.eq rfl rfl).mono ?_
    have hG : 0 ≤ ra g + ra h := by have := ra_nonneg g; have := ra_nonneg h; grind
    have hP := psum_nonneg x i
    have hgr := grow i (by omega)
    have k1 := Rat.mul_le_mul_of_nonneg_left hgr (Rat.mul_nonneg hG hP)
    have hx := Rat.mul_nonneg hG (ra_nonneg (x i))
    have h2 : ((i + 1 : Nat) : Rat) = (i : Rat) + 1 := by exact_mod_cast rfl
    have hi0 : (0 : Rat) ≤ (i : Rat) := by exact_mod_cast Nat.zero_le i
    have k2 := Rat.mul_nonneg hx (show (0 : Rat) ≤ ((i : Rat) + 1) / 100000 by grind)
    rw [h2] at k1 ⊢
    simp only [psum]
    grind

/-- a mode that is stepped with errors of at most L in each part -/
theorem traj (c d g h : Rat) (x : Nat → Rat) (hp : c * c + d * d ≤ 1 + 1 / 100000) (s : Nat → Rat × Rat) (h0 : s 0 = (0, 0)) (X M L : Rat) (n : Nat) (hn : n ≤ 2000) (hL : 0 ≤ L)
    (hX : ∀ i, i ≤ n → psum x i ≤ X) (hM : 51 / 50 * ((ra g + ra h) * X + (n : Rat) * (3 / 2 * L)) ≤ M) (Q : Nat → Prop) (q0 : Q 0)
    (hstep : ∀ i, i < n → Q i → N (s i).1 (s i).2 M → Q (i + 1) ∧ Flo.Ab ((s (i + 1)).1 - ((s i).1 * c - (s i).2 * d + g * x i)) L ∧ Flo.Ab ((s (i + 1)).2 - ((s i).1 * d + (s i).2 * c + h * x i)) L) :
    ∀ i, i ≤ n → Q i ∧ N ((s i).1 - (zt c d g h x i).1) ((s i).2 - (zt c d g h x i).2) ((i : Rat) * (3 / 2 * L) * (1 + (i : Rat) / 100000)) ∧ N (s i).1 (s i).2 M := by
  have hG : 0 ≤ ra g + ra h := by have := ra_nonneg g; have := ra_nonneg h; grind
  have toM : ∀ i, i ≤ n → N ((s i).1 - (zt c d g h x i).1) ((s i).2 - (zt c d g h x i).2) ((i : Rat) * (3 / 2 * L) * (1 + (i : Rat) / 100000)) → N (s i).1 (s i).2 M := by
    intro i hi e
    have hz := zt_N c d g h x hp i (by omega)
    refine ((e.add hz).eq (by grind) (by grind)).mono ?_
    have hin : (i : Rat) ≤ (n : Rat) := by exact_mod_cast hi
    have hi2 : (i : Rat) ≤ 2000 := by
      have : ((i : Nat) : Rat) ≤ ((2000 : Nat) : Rat) := by exact_mod_cast (by omega : i ≤ 2000)
      exact this
    have hi0 : (0 : Rat) ≤ (i : Rat) := by exact_mod_cast Nat.zero_le i
    have f : 1 + (i : Rat) / 100000 ≤ 51 / 50 := by grind
    have a1 := Rat.mul_le_mul_of_nonneg_right hin (show 0 ≤ 3 / 2 * L by grind)
    have a2 := Rat.mul_nonneg hi0 (show 0 ≤ 3 / 2 * L by grind)
    have a3 := Rat.mul_le_mul_of_nonneg_left f a2
    have b1 := Rat.mul_le_mul_of_nonneg_left (hX i hi) hG
    have b2 := Rat.mul_nonneg hG (psum_nonneg x i)
    have b3 := Rat.mul_le_mul_of_nonneg_left f b2
    grind
  intro i
  induction i with
  | zero =>
    intro hi
    have e : N ((s 0).1 - (zt c d g h x 0).1) ((s 0).2 - (zt c d g h x 0).2) (((0 : Nat) : Rat) * (3 / 2 * L) * (1 + ((0 : Nat) : Rat) / 100000)) := by
      rw [h0]
      simp only [zt]
      have : ((0 : Nat) : Rat) * (3 / 2 * L) * (1 + ((0 : Nat) : Rat) / 100000) = 0 := by simp
      rw [this]
      exact N.zero.eq (by grind) (by grind)
    exact ⟨q0, e, toM 0 hi e⟩
  | succ i ih =>
    intro hi
    obtain ⟨q, e, hs⟩ := ih (by omega)
    obtain ⟨q', l1, l2⟩ := hstep i (by omega) q hs
    have e' : N ((s (i + 1)).1 - (zt c d g h x (i + 1)).1) ((s (i + 1)).2 - (zt c d g h x (i + 1)).2) (((i + 1 : Nat) : Rat) * (3 / 2 * L) * (1 + ((i + 1 : Nat) : Rat) / 100000)) := by
      have k := (e.mul (show (0 : Rat) ≤ 1 + 1 / 200000 by grind) (pole_T hp)).add (N.parts l1 l2)
      refine (k.eq ?_ ?_).mono ?_
      · simp only [zt]; grind
      · simp only [zt]; grind
      · have hgr := grow i (by omega)
        have hi0 : (0 : Rat) ≤ (i : Rat) := by exact_mod_cast Nat.zero_le i
        have a2 := Rat.mul_nonneg hi0 (show 0 ≤ 3 / 2 * L by grind)
        have a3 := Rat.mul_le_mul_of_nonneg_left hgr a2
        have h2 : ((i + 1 : Nat) : Rat) = (i : Rat) + 1 := by exact_mod_cast rfl
        have a4 := Rat.mul_nonneg (show 0 ≤ 3 / 2 * L by grind) (show (0 : Rat) ≤ ((i : Rat) + 1) / 100000 by grind)
        rw [h2] at a3 ⊢
        grind
    exact ⟨q', e', toM (i + 1) hi e'⟩

end Go.Proofs.YtiakcibeobbonaaGreat

/- The walk of RingDouble, where no NaN and no infinity is met: bit for bit.
   Conditions: those that each statement names. -/
namespace Go.Proofs.YtiakcibeobbonaaGreat
set_option linter.unusedSimpArgs false
set_option linter.unusedVariables false
open Go Go.RowKit

def stepAllD (ms : List M4) (ss : List (Nat × Nat)) (x : Nat) : List (Nat × Nat) := List.zipWith (fun m s => stepD m s x) ms ss
def outD (ss : List (Nat × Nat)) : Nat := ss.foldl (fun y s => opB .add .f64 y s.1) 0
def cellsD (ss : List (Nat × Nat)) : List Value := ss.map fun s => .complex .f64 s.1 s.2
def cellsF (xs : List Nat) : List Value := xs.map (Value.float .f64)
def SumDOk (ss : List (Nat × Nat)) : Prop := ∀ (k : Nat) s, ss[k]? = some s → Calm .add .f64 (outD (ss.take k)) s.1
theorem outD_take (ss : List (Nat × Nat)) (k : Nat) (s : Nat × Nat) (h : ss[k]? = some s) : outD (ss.take (k + 1)) = opB .add .f64 (outD (ss.take k)) s.1 := by
  obtain ⟨hk, he⟩ := List.getElem?_eq_some_iff.1 h
  rw [List.take_succ_eq_append_getElem hk, he]
  simp [outD, List.foldl_append]
def mixedD (ms : List M4) (ss : List (Nat × Nat)) (x k : Nat) : List (Nat × Nat) := (stepAllD ms ss x).take k ++ ss.drop k
theorem mixedD_at (ms : List M4) (ss : List (Nat × Nat)) (x k : Nat) (s : Nat × Nat) (hl : ms.length = ss.length) (h : ss[k]? = some s) : (cellsD (mixedD ms ss x k))[k]? = some (.complex .f64 s.1 s.2) := by
  have hk := (List.getElem?_eq_some_iff.1 h).1
  have hlen : ((stepAllD ms ss x).take k).length = k := by simp [stepAllD]; omega
  unfold mixedD cellsD
  rw [List.getElem?_map, List.getElem?_append_right (by omega), hlen, Nat.sub_self, List.getElem?_drop, Nat.add_zero, h]
  rfl
theorem stepAllD_at (ms : List M4) (ss : List (Nat × Nat)) (x k : Nat) (m : M4) (s : Nat × Nat) (hm : ms[k]? = some m) (hs : ss[k]? = some s) : (stepAllD ms ss x)[k]? = some (stepD m s x) := by
  unfold stepAllD; rw [List.getElem?_zipWith, hm, hs]
theorem mixedD_step (ms : List M4) (ss : List (Nat × Nat)) (x k : Nat) (m : M4) (s : Nat × Nat) (hm : ms[k]? = some m) (hs : ss[k]? = some s) :
    (cellsD (mixedD ms ss x k)).set k (.complex .f64 (stepD m s x).1 (stepD m s x).2) = cellsD (mixedD ms ss x (k + 1)) := by
  obtain ⟨hkm, -⟩ := List.getElem?_eq_some_iff.1 hm
  obtain ⟨hks, hse⟩ := List.getElem?_eq_some_iff.1 hs
  have hat := stepAllD_at ms ss x k m s hm hs
  obtain ⟨hka, hae⟩ := List.getElem?_eq_some_iff.1 hat
  unfold mixedD
  rw [List.take_succ_eq_append_getElem hka, hae, List.drop_eq_getElem_cons hks, hse]
  simp only [cellsD, List.map_append, List.map_cons, List.map_nil, List.append_assoc, List.singleton_append]
  rw [List.set_append_right _ _ (by simp [stepAllD]; omega)]
  simp [stepAllD, show k - min k (min ms.length ss.length) = 0 from by omega]
theorem mixedD_after (ms : List M4) (ss : List (Nat × Nat)) (x k : Nat) (m : M4) (s : Nat × Nat) (hm : ms[k]? = some m) (hs : ss[k]? = some s) :
    (cellsD (mixedD ms ss x (k + 1)))[k]? = some (.complex .f64 (stepD m s x).1 (stepD m s x).2) := by
  obtain ⟨hkm, -⟩ := List.getElem?_eq_some_iff.1 hm
  obtain ⟨hks, hse⟩ := List.getElem?_eq_some_iff.1 hs
  rw [← mixedD_step ms ss x k m s hm hs, List.getElem?_set_self]
  simp [cellsD, mixedD, stepAllD]; omega
theorem mixedD_full (ms : List M4) (ss : List (Nat × Nat)) (x : Nat) (hl : ms.length = ss.length) : mixedD ms ss x ms.length = stepAllD ms ss x := by
  unfold mixedD
  rw [List.take_of_length_le (by simp [stepAllD]; omega), List.drop_of_length_le (by omega), List.append_nil]

def stDAt (ms : List M4) (x : Nat → Nat) : Nat → List (Nat × Nat)
  | 0 => ms.map fun _ => (0, 0)
  | i + 1 => stepAllD ms (stDAt ms x i) (wid (x i))
theorem stDAt_len (ms : List M4) (x : Nat → Nat) : ∀ i, (stDAt ms x i).length = ms.length
  | 0 => by simp [stDAt]
  | i + 1 => by simp [stDAt, stepAllD, stDAt_len ms x i]
def RingDOk (ms : List M4) (x : Nat → Nat) (n : Nat) : Prop :=
  ∀ i, i < n → Sm (x i) ∧ (∀ (k : Nat) m s, ms[k]? = some m → (stDAt ms x i)[k]? = some s → StepDOk m s (wid (x i))) ∧ SumDOk (stDAt ms x (i + 1))
def ringD (ms : List M4) (x : Nat → Nat) (n : Nat) : List Nat := (List.range n).map fun i => outD (stDAt ms x (i + 1))

/-- the outputs when k steps are done, and the next one is y so far -/
def outsDAt (ms : List M4) (x : Nat → Nat) (n k y : Nat) : List Nat := ((ringD ms x n).take k ++ List.replicate (n - k) 0).set k y
theorem outsD_zero (ms : List M4) (x : Nat → Nat) (n : Nat) : cellsF (outsDAt ms x n 0 0) = List.replicate n (.float .f64 0) := by
  unfold outsDAt cellsF
  cases n <;> simp [List.replicate_succ]
theorem outsD_cell (ms : List M4) (x : Nat → Nat) (n k y : Nat) (h : k < n) : (cellsF (outsDAt ms x n k y))[k]? = some (.float .f64 y) := by
  unfold outsDAt cellsF
  rw [List.getElem?_map, List.getElem?_set_self (by simp [ringD]; omega)]; rfl
theorem outsD_set (ms : List M4) (x : Nat → Nat) (n k y z : Nat) : (cellsF (outsDAt ms x n k y)).set k (.float .f64 z) = cellsF (outsDAt ms x n k z) := by
  unfold outsDAt cellsF
  rw [List.map_set, List.set_set, List.map_set]
theorem outsD_next (ms : List M4) (x : Nat → Nat) (n k : Nat) (h : k < n) : outsDAt ms x n k (outD (stDAt ms x (k + 1))) = outsDAt ms x n (k + 1) 0 := by
  have hk : k < (ringD ms x n).length := by simpa [ringD] using h
  have hv : (ringD ms x n)[k] = outD (stDAt ms x (k + 1)) := by simp [ringD]
  unfold outsDAt
  rw [List.take_succ_eq_append_getElem hk, hv, show n - k = (n - (k + 1)) + 1 from by omega, List.replicate_succ]
  rw [List.set_append_right _ _ (by simp [ringD]; omega)]
  have e : k - ((ringD ms x n).take k).length = 0 := by simp [ringD]; omega
  rw [e, List.set_cons_zero, List.append_assoc, List.singleton_append]
  rw [List.set_append_right _ _ (by simp [ringD]; omega)]
  have e2 : k + 1 - ((ringD ms x n).take k).length = 1 := by simp [ringD]; omega
  rw [e2, List.set_cons_succ]
  congr 2
  cases hq : n - (k + 1) <;> simp [List.replicate_succ]
theorem outsD_full (ms : List M4) (x : Nat → Nat) (n : Nat) : outsDAt ms x n n 0 = ringD ms x n := by
  unfold outsDAt; rw [List.take_of_length_le (by simp [ringD]), Nat.sub_self, List.replicate_zero, List.append_nil, List.set_eq_of_length_le (by simp [ringD])]

theorem info_c128 : (Tryz.prog.info? 123).map (fun i => (i.zero, i.size, i.bytes)) = some (some (.complex .f64 0 0), 1, 16) := by kernel_rfl
theorem info_f64 : (Tryz.prog.info? 54).map (fun i => (i.zero, i.size, i.bytes)) = some (some (.float .f64 0), 1, 8) := by kernel_rfl

/-- what holds at the head of a round: k steps are done; the states of the next one are done for the first j modes -/
def RingDI (B bb gs gu n q : Nat) (ms : List M4) (x : Nat → Nat) (bv : Value) (w : World) (k j y : Nat) (wr : World) : Prop :=
  wr.ownsRow B 123 1 (.slice (some ⟨gs, 0, none⟩) q q) q (cellsD (mixedD ms (stDAt ms x k) (wid (x k)) j)) ∧
    wr.ownsRow B 54 1 (.slice (some ⟨gu, 0, none⟩) n n) n (cellsF (outsDAt ms x n k y)) ∧ Has1 wr bb bv ∧ Nw w wr

def RingDP (B : Nat) (outs : List Nat) (w : World) (e : Ending) (w' : World) : Prop :=
  ∃ v : Value, e = .returned (.tuple #[v, .bool true]) ∧ w'.ownsRow B 54 1 v outs.length (cellsF outs) ∧ Nw w w'

def OutI (B bb gs gu n q : Nat) (ms : List M4) (x : Nat → Nat) (bv : Value) (w : World) (i : Value) (wr : World) : Prop :=
  ∃ k : Nat, k ≤ n ∧ i = .int .i64 (k : Int) ∧ RingDI B bb gs gu n q ms x bv w k 0 0 wr
def InI (B bb gs gu n q : Nat) (ms : List M4) (x : Nat → Nat) (bv : Value) (w : World) (k : Nat) (i : Value) (wr : World) : Prop :=
  ∃ j : Nat, j ≤ q ∧ i = .int .i64 (j : Int) ∧ RingDI B bb gs gu n q ms x bv w k j (outD ((stepAllD ms (stDAt ms x k) (wid (x k))).take j)) wr

end Go.Proofs.YtiakcibeobbonaaGreat

/- Plain facts: ringing in single precision and in double precision stays near exact ringing. No program stands in it.
   Conditions: those that each statement names. -/
namespace Go.Proofs.YtiakcibeobbonaaGreat
set_option linter.unusedSimpArgs false
set_option linter.unusedVariables false
open Go

/-! ### one mode -/
def st1 (m : M4) (x : Nat → Nat) : Nat → Nat × Nat
  | 0 => (0, 0)
  | i + 1 => stepS m (st1 m x i) (x i)
def st1D (m : M4) (x : Nat → Nat) : Nat → Nat × Nat
  | 0 => (0, 0)
  | i + 1 => stepD m (st1D m x i) (wid (x i))
theorem zip_map (f : M4 → Nat × Nat → Nat × Nat) (g : M4 → Nat × Nat) : ∀ ms : List M4, List.zipWith f ms (ms.map g) = ms.map fun m => f m (g m)
  | [] => rfl
  | m :: ms => by simp [zip_map f g ms]
theorem stAt_map (ms : List M4) (x : Nat → Nat) : ∀ i, stAt ms x i = ms.map fun m => st1 m x i
  | 0 => rfl
  | i + 1 => by
    simp only [stAt, stepAll, stAt_map ms x i]
    exact zip_map (fun m s => stepS m s (x i)) (fun m => st1 m x i) ms
theorem stDAt_map (ms : List M4) (x : Nat → Nat) : ∀ i, stDAt ms x i = ms.map fun m => st1D m x i
  | 0 => rfl
  | i + 1 => by
    simp only [stDAt, stepAllD, stDAt_map ms x i]
    exact zip_map (fun m s => stepD m s (wid (x i))) (fun m => st1D m x i) ms

def gm (m : M4) : Rat := ra (S m.gr) + ra (S m.gi)
theorem gm_nonneg (m : M4) : 0 ≤ gm m := by unfold gm; have := ra_nonneg (S m.gr); have := ra_nonneg (S m.gi); grind
/-- bounds, by the product P of a mode's gain and the input's sum -/
def bM' (P : Rat) : Rat := 26 / 25 * P + 60000 * Flo.es
def bM (P : Rat) : Rat := 21 / 20 * P + 65536 * Flo.es
def bL (P : Rat) : Rat := (2 * bM P + 2 * P) * Flo.v + (bM P + bM' P + P) * Flo.v / 1024 + 6 * Flo.es
theorem bL_le (P : Rat) (hP : 0 ≤ P) : 0 ≤ bL P ∧ bL P ≤ 42 / 10 * (P * Flo.v) + 7 * Flo.es := by
  have ve := Flo.v_eq
  have hv : Flo.v = 1 / 16777216 := by grind
  have e0 := Flo.es_pos
  unfold bL bM bM'
  rw [hv]
  constructor <;> grind
theorem bM'_ok (P : Rat) (hP : 0 ≤ P) (n : Nat) (hn : n ≤ 2000) : 51 / 50 * (P + (n : Rat) * (3 / 2 * bL P)) ≤ bM' P := by
  obtain ⟨h0, h1⟩ := bL_le P hP
  have hn1 : (n : Rat) ≤ 2000 := by
    have : ((n : Nat) : Rat) ≤ ((2000 : Nat) : Rat) := by exact_mod_cast hn
    exact this
  have hn0 : (0 : Rat) ≤ (n : Rat) := by exact_mod_cast Nat.zero_le n
  have k := Rat.mul_le_mul_of_nonneg_right hn1 (show 0 ≤ 3 / 2 * bL P by grind)
  have ve := Flo.v_eq
  have hv : Flo.v = 1 / 16777216 := by grind
  have e0 := Flo.es_pos
  rw [hv] at h1
  unfold bM'
  grind

theorem bounds_110 (P : Rat) (hP : 0 ≤ P) (h : P ≤ Flo.pw 100) : bM' P ≤ Flo.pw 110 ∧ bM P ≤ Flo.pw 110 ∧ P ≤ Flo.pw 110 := by
  have l : Flo.pw 110 = 1024 * Flo.pw 100 := by rw [show (110 : Int) = 10 + 100 from rfl, Flo.pw_add, show Flo.pw 10 = 1024 from Flo.pw_nat 10]
  have o : 1 ≤ Flo.pw 100 := by rw [← Flo.pw_zero]; exact Flo.pw_le (by omega)
  have es1 := small'.es1
  have e0 := Flo.es_pos
  unfold bM bM'
  refine ⟨by grind, by grind, by grind⟩

theorem inner_le (x : Nat → Rat) (X : Rat) (n i : Nat) (hi : i < n) (hX : ∀ i, i ≤ n → psum x i ≤ X) : ra (x i) ≤ X := by
  have h := hX (i + 1) (by omega)
  have := psum_nonneg x i
  simp only [psum] at h
  grind

/-- what one step needs, from the bound on the state -/
theorem step_in (m : M4) (hm : m.ok) (a b y X : Rat) (hy : ra y ≤ X) (hN : N a b (bM' (gm m * X))) :
    Flo.Ab (a * S m.pr - b * S m.pi) (bM (gm m * X)) ∧ Flo.Ab (a * S m.pi + b * S m.pr) (bM (gm m * X)) ∧ Flo.Ab (S m.gr * y) (gm m * X) ∧ Flo.Ab (S m.gi * y) (gm m * X) ∧ 0 ≤ gm m * X := by
  have hX0 : 0 ≤ X := by have := ra_nonneg y; grind
  have hP := Rat.mul_nonneg (gm_nonneg m) hX0
  have e0 := Flo.es_pos
  have k := (hN.mul (show (0 : Rat) ≤ 1 + 1 / 200000 by grind) (pole_T (Valid.square hm))).mono (show bM' (gm m * X) * (1 + 1 / 200000) ≤ bM (gm m * X) by unfold bM' bM; grind)
  have g := (N.gain (S m.gr) (S m.gi) y).mono (show (ra (S m.gr) + ra (S m.gi)) * ra y ≤ gm m * X from Rat.mul_le_mul_of_nonneg_left hy (gm_nonneg m))
  exact ⟨k.ab.1, k.ab.2, g.ab.1, g.ab.2, hP⟩

theorem zero_single : Sm 0 ∧ S 0 = 0 := by
  have h : Ieee.single.read 0 = .number false 0 (-149) := by decide
  exact ⟨⟨_, _, _, h⟩, by rw [show S 0 = _ from Flo.V_eq h]; exact Flo.val_zero _ _⟩

theorem mode_single (m : M4) (hm : m.ok) (x : Nat → Nat) (n : Nat) (hn : n ≤ 2000) (hx : ∀ i, i < n → Sm (x i)) (X : Rat) (hX : ∀ i, i ≤ n → psum (fun j => S (x j)) i ≤ X) (hP : gm m * X ≤ Flo.pw 100) (hX0 : 0 ≤ X) :
    (∀ i, i ≤ n → (Sm (st1 m x i).1 ∧ Sm (st1 m x i).2) ∧ N (S (st1 m x i).1 - (zt (S m.pr) (S m.pi) (S m.gr) (S m.gi) (fun j => S (x j)) i).1) (S (st1 m x i).2 - (zt (S m.pr) (S m.pi) (S m.gr) (S m.gi) (fun j => S (x j)) i).2) ((i : Rat) * (3 / 2 * bL (gm m * X)) * (1 + (i : Rat) / 100000)) ∧
      N (S (st1 m x i).1) (S (st1 m x i).2) (bM' (gm m * X))) ∧ ∀ i, i < n → StepOk m (st1 m x i) (x i) := by
  have hP0 := Rat.mul_nonneg (gm_nonneg m) hX0
  obtain ⟨t1, t2, t3⟩ := bounds_110 _ hP0 hP
  have l2 := Flo.pw_le (show (110 : Int) ≤ 112 by omega)
  have one : ∀ i, i < n → (Sm (st1 m x i).1 ∧ Sm (st1 m x i).2) → N (S (st1 m x i).1) (S (st1 m x i).2) (bM' (gm m * X)) → StepOk m (st1 m x i) (x i) ∧ (Sm (st1 m x (i + 1)).1 ∧ Sm (st1 m x (i + 1)).2) ∧
      Flo.Ab (S (st1 m x (i + 1)).1 - (S (st1 m x i).1 * S m.pr - S (st1 m x i).2 * S m.pi + S m.gr * S (x i))) (bL (gm m * X)) ∧ Flo.Ab (S (st1 m x (i + 1)).2 - (S (st1 m x i).1 * S m.pi + S (st1 m x i).2 * S m.pr + S m.gi * S (x i))) (bL (gm m * X)) := by
    intro i hi q hN
    obtain ⟨k1, k2, k3, k4, -⟩ := step_in m hm _ _ (S (x i)) X (inner_le (fun j => S (x j)) X n i hi hX) hN
    obtain ⟨a1, a2, a3, a4, a5⟩ := step_ok m hm (st1 m x i) (x i) q.1 q.2 (hx i hi) (bM' (gm m * X)) (bM (gm m * X)) (gm m * X) hN.ab.1 hN.ab.2 k1 k2 k3 k4 t1 (by grind) (by grind)
    exact ⟨a1, ⟨a2, a3⟩, a4.mono (by unfold bL; exact Rat.le_refl), a5.mono (by unfold bL; exact Rat.le_refl)⟩
  have tr := traj (S m.pr) (S m.pi) (S m.gr) (S m.gi) (fun j => S (x j)) (Valid.square hm) (fun i => (S (st1 m x i).1, S (st1 m x i).2)) (by simp only [st1]; rw [zero_single.2]) X (bM' (gm m * X)) (bL (gm m * X)) n hn (bL_le _ hP0).1 hX (bM'_ok _ hP0 n hn) (fun i => Sm (st1 m x i).1 ∧ Sm (st1 m x i).2) ⟨zero_single.1, zero_single.1⟩ (fun i hi q hN => (one i hi q hN).2)
  exact ⟨tr, fun i hi => (one i hi (tr i (by omega)).1 (tr i (by omega)).2.2).1⟩

theorem mode_double (m : M4) (hm : m.ok) (x : Nat → Nat) (n : Nat) (hn : n ≤ 2000) (hx : ∀ i, i < n → Sm (x i)) (X : Rat) (hX : ∀ i, i ≤ n → psum (fun j => S (x j)) i ≤ X) (hP : gm m * X ≤ Flo.pw 100) (hX0 : 0 ≤ X) :
    (∀ i, i ≤ n → (Flo.Nm (st1D m x i).1 ∧ Flo.Nm (st1D m x i).2) ∧ N (Flo.W (st1D m x i).1 - (zt (S m.pr) (S m.pi) (S m.gr) (S m.gi) (fun j => S (x j)) i).1) (Flo.W (st1D m x i).2 - (zt (S m.pr) (S m.pi) (S m.gr) (S m.gi) (fun j => S (x j)) i).2) ((i : Rat) * (3 / 2 * bL (gm m * X)) * (1 + (i : Rat) / 100000)) ∧
      N (Flo.W (st1D m x i).1) (Flo.W (st1D m x i).2) (bM' (gm m * X))) ∧ ∀ i, i < n → StepDOk m (st1D m x i) (wid (x i)) := by
  have hP0 := Rat.mul_nonneg (gm_nonneg m) hX0
  obtain ⟨t1, t2, t3⟩ := bounds_110 _ hP0 hP
  have l2 := Flo.pw_le (show (110 : Int) ≤ 112 by omega)
  have one : ∀ i, i < n → (Flo.Nm (st1D m x i).1 ∧ Flo.Nm (st1D m x i).2) → N (Flo.W (st1D m x i).1) (Flo.W (st1D m x i).2) (bM' (gm m * X)) → StepDOk m (st1D m x i) (wid (x i)) ∧ (Flo.Nm (st1D m x (i + 1)).1 ∧ Flo.Nm (st1D m x (i + 1)).2) ∧
      Flo.Ab (Flo.W (st1D m x (i + 1)).1 - (Flo.W (st1D m x i).1 * S m.pr - Flo.W (st1D m x i).2 * S m.pi + S m.gr * S (x i))) (bL (gm m * X)) ∧ Flo.Ab (Flo.W (st1D m x (i + 1)).2 - (Flo.W (st1D m x i).1 * S m.pi + Flo.W (st1D m x i).2 * S m.pr + S m.gi * S (x i))) (bL (gm m * X)) := by
    intro i hi q hN
    obtain ⟨k1, k2, k3, k4, -⟩ := step_in m hm _ _ (S (x i)) X (inner_le (fun j => S (x j)) X n i hi hX) hN
    obtain ⟨nx, vx⟩ := wid_num (hx i hi)
    rw [← vx] at k3 k4
    obtain ⟨a1, a2, a3, a4, a5⟩ := stepD_ok m hm (st1D m x i) (wid (x i)) q.1 q.2 nx (bM' (gm m * X)) (bM (gm m * X)) (gm m * X) hN.ab.1 hN.ab.2 k1 k2 k3 k4 t1 (by grind) (by grind)
    rw [vx] at a4 a5
    exact ⟨a1, ⟨a2, a3⟩, a4.mono (by unfold bL; exact Rat.le_refl), a5.mono (by unfold bL; exact Rat.le_refl)⟩
  have tr := traj (S m.pr) (S m.pi) (S m.gr) (S m.gi) (fun j => S (x j)) (Valid.square hm) (fun i => (Flo.W (st1D m x i).1, Flo.W (st1D m x i).2)) (by simp only [st1D]; rw [zero_num.2]) X (bM' (gm m * X)) (bL (gm m * X)) n hn (bL_le _ hP0).1 hX (bM'_ok _ hP0 n hn) (fun i => Flo.Nm (st1D m x i).1 ∧ Flo.Nm (st1D m x i).2) ⟨zero_num.1, zero_num.1⟩ (fun i hi q hN => (one i hi q hN).2)
  exact ⟨tr, fun i hi => (one i hi (tr i (by omega)).1 (tr i (by omega)).2.2).1⟩

end Go.Proofs.YtiakcibeobbonaaGreat

/- The walk of DampBody over a valid body and a factor from 0 to 1.
   Conditions: those that each statement names. -/
namespace Go.Proofs.YtiakcibeobbonaaGreat
set_option linter.unusedSimpArgs false
set_option linter.unusedVariables false
open Go Go.RowKit

def dampM (t : Nat) (m : M4) : M4 := ⟨opB .mul .f32 m.pr t, opB .mul .f32 m.pi t, m.gr, m.gi⟩

/-- 'x >= 0 && x <= 1', where it holds -/
theorem isFactor_ok (t : Nat) (w : World) (ht : Sm t) (h0 : 0 ≤ S t) (h1 : S t ≤ 1) :
    Calls Tryz.prog 76 #[.float .f32 t] w fun e w' => e = .returned (.bool true) ∧ w = w' := by
  have n1 : Sm 1065353216 ∧ S 1065353216 = 1 := by
    have h : Ieee.single.read 1065353216 = .number false 8388608 (-23) := by decide
    refine ⟨⟨_, _, _, h⟩, ?_⟩
    rw [show S 1065353216 = _ from Flo.V_eq h]
    unfold Flo.val
    have := Flo.pw_neg_mul 23
    rw [show Flo.pw 23 = 8388608 from Flo.pw_nat 23] at this
    simp only [Bool.false_eq_true, if_false]
    have e2 : ((8388608 : Nat) : Rat) = 8388608 := rfl
    rw [e2]; grind
  have o0 := Flo.order_num Ieee.single t 0 ht zero_single.1
  have o1 := Flo.order_num Ieee.single t 1065353216 ht n1.1
  have z : Flo.V Ieee.single 0 = 0 := zero_single.2
  have z1 : Flo.V Ieee.single 1065353216 = 1 := n1.2
  have k0 : (FloatKind.f32.format.order t 0 == some .gt || FloatKind.f32.format.order t 0 == some .eq) = true := by
    rw [show FloatKind.f32.format = Ieee.single from rfl, Bool.or_eq_true, beq_iff_eq, beq_iff_eq, o0.2.2, o0.2.1, z]
    show 0 < S t ∨ S t = 0
    grind
  have k1 : (FloatKind.f32.format.order t 1065353216 == some .lt || FloatKind.f32.format.order t 1065353216 == some .eq) = true := by
    rw [show FloatKind.f32.format = Ieee.single from rfl, Bool.or_eq_true, beq_iff_eq, beq_iff_eq, o1.1, o1.2.1, z1]
    show S t < 1 ∨ S t = 1
    grind
  clear o0 o1 z z1 ht h0 h1
  go_enter Tryz.func76, Tryz.ntmps76
  go_wp2
  go_ret
  exact ⟨rfl, rfl⟩

def dampL (ms : List M4) (t k : Nat) : List M4 := (ms.take k).map (dampM t) ++ ms.drop k
theorem dampL_len (ms : List M4) (t k : Nat) : (dampL ms t k).length = ms.length := by simp [dampL]; omega
theorem dampL_zero (ms : List M4) (t : Nat) : dampL ms t 0 = ms := by simp [dampL]
theorem dampL_full (ms : List M4) (t n : Nat) (h : ms.length = n) : dampL ms t n = ms.map (dampM t) := by
  simp [dampL, List.take_of_length_le (Nat.le_of_eq h), List.drop_of_length_le (Nat.le_of_eq h)]
theorem dampL_at (ms : List M4) (t k : Nat) (m : M4) (h : ms[k]? = some m) : (dampL ms t k)[k]? = some m := by
  obtain ⟨hk, he⟩ := List.getElem?_eq_some_iff.1 h
  unfold dampL
  rw [List.getElem?_append_right (by simp; omega)]
  simp only [List.length_map, List.length_take, Nat.min_eq_left (Nat.le_of_lt hk), Nat.sub_self, List.getElem?_drop, Nat.add_zero, h]
theorem cellsM_set (l : List M4) (k : Nat) (m m' : M4) (h : l[k]? = some m) (hg : m'.gr = m.gr ∧ m'.gi = m.gi) :
    (cellsM l).set (k * 2) (.complex .f32 m'.pr m'.pi) = cellsM (l.set k m') := by
  induction l generalizing k with
  | nil => simp at h
  | cons x l ih =>
    cases k with
    | zero =>
      simp at h
      subst h
      simp [cellsM, M4.cells, hg.1, hg.2]
    | succ k =>
      have hk := ih k (by simpa using h)
      simp only [cellsM, List.flatMap_cons, List.set_cons_succ] at *
      rw [show (k + 1) * 2 = k * 2 + 2 from by omega]
      simp only [M4.cells, List.cons_append, List.nil_append, List.set_cons_succ]
      rw [hk]
theorem dampL_set (ms : List M4) (t k : Nat) (m : M4) (h : ms[k]? = some m) : (dampL ms t k).set k (dampM t m) = dampL ms t (k + 1) := by
  obtain ⟨hk, he⟩ := List.getElem?_eq_some_iff.1 h
  unfold dampL
  rw [List.take_succ_eq_append_getElem hk, he, List.drop_eq_getElem_cons hk, he, List.set_append_right _ _ (by simp; omega)]
  simp [Nat.min_eq_left (Nat.le_of_lt hk)]

def DampP (n : Nat) (ms : List M4) (w : World) (e : Ending) (w' : World) : Prop :=
  ∃ v : Value, e = .returned (.tuple #[.agg #[v], .bool true]) ∧ w'.ownsRow w.heap.size 93 2 v n (cellsM ms) ∧ Nw w w'
def DampI (ms : List M4) (t n base D E : Nat) (v : Value) (w : World) (i : Value) (wr : World) : Prop :=
  ∃ k : Nat, k ≤ n ∧ i = .int .i64 (k : Int) ∧ wr.ownsRow base 93 2 v n (cellsM (dampL ms t k)) ∧ Has1 wr D (.slice none 0 0) ∧ Has1 wr E v ∧ Nw w wr

set_option maxRecDepth 100000 in
/-- the damped modes in the place of the others; what the caller holds beside them stays -/
theorem dampModes_ok (ms : List M4) (hms : ∀ m ∈ ms, m.ok) (n t base D E : Nat) (va : Option Addr) (vc : Nat) (hn : ms.length = n) (ht : Sm t) (h0 : 0 ≤ S t) (h1 : S t ≤ 1) (w w0 : World)
    (hm : w.ownsRow base 93 2 (.slice va n vc) n (cellsM ms)) (hD : Has1 w D (.slice none 0 0)) (hE : Has1 w E (.slice va n vc)) (hN : Nw w0 w)
    (hd : D < base) (he : ∀ q, (Value.slice va n vc).ownBlock = some q → q < E) (hb : w0.heap.size ≤ base) :
    Calls Tryz.prog 92 #[.slice va n vc, .float .f32 t] w fun e w' =>
      e = .returned (.tuple #[]) ∧ w'.ownsRow base 93 2 (.slice va n vc) n (cellsM (ms.map (dampM t))) ∧ Has1 w' D (.slice none 0 0) ∧ Has1 w' E (.slice va n vc) ∧ Nw w0 w' := by
  have O3 := Lib.hid hm
  have D3 := Lib.hid hD
  have E3 := Lib.hid hE
  have N3 := Lib.hid hN
  have Hd := Lib.hid hd
  have He := Lib.hid he
  have Hb := Lib.hid hb
  have Hms := Lib.hid hms
  have Hn := Lib.hid hn
  have Ht := Lib.hid (And.intro ht (And.intro h0 h1))
  clear hm hD hE hN hd he hb hms hn ht h0 h1
  go_enter Tryz.func92, Tryz.ntmps92
  go_wp2_with fail
  go_loopw [8] (fun i wr => DampI ms t n base D E (.slice va n vc) w0 i wr) (fun i _ => n - (intOf i).toNat)
  case atStart => exact ⟨0, by omega, rfl, by rw [dampL_zero]; exact O3.out, D3.out, E3.out, N3.out⟩
  case round =>
    obtain ⟨k, hk, rfl, own, hD, hE, hN⟩ := hrel
    have Ow := Lib.hid own
    have Dw := Lib.hid hD
    have Ew := Lib.hid hE
    have Nr := Lib.hid hN
    clear own hD hE hN
    by_cases hlt : k < n
    · obtain ⟨m, hmk⟩ : ∃ m, ms[k]? = some m := ⟨ms[k]'(by rw [Hn.out]; exact hlt), List.getElem?_eq_getElem _⟩
      obtain ⟨g, cap, hv, hcap, hmax, hgs, e1, e2⟩ := own_mode Ow.out (dampL_at ms t k m hmk) (by rw [dampL_len, Hn.out])
      cases hv
      have Hmk := Lib.hid hmk
      have Hmo := Lib.hid (Hms.out m (List.mem_of_getElem? hmk))
      unfold maxLen at hmax
      clear hmk
      have K1 := Lib.hid (HasMode.new wr 93 m.pr m.pi m.gr m.gi)
      have K2 := Lib.hid (Ow.out.alloc (.cells #[.complex .f32 m.pr m.pi, .complex .f32 m.gr m.gi] 93 (0, 0)))
      have K3 := Lib.hid (Dw.out.alloc (.cells #[.complex .f32 m.pr m.pi, .complex .f32 m.gr m.gi] 93 (0, 0)))
      have K4 := Lib.hid (Ew.out.alloc (.cells #[.complex .f32 m.pr m.pi, .complex .f32 m.gr m.gi] 93 (0, 0)))
      have K5 := Lib.hid (Nr.out.alloc (.cells #[.complex .f32 m.pr m.pi, .complex .f32 m.gr m.gi] 93 (0, 0)))
      go_wp2_with fail
      obtain ⟨w4, hw4⟩ : ∃ w4, w4 = wr.alloc (.cells #[.complex .f32 m.pr m.pi, .complex .f32 m.gr m.gi] 93 (0, 0)) := ⟨_, rfl⟩
      rw [← hw4] at K1 K2 K3 K4 K5
      rw [← hw4]
      clear hw4 e1 e2
      obtain ⟨l0, l1, l2, l3, l4⟩ := K1.out
      obtain ⟨s1, s2, s3, s4⟩ := Hmo.out.nums
      obtain ⟨p1, p2⟩ := Hmo.out.pole
      have D1' := Lib.hid (damp_part m.pr t s1 Ht.out.1 Ht.out.2.1 Ht.out.2.2 (by have := ra_le p1; grind))
      have D2' := Lib.hid (damp_part m.pi t s2 Ht.out.1 Ht.out.2.1 Ht.out.2.2 (by have := ra_le p2; grind))
      refine (implScale_ok _ _ _ _ D1'.out.1 D2'.out.1).mono ?_
      rintro e w5 ⟨rfl, rfl⟩
      have G2 := K2
      have G3 := K3
      have G4 := K4
      have G5 := K5
      have hs4 := (K2.out.lt _ rfl)
      clear l0 l1 l2 l3 l4
      have e3 := G2.out.cellAt (k * 2) (by omega)
      have hc := (cellsM_at _ k m (dampL_at ms t k m Hmk.out)).1
      rw [Nat.mul_comm] at hc
      rw [hc] at e3
      have e4 := G2.out.frozenAt (k * 2)
      have hset := G2.out.stored (k * 2) (.complex .f32 (dampM t m).pr (dampM t m).pi)
      rw [cellsM_set (dampL ms t k) k m (dampM t m) (dampL_at ms t k m Hmk.out) ⟨rfl, rfl⟩, dampL_set ms t k m Hmk.out] at hset
      have hs1' := Hd.out
      have hb' := Hb.out
      have hg1 : base ≤ g := (K2.out.lt g rfl).1
      have hne : g < E := He.out g rfl
      have hfin : DampI ms t n base D E (.slice (some ⟨g, 0, none⟩) n vc) w0 (.int .i64 ((k : Int) + 1)) (w4.setCell ⟨g, k * 2, none⟩ (.complex .f32 (opB .mul .f32 m.pr t) (opB .mul .f32 m.pi t))) :=
        ⟨k + 1, by omega, by rw [show ((k + 1 : Nat) : Int) = (k : Int) + 1 from by omega], hset.1, G3.out.set (by show g ≠ D; omega) _, G4.out.set (by show g ≠ E; omega) _, G5.out.set (by show w0.heap.size ≤ g; omega) _⟩
      have Hfin := Lib.hid hfin
      clear hfin hset hc
      go_wp2_with fail
      go_roundw
      case rel => exact Hfin.out
      case measure => simp only [intOf]; omega
    · obtain rfl : k = n := by omega
      go_wp2_with fail
      go_end0
      exact ⟨rfl, by rw [← dampL_full ms t k Hn.out]; exact Ow.out, Dw.out, Ew.out, Nr.out⟩

end Go.Proofs.YtiakcibeobbonaaGreat
