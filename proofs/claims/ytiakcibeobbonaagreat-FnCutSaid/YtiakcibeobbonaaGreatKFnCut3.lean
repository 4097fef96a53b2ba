/- Texts of a proof, put together: FmtU, Frx, Ldx, ParD, Limit, Odd, For, FmL, IsBody, Damp, Fix, TxF, Shape, Fill, Strike, ShapeS, ScoD, Evs, ScoE, ScoG.
   Conditions: those that each statement names. -/
import Derived.Test.YtiakcibeobbonaaGreatKFnCut2
import Derived.Lib.ItoaMem
import Derived.Lib.Walk
import Derived.Shelf.Strconv.Itoa3
import Derived.Shelf.Spec.TrailingZeros
import Derived.Deep.RegionLawGrows
import Derived.Laws.StructEq
import Derived.Great.BuildSlice
/- The decimal texts: strconv.FormatUint and Itoa as told; texts alike.
   Conditions: those that each statement names. -/
namespace Go.Proofs.YtiakcibeobbonaaGreat
set_option linter.unusedSimpArgs false
set_option linter.unusedVariables false
open Go Go.RowKit

/-! ### digits -/
theorem digs_eq : ∀ (f u : Nat), u < 10 ^ (f + 1) → (Lib.decDigits u) = (dgs u).map fun n => UInt8.ofNat n.toNat
  | f, u, h => by
    by_cases h10 : u < 10
    · rw [Lib.decDigits, dif_pos h10, dgs_small h10]
      simp only [List.map_cons, List.map_nil, List.cons.injEq, and_true]
      congr 1
    · rw [Lib.decDigits, dif_neg h10, dgs_big h10, List.map_append]
      cases f with
      | zero => omega
      | succ f =>
        rw [digs_eq f (u / 10) (by rw [Nat.pow_succ] at h; omega)]
        simp only [List.map_cons, List.map_nil]
        congr 3
theorem digs_str (u : Nat) (h : u < 18446744073709551616) : (⟨(Lib.decDigits u).toArray⟩ : ByteArray) = strOfNums (dgs u) := by
  rw [digs_eq 19 u (by omega)]; rfl
theorem itoa_str (q : Int) (h : q.natAbs < 18446744073709551616) : (⟨(Lib.itoa q).toArray⟩ : ByteArray) = strOfNums (numL q) := by
  unfold Lib.itoa numL strOfNums
  split
  · rename_i hq
    rw [digs_eq 19 q.natAbs (by omega)]
    rfl
  · rename_i hq
    rw [show q.toNat = q.natAbs by omega, digs_eq 19 q.natAbs (by omega)]

theorem tab_nw {w w' : World} {nm : String} {k : IntKind} {zs : List Int} (h : Nw w w') (t : Lib.TabIs Tryz.prog w nm k zs) : Lib.TabIs Tryz.prog w' nm k zs := by
  unfold Lib.TabIs World.var? at *
  cases hg : Program.globalNamed Tryz.prog nm with
  | none => simp [hg] at t
  | some g =>
    simp only [hg, Option.bind_some] at t ⊢
    have hlt : g < w.heap.size := by
      rcases Nat.lt_or_ge g w.heap.size with h' | h'
      · exact h'
      · rw [Array.getElem?_eq_none h'] at t; simp at t
    rw [h.block g hlt (by simp)]
    exact t
theorem nw_grow (w : World) (os : Array Obj) : Nw w (Sort.grow w os) :=
  ⟨rfl, rfl, rfl, by simp [Sort.grow], fun k hk _ => Sort.heap_grow_old w os hk⟩

theorem holds_zero0 (w : World) (T : TypeId) (nd : Nat) (hs : nd ≤ 24) : Sort.Holds (fun (b : UInt8) => Value.int .u8 (b.toNat : Int)) (w.alloc (.cells Lib.zeros24 T)) w.heap.size 0 (Array.replicate nd (0 : UInt8)) := fun j hj => by
  have hj' : j < nd := by simpa using hj
  refine ⟨?_, World.frozen?_alloc_new _ _ _ _⟩
  rw [World.cell?_alloc_new, Lib.zeros24_at _ (by omega), getElem!_pos _ j hj]
  simp
theorem nw_put (w : World) (o : Obj) (dk : Array UInt8) (k : Nat) : Nw w ((Sort.putRow (fun (b : UInt8) => Value.int .u8 (b.toNat : Int)) (w.alloc o) w.heap.size 0 dk).drewN k) := by
  rw [Sort.alloc_eq_grow]
  obtain ⟨os', _, e⟩ := Sort.putRow_grow_new (fun (b : UInt8) => Value.int .u8 (b.toNat : Int)) w #[o] w.heap.size 0 dk (Nat.le_refl _)
  rw [e]
  exact (nw_grow w os').draw k

end Go.Proofs.YtiakcibeobbonaaGreat

/- math.Frexp and math.Ldexp(.., 53), bits.TrailingZeros64: the odd part of a number above 0.
   Conditions: those that each statement names. -/
namespace Go.Proofs.YtiakcibeobbonaaGreat
set_option linter.unusedSimpArgs false
set_option linter.unusedVariables false
open Go Go.RowKit

/-! ### normalize -/
def NorP (sg : Bool) (m : Nat) (p : Int) (w : World) (e : Ending) (w' : World) : Prop :=
  ∃ (X s E F : Nat) (z : Int), e = .returned (.tuple #[.float .f64 X, .int .i64 z]) ∧ X = s * 9223372036854775808 + (E * 4503599627370496 + F) ∧ s < 2 ∧ sg = (s == 1) ∧ 1 ≤ E ∧ E < 2047 ∧ F < 4503599627370496 ∧ (z = 0 ∨ z = -52) ∧
    ((4503599627370496 + F : Nat) : Rat) * Flo.pw ((E : Int) - 1075 + z) = (m : Rat) * Flo.pw p ∧ ∃ n, w' = w.drewN n

theorem read_min : Ieee.double.read 4503599627370496 = .number false 4503599627370496 (-1074) := by decide
theorem V_min : Flo.V Ieee.double 4503599627370496 = Flo.pw (-1022) := by
  rw [Flo.V_eq read_min]; unfold Flo.val
  rw [show (-1022 : Int) = -1074 + (52 : Nat) from by omega, Flo.pw_add, Flo.pw_nat]
  simp
  grind

theorem lt_min (x m : Nat) (sg : Bool) (p : Int) (h : Ieee.double.read x = .number sg m p) :
    (FloatKind.f64.format.order (x % signBit) 4503599627370496 == some .lt) = decide ((m : Rat) * Flo.pw p < Flo.pw (-1022)) := by
  have hr : Ieee.double.read (x % signBit) = .number false m p := by
    show FloatKind.f64.decode (x % signBit) = _
    rw [mod_read, show FloatKind.f64.decode x = _ from h]
  have o := Flo.order_num Ieee.double (x % signBit) 4503599627370496 ⟨_, _, _, hr⟩ ⟨_, _, _, read_min⟩
  have e1 : Flo.V Ieee.double (x % signBit) = (m : Rat) * Flo.pw p := by rw [Flo.V_eq hr]; unfold Flo.val; simp
  rw [e1, V_min] at o
  show (Ieee.double.order _ _ == some .lt) = _
  by_cases hlt : (m : Rat) * Flo.pw p < Flo.pw (-1022)
  · rw [decide_eq_true hlt, o.1.2 hlt]; rfl
  · rw [decide_eq_false hlt]
    cases hg : (Ieee.double.order (x % signBit) 4503599627370496 == some .lt) with
    | false => rfl
    | true => exact absurd (o.1.1 (by simpa using hg)) hlt

theorem scale_up (x m : Nat) (sg : Bool) (hx : Ieee.double.read x = .number sg m (-1074)) (hm : m ≠ 0) (hm2 : m < 4503599627370496) :
    ∃ s E F : Nat, floatBits .mul .f64 x 4841369599423283200 = some (s * 9223372036854775808 + (E * 4503599627370496 + F)) ∧ s < 2 ∧ sg = (s == 1) ∧ 1 ≤ E ∧ E < 2047 ∧ F < 4503599627370496 ∧ ((4503599627370496 + F : Nat) : Rat) * Flo.pw ((E : Int) - 1075 + -52) = (m : Rat) * Flo.pw (-1074) := by
  have r52 : Ieee.double.read 4841369599423283200 = .number false 4503599627370496 0 := by decide
  have e : floatBits .mul .f64 x 4841369599423283200 = some (Ieee.double.write (.number sg (m * 4503599627370496) (-1074 + 0))) := by
    show Ieee.double.mul x _ = _
    unfold Ieee.Format.mul
    rw [hx, r52]
    cases sg <;> rfl
  have hv : ((m * 4503599627370496 : Nat) : Rat) * Flo.pw (-1074 + 0) = (m : Rat) * Flo.pw (-1022) := by
    rw [show (-1022 : Int) = -1074 + 0 + (52 : Nat) from by omega, Flo.pw_add (-1074 + 0), Flo.pw_nat]
    have : ((2 ^ 52 : Nat) : Rat) = ((4503599627370496 : Nat) : Rat) := rfl
    rw [this]; push_cast; grind
  have hm3 : (m : Rat) < 4503599627370496 := by exact_mod_cast hm2
  have hm1 : (1 : Rat) ≤ (m : Rat) := by exact_mod_cast Nat.pos_of_ne_zero hm
  have p22 := Flo.pw_pos (-1022)
  obtain ⟨m', p', w1, w2, w3, w4⟩ := Flo.write_exact Ieee.double (by decide) sg _ _ m (-1022) hv (by
    have : 2 ^ (Ieee.double.fractionBits + 1) = 9007199254740992 := by decide
    omega) (by rw [Flo.lp_double]; omega) (by
    rw [hv, Flo.top_double]
    have l : Flo.pw (-1022 + (52 : Nat)) < Flo.pw 1023 := Flo.pw_lt (by omega)
    rw [Flo.pw_add, Flo.pw_nat] at l
    have e52 : ((2 ^ 52 : Nat) : Rat) = 4503599627370496 := rfl
    rw [e52] at l
    have := Rat.mul_lt_mul_of_pos_right hm3 p22
    grind)
  obtain ⟨s, hs, hsg, hc⟩ := word_cases _ m' sg p' (Ieee.Format.write_lt _ _) w1
  rcases hc with ⟨hx1, hs1, hs2⟩ | ⟨E, F, hx1, k1, k2, k3, k4, k5⟩
  · exfalso
    rw [hs2, hv] at w4
    have h1 : (m' : Rat) < 4503599627370496 := by exact_mod_cast hs1
    have p74 := Flo.pw_pos (-1074)
    have h2 := Rat.mul_lt_mul_of_pos_right h1 p74
    have h3 := Rat.mul_le_mul_of_nonneg_right hm1 (Rat.le_of_lt p22)
    have h4 : Flo.pw (-1022) = 4503599627370496 * Flo.pw (-1074) := by
      rw [show (-1022 : Int) = -1074 + (52 : Nat) from by omega, Flo.pw_add, Flo.pw_nat]
      rw [show ((2 ^ 52 : Nat) : Rat) = 4503599627370496 from rfl]; grind
    grind
  · refine ⟨s, E, F, by rw [e, hx1], hs, hsg, k1, k2, k3, ?_⟩
    rw [hv, k4, k5] at w4
    rw [Flo.pw_add ((E : Int) - 1075)]
    rw [show ((m : Nat) : Rat) * Flo.pw (-1074) = (m : Rat) * (Flo.pw (-1022) * Flo.pw (-52)) from by rw [← Flo.pw_add]; rfl]
    grind

/-! ### Frexp -/
theorem ne0_num (x m : Nat) (sg : Bool) (p : Int) (h : Ieee.double.read x = .number sg m p) (hm : m ≠ 0) : (FloatKind.f64.format.order x 0 == some .eq) = false := by
  have o := Flo.order_num Ieee.double x 0 ⟨_, _, _, h⟩ zero_num.1
  rw [show Flo.V Ieee.double 0 = 0 from zero_num.2, Flo.V_eq h] at o
  cases hg : (FloatKind.f64.format.order x 0 == some .eq) with
  | false => rfl
  | true =>
    exfalso
    have h0 := o.2.1.1 (show FloatKind.f64.format.order x 0 = some .eq by simpa using hg)
    apply hm
    apply Flo.mag_zero (p := p)
    unfold Flo.val at h0
    cases sg <;> simp at h0 <;> grind
theorem and_exp (s E F : Nat) (hs : s < 2) (hE : E < 2047) (hF : F < 4503599627370496) : bits .and .u64 (((s * 9223372036854775808 + (E * 4503599627370496 + F) : Nat) : Int) / 4503599627370496) 2047 = (E : Int) := by
  have k : (s * 2048 + E) % 2048 = E := by omega
  have e : ((s * 9223372036854775808 + (E * 4503599627370496 + F) : Nat) : Int) / 4503599627370496 = ((s * 2048 + E : Nat) : Int) := by omega
  have e2 := u64_and_nat (s * 2048 + E) 2047 (by omega) (by decide)
  rw [nat_mask11, k] at e2
  exact (congrArg (fun v => bits .and .u64 v 2047) e).trans e2
theorem clr_word (s E F : Nat) (hs : s < 2) (hE : E < 2047) (hF : F < 4503599627370496) : bits .andNot .u64 ((s * 9223372036854775808 + (E * 4503599627370496 + F) : Nat) : Int) 9218868437227405312 = ((s * 9223372036854775808 + F : Nat) : Int) := by
  rw [clr _ (by omega)]
  have h1 : (s * 9223372036854775808 + (E * 4503599627370496 + F)) / 9223372036854775808 = s := by omega
  have h2 : (s * 9223372036854775808 + (E * 4503599627370496 + F)) % 4503599627370496 = F := by clear h1; omega
  rw [h1, h2]

def FrxP (sg : Bool) (m : Nat) (p : Int) (w : World) (e : Ending) (w' : World) : Prop :=
  ∃ (X s E F : Nat) (z : Int), e = .returned (.tuple #[.float .f64 X, .int .i64 (z + ((E : Int) - 1023 + 1))]) ∧ X = s * 9223372036854775808 + (1022 * 4503599627370496 + F) ∧ s < 2 ∧ sg = (s == 1) ∧ 1 ≤ E ∧ E < 2047 ∧ F < 4503599627370496 ∧ (z = 0 ∨ z = -52) ∧
    ((4503599627370496 + F : Nat) : Rat) * Flo.pw ((E : Int) - 1075 + z) = (m : Rat) * Flo.pw p ∧ ∃ n, w' = w.drewN n

/-! ### Ldexp where the answer is a normal number -/
theorem one_mul_word (s E F : Nat) (hs : s < 2) (h1 : 1 ≤ E) (h2 : E < 2047) (hF : F < 4503599627370496) : floatBits .mul .f64 4607182418800017408 (s * 9223372036854775808 + (E * 4503599627370496 + F)) = some (s * 9223372036854775808 + (E * 4503599627370496 + F)) := by
  have r := read_nor s E F hs h1 h2 hF
  have r1 : Ieee.double.read 4607182418800017408 = .number false 4503599627370496 (-52) := by decide
  obtain ⟨X, hX⟩ : ∃ X : Nat, X = s * 9223372036854775808 + (E * 4503599627370496 + F) := ⟨_, rfl⟩
  rw [← hX] at r ⊢
  have e : floatBits .mul .f64 4607182418800017408 X = some (Ieee.double.write (.number (s == 1) (4503599627370496 * (4503599627370496 + F)) (-52 + ((E : Int) - 1075)))) := by
    show Ieee.double.mul _ X = _
    unfold Ieee.Format.mul
    rw [r, r1]
    cases (s == 1) <;> rfl
  rw [e]
  congr 1
  obtain ⟨M, hM⟩ : ∃ M : Nat, M = 4503599627370496 + F := ⟨_, rfl⟩
  rw [← hM]
  have hlog : (4503599627370496 * M).log2 = 104 := by
    have n0 : 4503599627370496 * M ≠ 0 := by omega
    rw [Nat.log2_eq_iff n0]
    constructor
    · show 20282409603651670423947251286016 ≤ _; omega
    · show _ < 40564819207303340847894502572032; omega
  show Ieee.double.nearest (s == 1) (4503599627370496 * M) (-52 + ((E : Int) - 1075)) = X
  unfold Ieee.Format.nearest
  rw [if_neg (by omega)]
  simp only [hlog, show (Ieee.double.fractionBits : Int) = 52 from rfl, show Ieee.double.leastPlace = -1074 from by decide]
  have m1 : max (-52 + ((E : Int) - 1075) + ((104 : Nat) : Int) - 52) (-1074) = (E : Int) - 1075 := by omega
  rw [m1]
  have m2 : (-52 + ((E : Int) - 1075) - ((E : Int) - 1075)).toNat = 0 := by omega
  have m3 : ((E : Int) - 1075 - (-52 + ((E : Int) - 1075))).toNat = 52 := by omega
  have m4 : ((E : Int) - 1075 - -1074).toNat = E - 1 := by omega
  rw [m2, m3, m4, Nat.shiftLeft_zero]
  have m5 : Ieee.Toward.even.cut (s == 1) (4503599627370496 * M) 52 = M := by
    unfold Ieee.Toward.cut
    simp only [hlog]
    have g1 : 1 <<< min 52 (104 + 2) = 4503599627370496 := by decide
    rw [g1, Nat.mul_div_cancel_left _ (by decide), Nat.mul_mod_right]
    simp
  rw [m5, show Ieee.double.binade = 4503599627370496 from by decide, show Ieee.double.infRung = 9218868437227405312 from by decide]
  have m6 : min ((E - 1) * 4503599627370496 + M) 9218868437227405312 = E * 4503599627370496 + F := by
    clear hlog m1 m2 m3 m4 m5 e r r1 hX
    have m7 : (E - 1) * 4503599627370496 + M = E * 4503599627370496 + F := by omega
    rw [m7]
    exact Nat.min_eq_left (by omega)
  rw [m6]
  unfold Ieee.Format.word
  rw [show Ieee.double.signWeight = 9223372036854775808 from by decide, hX]
  rcases Nat.lt_or_ge s 1 with g | g
  · rw [show s = 0 by omega]; simp
  · rw [show s = 1 by omega]; simp

end Go.Proofs.YtiakcibeobbonaaGreat

/- math.Ldexp where the answer is a normal number.
   Conditions: those that each statement names. -/
namespace Go.Proofs.YtiakcibeobbonaaGreat
set_option linter.unusedSimpArgs false
set_option linter.unusedVariables false
open Go Go.RowKit

def LdP (sg : Bool) (m : Nat) (p k : Int) (w : World) (e : Ending) (w' : World) : Prop :=
  ∃ (Y s N F : Nat), e = .returned (.float .f64 Y) ∧ Y = s * 9223372036854775808 + (N * 4503599627370496 + F) ∧ s < 2 ∧ sg = (s == 1) ∧ 1 ≤ N ∧ N < 2047 ∧ F < 4503599627370496 ∧
    ((4503599627370496 + F : Nat) : Rat) * Flo.pw ((N : Int) - 1075) = (m : Rat) * Flo.pw (p + k) ∧ ∃ n, w' = w.drewN n

/-- the exponent of the answer lies in the range of normal numbers -/
theorem exp_range (F m : Nat) (q p k : Int) (hF : F < 4503599627370496) (h : ((4503599627370496 + F : Nat) : Rat) * Flo.pw q = (m : Rat) * Flo.pw p) (h1 : Flo.pw (-1022) ≤ (m : Rat) * Flo.pw (p + k)) (h2 : (m : Rat) * Flo.pw (p + k) < Flo.pw 1024) :
    -1022 ≤ q + 52 + k ∧ q + 52 + k ≤ 1023 := by
  have e : ((4503599627370496 + F : Nat) : Rat) * Flo.pw (q + k) = (m : Rat) * Flo.pw (p + k) := by
    rw [Flo.pw_add q, Flo.pw_add p]; grind
  rw [← e] at h1 h2
  have f1 : ((4503599627370496 + F : Nat) : Rat) < 9007199254740992 := by exact_mod_cast (show 4503599627370496 + F < 9007199254740992 by omega)
  have f2 : (4503599627370496 : Rat) ≤ ((4503599627370496 + F : Nat) : Rat) := by exact_mod_cast Nat.le_add_right _ F
  have g1 := Rat.mul_lt_mul_of_pos_right f1 (Flo.pw_pos (q + k))
  have g2 := Rat.mul_le_mul_of_nonneg_right f2 (Rat.le_of_lt (Flo.pw_pos (q + k)))
  have p53 : (9007199254740992 : Rat) * Flo.pw (q + k) = Flo.pw (q + k + (53 : Nat)) := by rw [Flo.pw_add (q + k), Flo.pw_nat, show ((2 ^ 53 : Nat) : Rat) = 9007199254740992 from rfl]; grind
  have p52 : (4503599627370496 : Rat) * Flo.pw (q + k) = Flo.pw (q + k + (52 : Nat)) := by rw [Flo.pw_add (q + k), Flo.pw_nat, show ((2 ^ 52 : Nat) : Rat) = 4503599627370496 from rfl]; grind
  rw [p53] at g1
  rw [p52] at g2
  constructor
  · rcases Int.lt_or_le (q + 52 + k) (-1022) with g | g
    · exfalso
      have := Flo.pw_le (show q + k + (53 : Nat) ≤ -1022 by omega)
      grind
    · exact g
  · rcases Int.lt_or_le 1023 (q + 52 + k) with g | g
    · exfalso
      have := Flo.pw_le (show 1024 ≤ q + k + (52 : Nat) by omega)
      grind
    · exact g

theorem i64_low11 (a : Nat) (ha : a < 4096) : bits .and .i64 (a : Int) 2047 = ((a % 2048 : Nat) : Int) := by
  have hb : (BitVec.ofInt 64 2047).toNat = 2047 := by decide
  have hr : (BitVec.ofInt 64 (a : Int) &&& BitVec.ofInt 64 2047).toNat = a % 2048 := by
    rw [BitVec.toNat_and, hb, ofInt_u64 a (by omega), nat_mask11]
  show IntKind.i64.wrap ((BitVec.ofInt 64 (a : Int) &&& BitVec.ofInt 64 2047).toNat : Int) = _
  rw [hr, IntKind.wrap_i64]
  omega
theorem and_exp_i (s E F : Nat) (hs : s < 2) (hE : E < 2047) (hF : F < 4503599627370496) : bits .and .i64 (((s * 9223372036854775808 + (E * 4503599627370496 + F) : Nat) : Int) / 4503599627370496) 2047 = (E : Int) := by
  have k : (s * 2048 + E) % 2048 = E := by omega
  have e : ((s * 9223372036854775808 + (E * 4503599627370496 + F) : Nat) : Int) / 4503599627370496 = ((s * 2048 + E : Nat) : Int) := by omega
  have e2 := i64_low11 (s * 2048 + E) (by omega)
  rw [k] at e2
  exact (congrArg (fun v => bits .and .i64 v 2047) e).trans e2

/-! ### whole numbers of 64 bits, without a sign -/
theorem trunc_u64 {x : Nat} {iv : Nat} (h : floatToIntVal .f64 x .i64 = some (iv : Int)) : floatToIntVal .f64 x .u64 = some (iv : Int) := by
  unfold floatToIntVal at h ⊢
  cases hd : (FloatKind.f64.decode x).toInt .zero with
  | none => rw [hd] at h; simp at h
  | some n =>
    rw [hd] at h
    simp only at h ⊢
    have hmin : IntKind.i64.min = -9223372036854775808 := by decide
    have hmax : IntKind.i64.max = 9223372036854775807 := by decide
    have umin : IntKind.u64.min = 0 := by decide
    have umax : IntKind.u64.max = 18446744073709551615 := by decide
    rw [hmin, hmax] at h
    rw [umin, umax]
    split at h
    · rename_i hc
      injection h with h
      rw [if_pos (by omega), h]
    · simp at h

/-! ### TrailingZeros64 -/
end Go.Proofs.YtiakcibeobbonaaGreat

/- The model's l1Parts, of any number above 0.
   Conditions: those that each statement names. -/
namespace Go.Proofs.YtiakcibeobbonaaGreat
set_option linter.unusedSimpArgs false
set_option linter.unusedVariables false
open Go Go.RowKit

theorem half_exact (m : Nat) (p : Int) (hp : -1073 ≤ p) (hm0 : m ≠ 0) (hm : m < 9007199254740992) (hp2 : p ≤ 971) (y : Nat) (n : Nat) (q : Int) (hy : Ieee.double.read y = .number false n q) (hv : (n : Rat) * Flo.pw q = (m : Rat) * Flo.pw p) :
    ∃ z n' q', floatBits .quo .f64 y 4611686018427387904 = some z ∧ Ieee.double.read z = .number false n' q' ∧ (n' : Rat) * Flo.pw q' = (m : Rat) * Flo.pw (p - 1) := by
  have hD : Flo.Dy p (m : Int) y := ⟨⟨_, _, _, hy⟩, by
    rw [show Flo.W y = _ from Flo.V_eq hy]
    unfold Flo.val
    simp only [Bool.false_eq_true, if_false]
    rw [hv]
    push_cast
    grind⟩
  obtain ⟨z, z1, z2⟩ := Flo.dy_div hD (y := 4611686018427387904) (d := 1) (by decide) (by simpa using hm) (by omega) (by omega)
  obtain ⟨⟨s, n', q', hz⟩, vz⟩ := z2
  have hpos : (0 : Rat) ≤ (m : Rat) * Flo.pw (p - 1) := Flo.mag_nonneg m (p - 1)
  rw [show Flo.W z = _ from Flo.V_eq hz] at vz
  have ec : (((m : Nat) : Int) : Rat) = (m : Rat) := by exact_mod_cast rfl
  rw [ec] at vz
  refine ⟨z, n', q', z1, ?_, ?_⟩
  · cases s with
    | false => exact hz
    | true =>
      exfalso
      have p0 := Flo.pw_pos (p - 1)
      have m1 : (1 : Rat) ≤ (m : Rat) := by exact_mod_cast Nat.pos_of_ne_zero hm0
      have := Rat.mul_le_mul_of_nonneg_right m1 (Rat.le_of_lt p0)
      have := Flo.mag_nonneg n' q'
      unfold Flo.val at vz; simp at vz; grind
  · cases s with
    | false => unfold Flo.val at vz; simp at vz; exact vz
    | true =>
      have := Flo.mag_nonneg n' q'
      unfold Flo.val at vz; simp at vz; grind

def P1I (m : Nat) (p : Int) (w : World) (x e : Value) (wr : World) : Prop :=
  ∃ (j y m' : Nat) (p' : Int), e = .int .i64 (j : Int) ∧ x = .float .f64 y ∧ Ieee.double.read y = .number false m' p' ∧ (m' : Rat) * Flo.pw p' = (m : Rat) * Flo.pw (p - j) ∧ (j : Int) ≤ p ∧ w = wr
theorem ge_53 {y : Nat} (hy : Flo.Nm y) : (FloatKind.f64.format.order y 4845873199050653696 == some .gt || FloatKind.f64.format.order y 4845873199050653696 == some .eq) = decide (Flo.pw 53 ≤ Flo.W y) := by
  have h53 : Ieee.double.read 4845873199050653696 = .number false 4503599627370496 1 := by decide
  have o := Flo.order_num Ieee.double y 4845873199050653696 hy ⟨_, _, _, h53⟩
  have e2 : Flo.V Ieee.double 4845873199050653696 = Flo.pw 53 := by
    rw [Flo.V_eq h53]; unfold Flo.val
    have : Flo.pw 1 = 2 := Flo.pw_one
    rw [this, Flo.p53]
    have : ((4503599627370496 : Nat) : Rat) = 4503599627370496 := rfl
    rw [this]; simp; grind
  rw [e2] at o
  rw [show FloatKind.f64.format = Ieee.double from rfl]
  by_cases h : Flo.pw 53 ≤ Flo.W y
  · rw [decide_eq_true h, Bool.or_eq_true, beq_iff_eq, beq_iff_eq, o.2.2, o.2.1]
    rcases Rat.le_iff_lt_or_eq.1 h with g | g
    · exact .inl g
    · exact .inr g.symm
  · rw [decide_eq_false h]
    have : Ieee.double.order y 4845873199050653696 = some .lt := o.1.2 (by show Flo.W y < _; grind)
    rw [this]; rfl

set_option maxRecDepth 100000 in
set_option maxHeartbeats 1600000 in
theorem l1Parts_big (x m0 : Nat) (p0 : Int) (h : Ieee.double.read x = .number false m0 p0) (hm : m0 ≠ 0) (hB : ¬ (m0 : Rat) * Flo.pw p0 < Flo.pw 53) (w : World) :
    Calls Tryz.prog 97 #[.float .f64 x] w (PartP ((m0 : Rat) * Flo.pw p0) w) := by
  obtain ⟨b1, b2, b3⟩ := Flo.read_bound Ieee.double (by decide) x false m0 p0 h
  have b3' : p0 ≤ 971 := by
    have e1 : (2 ^ Ieee.double.exponentBits : Nat) = 2048 := by decide
    rw [Flo.lp_double, e1] at b3; omega
  have hp0 : 0 < p0 := by
    rcases Int.lt_or_le 0 p0 with g | g
    · exact g
    · exfalso
      have l := Flo.pw_le g
      rw [Flo.pw_zero] at l
      have hm : (m0 : Rat) < 9007199254740992 := by exact_mod_cast b1
      have h0 : (0 : Rat) ≤ (m0 : Rat) := by exact_mod_cast Nat.zero_le m0
      have := Rat.mul_le_mul_of_nonneg_left l h0
      rw [Flo.p53] at hB
      grind
  have H0 := Lib.hid (And.intro h hm)
  have M0 := Lib.hid (show m0 < 9007199254740992 from b1)
  clear h hm b1 b2 b3 hB
  go_enter Tryz.func97, Tryz.ntmps97
  go_wp2_with fail
  go_loopw [0, 4] (fun y e wr => P1I m0 p0 w y e wr) (fun _ e _ => (p0 - intOf e).toNat)
  case atStart => exact ⟨0, x, m0, p0, rfl, rfl, H0.out.1, by simp, by omega, rfl⟩
  case round =>
    obtain ⟨J, y0, m, p, rfl, rfl, hy0, hv0, hj0, rfl⟩ := hrel
    have Hy0 := Lib.hid (And.intro hy0 hv0)
    have ey0 : Flo.W y0 = (m0 : Rat) * Flo.pw (p0 - J) := by rw [show Flo.W y0 = _ from Flo.V_eq hy0]; unfold Flo.val; simp; exact hv0
    have hge := ge_53 (y := y0) ⟨_, _, _, hy0⟩
    have hJ : (J : Int) ≤ 2000 := by omega
    by_cases hbig : Flo.pw 53 ≤ Flo.W y0
    · rw [decide_eq_true hbig] at hge
      have hlt : (J : Int) < p0 := by
        rcases Int.lt_or_le (J : Int) p0 with g | g
        · exact g
        · exfalso
          rw [ey0] at hbig
          have l := Flo.pw_le (show p0 - J ≤ 0 by omega)
          rw [Flo.pw_zero] at l
          have hm : (m0 : Rat) < 9007199254740992 := by exact_mod_cast M0.out
          have h0 : (0 : Rat) ≤ (m0 : Rat) := by exact_mod_cast Nat.zero_le m0
          have := Rat.mul_le_mul_of_nonneg_left l h0
          rw [Flo.p53] at hbig
          grind
      obtain ⟨z, n', q', z1, z2, z3⟩ := half_exact m0 (p0 - J) (by omega) H0.out.2 M0.out (by omega) y0 m p hy0 hv0
      have r1 : ∀ w, fres w .quo .f64 y0 4611686018427387904 = z := fun w => by unfold fres; rw [z1]
      have r2 : fdr .quo .f64 y0 4611686018427387904 = 0 := by unfold fdr; rw [z1]; rfl
      have Z := Lib.hid (And.intro z2 z3)
      clear hy0 hv0 ey0 hbig z1 z2 z3
      go_wp2_with fail
      go_roundw
      case rel => exact ⟨J + 1, z, n', q', by rw [show ((J + 1 : Nat) : Int) = (J : Int) + 1 from by omega], rfl, Z.out.1, by rw [Z.out.2]; congr 2; omega, by omega, rfl⟩
      case measure => simp only [intOf]; omega
    · rw [decide_eq_false hbig] at hge
      have hB : (m : Rat) * Flo.pw p < Flo.pw 53 := by rw [hv0, ← ey0]; grind
      obtain ⟨iv, t1, t2, t3⟩ := Flo.trunc_ok y0 m p hy0 hB
      have hi := Flo.trunc_lt t2 (by grind)
      have ho := order_int (x := y0) (iv := iv) ⟨_, _, _, hy0⟩ hi
      obtain ⟨d, hd⟩ := Int.eq_ofNat_of_zero_le (show 0 ≤ p0 - J by omega)
      have eN : Flo.W y0 = ((m0 * 2 ^ d : Nat) : Rat) := by rw [ey0, hd, Flo.pw_nat]; push_cast; rfl
      have heq : Flo.W y0 = (iv : Rat) := by
        have k := Flo.int_eq (a := iv) (b := m0 * 2 ^ d) (by rw [← eN]; exact t2) (by rw [← eN]; exact t3)
        rw [eN, k]
      have cv := fun w => run_convert_float_int (P := Tryz.prog) w 54 3 .f64 .i64 y0 (iv : Int) (by kernel_rfl) Tryz.underlying3 t1
      rw [decide_eq_true heq] at ho
      have ho2 : (FloatKind.f64.format.order y0 (floatOfInt .f64 (iv : Int)) != some .eq) = false := by unfold bne; rw [ho]; rfl
      have hiv1 : 1 ≤ iv := by
        rcases Nat.eq_zero_or_pos iv with h0 | h0
        · exfalso
          rw [h0, ey0] at heq
          exact H0.out.2 (Flo.mag_zero (by rw [heq]; exact Rat.le_refl))
        · exact h0
      have Hv := Lib.hid (show (iv : Rat) * Flo.pw ((J : Int) + (0 : Nat)) = (m0 : Rat) * Flo.pw p0 from by
        rw [← heq, ey0, Rat.mul_assoc, ← Flo.pw_add]
        congr 2
        omega)
      clear hy0 hv0 ey0 hbig t2 t3 eN heq hB t1 hd
      go_wp2_with fail
      clear hge
      go_loopw [0, 4] (fun y e wr => y = .float .f64 y0 ∧ e = .int .i64 (J : Int) ∧ w = wr) (fun _ _ _ => 0)
      case atStart => exact ⟨rfl, rfl, rfl⟩
      case round =>
        obtain ⟨rfl, rfl, rfl⟩ := hrel
        go_wp2_with fail
        clear ho ho2
        go_loopw [4, 5] (fun e a wr => P3I ((m0 : Rat) * Flo.pw p0) (J : Int) w e a wr) (fun _ a _ => (intOf a).toNat)
        case atStart => exact ⟨0, iv, by simp, rfl, hiv1, by simpa using hi, Hv.out, rfl⟩
        case round =>
          obtain ⟨t, b, rfl, rfl, hb1, hbt, hbv, rfl⟩ := hrel
          have ht := pow_t hb1 hbt
          have Hb := Lib.hid (And.intro hbt hbv)
          have hb53 : b < 9007199254740992 := Nat.lt_of_le_of_lt (Nat.le_mul_of_pos_right b (Nat.two_pow_pos t)) hbt
          clear hbt hbv
          by_cases h2 : b % 2 = 0
          · have hm2 : (b : Int) % 2 = 0 := by omega
            go_wp2_with fail
            go_roundw
            case rel =>
              refine ⟨t + 1, b / 2, by rw [show (J : Int) + ((t + 1 : Nat) : Int) = (J : Int) + (t : Int) + 1 from by omega], by rw [show ((b / 2 : Nat) : Int) = (b : Int) / 2 from by omega], by omega, ?_, ?_, rfl⟩
              · have := Hb.out.1
                rw [Nat.pow_succ, Nat.mul_comm (2 ^ t) 2, ← Nat.mul_assoc, show b / 2 * 2 = b by omega]; exact this
              · rw [← Hb.out.2, show (J : Int) + ((t + 1 : Nat) : Int) = (J : Int) + (t : Int) + 1 from by omega, Flo.pw_succ]
                have e : (b : Rat) = 2 * ((b / 2 : Nat) : Rat) := by
                  have : ((2 * (b / 2) : Nat) : Rat) = (b : Rat) := by rw [show 2 * (b / 2) = b by omega]
                  rw [← this]; push_cast; rfl
                rw [e]; grind
            case measure => simp only [intOf]; omega
          · have hm2 : (b : Int) % 2 = 1 := by omega
            go_wp2_with fail
            go_ret2
            exact ⟨b, _, rfl, by omega, hb53, Hb.out.2, by omega, by omega, rfl⟩
theorem l1Parts_any (x m : Nat) (p : Int) (h : Ieee.double.read x = .number false m p) (hm : m ≠ 0) (w : World) :
    Calls Tryz.prog 97 #[.float .f64 x] w (PartP ((m : Rat) * Flo.pw p) w) := by
  by_cases hB : (m : Rat) * Flo.pw p < Flo.pw 53
  · exact l1Parts_ok x m p h hm hB w
  · exact l1Parts_big x m p h hm hB w

end Go.Proofs.YtiakcibeobbonaaGreat

/- Ceiling and release: what the program's isCeiling, isRelease and the model's l7Limits answer, of any numbers.
   Conditions: those that each statement names. -/
namespace Go.Proofs.YtiakcibeobbonaaGreat
set_option linter.unusedSimpArgs false
set_option linter.unusedVariables false
open Go Go.RowKit

def ge0 (r : Nat) : Bool := FloatKind.f32.format.order r 0 == some .gt || FloatKind.f32.format.order r 0 == some .eq
def le1 (r : Nat) : Bool := FloatKind.f32.format.order r 1065353216 == some .lt || FloatKind.f32.format.order r 1065353216 == some .eq
def gt0 (c : Nat) : Bool := FloatKind.f32.format.order c 0 == some .gt
def lim (c r : Nat) : Bool := (gt0 c && fin .f32 c) && ((ge0 r && le1 r) && !(r == 2147483648))

/-- a release between 0 and 1 -/
theorem release_case {r : Nat} (hr : r < 2 ^ 32) (h0 : ge0 r = true) (h1 : le1 r = true) :
    r = 0 ∨ r = 2147483648 ∨ (r ≠ 0 ∧ r ≠ 2147483648 ∧ wid r < 2 ^ 63 ∧ ∃ m p, Ieee.double.read (wid r) = .number false m p ∧ m ≠ 0 ∧ (m : Rat) * Flo.pw p < Flo.pw 53) := by
  have hsw : Ieee.single.signWeight = 2147483648 := by decide
  have z0 : Ieee.single.read 0 = .number false 0 (-149) := by decide
  have z1 : Ieee.single.read 2147483648 = .number true 0 (-149) := by decide
  have o1 : Ieee.single.read 1065353216 = .number false 8388608 (-23) := by decide
  cases hd : Ieee.single.read r with
  | nan s f =>
    exfalso
    unfold ge0 FloatKind.format Ieee.Format.order at h0
    simp only [hd, z0, Ieee.Datum.order] at h0
    simp at h0
  | infinity s =>
    exfalso
    cases s with
    | true =>
      unfold ge0 FloatKind.format Ieee.Format.order at h0
      simp only [hd, z0, Ieee.Datum.order] at h0
      simp at h0
    | false =>
      unfold le1 FloatKind.format Ieee.Format.order at h1
      simp only [hd, o1, Ieee.Datum.order] at h1
      simp at h1
  | number s m p =>
    have a0 := Flo.order_num Ieee.single r 0 ⟨_, _, _, hd⟩ ⟨_, _, _, z0⟩
    have a1 := Flo.order_num Ieee.single r 1065353216 ⟨_, _, _, hd⟩ ⟨_, _, _, o1⟩
    rw [Flo.V_eq hd, Flo.V_eq z0, Flo.val_zero] at a0
    have v1 : Flo.V Ieee.single 1065353216 = 1 := by
      rw [Flo.V_eq o1]; unfold Flo.val
      have e := Flo.pw_neg_mul 23
      have e2 : Flo.pw 23 = 8388608 := Flo.pw_nat 23
      rw [e2] at e
      have e3 : ((8388608 : Nat) : Rat) = 8388608 := rfl
      rw [e3]; simp; grind
    rw [Flo.V_eq hd, v1] at a1
    have hv0 : 0 ≤ Flo.val s m p := by
      unfold ge0 at h0
      rw [Bool.or_eq_true, beq_iff_eq, beq_iff_eq] at h0
      rcases h0 with h | h
      · have := a0.2.2.1 h; grind
      · have := a0.2.1.1 h; grind
    have hv1 : Flo.val s m p ≤ 1 := by
      unfold le1 at h1
      rw [Bool.or_eq_true, beq_iff_eq, beq_iff_eq] at h1
      rcases h1 with h | h
      · have := a1.1.1 h; grind
      · have := a1.2.1.1 h; grind
    by_cases hm : m = 0
    · subst hm
      cases s with
      | false => exact .inl (Flo.read_inj Ieee.single hd z0 (by rw [hsw]; omega) (by rw [hsw]; omega) (by simp))
      | true => exact .inr (.inl (Flo.read_inj Ieee.single hd z1 (by rw [hsw]; omega) (by rw [hsw]; omega) (by simp)))
    · right; right
      have hmp : 0 < (m : Rat) * Flo.pw p := Rat.mul_pos (by exact_mod_cast Nat.pos_of_ne_zero hm) (Flo.pw_pos p)
      have hs : s = false := by
        cases s with
        | false => rfl
        | true => exfalso; unfold Flo.val at hv0; simp only [if_true] at hv0; grind
      subst hs
      obtain ⟨m', p', w1, w2⟩ := wid_read hd
      have hm' : m' ≠ 0 := by
        intro e; subst e
        rw [← w2] at hmp; simp at hmp
      refine ⟨?_, ?_, ?_, m', p', w1, hm', ?_⟩
      · intro e; subst e
        rw [z0] at hd; injection hd with _ e2 _; exact hm e2.symm
      · intro e; subst e
        rw [z1] at hd; injection hd with e2 _ _; cases e2
      · obtain ⟨g1, -⟩ := Flo.read_rung Ieee.double w1
        have hw := wid_lt r
        have hsd : Ieee.double.signWeight = 2 ^ 63 := by decide
        rw [hsd] at g1
        rcases Nat.lt_or_ge (wid r) (2 ^ 63) with g | g
        · exact g
        · exfalso
          have e : wid r / 2 ^ 63 = 1 := by omega
          rw [e] at g1
          cases g1
      · rw [w2]
        have : (m : Rat) * Flo.pw p ≤ 1 := by unfold Flo.val at hv1; simpa using hv1
        rw [Flo.p53]; grind

theorem wid_zero : wid 0 = 0 := by decide
theorem wid_minus : wid 2147483648 = 9223372036854775808 := by decide
theorem text_minus (xs : List Int) (d : Int) (rest : List Int) (h : xs = d :: rest) (h1 : 48 ≤ d) (h2 : d ≤ 57) : strOfNums xs ≠ (⟨#[45, 48]⟩ : ByteArray) := by
  subst h
  intro e
  have e1 := congrArg (fun b : ByteArray => b.data.toList.head?) e
  simp [strOfNums] at e1
  have e2 := congrArg UInt8.toNat e1
  simp at e2
  omega

/-- FormatSingle of a release between 0 and 1: '-0' for that alone -/
theorem specSingle_ok (r : Nat) (hr : r < 2 ^ 32) (h0 : ge0 r = true) (h1 : le1 r = true) (w : World) :
    Calls Tryz.prog 39 #[.float .f32 r] w fun e w' => (∃ s : ByteArray, e = .returned (.string s) ∧ ((r = 2147483648 ∧ s = ⟨#[45, 48]⟩) ∨ (r ≠ 2147483648 ∧ s ≠ ⟨#[45, 48]⟩))) ∧ Nw w w' := by
  rcases release_case hr h0 h1 with rfl | rfl | ⟨n0, n1, hlt, m, p, hd, hm, hB⟩
  · have a1 : ∀ w, fcv w .f32 0 .f64 = 0 := fun w => by rw [fcv_wide (by decide)]; exact wid_zero
    have a2 : fcd .f32 0 .f64 = 0 := fcd_wide (by decide)
    go_enter Tryz.func39, Tryz.ntmps39
    go_wp2_with fail
    refine (specFormat_zero _).mono ?_
    rintro e w1 ⟨rfl, n1⟩
    have N1 := Lib.hid n1
    clear n1
    go_wp2_with fail
    go_ret
    exact ⟨⟨_, rfl, .inr ⟨by decide, by decide⟩⟩, N1.out⟩
  · have a1 : ∀ w, fcv w .f32 2147483648 .f64 = 9223372036854775808 := fun w => by rw [fcv_wide (by decide)]; exact wid_minus
    have a2 : fcd .f32 2147483648 .f64 = 0 := fcd_wide (by decide)
    go_enter Tryz.func39, Tryz.ntmps39
    go_wp2_with fail
    refine (specFormat_minus _).mono ?_
    rintro e w1 ⟨rfl, n1⟩
    have N1 := Lib.hid n1
    clear n1
    go_wp2_with fail
    go_ret
    exact ⟨⟨_, rfl, .inl ⟨by first | rfl | trivial, rfl⟩⟩, N1.out⟩
  · have hn : nan32 r = false := by
      cases hx : nan32 r with
      | false => rfl
      | true =>
        exfalso
        unfold ge0 at h0
        unfold nan32 at hx
        unfold Ieee.Format.order at h0
        unfold FloatKind.decode at hx
        cases hq : FloatKind.f32.format.read r <;> rw [hq] at hx <;> simp [Ieee.Datum.isNaN] at hx
        simp [hq, Ieee.Datum.order] at h0
    have a1 := fcv_wide hn
    have a2 := fcd_wide hn
    go_enter Tryz.func39, Tryz.ntmps39
    go_wp2_with fail
    refine (specFormat_pos (wid r) m p hd hm hB _).mono ?_
    rintro e w1 ⟨a, q, -, -, -, -, -, rfl, g1⟩
    have N1 := Lib.hid g1
    clear g1
    obtain ⟨d, rest, he, d1, d2⟩ := dgs_head a
    have hs : strOfNums (dgs a ++ 112 :: numL q) ≠ (⟨#[45, 48]⟩ : ByteArray) := text_minus _ d (rest ++ 112 :: numL q) (by rw [he]; rfl) d1 d2
    generalize strOfNums (dgs a ++ 112 :: numL q) = s at *
    go_wp2_with fail
    go_ret
    exact ⟨⟨_, rfl, .inr ⟨n1, hs⟩⟩, N1.out⟩

theorem gt0_nan {c : Nat} (h : gt0 c = true) : nan32 c = false := by
  cases hx : nan32 c with
  | false => rfl
  | true =>
    exfalso
    unfold gt0 Ieee.Format.order at h
    unfold nan32 FloatKind.decode at hx
    cases hq : FloatKind.f32.format.read c <;> rw [hq] at hx <;> simp [Ieee.Datum.isNaN] at hx
    simp [hq, Ieee.Datum.order] at h

set_option maxRecDepth 100000 in
theorem l7Limits_any (c r : Nat) (hr : r < 2 ^ 32) (w : World) :
    Calls Tryz.prog 27 #[.float .f32 c, .float .f32 r] w fun e w' => e = .returned (.bool (lim c r)) ∧ Nw w w' := by
  cases hc : gt0 c with
  | false =>
    have hl : lim c r = false := by unfold lim; rw [hc]; simp
    have Hl := Lib.hid hl
    have hc' := hc
    unfold gt0 at hc'
    clear hl hc
    go_enter Tryz.func27, Tryz.ntmps27
    go_wp2_with fail
    all_goals
      go_ret
      exact ⟨by rw [Hl.out]; rfl, Nw.refl _⟩
  | true =>
    have a1 := fcv_wide (gt0_nan hc)
    have a2 := fcd_wide (gt0_nan hc)
    have hf : fin .f64 (wid c) = fin .f32 c := by rw [← a1 w]; exact fin_up c w
    have Hf := Lib.hid hf
    have hc' := hc
    unfold gt0 at hc'
    cases hfc : fin .f32 c with
    | false =>
      have hl : lim c r = false := by unfold lim; rw [hfc]; simp
      have Hl := Lib.hid hl
      clear hl hc hf
      go_enter Tryz.func27, Tryz.ntmps27
      go_wp2_with (go_at_call 46; refine (l1Finite_any _ _).mono ?_; rintro e w1 ⟨rfl, n1, rfl⟩; rw [Hf.out, hfc])
      all_goals
        go_ret
        exact ⟨by rw [Hl.out]; rfl, (Nw.refl w).draw _⟩
    | true =>
      cases h0 : ge0 r with
      | false =>
        have hl : lim c r = false := by unfold lim; rw [h0]; simp
        have Hl := Lib.hid hl
        have h0' := h0
        unfold ge0 at h0'
        clear hl hc hf h0
        go_enter Tryz.func27, Tryz.ntmps27
        go_wp2_with (go_at_call 46; refine (l1Finite_any _ _).mono ?_; rintro e w1 ⟨rfl, n1, rfl⟩; rw [Hf.out, hfc])
        all_goals
          go_ret
          exact ⟨by rw [Hl.out]; rfl, (Nw.refl w).draw _⟩
      | true =>
        cases h1 : le1 r with
        | false =>
          have hl : lim c r = false := by unfold lim; rw [h1]; simp
          have Hl := Lib.hid hl
          have h0' := h0
          unfold ge0 at h0'
          have h1' := h1
          unfold le1 at h1'
          clear hl hc hf h0 h1
          go_enter Tryz.func27, Tryz.ntmps27
          go_wp2_with (go_at_call 46; refine (l1Finite_any _ _).mono ?_; rintro e w1 ⟨rfl, n1, rfl⟩; rw [Hf.out, hfc])
          all_goals
            go_ret
            exact ⟨by rw [Hl.out]; rfl, (Nw.refl w).draw _⟩
        | true =>
          have hl : lim c r = !(r == 2147483648) := by unfold lim; rw [hc, hfc, h0, h1]; rfl
          have Hl := Lib.hid hl
          have Hs := Lib.hid (specSingle_ok r hr h0 h1)
          have h0' := h0
          unfold ge0 at h0'
          have h1' := h1
          unfold le1 at h1'
          clear hl hc hf h0 h1
          go_enter Tryz.func27, Tryz.ntmps27
          go_wp2_with (first
            | (go_at_call 46; refine (l1Finite_any _ _).mono ?_; rintro e w1 ⟨rfl, n1, rfl⟩; rw [Hf.out, hfc])
            | (go_at_call 39; refine (Hs.out _).mono ?_; rintro e w2 ⟨⟨s, rfl, hs⟩, g2⟩; have N2 := Lib.hid (((Nw.refl w).draw _).trans g2); have Hs2 := Lib.hid hs; clear hs g2))
          all_goals
            go_ret
            refine ⟨?_, N2.out⟩
            rw [Hl.out]
            rcases Hs2.out with ⟨e1, e2⟩ | ⟨e1, e2⟩
            · simp [e1, e2]
            · have b1 : (r == 2147483648) = false := by simpa using e1
              have b2 : (s.toList == [45, 48]) = false := by
                cases hq : (s.toList == [45, 48]) with
                | false => rfl
                | true =>
                  exfalso
                  apply e2
                  have h2 : s.toList = [45, 48] := by simpa using hq
                  rw [ByteArray.toList_eq] at h2
                  apply ByteArray.ext
                  exact Array.toList_inj.1 h2
              simp [b1, b2]

/-! ### the program's -/
theorem signbit_any (x : Nat) (hx : x < 2 ^ 64) (w : World) :
    Calls Tryz.prog 77 #[.float .f64 x] w fun e w' => e = .returned (.bool (decide (2 ^ 63 ≤ x))) ∧ w = w' := by
  have h1 := call_bits x
  by_cases h : 2 ^ 63 ≤ x
  · have hw : RowKit.wrap64 (x : Int) < 0 := by unfold RowKit.wrap64; omega
    go_enter Tryz.func77, Tryz.ntmps77
    go_wp2
    all_goals (go_ret; exact ⟨by simp [h, hw], rfl⟩)
  · have hw : ¬ RowKit.wrap64 (x : Int) < 0 := by unfold RowKit.wrap64; omega
    go_enter Tryz.func77, Tryz.ntmps77
    go_wp2
    all_goals (go_ret; exact ⟨by simp [h]; try omega, rfl⟩)
theorem isCeiling_any (c : Nat) (w : World) :
    Calls Tryz.prog 51 #[.float .f32 c] w fun e w' => e = .returned (.bool (gt0 c && fin .f32 c)) ∧ w = w' := by
  cases hc : gt0 c with
  | false =>
    have hc' := hc
    unfold gt0 at hc'
    clear hc
    go_enter Tryz.func51, Tryz.ntmps51
    go_wp2_with fail
    all_goals (go_ret; exact ⟨by simp, rfl⟩)
  | true =>
    have a1 := fcv_wide (gt0_nan hc)
    have a2 := fcd_wide (gt0_nan hc)
    have hf : fin .f64 (wid c) = fin .f32 c := by rw [← a1 w]; exact fin_up c w
    have hc' := hc
    unfold gt0 at hc'
    clear hc
    go_enter Tryz.func51, Tryz.ntmps51
    go_wp2_with (go_at_call 75; refine (isFinitePart_any _ _ (wid_lt c)).mono ?_; rintro e w1 ⟨rfl, rfl⟩; rw [hf])
    all_goals (go_ret; exact ⟨by simp, rfl⟩)
theorem isFactor_any (r : Nat) (w : World) :
    Calls Tryz.prog 76 #[.float .f32 r] w fun e w' => e = .returned (.bool (ge0 r && le1 r)) ∧ w = w' := by
  cases h0 : ge0 r with
  | false =>
    have h0' := h0
    unfold ge0 at h0'
    clear h0
    go_enter Tryz.func76, Tryz.ntmps76
    go_wp2_with fail
    all_goals (go_ret; exact ⟨by simp, rfl⟩)
  | true =>
    have h0' := h0
    unfold ge0 at h0'
    clear h0
    go_enter Tryz.func76, Tryz.ntmps76
    go_wp2_with fail
    all_goals (go_ret; exact ⟨by unfold le1; simp, rfl⟩)
theorem isRelease_any (r : Nat) (hr : r < 2 ^ 32) (w : World) :
    Calls Tryz.prog 52 #[.float .f32 r] w fun e w' => e = .returned (.bool ((ge0 r && le1 r) && !(r == 2147483648))) ∧ w = w' := by
  cases hf : (ge0 r && le1 r) with
  | false =>
    have Hf := Lib.hid hf
    clear hf
    go_enter Tryz.func52, Tryz.ntmps52
    go_wp2_with (go_at_call 76; refine (isFactor_any _ _).mono ?_; rintro e w1 ⟨rfl, rfl⟩; rw [Hf.out])
    all_goals (go_ret; exact ⟨by simp, rfl⟩)
  | true =>
    have h01 : ge0 r = true ∧ le1 r = true := by simpa using hf
    have hsb : nan32 r = false ∧ decide (2 ^ 63 ≤ wid r) = (r == 2147483648) := by
      rcases release_case hr h01.1 h01.2 with rfl | rfl | ⟨n0, n1, hlt, m, p, hd, -⟩
      · exact ⟨by decide, by decide⟩
      · exact ⟨by decide, by decide⟩
      · refine ⟨?_, ?_⟩
        · cases hx : nan32 r with
          | false => rfl
          | true =>
            have hwn := nan_wide hx w
            exfalso
            have h0 := h01.1
            unfold ge0 Ieee.Format.order at h0
            unfold nan32 FloatKind.decode at hx
            cases hq : FloatKind.f32.format.read r <;> rw [hq] at hx <;> simp [Ieee.Datum.isNaN] at hx
            simp [hq, Ieee.Datum.order] at h0
        · rw [decide_eq_false (by omega)]
          simpa using n1
    have a1 := fcv_wide hsb.1
    have a2 := fcd_wide hsb.1
    have Hf := Lib.hid hf
    have Hs := Lib.hid hsb.2
    clear hf h01 hsb
    go_enter Tryz.func52, Tryz.ntmps52
    go_wp2_with (first
      | (go_at_call 76; refine (isFactor_any _ _).mono ?_; rintro e w1 ⟨rfl, rfl⟩; rw [Hf.out])
      | (go_at_call 77; refine (signbit_any _ (wid_lt r) _).mono ?_; rintro e w2 ⟨rfl, rfl⟩; rw [Hs.out]))
    all_goals (go_ret; exact ⟨by simp, rfl⟩)

end Go.Proofs.YtiakcibeobbonaaGreat

/- impl.oddPart, and impl.FormatDouble of a number that is not 0.
   Conditions: those that each statement names. -/
namespace Go.Proofs.YtiakcibeobbonaaGreat
set_option linter.unusedSimpArgs false
set_option linter.unusedVariables false
open Go Go.RowKit

theorem tabAt_nw {g : Nat} {tab : List Nat} {w w' : World} (h : Nw w w') (hg : g < w.heap.size) (t : TabAt g tab w) : TabAt g tab w' := fun j hj => by
  rw [h.cell (p := ⟨g, j, none⟩) hg]; exact t j hj

theorem odd_split (M : Nat) (h0 : M ≠ 0) (h : M < 18446744073709551616) : ∃ a, a % 2 = 1 ∧ M = 2 ^ Lib.ctz 64 M * a ∧ Lib.ctz 64 M < 64 := by
  unfold Lib.ctz
  rw [if_neg h0]
  obtain ⟨j, hj, hl⟩ := Lib.ctzFrom_spec 64 M (Nat.pos_of_ne_zero h0) h
  exact ⟨2 * j + 1, by omega, hj, hl⟩

def OddP (V : Rat) (w : World) (e : Ending) (w' : World) : Prop :=
  ∃ (a : Nat) (q : Int), e = .returned (.tuple #[.int .u64 (a : Int), .int .i64 q]) ∧ a % 2 = 1 ∧ a < 9007199254740992 ∧ (a : Rat) * Flo.pw q = V ∧ -2000 ≤ q ∧ q ≤ 2000 ∧ ∃ n, w' = w.drewN n

end Go.Proofs.YtiakcibeobbonaaGreat

/- FormatDouble, the program's and the model's, of any number.
   Conditions: those that each statement names. -/
namespace Go.Proofs.YtiakcibeobbonaaGreat
set_option linter.unusedSimpArgs false
set_option linter.unusedVariables false
open Go Go.RowKit

def sgn (sg : Bool) : List Int := if sg then [45] else []
/-- the text of a number that is not 0 -/
def FmtT (sg : Bool) (V : Rat) (w : World) (e : Ending) (w' : World) : Prop :=
  ∃ (a : Nat) (q : Int), a % 2 = 1 ∧ a < 9007199254740992 ∧ (a : Rat) * Flo.pw q = V ∧ -2000 ≤ q ∧ q ≤ 2000 ∧ e = .returned (.string (strOfNums (sgn sg ++ (dgs a ++ 112 :: numL q)))) ∧ Nw w w'

theorem add_str (xs ys : List Int) (hx : xs.length ≤ 100) (hy : ys.length ≤ 100) (w : World) : (Op.stringOp .add (strOfNums xs) (strOfNums ys)).run Tryz.prog w = .ok (.string (strOfNums (xs ++ ys))) w := by
  rw [run_string_add _ _ _ (by rw [strOfNums_size]; omega) (by rw [strOfNums_size]; omega), str_app]

theorem tabs_draw {w w' : World} (h : Nw w w') (t : Lib.TabIs Tryz.prog w "internal/strconv.uint64pow10" .u64 Lib.pow10Tab) : Lib.TabIs Tryz.prog w' "internal/strconv.uint64pow10" .u64 Lib.pow10Tab := tab_nw h t

theorem abs_rd (x m : Nat) (sg : Bool) (p : Int) (h : Ieee.double.read x = .number sg m p) : Ieee.double.read (x % signBit) = .number false m p := by
  show FloatKind.f64.decode (x % signBit) = _
  rw [mod_read, show FloatKind.f64.decode x = _ from h]
theorem sign_bit (x m : Nat) (sg : Bool) (p : Int) (hx : x < 18446744073709551616) (h : Ieee.double.read x = .number sg m p) : decide (2 ^ 63 ≤ x) = sg := by
  obtain ⟨s, hs, hsg, hc⟩ := word_cases x m sg p hx h
  rcases Nat.lt_or_ge s 1 with g | g
  · obtain rfl : s = 0 := by omega
    rw [hsg]
    rcases hc with ⟨hx1, hm2, hp⟩ | ⟨E, F, hx1, k1, k2, k3, k4, k5⟩
    · simp; omega
    · simp; omega
  · obtain rfl : s = 1 := by omega
    rw [hsg]
    rcases hc with ⟨hx1, hm2, hp⟩ | ⟨E, F, hx1, k1, k2, k3, k4, k5⟩
    · simp; omega
    · simp; omega

set_option maxRecDepth 100000 in
theorem specFormat_ok (x m : Nat) (sg : Bool) (p : Int) (hx : x < 18446744073709551616) (h : Ieee.double.read x = .number sg m p) (hm : m ≠ 0) (w : World) :
    Calls Tryz.prog 66 #[.float .f64 x] w (FmtT sg ((m : Rat) * Flo.pw p) w) := by
  have hx' : x < 2 ^ 64 := hx
  have hf : fin .f64 x = true := fin_num ⟨_, _, _, h⟩
  have e1 := ne0_num x m sg p h hm
  have hmp : 0 < (m : Rat) * Flo.pw p := by
    have h1 : (0 : Rat) < (m : Rat) := by exact_mod_cast Nat.pos_of_ne_zero hm
    exact Rat.mul_pos h1 (Flo.pw_pos p)
  have o := Flo.order_num Ieee.double x 0 ⟨_, _, _, h⟩ zero_num.1
  rw [show Flo.V Ieee.double 0 = 0 from zero_num.2] at o
  have hV := Flo.V_eq h
  have e2 : (FloatKind.f64.format.order x 0 == some .lt) = sg := by
    cases sg
    · have : FloatKind.f64.format.order x 0 = some .gt := o.2.2.2 (by rw [hV]; unfold Flo.val; simp; exact hmp)
      rw [this]; rfl
    · have : FloatKind.f64.format.order x 0 = some .lt := o.1.2 (by rw [hV]; unfold Flo.val; simp; grind)
      rw [this]; rfl
  have hl : ∃ m' p', Ieee.double.read (labs x) = .number false m' p' ∧ m' ≠ 0 ∧ (m' : Rat) * Flo.pw p' = (m : Rat) * Flo.pw p := by
    obtain ⟨⟨s', m', p', r⟩, v⟩ := labs_num x hx' ⟨_, _, _, h⟩
    have v1 : ra (Flo.W x) = (m : Rat) * Flo.pw p := by
      rw [show Flo.W x = _ from hV]
      unfold Flo.val ra
      cases sg
      · simp; grind
      · simp; grind
    rw [v1, show Flo.W (labs x) = _ from Flo.V_eq r] at v
    have nn := Flo.mag_nonneg m' p'
    cases s'
    · unfold Flo.val at v
      simp at v
      refine ⟨m', p', r, ?_, v⟩
      rintro rfl
      simp at v
      grind
    · exfalso
      unfold Flo.val at v
      simp at v
      grind
  obtain ⟨m', p', r, hm', hv⟩ := hl
  have H := Lib.hid (And.intro r (And.intro hm' hv))
  clear h hm o hV hmp r hm' hv
  cases sg
  all_goals
    go_enter Tryz.func66, Tryz.ntmps66
    go_wp2_with fail
    refine (l1Finite_any _ _).mono ?_
    rintro e w1 ⟨rfl, n1, rfl⟩
    rw [hf]
    go_wp2_with fail
    refine (l1Abs_any _ _).mono ?_
    rintro e w2 ⟨rfl, rfl⟩
    go_wp2_with fail
    refine (l1Parts_any _ m' p' H.out.1 H.out.2.1 _).mono ?_
    rw [H.out.2.2]
    rintro e w3 ⟨a, q, rfl, ha, ha53, hv, hq1, hq2, rfl⟩
    have A := Lib.hid (And.intro ha (And.intro ha53 hv))
    have l1 := dgs_len 17 a (by omega)
    have l2 := numL_len q ⟨hq1, hq2⟩
    have s0 : (⟨#[]⟩ : ByteArray) = strOfNums [] := rfl
    have s1 : (⟨#[45]⟩ : ByteArray) = strOfNums [45] := rfl
    have s2 : (⟨#[112]⟩ : ByteArray) = strOfNums [112] := rfl
    have c1 : ∀ w, (Op.stringOp .add (⟨#[]⟩ : ByteArray) (strOfNums (dgs a))).run Tryz.prog w = .ok (.string (strOfNums (dgs a))) w := fun w => by rw [s0, add_str _ _ (by simp) (by omega)]; rfl
    have c1' : ∀ w, (Op.stringOp .add (⟨#[45]⟩ : ByteArray) (strOfNums (dgs a))).run Tryz.prog w = .ok (.string (strOfNums (45 :: dgs a))) w := fun w => by rw [s1, add_str _ _ (by simp) (by omega)]; rfl
    have c2 : ∀ w, (Op.stringOp .add (strOfNums (dgs a)) (⟨#[112]⟩ : ByteArray)).run Tryz.prog w = .ok (.string (strOfNums (dgs a ++ [112]))) w := fun w => by rw [s2, add_str _ _ (by omega) (by simp)]
    have c2' : ∀ w, (Op.stringOp .add (strOfNums (45 :: dgs a)) (⟨#[112]⟩ : ByteArray)).run Tryz.prog w = .ok (.string (strOfNums (45 :: (dgs a ++ [112])))) w := fun w => by rw [s2, add_str _ _ (by simp; omega) (by simp)]; rfl
    have c3 : ∀ w, (Op.stringOp .add (strOfNums (dgs a ++ [112])) (strOfNums (numL q))).run Tryz.prog w = .ok (.string (strOfNums (dgs a ++ 112 :: numL q))) w := fun w => by rw [add_str _ _ (by simp; omega) (by omega)]; simp
    have c3' : ∀ w, (Op.stringOp .add (strOfNums (45 :: (dgs a ++ [112]))) (strOfNums (numL q))).run Tryz.prog w = .ok (.string (strOfNums (45 :: (dgs a ++ 112 :: numL q)))) w := fun w => by rw [add_str _ _ (by simp; omega) (by omega)]; simp
    clear ha ha53 hv l1 l2 s0 s1 s2
    go_wp2_with fail
    refine (l1Number_ok a (by have := A.out.2.1; omega) _).mono ?_
    rintro e w4 ⟨rfl, n4⟩
    have N4 := Lib.hid (((Nw.refl w).draw _).trans n4)
    clear n4
    go_wp2_with fail
    refine (l1Num_any q ⟨hq1, hq2⟩ _).mono ?_
    rintro e w5 ⟨rfl, n5⟩
    have N5 := Lib.hid (N4.out.trans n5)
    clear n5
    go_wp2_with fail
    go_ret
    exact ⟨a, q, A.out.1, A.out.2.1, A.out.2.2, hq1, hq2, rfl, N5.out⟩

end Go.Proofs.YtiakcibeobbonaaGreat

/- FormatDouble of any double at all; the laws FnExactFormatDouble, FnExactFormatSingle as calls.
   Conditions: those that each statement names. -/
namespace Go.Proofs.YtiakcibeobbonaaGreat
set_option linter.unusedSimpArgs false
set_option linter.unusedVariables false
open Go Go.RowKit

def TxtOf (x : Nat) (xs : List Int) : Prop :=
  (fin .f64 x = false ∧ xs = []) ∨ (x = 0 ∧ xs = [48]) ∨ (x = 9223372036854775808 ∧ xs = [45, 48]) ∨
  ∃ (sg : Bool) (m : Nat) (p : Int) (a : Nat) (q : Int), Ieee.double.read x = .number sg m p ∧ m ≠ 0 ∧ a % 2 = 1 ∧ a < 9007199254740992 ∧ (a : Rat) * Flo.pw q = (m : Rat) * Flo.pw p ∧ -2000 ≤ q ∧ q ≤ 2000 ∧ xs = sgn sg ++ (dgs a ++ 112 :: numL q)
def TxtP (x : Nat) (w : World) (e : Ending) (w' : World) : Prop := ∃ xs, e = .returned (.string (strOfNums xs)) ∧ TxtOf x xs ∧ Nw w w'

theorem txt_cases (x : Nat) (hx : x < 18446744073709551616) : fin .f64 x = false ∨ x = 0 ∨ x = 9223372036854775808 ∨ ∃ sg m p, Ieee.double.read x = .number sg m p ∧ m ≠ 0 := by
  cases h : FloatKind.f64.decode x with
  | infinity s => left; unfold fin; rw [h]
  | nan s f => left; unfold fin; rw [h]
  | number sg m p =>
    by_cases hm : m = 0
    · subst hm
      obtain ⟨s, hs, hsg, hc⟩ := word_cases x 0 sg p hx h
      rcases hc with ⟨hx1, hm2, hp⟩ | ⟨E, F, hx1, k1, k2, k3, k4, k5⟩
      · rcases Nat.lt_or_ge s 1 with g | g
        · exact .inr (.inl (by omega))
        · exact .inr (.inr (.inl (by omega)))
      · omega
    · exact .inr (.inr (.inr ⟨sg, m, p, h, hm⟩))

theorem txt_unique {x : Nat} {xs ys : List Int} (h1 : TxtOf x xs) (h2 : TxtOf x ys) : xs = ys := by
  have f0 : fin .f64 0 = true := by decide
  have f1 : fin .f64 9223372036854775808 = true := by decide
  have r0 : Ieee.double.read 0 = .number false 0 (-1074) := by decide
  have r1 : Ieee.double.read 9223372036854775808 = .number true 0 (-1074) := by decide
  rcases h1 with ⟨a1, rfl⟩ | ⟨rfl, rfl⟩ | ⟨rfl, rfl⟩ | ⟨sg, m, p, a, q, b1, b2, b3, b4, b5, b6, b7, rfl⟩
  · rcases h2 with ⟨_, rfl⟩ | ⟨rfl, rfl⟩ | ⟨rfl, rfl⟩ | ⟨sg, m, p, a, q, b1, b2, _⟩
    · rfl
    · rw [f0] at a1; simp at a1
    · rw [f1] at a1; simp at a1
    · rw [fin_num ⟨_, _, _, b1⟩] at a1; simp at a1
  · rcases h2 with ⟨a1, rfl⟩ | ⟨_, rfl⟩ | ⟨h, rfl⟩ | ⟨sg, m, p, a, q, b1, b2, _⟩
    · rw [f0] at a1; simp at a1
    · rfl
    · simp at h
    · rw [r0] at b1; injection b1 with _ e _; exact absurd e.symm b2
  · rcases h2 with ⟨a1, rfl⟩ | ⟨h, rfl⟩ | ⟨_, rfl⟩ | ⟨sg, m, p, a, q, b1, b2, _⟩
    · rw [f1] at a1; simp at a1
    · simp at h
    · rfl
    · rw [r1] at b1; injection b1 with _ e _; exact absurd e.symm b2
  · rcases h2 with ⟨a1, rfl⟩ | ⟨rfl, rfl⟩ | ⟨rfl, rfl⟩ | ⟨sg', m', p', a', q', c1, c2, c3, c4, c5, c6, c7, rfl⟩
    · rw [fin_num ⟨_, _, _, b1⟩] at a1; simp at a1
    · rw [r0] at b1; injection b1 with _ e _; exact absurd e.symm b2
    · rw [r1] at b1; injection b1 with _ e _; exact absurd e.symm b2
    · rw [b1] at c1
      injection c1 with e1 e2 e3
      subst e1 e2 e3
      obtain ⟨rfl, rfl⟩ := odd_unique a a' q q' b3 c3 (by rw [b5, c5])
      rfl

set_option maxRecDepth 100000 in
theorem specText (x : Nat) (hx : x < 18446744073709551616) (w : World) : Calls Tryz.prog 66 #[.float .f64 x] w (TxtP x w) := by
  rcases txt_cases x hx with hf | rfl | rfl | ⟨sg, m, p, h, hm⟩
  · have hP : ∀ n, TxtP x w (.returned (.string ⟨#[]⟩)) (w.drewN n) := fun n => ⟨[], rfl, .inl ⟨hf, rfl⟩, (Nw.refl w).draw n⟩
    go_enter Tryz.func66, Tryz.ntmps66
    go_wp2_with fail
    refine (l1Finite_any _ _).mono ?_
    rintro e w1 ⟨rfl, n1, rfl⟩
    rw [hf]
    go_wp2_with fail
    go_ret
    exact hP _
  · exact (specFormat_zero w).mono fun e w' h => ⟨[48], by rw [h.1]; rfl, .inr (.inl ⟨rfl, rfl⟩), h.2⟩
  · exact (specFormat_minus w).mono fun e w' h => ⟨[45, 48], by rw [h.1]; rfl, .inr (.inr (.inl ⟨rfl, rfl⟩)), h.2⟩
  · refine (specFormat_ok x m sg p hx h hm w).mono ?_
    rintro e w' ⟨a, q, b1, b2, b3, b4, b5, rfl, n⟩
    exact ⟨_, rfl, .inr (.inr (.inr ⟨sg, m, p, a, q, h, hm, b1, b2, b3, b4, b5, rfl⟩)), n⟩

end Go.Proofs.YtiakcibeobbonaaGreat

/- The walks of the tests of modes and bodies whose parts are finite, the program's and the law's: both say what 'modeB' says.
   Conditions: those that each statement names. -/
namespace Go.Proofs.YtiakcibeobbonaaGreat
set_option linter.unusedSimpArgs false
set_option linter.unusedVariables false
open Go Go.RowKit

set_option maxHeartbeats 1600000 in
theorem isModeOf_fin (pr pi gr gi : Nat) (w : World) (S1 : Sm pr) (S2 : Sm pi) (S3 : Sm gr) (S4 : Sm gi) :
    Calls Tryz.prog 114 #[.complex .f64 (wid pr) (wid pi), .complex .f64 (wid gr) (wid gi)] w fun e w' => e = .returned (.bool (modeB pr pi gr gi labs)) ∧ w = w' := by
  have hB : modeB pr pi gr gi labs = (leB (sqr (wid pr) (wid pi)) 4607182418800017408 && (leB (labs (wid gr)) 4652218415073722368 && leB (labs (wid gi)) 4652218415073722368)) := by
    unfold modeB
    rw [(fin_iff' .f32 pr).2 S1, (fin_iff' .f32 pi).2 S2, (fin_iff' .f32 gr).2 S3, (fin_iff' .f32 gi).2 S4]
    rfl
  rw [hB]
  clear hB
  obtain ⟨a, b, m1, m2, m3, -, -⟩ := sqr_num S1 S2
  have f1 : ∀ w, fres w .mul .f64 (wid pr) (wid pr) = a := fun w => by unfold fres; rw [m1]
  have f2 : ∀ w, fres w .mul .f64 (wid pi) (wid pi) = b := fun w => by unfold fres; rw [m2]
  have f3 : ∀ w, fres w .add .f64 a b = sqr (wid pr) (wid pi) := fun w => by unfold fres; rw [m3]
  have d1 : fdr .mul .f64 (wid pr) (wid pr) = 0 := by unfold fdr; rw [m1]; rfl
  have d2 : fdr .mul .f64 (wid pi) (wid pi) = 0 := by unfold fdr; rw [m2]; rfl
  have d3 : fdr .add .f64 a b = 0 := by unfold fdr; rw [m3]; rfl
  rw [← leB_abs (wid_lt _) (wid_num S3).1 num_1024, ← leB_abs (wid_lt _) (wid_num S4).1 num_1024]
  have W1 := fin_wid S1
  have W2 := fin_wid S2
  have W3 := fin_wid S3
  have W4 := fin_wid S4
  clear m1 m2 m3 S1 S2 S3 S4
  cases h5 : leB (sqr (wid pr) (wid pi)) 4607182418800017408 <;> cases h6 : leB (wid gr % signBit) 4652218415073722368 <;> cases h7 : leB (wid gi % signBit) 4652218415073722368
  all_goals
    unfold leB at h5 h6 h7
    go_enter Tryz.func114, Tryz.ntmps114
    go_wp2_with (first
      | (go_at_call 120; refine (implFinite_any _ _ _ (wid_lt _) (wid_lt _)).mono ?_; rintro e w' ⟨rfl, rfl⟩)
      | (go_at_call 96; refine (abs_any _ _ (wid_lt _)).mono ?_; rintro e w' ⟨rfl, rfl⟩))
    all_goals (go_ret; exact ⟨by simp [h5, h6, h7], rfl⟩)

theorem implIsMode_fin (pr pi gr gi : Nat) (w : World) (h1 : Sm pr) (h2 : Sm pi) (h3 : Sm gr) (h4 : Sm gi) :
    Calls Tryz.prog 104 #[.agg #[.complex .f32 pr pi, .complex .f32 gr gi]] w (TestP (modeB pr pi gr gi labs) w) := by
  have S1 := Lib.hid h1
  have S2 := Lib.hid h2
  have S3 := Lib.hid h3
  have S4 := Lib.hid h4
  clear h1 h2 h3 h4
  go_enter Tryz.func104, Tryz.ntmps104
  go_wp2_with fail
  go_quiet (first
    | (go_at_call 115; with_reducible exact quiet_eq (implWiden_fin _ _ _ S1.out S2.out))
    | (go_at_call 115; with_reducible exact quiet_eq (implWiden_fin _ _ _ S3.out S4.out))
    | (go_at_call 114; exact quiet_eq (isModeOf_fin _ _ _ _ _ S1.out S2.out S3.out S4.out)))
  go_wp2
  go_ret
  exact ⟨rfl, ((Nw.refl _).alloc _).draw _⟩

def M4.okB (m : M4) : Bool := modeB m.pr m.pi m.gr m.gi labs
def M4.Fin (m : M4) : Prop := Sm m.pr ∧ Sm m.pi ∧ Sm m.gr ∧ Sm m.gi
theorem M4.okB_iff (m : M4) : m.okB = true ↔ m.ok := Iff.rfl
def bodyB (ms : List M4) : Bool := decide (ms.length ≤ 16) && ms.all M4.okB
theorem bodyB_iff (ms : List M4) : bodyB ms = true ↔ ms.length ≤ 16 ∧ ∀ m ∈ ms, m.ok := by
  unfold bodyB
  rw [Bool.and_eq_true, decide_eq_true_iff, List.all_eq_true]
  exact Iff.rfl
theorem bodyB_bad {ms : List M4} {m : M4} (hm : m ∈ ms) (h : m.okB = false) : bodyB ms = false := by
  cases hb : bodyB ms
  · rfl
  · have := ((bodyB_iff ms).1 hb).2 m hm
    rw [← M4.okB_iff, h] at this
    cases this
theorem bodyB_all {ms : List M4} (hl : ms.length ≤ 16) (h : ∀ k : Nat, k < ms.length → ∀ m, ms[k]? = some m → m.okB = true) : bodyB ms = true := by
  rw [bodyB_iff]
  refine ⟨hl, fun m hm => ?_⟩
  obtain ⟨k, hk⟩ := List.getElem?_of_mem hm
  exact h k (List.getElem?_eq_some_iff.1 hk).1 m hk
theorem bodyB_long {ms : List M4} (h : 16 < ms.length) : bodyB ms = false := by
  unfold bodyB
  rw [decide_eq_false (by omega)]; rfl

def TestI (ms : List M4) (n : Nat) (w : World) (i : Value) (wr : World) : Prop := ∃ k : Nat, k ≤ n ∧ i = .int .i64 (k : Int) ∧ (∀ j : Nat, j < k → ∀ m, ms[j]? = some m → m.okB = true) ∧ Nw w wr

theorem implIsBody_fin (ms : List M4) (hms : ∀ m ∈ ms, m.Fin) (n bm : Nat) (v : Value) (hn : ms.length = n) (hn64 : n ≤ 64) (w : World)
    (hm : w.ownsRow bm 93 2 v n (cellsM ms)) :
    Calls Tryz.prog 78 #[.agg #[v]] w (TestP (bodyB ms) w) := by
  obtain ⟨va, vc, rfl⟩ := own_shape' hm
  have Hm := Lib.hid hm
  have Hms := Lib.hid hms
  have Hn := Lib.hid hn
  have Hn0 := Lib.hid ((Nw.refl w).alloc (.cells #[.slice va n vc] 65 (0, 0)))
  clear hm hms hn
  by_cases hn16 : n ≤ 16
  · go_enter Tryz.func78, Tryz.ntmps78
    go_wp2_with fail
    go_loopw [12] (fun i wr => TestI ms n w i wr) (fun i _ => n - (intOf i).toNat)
    case atStart => exact ⟨0, by omega, rfl, fun j hj => absurd hj (by omega), Hn0.out⟩
    case round =>
      obtain ⟨k, hk, rfl, hal, hnw⟩ := hrel
      have Hnw := Lib.hid hnw
      have Hal := Lib.hid hal
      clear hnw hal
      by_cases hlt : k < n
      · obtain ⟨m, hmk⟩ : ∃ m, ms[k]? = some m := ⟨ms[k]'(by rw [Hn.out]; exact hlt), List.getElem?_eq_getElem _⟩
        have Hmr := Lib.hid (own_nw Hm.out Hnw.out)
        obtain ⟨g, cap, hv, hcap, hmax, hgs, e1, e2⟩ := own_mode Hmr.out hmk Hn.out.symm
        cases hv
        have Hmo := Lib.hid (Hms.out m (List.mem_of_getElem? hmk))
        unfold maxLen at hmax
        have Hnw4 := Lib.hid (Hnw.out.alloc (.cells #[.complex .f32 m.pr m.pi, .complex .f32 m.gr m.gi] 93 (0, 0)))
        have Hmk := Lib.hid hmk
        clear hmk
        go_wp2_with fail
        refine (implIsMode_fin _ _ _ _ _ Hmo.out.1 Hmo.out.2.1 Hmo.out.2.2.1 Hmo.out.2.2.2).mono ?_
        rintro e w5 ⟨rfl, n5⟩
        have Hnw5 := Lib.hid (Hnw4.out.trans n5)
        clear n5 e1 e2
        cases hb : modeB m.pr m.pi m.gr m.gi labs with
        | false =>
          go_wp2_with fail
          go_ret
          exact ⟨by rw [bodyB_bad (List.mem_of_getElem? Hmk.out) hb]; first | done | rfl, Hnw5.out⟩
        | true =>
          go_wp2_with fail
          go_roundw
          case rel =>
            refine ⟨k + 1, by omega, by rw [show ((k + 1 : Nat) : Int) = (k : Int) + 1 from by omega], fun j hj m' hm' => ?_, Hnw5.out⟩
            by_cases hjk : j < k
            · exact Hal.out j hjk m' hm'
            · obtain rfl : j = k := by omega
              rw [Hmk.out] at hm'
              cases hm'
              exact hb
          case measure => simp only [intOf]; omega
      · go_wp2_with fail
        go_ret
        exact ⟨by rw [bodyB_all (by rw [Hn.out]; exact hn16) (fun j hj => Hal.out j (by have := Hn.out; omega))]; first | done | rfl, Hnw.out⟩
  · go_enter Tryz.func78, Tryz.ntmps78
    go_wp2_with fail
    go_ret
    exact ⟨by rw [bodyB_long (by rw [Hn.out]; omega)]; first | done | rfl, Hn0.out⟩

theorem specModes_fin (ms : List M4) (n bm : Nat) (v : Value) (hn : ms.length = n) (hn64 : n ≤ 64) (w : World)
    (hm : w.ownsRow bm 93 2 v n (cellsM ms)) :
    Calls Tryz.prog 47 #[v] w (TestP (bodyB ms) w) := by
  obtain ⟨va, vc, rfl⟩ := own_shape' hm
  have Hm := Lib.hid hm
  have Hn := Lib.hid hn
  clear hm hn
  go_enter Tryz.func47, Tryz.ntmps47
  go_wp2_with fail
  go_loopw [7] (fun i wr => TestI ms n w i wr) (fun i _ => n - (intOf i).toNat)
  case atStart => exact ⟨0, by omega, rfl, fun j hj => absurd hj (by omega), Nw.refl _⟩
  case round =>
    obtain ⟨k, hk, rfl, hal, hnw⟩ := hrel
    have Hnw := Lib.hid hnw
    have Hal := Lib.hid hal
    clear hnw hal
    by_cases hlt : k < n
    · obtain ⟨m, hmk⟩ : ∃ m, ms[k]? = some m := ⟨ms[k]'(by rw [Hn.out]; exact hlt), List.getElem?_eq_getElem _⟩
      have Hmr := Lib.hid (own_nw Hm.out Hnw.out)
      obtain ⟨g, cap, hv, hcap, hmax, hgs, e1, e2⟩ := own_mode Hmr.out hmk Hn.out.symm
      cases hv
      unfold maxLen at hmax
      have Hnw4 := Lib.hid (Hnw.out.alloc (.cells #[.complex .f32 m.pr m.pi, .complex .f32 m.gr m.gi] 93 (0, 0)))
      have Hmk := Lib.hid hmk
      clear hmk
      go_wp2_with fail
      refine (specMode_any _ _ _ _ _).mono ?_
      rintro e w5 ⟨rfl, n5⟩
      have Hnw5 := Lib.hid (Hnw4.out.trans n5)
      clear n5 e1 e2
      cases hb : modeB m.pr m.pi m.gr m.gi labs with
      | false =>
        go_wp2_with fail
        go_ret
        exact ⟨by rw [bodyB_bad (List.mem_of_getElem? Hmk.out) hb]; first | done | rfl, Hnw5.out⟩
      | true =>
        go_wp2_with fail
        go_roundw
        case rel =>
          refine ⟨k + 1, by omega, by rw [show ((k + 1 : Nat) : Int) = (k : Int) + 1 from by omega], fun j hj m' hm' => ?_, Hnw5.out⟩
          by_cases hjk : j < k
          · exact Hal.out j hjk m' hm'
          · obtain rfl : j = k := by omega
            rw [Hmk.out] at hm'
            cases hm'
            exact hb
        case measure => simp only [intOf]; omega
    · go_wp2_with fail
      go_ret
      refine ⟨?_, Hnw.out⟩
      by_cases hn16 : n ≤ 16
      · rw [bodyB_all (by rw [Hn.out]; exact hn16) (fun j hj => Hal.out j (by have := Hn.out; omega))]
        simp [hn16]
        first | done | omega
      · rw [bodyB_long (by rw [Hn.out]; omega)]
        simp [hn16]
        first | done | omega

theorem specIsBody_fin (ms : List M4) (n bm : Nat) (v : Value) (hn : ms.length = n) (hn64 : n ≤ 64) (w : World)
    (hm : w.ownsRow bm 93 2 v n (cellsM ms)) :
    Calls Tryz.prog 28 #[.agg #[v]] w (TestP (bodyB ms) w) := by
  obtain ⟨va, vc, rfl⟩ := own_shape' hm
  have Hm := Lib.hid (hm.alloc (.cells #[.slice va n vc] 65 (0, 0)))
  have Hn0 := Lib.hid ((Nw.refl w).alloc (.cells #[.slice va n vc] 65 (0, 0)))
  clear hm
  go_enter Tryz.func28, Tryz.ntmps28
  go_wp2_with fail
  refine (specModes_fin ms n bm _ hn hn64 _ Hm.out).mono ?_
  rintro e w1 ⟨rfl, n1⟩
  have Hn1 := Lib.hid (Hn0.out.trans n1)
  clear n1
  go_wp2
  go_ret
  exact ⟨rfl, Hn1.out⟩

end Go.Proofs.YtiakcibeobbonaaGreat

/- Plain facts: a product with a factor from 0 to 1 is no greater; squares and sums of squares grow with the parts; a damped pole stays valid. No program stands in it.
   Conditions: those that each statement names. -/
namespace Go.Proofs.YtiakcibeobbonaaGreat
set_option linter.unusedSimpArgs false
set_option linter.unusedVariables false
open Go

namespace Flo
theorem val_ra (s : Bool) (m : Nat) (p : Int) : ra (val s m p) = (m : Rat) * pw p := by
  have h := mag_nonneg m p
  unfold ra val
  cases s
  · simp only [Bool.false_eq_true, if_false]; rw [if_neg (by grind)]; grind
  · simp only [if_true]
    split <;> grind
theorem mul_mono (f : Ieee.Format) (he : 2 ≤ f.exponentBits) (x y x' y' : Nat) (hx : IsNum f x) (hy : IsNum f y) (hx' : IsNum f x') (hy' : IsNum f y') (h : ra (V f x * V f y) ≤ ra (V f x' * V f y')) (hB : ra (V f x' * V f y') < pw (top f)) :
    ∃ r r', f.mul x y = some r ∧ f.mul x' y' = some r' ∧ IsNum f r ∧ IsNum f r' ∧ ra (V f r) ≤ ra (V f r') := by
  obtain ⟨s, m, i, hx⟩ := hx
  obtain ⟨t, n, j, hy⟩ := hy
  obtain ⟨s', m', i', hx'⟩ := hx'
  obtain ⟨t', n', j', hy'⟩ := hy'
  rw [V_eq hx, V_eq hy, V_eq hx', V_eq hy', ← val_mul, ← val_mul, val_ra, val_ra] at h
  rw [V_eq hx', V_eq hy', ← val_mul, val_ra] at hB
  obtain ⟨a, b, c, d, k1, k2, k3⟩ := write_mono f he (s ^^ t) (s' ^^ t') (m * n) (m' * n') (i + j) (i' + j') h hB
  refine ⟨_, _, ?_, ?_, ⟨_, _, _, k1⟩, ⟨_, _, _, k2⟩, ?_⟩
  · unfold Ieee.Format.mul; rw [hx, hy]; rfl
  · unfold Ieee.Format.mul; rw [hx', hy']; rfl
  · rw [V_eq k1, V_eq k2, val_ra, val_ra]; exact k3
theorem add_mono (f : Ieee.Format) (he : 2 ≤ f.exponentBits) (x y x' y' : Nat) (hx : IsNum f x) (hy : IsNum f y) (hx' : IsNum f x') (hy' : IsNum f y') (h : ra (V f x + V f y) ≤ ra (V f x' + V f y')) (hB : ra (V f x' + V f y') < pw (top f)) :
    ∃ r r', f.add x y = some r ∧ f.add x' y' = some r' ∧ IsNum f r ∧ IsNum f r' ∧ ra (V f r) ≤ ra (V f r') := by
  obtain ⟨s, m, i, hx⟩ := hx
  obtain ⟨t, n, j, hy⟩ := hy
  obtain ⟨s', m', i', hx'⟩ := hx'
  obtain ⟨t', n', j', hy'⟩ := hy'
  obtain ⟨q, k, b, h3, h4⟩ := sum_val s t m n i j
  obtain ⟨q', k', b', h3', h4'⟩ := sum_val s' t' m' n' i' j'
  rw [V_eq hx, V_eq hy, V_eq hx', V_eq hy', ← h4, ← h4', val_ra, val_ra] at h
  rw [V_eq hx', V_eq hy', ← h4', val_ra] at hB
  obtain ⟨a, b1, c, d, k1, k2, k3⟩ := write_mono f he q q' k k' b b' h hB
  refine ⟨_, _, ?_, ?_, ⟨_, _, _, k1⟩, ⟨_, _, _, k2⟩, ?_⟩
  · unfold Ieee.Format.add; rw [hx, hy, h3]; rfl
  · unfold Ieee.Format.add; rw [hx', hy', h3']; rfl
  · rw [V_eq k1, V_eq k2, val_ra, val_ra]; exact k3
/-- a product that the format has is exact -/
theorem mul_fix (f : Ieee.Format) (he : 2 ≤ f.exponentBits) (x y z : Nat) (hx : IsNum f x) (hy : IsNum f y) (hz : IsNum f z) (h : ra (V f x * V f y) = ra (V f z)) (hB : ra (V f z) < pw (top f)) :
    ∃ r, f.mul x y = some r ∧ IsNum f r ∧ V f r = V f x * V f y := by
  obtain ⟨s, m, i, hx⟩ := hx
  obtain ⟨t, n, j, hy⟩ := hy
  obtain ⟨q, k, e, hz⟩ := hz
  obtain ⟨b1, b2, -⟩ := read_bound f he z q k e hz
  rw [V_eq hx, V_eq hy, V_eq hz, ← val_mul, val_ra, val_ra] at h
  rw [V_eq hz, val_ra] at hB
  obtain ⟨m', p', k1, k2, k3, k4⟩ := write_exact f he (s ^^ t) (m * n) (i + j) k e h b1 b2 (by rw [h]; exact hB)
  refine ⟨_, ?_, ⟨_, _, _, k1⟩, ?_⟩
  · unfold Ieee.Format.mul; rw [hx, hy]; rfl
  · rw [V_eq k1, V_eq hx, V_eq hy, ← val_mul]; unfold val; rw [k4]
/-- a number's product with itself is not below 0 -/
theorem self_pos (f : Ieee.Format) (he : 2 ≤ f.exponentBits) (x : Nat) (hx : IsNum f x) (hB : ra (V f x * V f x) < pw (top f)) : ∃ r, f.mul x x = some r ∧ 0 ≤ V f r := by
  obtain ⟨s, m, i, hx⟩ := hx
  rw [V_eq hx, ← val_mul, val_ra] at hB
  obtain ⟨a, b, c, d, k1, k2, k3⟩ := write_mono f he (s ^^ s) (s ^^ s) (m * m) (m * m) (i + i) (i + i) (Rat.le_refl) hB
  refine ⟨f.write (.number (s ^^ s) (m * m) (i + i)), ?_, ?_⟩
  · unfold Ieee.Format.mul; rw [hx]; rfl
  · rw [V_eq k1]; unfold val; rw [show (s ^^ s) = false by cases s <;> rfl]; have := mag_nonneg a b; simp only [Bool.false_eq_true, if_false]; grind
end Flo

theorem ra_mul (a b : Rat) : ra (a * b) = ra a * ra b := by
  have le_of : ∀ q : Rat, ¬ q < 0 → 0 ≤ q := fun q h => by grind
  by_cases ha : a < 0 <;> by_cases hb : b < 0
  · have := Rat.mul_pos (show 0 < -a by grind) (show 0 < -b by grind)
    unfold ra
    rw [if_neg (by grind), if_pos ha, if_pos hb]; grind
  · have := Rat.mul_nonneg (show 0 ≤ -a by grind) (le_of b hb)
    unfold ra
    rw [if_pos ha, if_neg hb]
    split <;> grind
  · have := Rat.mul_nonneg (le_of a ha) (show 0 ≤ -b by grind)
    unfold ra
    rw [if_neg ha, if_pos hb]
    split <;> grind
  · have := Rat.mul_nonneg (le_of a ha) (le_of b hb)
    unfold ra
    rw [if_neg (by grind), if_neg ha, if_neg hb]
theorem ra_pos {q : Rat} (h : 0 ≤ q) : ra q = q := by unfold ra; rw [if_neg (by grind)]
theorem sm_mag {b : Nat} (h : Sm b) : ra (S b) < Flo.pw 129 := by
  have h1 := ra_le (single_abs h)
  have h2 : Flo.pw 128 < Flo.pw 129 := Flo.pw_lt (by omega)
  grind

/-- a factor from 0 to 1 makes no part greater -/
theorem damp_part (q t : Nat) (hq : Sm q) (ht : Sm t) (h0 : 0 ≤ S t) (h1 : S t ≤ 1) (hb : ra (S q) ≤ 4) :
    Calm .mul .f32 q t ∧ Sm (opB .mul .f32 q t) ∧ ra (S (opB .mul .f32 q t)) ≤ ra (S q) := by
  have n1 : Sm 1065353216 ∧ S 1065353216 = 1 := by
    have h : Ieee.single.read 1065353216 = .number false 8388608 (-23) := by decide
    refine ⟨⟨_, _, _, h⟩, ?_⟩
    rw [show S 1065353216 = _ from Flo.V_eq h]
    unfold Flo.val
    have := Flo.pw_neg_mul 23
    rw [show Flo.pw 23 = 8388608 from Flo.pw_nat 23] at this
    simp only [Bool.false_eq_true, if_false]
    have e2 : ((8388608 : Nat) : Rat) = 8388608 := rfl
    rw [e2]; grind
  have l1 : (4 : Rat) < Flo.pw 127 := by
    have : Flo.pw 2 < Flo.pw 127 := Flo.pw_lt (by omega)
    rw [show Flo.pw 2 = 4 from Flo.pw_nat 2] at this
    exact this
  have hqn := ra_nonneg (S q)
  have hm := Rat.mul_le_mul_of_nonneg_left h1 hqn
  obtain ⟨r, r', e1, e2, e3, e4, e5⟩ := Flo.mul_mono Ieee.single (by decide) q t q 1065353216 hq ht hq n1.1
    (by rw [ra_mul, ra_mul, ra_pos (show 0 ≤ Flo.V Ieee.single t from h0), show Flo.V Ieee.single 1065353216 = 1 from n1.2, ra_pos (show (0:Rat) ≤ 1 by grind)]; exact hm)
    (by rw [ra_mul, show Flo.V Ieee.single 1065353216 = 1 from n1.2, ra_pos (show (0:Rat) ≤ 1 by grind), show Flo.top Ieee.single = 127 from by decide]; show ra (S q) * 1 < _; grind)
  obtain ⟨z, z1, z2, z3⟩ := Flo.mul_fix Ieee.single (by decide) q 1065353216 q hq n1.1 hq
    (by rw [show Flo.V Ieee.single 1065353216 = 1 from n1.2, show Flo.V Ieee.single q * 1 = Flo.V Ieee.single q by grind])
    (by rw [show Flo.top Ieee.single = 127 from by decide]; show ra (S q) < _; grind)
  rw [e2] at z1
  cases z1
  rw [z3, show Flo.V Ieee.single 1065353216 = 1 from n1.2, show Flo.V Ieee.single q * 1 = Flo.V Ieee.single q by grind] at e5
  obtain ⟨c1, b1⟩ := Calm.of (show floatBits .mul .f32 q t = some r from e1)
  rw [b1]
  exact ⟨c1, e3, e5⟩

/-- squares grow with the numbers -/
theorem square_part (p q : Nat) (hp : Sm p) (hq : Sm q) (h : ra (S p) ≤ ra (S q)) (hb : ra (S q) ≤ 4) :
    Calm .mul .f32 p p ∧ Calm .mul .f32 q q ∧ Sm (opB .mul .f32 p p) ∧ Sm (opB .mul .f32 q q) ∧ ra (S (opB .mul .f32 p p)) ≤ ra (S (opB .mul .f32 q q)) := by
  have l1 : (16 : Rat) < Flo.pw 127 := by
    have : Flo.pw 4 < Flo.pw 127 := Flo.pw_lt (by omega)
    rw [show Flo.pw 4 = 16 from Flo.pw_nat 4] at this
    exact this
  have a0 := ra_nonneg (S p)
  have b0 := ra_nonneg (S q)
  have k1 := Rat.mul_le_mul_of_nonneg_left h a0
  have k2 := Rat.mul_le_mul_of_nonneg_right h b0
  have k3 := Rat.mul_le_mul_of_nonneg_left hb b0
  obtain ⟨r, r', e1, e2, e3, e4, e5⟩ := Flo.mul_mono Ieee.single (by decide) p p q q hp hp hq hq
    (by rw [ra_mul, ra_mul]; show ra (S p) * ra (S p) ≤ ra (S q) * ra (S q); grind)
    (by rw [ra_mul, show Flo.top Ieee.single = 127 from by decide]; show ra (S q) * ra (S q) < _; grind)
  obtain ⟨c1, b1⟩ := Calm.of (show floatBits .mul .f32 p p = some r from e1)
  obtain ⟨c2, b2⟩ := Calm.of (show floatBits .mul .f32 q q = some r' from e2)
  rw [b1, b2]
  exact ⟨c1, c2, e3, e4, e5⟩

/-- the sum of the squares grows with the parts -/
theorem sqr_mono (a b c d : Nat) (ha : Sm a) (hb : Sm b) (hc : Sm c) (hd : Sm d) (h1 : ra (S a) ≤ ra (S c)) (h2 : ra (S b) ≤ ra (S d)) (hc4 : ra (S c) ≤ 4) (hd4 : ra (S d) ≤ 4) :
    ra (Flo.W (sqr (wid a) (wid b))) ≤ ra (Flo.W (sqr (wid c) (wid d))) := by
  obtain ⟨na, va⟩ := wid_num ha
  obtain ⟨nb, vb⟩ := wid_num hb
  obtain ⟨nc, vc⟩ := wid_num hc
  obtain ⟨nd, vd⟩ := wid_num hd
  have l1 : (64 : Rat) < Flo.pw 1023 := by
    have : Flo.pw 6 < Flo.pw 1023 := Flo.pw_lt (by omega)
    rw [show Flo.pw 6 = 64 from Flo.pw_nat 6] at this
    exact this
  have sqm : ∀ x y : Nat, Flo.Nm x → Flo.Nm y → ra (Flo.W x) ≤ ra (Flo.W y) → ra (Flo.W y) ≤ 4 →
      ∃ r r', floatBits .mul .f64 x x = some r ∧ floatBits .mul .f64 y y = some r' ∧ Flo.Nm r ∧ Flo.Nm r' ∧ 0 ≤ Flo.W r ∧ 0 ≤ Flo.W r' ∧ Flo.W r ≤ Flo.W r' ∧ Flo.W r' ≤ 17 := by
    intro x y nx ny h h4
    have a0 := ra_nonneg (Flo.W x)
    have b0 := ra_nonneg (Flo.W y)
    have k1 := Rat.mul_le_mul_of_nonneg_left h a0
    have k2 := Rat.mul_le_mul_of_nonneg_right h b0
    have k3 := Rat.mul_le_mul_of_nonneg_left h4 b0
    obtain ⟨r, r', e1, e2, e3, e4, e5⟩ := Flo.mul_mono Ieee.double (by decide) x x y y nx nx ny ny
      (by rw [ra_mul, ra_mul]; show ra (Flo.W x) * ra (Flo.W x) ≤ ra (Flo.W y) * ra (Flo.W y); grind)
      (by rw [ra_mul, Flo.top_double]; show ra (Flo.W y) * ra (Flo.W y) < _; grind)
    obtain ⟨q, q1, q2⟩ := Flo.self_pos Ieee.double (by decide) x nx (by rw [ra_mul, Flo.top_double]; show ra (Flo.W x) * ra (Flo.W x) < _; grind)
    obtain ⟨q', q1', q2'⟩ := Flo.self_pos Ieee.double (by decide) y ny (by rw [ra_mul, Flo.top_double]; show ra (Flo.W y) * ra (Flo.W y) < _; grind)
    rw [e1] at q1
    rw [e2] at q1'
    cases q1
    cases q1'
    obtain ⟨r2, d1, d2, d3⟩ := Flo.d_mul y y ny ny 16 ⟨by have := ra_mul (Flo.W y) (Flo.W y); have := ra_ab (Flo.W y * Flo.W y); unfold Flo.Ab at this; grind, by have := ra_mul (Flo.W y) (Flo.W y); have := ra_ab (Flo.W y * Flo.W y); unfold Flo.Ab at this; grind⟩ (by grind)
    rw [show floatBits .mul .f64 y y = some r' from e2] at d1
    cases d1
    have u1 := Flo.u_le
    have eu : Flo.et ≤ Flo.u := Flo.pw_le (by omega)
    have hy2 : Flo.W y * Flo.W y ≤ 16 := by have := ra_mul (Flo.W y) (Flo.W y); have := ra_ab (Flo.W y * Flo.W y); unfold Flo.Ab at this; grind
    refine ⟨r, r', e1, e2, e3, e4, q2, q2', ?_, ?_⟩
    · rw [ra_pos q2, ra_pos q2'] at e5; exact e5
    · unfold Flo.Ab at d3; grind
  obtain ⟨r1, r1', a1, a2, a3, a4, a5, a6, a7, a8⟩ := sqm (wid a) (wid c) na nc (by rw [va, vc]; exact h1) (by rw [vc]; exact hc4)
  obtain ⟨r2, r2', b1, b2, b3, b4, b5, b6, b7, b8⟩ := sqm (wid b) (wid d) nb nd (by rw [vb, vd]; exact h2) (by rw [vd]; exact hd4)
  obtain ⟨r, r', e1, e2, e3, e4, e5⟩ := Flo.add_mono Ieee.double (by decide) r1 r2 r1' r2' a3 b3 a4 b4
    (by show ra (Flo.W r1 + Flo.W r2) ≤ ra (Flo.W r1' + Flo.W r2'); rw [ra_pos (by grind), ra_pos (by grind)]; grind)
    (by rw [Flo.top_double]; show ra (Flo.W r1' + Flo.W r2') < _; rw [ra_pos (by grind)]; grind)
  have f1 : sqr (wid a) (wid b) = r := by
    unfold sqr; rw [a1, b1]; simp only [Option.getD_some]; rw [show floatBits .add .f64 r1 r2 = some r from e1]; rfl
  have f2 : sqr (wid c) (wid d) = r' := by
    unfold sqr; rw [a2, b2]; simp only [Option.getD_some]; rw [show floatBits .add .f64 r1' r2' = some r' from e2]; rfl
  rw [f1, f2]
  exact e5
end Go.Proofs.YtiakcibeobbonaaGreat

/- Plain facts: sums, differences and narrowings that the format has are exact; a product with 1 is the number itself. No program stands in it.
   Conditions: those that each statement names. -/
namespace Go.Proofs.YtiakcibeobbonaaGreat
set_option linter.unusedSimpArgs false
set_option linter.unusedVariables false
open Go

namespace Flo
/-- a sum that the format has is exact -/
theorem add_fix (f : Ieee.Format) (he : 2 ≤ f.exponentBits) (x y z : Nat) (hx : IsNum f x) (hy : IsNum f y) (hz : IsNum f z) (h : ra (V f x + V f y) = ra (V f z)) (hB : ra (V f z) < pw (top f)) :
    ∃ r, f.add x y = some r ∧ IsNum f r ∧ V f r = V f x + V f y := by
  obtain ⟨s, m, i, hx⟩ := hx
  obtain ⟨t, n, j, hy⟩ := hy
  obtain ⟨q, k, e, hz⟩ := hz
  obtain ⟨b1, b2, -⟩ := read_bound f he z q k e hz
  obtain ⟨q', k', b', h3, h4⟩ := sum_val s t m n i j
  rw [V_eq hx, V_eq hy, V_eq hz, ← h4, val_ra, val_ra] at h
  rw [V_eq hz, val_ra] at hB
  obtain ⟨m', p', k1, k2, k3, k4⟩ := write_exact f he q' k' b' k e h b1 b2 (by rw [h]; exact hB)
  refine ⟨_, ?_, ⟨_, _, _, k1⟩, ?_⟩
  · unfold Ieee.Format.add; rw [hx, hy, h3]; rfl
  · rw [V_eq k1, V_eq hx, V_eq hy, ← h4]; unfold val; rw [k4]
theorem sub_fix (f : Ieee.Format) (he : 2 ≤ f.exponentBits) (x y z : Nat) (hx : IsNum f x) (hy : IsNum f y) (hz : IsNum f z) (h : ra (V f x - V f y) = ra (V f z)) (hB : ra (V f z) < pw (top f)) :
    ∃ r, f.sub x y = some r ∧ IsNum f r ∧ V f r = V f x - V f y := by
  obtain ⟨s, m, i, hx⟩ := hx
  obtain ⟨t, n, j, hy⟩ := hy
  obtain ⟨q, k, e, hz⟩ := hz
  obtain ⟨b1, b2, -⟩ := read_bound f he z q k e hz
  obtain ⟨q', k', b', h3, h4⟩ := sum_val s (!t) m n i j
  rw [val_opp] at h4
  have h5 : val q' k' b' = val s m i - val t n j := by grind
  rw [V_eq hx, V_eq hy, V_eq hz, ← h5, val_ra, val_ra] at h
  rw [V_eq hz, val_ra] at hB
  obtain ⟨m', p', k1, k2, k3, k4⟩ := write_exact f he q' k' b' k e h b1 b2 (by rw [h]; exact hB)
  refine ⟨_, ?_, ⟨_, _, _, k1⟩, ?_⟩
  · unfold Ieee.Format.sub; rw [hx, hy, show (Ieee.Datum.number t n j).opposite = .number (!t) n j from rfl, h3]; rfl
  · rw [V_eq k1, V_eq hx, V_eq hy, ← h5]; unfold val; rw [k4]
/-- a number of double precision that single precision has is narrowed exactly -/
theorem nar_fix (b z : Nat) (hb : Nm b) (hz : IsNum Ieee.single z) (h : ra (W b) = ra (V Ieee.single z)) (hB : ra (V Ieee.single z) < pw 127) :
    IsNum Ieee.single (nar b) ∧ V Ieee.single (nar b) = W b := by
  obtain ⟨s, m, i, hb⟩ := hb
  obtain ⟨q, k, e, hz⟩ := hz
  obtain ⟨b1, b2, -⟩ := read_bound Ieee.single (by decide) z q k e hz
  rw [show W b = _ from V_eq hb, V_eq hz, val_ra, val_ra] at h
  rw [V_eq hz, val_ra] at hB
  obtain ⟨m', p', k1, k2, k3, k4⟩ := write_exact Ieee.single (by decide) s m i k e h b1 b2 (by rw [h, show top Ieee.single = 127 from by decide]; exact hB)
  have hn : nar b = Ieee.single.write (.number s m i) := by
    unfold nar
    rw [show FloatKind.f64.decode b = .number s m i from hb]
    rfl
  rw [hn]
  refine ⟨⟨_, _, _, k1⟩, ?_⟩
  rw [V_eq k1, show W b = _ from V_eq hb]; unfold val; rw [k4]
end Flo

theorem one_s : Sm 1065353216 ∧ S 1065353216 = 1 := by
  have h : Ieee.single.read 1065353216 = .number false 8388608 (-23) := by decide
  refine ⟨⟨_, _, _, h⟩, ?_⟩
  rw [show S 1065353216 = _ from Flo.V_eq h]
  unfold Flo.val
  have := Flo.pw_neg_mul 23
  rw [show Flo.pw 23 = 8388608 from Flo.pw_nat 23] at this
  simp only [Bool.false_eq_true, if_false]
  have e2 : ((8388608 : Nat) : Rat) = 8388608 := rfl
  rw [e2]; grind
theorem nil_s : Sm 0 ∧ S 0 = 0 := by
  have h : Ieee.single.read 0 = .number false 0 (-149) := by decide
  refine ⟨⟨_, _, _, h⟩, ?_⟩
  rw [show S 0 = _ from Flo.V_eq h]
  unfold Flo.val
  simp

/-- MultiplySingle by 1: the parts stay the same numbers -/
theorem mulS_one (a b : Nat) (ha : Sm a) (hb : Sm b) (h1 : ra (S a) ≤ 4) (h2 : ra (S b) ≤ 4) :
    Sm (mulSre a b 1065353216 0) ∧ Sm (mulSim a b 1065353216 0) ∧ S (mulSre a b 1065353216 0) = S a ∧ S (mulSim a b 1065353216 0) = S b := by
  obtain ⟨na, va⟩ := wid_num ha
  obtain ⟨nb, vb⟩ := wid_num hb
  obtain ⟨n1, v1⟩ := wid_num one_s.1
  obtain ⟨n0, v0⟩ := wid_num nil_s.1
  rw [one_s.2] at v1
  rw [nil_s.2] at v0
  have l1 : (4 : Rat) < Flo.pw 127 := by
    have : Flo.pw 2 < Flo.pw 127 := Flo.pw_lt (by omega)
    rw [show Flo.pw 2 = 4 from Flo.pw_nat 2] at this
    exact this
  have l2 : Flo.pw 127 < Flo.pw 1023 := Flo.pw_lt (by omega)
  have mul1 : ∀ x y : Nat, Sm x → Sm y → ra (S x) ≤ 4 → (S y = 1 ∨ S y = 0) → Flo.Nm (opB .mul .f64 (wid x) (wid y)) ∧ Flo.W (opB .mul .f64 (wid x) (wid y)) = S x * S y := by
    intro x y hx hy h4 h10
    obtain ⟨nx, vx⟩ := wid_num hx
    obtain ⟨ny, vy⟩ := wid_num hy
    rcases h10 with h10 | h10
    · obtain ⟨r, e1, e2, e3⟩ := Flo.mul_fix Ieee.double (by decide) (wid x) (wid y) (wid x) nx ny nx
        (by show ra (Flo.W (wid x) * Flo.W (wid y)) = ra (Flo.W (wid x)); rw [vx, vy, h10, show S x * 1 = S x by grind])
        (by rw [Flo.top_double]; show ra (Flo.W (wid x)) < _; rw [vx]; grind)
      obtain ⟨c, b⟩ := Calm.of (show floatBits .mul .f64 (wid x) (wid y) = some r from e1)
      rw [b]
      exact ⟨e2, by rw [show Flo.W r = _ from e3]; show Flo.W (wid x) * Flo.W (wid y) = _; rw [vx, vy]⟩
    · obtain ⟨r, e1, e2, e3⟩ := Flo.mul_fix Ieee.double (by decide) (wid x) (wid y) (wid y) nx ny ny
        (by show ra (Flo.W (wid x) * Flo.W (wid y)) = ra (Flo.W (wid y)); rw [vx, vy, h10, show S x * 0 = 0 by grind])
        (by rw [Flo.top_double]; show ra (Flo.W (wid y)) < _; rw [vy, h10, ra_pos (Rat.le_refl)]; grind)
      obtain ⟨c, b⟩ := Calm.of (show floatBits .mul .f64 (wid x) (wid y) = some r from e1)
      rw [b]
      exact ⟨e2, by rw [show Flo.W r = _ from e3]; show Flo.W (wid x) * Flo.W (wid y) = _; rw [vx, vy]⟩
  obtain ⟨m1, w1⟩ := mul1 a 1065353216 ha one_s.1 h1 (.inl one_s.2)
  obtain ⟨m2, w2⟩ := mul1 b 0 hb nil_s.1 h2 (.inr nil_s.2)
  obtain ⟨m3, w3⟩ := mul1 a 0 ha nil_s.1 h1 (.inr nil_s.2)
  obtain ⟨m4, w4⟩ := mul1 b 1065353216 hb one_s.1 h2 (.inl one_s.2)
  rw [one_s.2] at w1 w4
  rw [nil_s.2] at w2 w3
  have hA : ra (S a) < Flo.pw 1023 := by grind
  have hB : ra (S b) < Flo.pw 1023 := by grind
  have fs : ∀ x y z : Nat, Flo.Nm x → Flo.Nm y → Flo.Nm z → ra (Flo.W x - Flo.W y) = ra (Flo.W z) → ra (Flo.W z) < Flo.pw 1023 → ∃ r, floatBits .sub .f64 x y = some r ∧ Flo.Nm r ∧ Flo.W r = Flo.W x - Flo.W y :=
    fun x y z hx hy hz h hb => Flo.sub_fix Ieee.double (by decide) x y z hx hy hz h (by rw [Flo.top_double]; exact hb)
  have fa : ∀ x y z : Nat, Flo.Nm x → Flo.Nm y → Flo.Nm z → ra (Flo.W x + Flo.W y) = ra (Flo.W z) → ra (Flo.W z) < Flo.pw 1023 → ∃ r, floatBits .add .f64 x y = some r ∧ Flo.Nm r ∧ Flo.W r = Flo.W x + Flo.W y :=
    fun x y z hx hy hz h hb => Flo.add_fix Ieee.double (by decide) x y z hx hy hz h (by rw [Flo.top_double]; exact hb)
  obtain ⟨r, e1, e2, e3⟩ := fs (opB .mul .f64 (wid a) (wid 1065353216)) (opB .mul .f64 (wid b) (wid 0)) (wid a) m1 m2 na (by rw [w1, w2, va, show S a * 1 - S b * 0 = S a by grind]) (by rw [va]; exact hA)
  obtain ⟨r', e1', e2', e3'⟩ := fa (opB .mul .f64 (wid a) (wid 0)) (opB .mul .f64 (wid b) (wid 1065353216)) (wid b) m3 m4 nb (by rw [w3, w4, vb, show S a * 0 + S b * 1 = S b by grind]) (by rw [vb]; exact hB)
  have f1 : Flo.W r = S a := by rw [e3, w1, w2]; grind
  have f2 : Flo.W r' = S b := by rw [e3', w3, w4]; grind
  obtain ⟨c, b1⟩ := Calm.of e1
  obtain ⟨c', b1'⟩ := Calm.of e1'
  obtain ⟨g1, g2⟩ := Flo.nar_fix r a e2 ha (by rw [f1]) (by show ra (S a) < _; grind)
  obtain ⟨g3, g4⟩ := Flo.nar_fix r' b e2' hb (by rw [f2]) (by show ra (S b) < _; grind)
  unfold mulSre mulSim
  rw [b1, b1']
  exact ⟨g1, g3, by rw [show S (Flo.nar r) = _ from g2]; exact f1, by rw [show S (Flo.nar r') = _ from g4]; exact f2⟩
end Go.Proofs.YtiakcibeobbonaaGreat

/- The model's texts as functions: numbers, lines of modes, bodies; of any words (FnCut).
   Conditions: those that each statement names. -/
namespace Go.Proofs.YtiakcibeobbonaaGreat
set_option linter.unusedSimpArgs false
set_option linter.unusedVariables false
open Go Go.RowKit

def bytF (xs : List Int) : List UInt8 := xs.map fun n => UInt8.ofNat n.toNat
theorem bytF_str (xs : List Int) : strOfNums xs = ⟨(bytF xs).toArray⟩ := rfl
theorem numL_lenF (z : Int) (hz : -2000 ≤ z ∧ z ≤ 2000) : (numL z).length ≤ 19 := by
  unfold numL
  have := dgs_len 17 z.natAbs (by omega)
  split
  · simp; omega
  · omega
theorem text_lenF (sg : Bool) (a : Nat) (q : Int) (ha : a < 10 ^ 17) (hq : -2000 ≤ q ∧ q ≤ 2000) : 3 ≤ (sgn sg ++ (dgs a ++ 112 :: numL q)).length ∧ (sgn sg ++ (dgs a ++ 112 :: numL q)).length ≤ 60 := by
  have l1 := dgs_len 17 a (by omega)
  have l2 := numL_lenF q hq
  obtain ⟨d, r, e, -, -⟩ := dgs_head a
  have l3 : 1 ≤ (dgs a).length := by rw [e]; simp
  have l4 : 1 ≤ (numL q).length := by
    obtain ⟨d, r, e, -, -⟩ := dgs_head q.natAbs
    unfold numL
    split
    · simp
    · rw [e]; simp
  have l5 : (sgn sg).length ≤ 1 := by cases sg <;> simp [sgn]
  simp only [List.length_append, List.length_cons]
  omega
theorem txt_len60 {y : Nat} {xs : List Int} (h : TxtOf y xs) : xs.length ≤ 60 := by
  rcases h with ⟨_, rfl⟩ | ⟨_, rfl⟩ | ⟨_, rfl⟩ | ⟨sg, m, p, a, q, b1, b2, b3, b4, b5, b6, b7, rfl⟩
  · simp
  · simp
  · simp
  · exact (text_lenF sg a q (by omega) ⟨b6, b7⟩).2
open Classical in
/-- the text of a double -/
noncomputable def dblL (x : Nat) : List UInt8 := if h : ∃ xs, TxtOf x xs then bytF h.choose else []
theorem dblL_of {x : Nat} {xs : List Int} (h : TxtOf x xs) : dblL x = bytF xs := by
  have hx : ∃ xs, TxtOf x xs := ⟨xs, h⟩
  unfold dblL
  rw [dif_pos hx, txt_unique hx.choose_spec h]
theorem dblL_len (x : Nat) : (dblL x).length ≤ 60 := by
  unfold dblL
  split
  · rename_i h
    unfold bytF
    rw [List.length_map]
    exact txt_len60 h.choose_spec
  · simp
def StrF (l : List UInt8) (w : World) (e : Ending) (w' : World) : Prop := e = .returned (.string ⟨l.toArray⟩) ∧ Nw w w'
theorem specDbl_f (x : Nat) (hx : x < 18446744073709551616) (w : World) : Calls Tryz.prog 66 #[.float .f64 x] w (StrF (dblL x) w) := by
  refine (specText x hx w).mono ?_
  rintro e w' ⟨xs, rfl, ht, hn⟩
  exact ⟨by rw [dblL_of ht, bytF_str], hn⟩
theorem specSgl_f (x : Nat) (hf : Sm x) (w : World) : Calls Tryz.prog 39 #[.float .f32 x] w (StrF (dblL (wid x)) w) := by
  have u1 := fun w => fcv_up hf w
  have u2 := fcd_up hf
  clear hf
  go_enter Tryz.func39, Tryz.ntmps39
  go_wp2_with fail
  refine (specDbl_f _ (wid_lt x) _).mono ?_
  rintro e w1 ⟨rfl, n1⟩
  have N1 := Lib.hid n1
  clear n1
  go_wp2_with fail
  go_ret
  exact ⟨rfl, N1.out⟩
noncomputable def lineF (word : List UInt8) (a b c d : Nat) : List UInt8 := word ++ [32] ++ dblL a ++ [32] ++ dblL b ++ [32] ++ dblL c ++ [32] ++ dblL d ++ [10]
set_option maxRecDepth 100000 in
theorem l6Line_f (word : List UInt8) (hl : word.length ≤ 100) (a b c d : Nat) (ha : a < 18446744073709551616) (hb : b < 18446744073709551616) (hc : c < 18446744073709551616) (hd : d < 18446744073709551616) (w : World) :
    Calls Tryz.prog 99 #[.string ⟨word.toArray⟩, .complex .f64 a b, .complex .f64 c d] w (StrF (lineF word a b c d) w) := by
  have T1 := Lib.hid (fun w => specDbl_f a ha w)
  have T2 := Lib.hid (fun w => specDbl_f b hb w)
  have T3 := Lib.hid (fun w => specDbl_f c hc w)
  have T4 := Lib.hid (fun w => specDbl_f d hd w)
  have g1 := dblL_len a
  have g2 := dblL_len b
  have g3 := dblL_len c
  have g4 := dblL_len d
  have Ht := Lib.hid (show lineF word a b c d = word ++ [32] ++ dblL a ++ [32] ++ dblL b ++ [32] ++ dblL c ++ [32] ++ dblL d ++ [10] from rfl)
  clear ha hb hc hd
  generalize dblL a = t1 at *
  generalize dblL b = t2 at *
  generalize dblL c = t3 at *
  generalize dblL d = t4 at *
  go_enter Tryz.func99, Tryz.ntmps99
  go_wp2_with fail
  refine (T1.out _).mono ?_
  rintro e w1 ⟨rfl, n1⟩
  have N1 := Lib.hid n1
  clear n1
  go_wp2_with fail
  refine (T2.out _).mono ?_
  rintro e w2 ⟨rfl, n2⟩
  have N2 := Lib.hid (N1.out.trans n2)
  clear n2
  go_wp2_with fail
  refine (T3.out _).mono ?_
  rintro e w3 ⟨rfl, n3⟩
  have N3 := Lib.hid (N2.out.trans n3)
  clear n3
  go_wp2_with fail
  refine (T4.out _).mono ?_
  rintro e w4 ⟨rfl, n4⟩
  have N4 := Lib.hid (N3.out.trans n4)
  clear n4
  go_wp2_with fail
  go_ret
  exact ⟨congrArg Ending.returned (congrArg Value.string (by rw [Ht.out]; apply ByteArray.ext; simp)), N4.out⟩
theorem lineF_len (word : List UInt8) (a b c d : Nat) : (lineF word a b c d).length ≤ word.length + 245 := by
  have g1 := dblL_len a
  have g2 := dblL_len b
  have g3 := dblL_len c
  have g4 := dblL_len d
  simp [lineF]
  omega
def wModeF : List UInt8 := [109, 111, 100, 101]
noncomputable def modeF (m : M4) : List UInt8 := lineF wModeF (wid m.pr) (wid m.pi) (wid m.gr) (wid m.gi)
noncomputable def modesF (ms : List M4) : List UInt8 := ms.flatMap modeF
theorem modeF_len (m : M4) : (modeF m).length ≤ 249 := lineF_len _ _ _ _ _
theorem modesF_len (ms : List M4) : (modesF ms).length ≤ ms.length * 249 := by
  induction ms with
  | nil => simp [modesF]
  | cons m l ih =>
    have := modeF_len m
    simp only [modesF, List.flatMap_cons, List.length_append, List.length_cons] at *
    omega
theorem modesF_snoc (ms : List M4) (k : Nat) (m : M4) (h : ms[k]? = some m) : modesF (ms.take (k + 1)) = modesF (ms.take k) ++ modeF m := by
  unfold modesF
  rw [List.take_add_one, h, List.flatMap_append]
  simp
set_option maxRecDepth 100000 in
theorem l6Modes_f (ms : List M4) (hf : ∀ m ∈ ms, m.ok) (n bm : Nat) (v : Value) (hn : ms.length = n) (hn16 : n ≤ 16) (w : World) (hm : w.ownsRow bm 93 2 v n (cellsM ms)) :
    Calls Tryz.prog 67 #[v] w (StrF (modesF ms) w) := by
  obtain ⟨va, vc, rfl⟩ := own_shape' hm
  have H := Lib.hid hm
  have Hf := Lib.hid hf
  have Hn := Lib.hid hn
  clear hm hf hn
  go_enter Tryz.func67, Tryz.ntmps67
  go_wp2_with fail
  go_loopw [3, 8] (fun o i wr => ∃ (k : Nat) (l : List UInt8), k ≤ n ∧ l = modesF (ms.take k) ∧ i = .int .i64 (k : Int) ∧ o = .string ⟨l.toArray⟩ ∧ l.length ≤ k * 249 ∧ Nw w wr) (fun _ i _ => n - (intOf i).toNat)
  case atStart => exact ⟨0, [], by omega, rfl, rfl, rfl, by simp, Nw.refl _⟩
  case round =>
    obtain ⟨k, l, hk, hT, rfl, rfl, hl, hN⟩ := hrel
    have Nr := Lib.hid hN
    have T := Lib.hid hT
    clear hN hT
    by_cases hlt : k < n
    · obtain ⟨m, hmk⟩ : ∃ m, ms[k]? = some m := ⟨ms[k]'(by rw [Hn.out]; exact hlt), List.getElem?_eq_getElem _⟩
      obtain ⟨g, cap, hv, hcap, hmax, hgs, e1, e2⟩ := own_mode (own_nw H.out Nr.out) hmk Hn.out.symm
      cases hv
      unfold maxLen at hmax
      obtain ⟨s1, s2, s3, s4⟩ := (Hf.out m (List.mem_of_getElem? hmk)).nums
      have Hk := Lib.hid hmk
      have u1 := fun w => fcv_up s1 w
      have u2 := fun w => fcv_up s2 w
      have u3 := fun w => fcv_up s3 w
      have u4 := fun w => fcv_up s4 w
      have v1 := fcd_up s1
      have v2 := fcd_up s2
      have v3 := fcd_up s3
      have v4 := fcd_up s4
      clear hmk s1 s2 s3 s4
      have C := Lib.hid (fun w => l6Line_f wModeF (by decide) (wid m.pr) (wid m.pi) (wid m.gr) (wid m.gi) (wid_lt _) (wid_lt _) (wid_lt _) (wid_lt _) w)
      have hpl := modeF_len m
      have Hp := Lib.hid (show modeF m = lineF wModeF (wid m.pr) (wid m.pi) (wid m.gr) (wid m.gi) from rfl)
      rw [← Hp.out] at C
      have N0 := Lib.hid (Nr.out.alloc (.cells #[.complex .f32 m.pr m.pi, .complex .f32 m.gr m.gi] 93 (0, 0)))
      go_wp2_with fail
      refine (C.out _).mono ?_
      rintro e w1 ⟨rfl, n1⟩
      have N1 := Lib.hid (N0.out.trans n1)
      clear n1
      have Sn := Lib.hid (modesF_snoc ms k m Hk.out)
      generalize modeF m = p at *
      go_wp2_with fail
      go_roundw
      case rel => exact ⟨k + 1, l ++ p, by omega, by rw [Sn.out, T.out], by rw [show ((k + 1 : Nat) : Int) = (k : Int) + 1 from by omega], rfl, by simp; omega, N1.out⟩
      case measure => simp only [intOf]; omega
    · obtain rfl : k = n := by omega
      have hfin : l = modesF ms := by rw [T.out, List.take_of_length_le (by have := Hn.out; omega)]
      have Hfin := Lib.hid hfin
      clear hfin
      go_wp2_with fail
      go_ret
      exact ⟨congrArg (fun l : List UInt8 => Ending.returned (Value.string ⟨l.toArray⟩)) Hfin.out, Nr.out⟩
set_option maxRecDepth 100000 in
theorem specFormatBody_f (ms : List M4) (hf : ∀ m ∈ ms, m.ok) (n bm : Nat) (v : Value) (hn : ms.length = n) (hn16 : n ≤ 16) (w : World) (hm : w.ownsRow bm 93 2 v n (cellsM ms)) :
    Calls Tryz.prog 40 #[.agg #[v]] w (StrF (modesF ms) w) := by
  obtain ⟨va, vc, rfl⟩ := own_shape' hm
  have hok : bodyB ms = true := (bodyB_iff ms).2 ⟨by omega, hf⟩
  have H := Lib.hid (hm.alloc (.cells #[.slice va n vc] 65 (0, 0)))
  have N0 := Lib.hid ((Nw.refl w).alloc (.cells #[.slice va n vc] 65 (0, 0)))
  have Hf := Lib.hid hf
  have Hn := Lib.hid hn
  have Ho := Lib.hid hok
  have B := Lib.hid (Has1.new w 65 (.slice va n vc))
  clear hm hf hn hok
  go_enter Tryz.func40, Tryz.ntmps40
  go_wp2_with fail
  refine (specIsBody_fin ms n bm _ Hn.out (by omega) _ H.out).mono ?_
  rintro e w1 ⟨rfl, n1⟩
  rw [Ho.out]
  have N1 := Lib.hid (N0.out.trans n1)
  have H1 := Lib.hid (own_nw H.out n1)
  have B1 := Lib.hid (B.out.nw n1)
  clear n1
  obtain ⟨b0, b1, b2⟩ := B1.out
  go_wp2_with fail
  refine (l6Modes_f ms Hf.out n bm _ Hn.out hn16 _ H1.out).mono ?_
  rintro e w2 ⟨rfl, n2⟩
  have N2 := Lib.hid (N1.out.trans n2)
  clear n2
  go_wp2_with fail
  go_ret
  exact ⟨rfl, N2.out⟩
end Go.Proofs.YtiakcibeobbonaaGreat

/- The shapes of strikes as plain lists of bits, and what the kernel finds of all of them: 2,080 places for each kind.
   Conditions: none beyond those that each statement names. -/
namespace Go.Proofs.YtiakcibeobbonaaGreat
set_option linter.unusedSimpArgs false
set_option linter.unusedVariables false
open Go

def rampAt (n i : Nat) : Nat := opB .quo .f32 (floatOfInt .f32 ((i : Int) + 1)) (floatOfInt .f32 (n : Int))
def archT (n i : Nat) : Nat := opB .quo .f32 (floatOfInt .f32 (2 * (i : Int) + 1)) (floatOfInt .f32 (2 * (n : Int)))
def archP (n i : Nat) : Nat := opB .mul .f32 1082130432 (archT n i)
def archM (n i : Nat) : Nat := opB .sub .f32 1065353216 (archT n i)
def archAt (n i : Nat) : Nat := opB .mul .f32 (archP n i) (archM n i)
def clickAt (i : Nat) : Nat := if i = 0 then 1065353216 else 0
def shapeAt (kind n i : Nat) : Nat := if kind = 0 then clickAt i else if kind = 1 then rampAt n i else archAt n i
def shapeL (kind n : Nat) : List Nat := (List.range n).map (shapeAt kind n)

/-- from 0 to 1, and multiplied by 1 itself -/
def unitB (v : Nat) : Bool :=
  fin .f32 v && (FloatKind.f32.format.order v 0 == some .gt || FloatKind.f32.format.order v 0 == some .eq) && (FloatKind.f32.format.order v 1065353216 == some .lt || FloatKind.f32.format.order v 1065353216 == some .eq) &&
    (floatBits .mul .f32 v 1065353216 == some v)
def calmB (o : BinOp) (x y : Nat) : Bool := (floatBits o .f32 x y).isSome
theorem calm_of {o : BinOp} {x y : Nat} (h : calmB o x y = true) : Calm o .f32 x y := by
  unfold calmB at h
  unfold Calm opB
  cases hb : floatBits o .f32 x y with
  | some r => rfl
  | none => rw [hb] at h; simp at h
def upB (a b : Nat) : Bool := !(FloatKind.f32.format.order a b == some .gt || FloatKind.f32.format.order a b == some .eq)
/-- the number is reckoned once, ahead of what is asked of it -/
def force (x : Nat) (k : Nat → Bool) : Bool := match x with
  | 0 => k 0
  | n + 1 => k (n + 1)
theorem force_eq (x : Nat) (k : Nat → Bool) : force x k = k x := by cases x <;> rfl
def p20 : Nat := 4517110426252607488
theorem p20_eq : powB 20 = p20 := by decide +kernel
def rampB (n i : Nat) : Bool :=
  force (rampAt n i) fun v => force (rampAt n (i - 1)) fun u =>
  calmB .quo (floatOfInt .f32 ((i : Int) + 1)) (floatOfInt .f32 (n : Int)) && unitB v && (i == 0 || upB u v) && (i + 1 != n || FloatKind.f32.format.order v 1065353216 == some .eq)
def archB (n i : Nat) : Bool :=
  force (archT n i) fun t => force (opB .mul .f32 1082130432 t) fun p => force (opB .sub .f32 1065353216 t) fun m => force (opB .mul .f32 p m) fun v =>
  calmB .quo (floatOfInt .f32 (2 * (i : Int) + 1)) (floatOfInt .f32 (2 * (n : Int))) && calmB .mul 1082130432 t && calmB .sub 1065353216 t && calmB .mul p m && unitB v
/-- as the law asks: the difference of the widened ones -/
def archD (n i : Nat) : Nat := opB .sub .f64 (wid (archAt n i)) (wid (archAt n (n - 1 - i)))
def archF (n i : Nat) (k : Nat → Bool) : Bool := force (archT n i) fun t => force (opB .mul .f32 1082130432 t) fun p => force (opB .sub .f32 1065353216 t) fun m => force (opB .mul .f32 p m) k
theorem archF_eq (n i : Nat) (k : Nat → Bool) : archF n i k = k (archAt n i) := by simp only [archF, force_eq]; rfl
def nearB (n i : Nat) : Bool :=
  archF n i fun v => archF n (n - 1 - i) fun u => force (wid v) fun a => force (wid u) fun b => force (opB .sub .f64 a b) fun d =>
  (floatBits .sub .f64 a b).isSome && fin .f64 d && force (szd d 0) fun s => leB s p20
theorem rampB_eq (n i : Nat) : rampB n i = (calmB .quo (floatOfInt .f32 ((i : Int) + 1)) (floatOfInt .f32 (n : Int)) && unitB (rampAt n i) && (i == 0 || upB (rampAt n (i - 1)) (rampAt n i)) && (i + 1 != n || FloatKind.f32.format.order (rampAt n i) 1065353216 == some .eq)) := by
  unfold rampB; simp only [force_eq]
theorem archB_eq (n i : Nat) : archB n i = (calmB .quo (floatOfInt .f32 (2 * (i : Int) + 1)) (floatOfInt .f32 (2 * (n : Int))) && calmB .mul 1082130432 (archT n i) && calmB .sub 1065353216 (archT n i) && calmB .mul (archP n i) (archM n i) && unitB (archAt n i)) := by
  unfold archB; simp only [force_eq]; rfl
theorem nearB_eq (n i : Nat) : nearB n i = ((floatBits .sub .f64 (wid (archAt n i)) (wid (archAt n (n - 1 - i)))).isSome && fin .f64 (archD n i) && leB (szd (archD n i) 0) (powB 20)) := by
  unfold nearB; simp only [force_eq, archF_eq, p20_eq]; rfl

/-- all places of the lengths from lo on -/
def chunk (p : Nat → Nat → Bool) (lo k : Nat) : Bool := (List.range k).all fun d => (List.range (lo + d)).all fun i => p (lo + d) i
theorem chunk_get {p : Nat → Nat → Bool} {lo k : Nat} (h : chunk p lo k = true) (n i : Nat) (h1 : lo ≤ n) (h2 : n < lo + k) (hi : i < n) : p n i = true := by
  unfold chunk at h
  rw [List.all_eq_true] at h
  have h3 := h (n - lo) (List.mem_range.2 (by omega))
  rw [List.all_eq_true] at h3
  have h4 := h3 i (List.mem_range.2 (by omega))
  rw [show lo + (n - lo) = n from by omega] at h4
  exact h4
def AllB (p : Nat → Nat → Bool) : Prop := ∀ n i : Nat, n ≤ 64 → i < n → p n i = true
theorem all_of {p : Nat → Nat → Bool} (h0 : chunk p 0 24 = true) (h1 : chunk p 24 9 = true) (h2 : chunk p 33 7 = true) (h3 : chunk p 40 6 = true) (h4 : chunk p 46 6 = true) (h5 : chunk p 52 5 = true) (h6 : chunk p 57 4 = true) (h7 : chunk p 61 4 = true) : AllB p := by
  intro n i hn hi
  by_cases c0 : n < 24
  · exact chunk_get h0 n i (by omega) (by omega) hi
  by_cases c1 : n < 33
  · exact chunk_get h1 n i (by omega) (by omega) hi
  by_cases c2 : n < 40
  · exact chunk_get h2 n i (by omega) (by omega) hi
  by_cases c3 : n < 46
  · exact chunk_get h3 n i (by omega) (by omega) hi
  by_cases c4 : n < 52
  · exact chunk_get h4 n i (by omega) (by omega) hi
  by_cases c5 : n < 57
  · exact chunk_get h5 n i (by omega) (by omega) hi
  by_cases c6 : n < 61
  · exact chunk_get h6 n i (by omega) (by omega) hi
  exact chunk_get h7 n i (by omega) (by omega) hi
set_option maxRecDepth 100000 in
theorem ramp_0 : chunk rampB 0 24 = true := by decide +kernel
set_option maxRecDepth 100000 in
theorem ramp_1 : chunk rampB 24 9 = true := by decide +kernel
set_option maxRecDepth 100000 in
theorem ramp_2 : chunk rampB 33 7 = true := by decide +kernel
set_option maxRecDepth 100000 in
theorem ramp_3 : chunk rampB 40 6 = true := by decide +kernel
set_option maxRecDepth 100000 in
theorem ramp_4 : chunk rampB 46 6 = true := by decide +kernel
set_option maxRecDepth 100000 in
theorem ramp_5 : chunk rampB 52 5 = true := by decide +kernel
set_option maxRecDepth 100000 in
theorem ramp_6 : chunk rampB 57 4 = true := by decide +kernel
set_option maxRecDepth 100000 in
theorem ramp_7 : chunk rampB 61 4 = true := by decide +kernel
theorem ramp_all : AllB rampB := all_of ramp_0 ramp_1 ramp_2 ramp_3 ramp_4 ramp_5 ramp_6 ramp_7
set_option maxRecDepth 100000 in
theorem arch_0 : chunk archB 0 24 = true := by decide +kernel
set_option maxRecDepth 100000 in
theorem arch_1 : chunk archB 24 9 = true := by decide +kernel
set_option maxRecDepth 100000 in
theorem arch_2 : chunk archB 33 7 = true := by decide +kernel
set_option maxRecDepth 100000 in
theorem arch_3 : chunk archB 40 6 = true := by decide +kernel
set_option maxRecDepth 100000 in
theorem arch_4 : chunk archB 46 6 = true := by decide +kernel
set_option maxRecDepth 100000 in
theorem arch_5 : chunk archB 52 5 = true := by decide +kernel
set_option maxRecDepth 100000 in
theorem arch_6 : chunk archB 57 4 = true := by decide +kernel
set_option maxRecDepth 100000 in
theorem arch_7 : chunk archB 61 4 = true := by decide +kernel
theorem arch_all : AllB archB := all_of arch_0 arch_1 arch_2 arch_3 arch_4 arch_5 arch_6 arch_7
set_option maxRecDepth 100000 in
theorem near_0 : chunk nearB 0 24 = true := by decide +kernel
set_option maxRecDepth 100000 in
theorem near_1 : chunk nearB 24 9 = true := by decide +kernel
set_option maxRecDepth 100000 in
theorem near_2 : chunk nearB 33 7 = true := by decide +kernel
set_option maxRecDepth 100000 in
theorem near_3 : chunk nearB 40 6 = true := by decide +kernel
set_option maxRecDepth 100000 in
theorem near_4 : chunk nearB 46 6 = true := by decide +kernel
set_option maxRecDepth 100000 in
theorem near_5 : chunk nearB 52 5 = true := by decide +kernel
set_option maxRecDepth 100000 in
theorem near_6 : chunk nearB 57 4 = true := by decide +kernel
set_option maxRecDepth 100000 in
theorem near_7 : chunk nearB 61 4 = true := by decide +kernel
theorem near_all : AllB nearB := all_of near_0 near_1 near_2 near_3 near_4 near_5 near_6 near_7
theorem all_pairs {p : Nat → Nat → Bool} (h : AllB p) (n i : Nat) (hn : n ≤ 64) (hi : i < n) : p n i = true := h n i hn hi
theorem click_all : unitB 1065353216 = true ∧ unitB 0 = true := by decide +kernel

theorem shape_unit (kind n i : Nat) (hk : kind ≤ 2) (hn : n ≤ 64) (hi : i < n) : unitB (shapeAt kind n i) = true := by
  unfold shapeAt
  split
  · unfold clickAt; split
    · exact click_all.1
    · exact click_all.2
  · split
    · have h := all_pairs ramp_all n i hn hi
      rw [rampB_eq] at h
      simp only [Bool.and_eq_true] at h
      exact h.1.1.2
    · have h := all_pairs arch_all n i hn hi
      rw [archB_eq] at h
      simp only [Bool.and_eq_true] at h
      exact h.2

end Go.Proofs.YtiakcibeobbonaaGreat

/- Rows of samples that are filled from their beginning.
   Conditions: those that each statement names. -/
namespace Go.Proofs.YtiakcibeobbonaaGreat
set_option linter.unusedSimpArgs false
set_option linter.unusedVariables false
open Go Go.RowKit

/-- the first k places of n are filled -/
def fillL (f : Nat → Nat) (n k : Nat) : List Nat := (List.range k).map f ++ List.replicate (n - k) 0
theorem fillL_zero (f : Nat → Nat) (n : Nat) : fillL f n 0 = List.replicate n 0 := by simp [fillL]
theorem fillL_full (f : Nat → Nat) (n : Nat) : fillL f n n = (List.range n).map f := by simp [fillL]
theorem fillL_len (f : Nat → Nat) (n k : Nat) (h : k ≤ n) : (fillL f n k).length = n := by simp [fillL]; omega
theorem fillL_set (f : Nat → Nat) (n k : Nat) (h : k < n) : (cellsS (fillL f n k)).set k (.float .f32 (f k)) = cellsS (fillL f n (k + 1)) := by
  unfold fillL
  rw [show n - k = (n - (k + 1)) + 1 from by omega, List.replicate_succ, List.range_succ]
  simp only [cellsS, List.map_append, List.map_cons, List.map_nil, List.append_assoc, List.singleton_append]
  rw [List.set_append_right _ _ (by simp)]
  simp
theorem fillL_cell (f : Nat → Nat) (n k : Nat) (h : k < n) : (cellsS (fillL f n k))[k]? = some (.float .f32 0) := by
  unfold fillL cellsS
  rw [List.getElem?_map, List.getElem?_append_right (by simp)]
  simp [List.getElem?_replicate]
  omega

end Go.Proofs.YtiakcibeobbonaaGreat

/- The walks of StrikeShape, scaleSamples and StrikeBody.
   Conditions: those that each statement names. -/
namespace Go.Proofs.YtiakcibeobbonaaGreat
set_option linter.unusedSimpArgs false
set_option linter.unusedVariables false
open Go Go.RowKit

def FillI (B g n : Nat) (f : Nat → Nat) (w : World) (i : Value) (wr : World) : Prop :=
  ∃ k : Nat, k ≤ n ∧ i = .int .i64 (k : Int) ∧ wr.ownsRow B 23 1 (.slice (some ⟨g, 0, none⟩) n n) n (cellsS (fillL f n k)) ∧ Nw w wr
def ShapeP (n : Nat) (xs : List Nat) (w : World) (e : Ending) (w' : World) : Prop :=
  ∃ g : Nat, e = .returned (.tuple #[.slice (some ⟨g, 0, none⟩) n n, .bool true]) ∧ w'.ownsRow w.heap.size 23 1 (.slice (some ⟨g, 0, none⟩) n n) n (cellsS xs) ∧ Nw w w'

theorem shapeL_click (n : Nat) : shapeL 0 n = (List.range n).map clickAt := by
  have h : shapeAt 0 n = clickAt := by funext i; simp [shapeAt]
  unfold shapeL; rw [h]
theorem shapeL_ramp (n : Nat) : shapeL 1 n = (List.range n).map (rampAt n) := by
  have h : shapeAt 1 n = rampAt n := by funext i; simp [shapeAt]
  unfold shapeL; rw [h]
theorem shapeL_arch (n : Nat) : shapeL 2 n = (List.range n).map (archAt n) := by
  have h : shapeAt 2 n = archAt n := by funext i; simp [shapeAt]
  unfold shapeL; rw [h]
theorem click_set (n : Nat) (h : 1 ≤ n) : (cellsS (fillL clickAt n 0)).set 0 (.float .f32 1065353216) = cellsS ((List.range n).map clickAt) := by
  obtain ⟨m, rfl⟩ : ∃ m, n = m + 1 := ⟨n - 1, by omega⟩
  rw [fillL_zero, List.replicate_succ, List.range_succ_eq_map]
  simp only [cellsS, List.map_cons, List.map_map, List.set_cons_zero, List.map_replicate]
  congr 1
  apply List.ext_getElem?
  intro i
  simp only [List.getElem?_replicate, List.getElem?_map, List.getElem?_range']
  by_cases hi : i < m <;> simp [hi, clickAt]

set_option maxRecDepth 100000 in
theorem strikeShape_ok (kind n : Nat) (hk : kind ≤ 2) (h1 : 1 ≤ n) (hn : n ≤ 64) (w : World) :
    Calls Tryz.prog 105 #[.int .i64 (kind : Int), .int .i64 (n : Int)] w (ShapeP n (shapeL kind n) w) := by
  obtain ⟨f0, hf, hfz0, hfz1, hfz2⟩ := info_parts info_f32
  have hk3 : kind = 0 ∨ kind = 1 ∨ kind = 2 := by omega
  rcases hk3 with rfl | rfl | rfl
  all_goals
    go_enter Tryz.func105, Tryz.ntmps105
    go_wp2_with (first
      | (at_make; refine wpList_make_full _ rfl _ _ 35 rfl w.heap.size 23 f0 (.float .f32 0) 1 Tryz.underlying35 hf hfz0 hfz1 _ _ _ _ n rfl rfl rfl rfl (by rw [hfz2]; omega) (by unfold maxLen; omega) (Nat.le_refl _) ?_))
    intro w3 hown3 hgrow3
  · have O3 := Lib.hid (show w3.ownsRow w.heap.size 23 1 (.slice (some ⟨w.heap.size, 0, none⟩) n n) n (cellsS (fillL clickAt n 0)) from by
      rw [toList_madeCells_one] at hown3
      rw [fillL_zero]
      simpa [cellsS] using hown3)
    have e1 := O3.out.cellAt 0 (by omega)
    rw [fillL_cell clickAt n 0 (by omega)] at e1
    have e2 := O3.out.frozenAt 0
    have hset := O3.out.stored 0 (.float .f32 1065353216)
    have hlt := (O3.out.lt _ rfl)
    have N3 := Lib.hid (show Nw w (w3.setCell ⟨w.heap.size, 0, none⟩ (.float .f32 1065353216)) from Nw.set hgrow3 (by show w.heap.size ≤ w.heap.size; omega) _)
    rw [click_set n h1] at hset
    have F := Lib.hid hset.1
    clear hset hown3 hgrow3
    go_wp2_with fail
    go_ret2
    exact ⟨_, rfl, by rw [shapeL_click]; exact F.out, N3.out⟩
  · have O3 := Lib.hid (show w3.ownsRow w.heap.size 23 1 (.slice (some ⟨w.heap.size, 0, none⟩) n n) n (cellsS (fillL (rampAt n) n 0)) from by
      rw [toList_madeCells_one] at hown3
      rw [fillL_zero]
      simpa [cellsS] using hown3)
    have N3 := Lib.hid (show Nw w w3 from hgrow3)
    clear hown3 hgrow3
    go_wp2_with fail
    go_loopw [27] (fun i wr => FillI w.heap.size w.heap.size n (rampAt n) w i wr) (fun i _ => n - (intOf i).toNat)
    case atStart => exact ⟨0, by omega, rfl, O3.out, N3.out⟩
    case round =>
      obtain ⟨k, hk, rfl, how, hnw⟩ := hrel
      have Ow := Lib.hid how
      have Nr := Lib.hid hnw
      clear how hnw
      by_cases hlt : k < n
      · have hb := all_pairs ramp_all n k hn hlt
        rw [rampB_eq] at hb
        simp only [Bool.and_eq_true] at hb
        have hc := calm_of hb.1.1.1
        have r1 := hc.res
        have d1 := hc.fdr
        have e1 := Ow.out.cellAt k (by omega)
        rw [fillL_cell (rampAt n) n k hlt] at e1
        have e2 := Ow.out.frozenAt k
        have hset := Ow.out.stored k (.float .f32 (rampAt n k))
        rw [fillL_set (rampAt n) n k hlt] at hset
        have F := Lib.hid hset.1
        have N2 := Lib.hid (Nr.out.set (p := ⟨w.heap.size, k, none⟩) (by show w.heap.size ≤ w.heap.size; omega) (.float .f32 (rampAt n k)))
        clear hb hc hset
        unfold rampAt at F N2
        go_wp2_with fail
        go_roundw
        case rel => exact ⟨k + 1, by omega, by rw [show ((k + 1 : Nat) : Int) = (k : Int) + 1 from by omega], F.out, N2.out⟩
        case measure => simp only [intOf]; omega
      · obtain rfl : k = n := by omega
        go_wp2_with fail
        go_ret2
        exact ⟨_, rfl, by have h := Ow.out; rw [fillL_full] at h; rw [shapeL_ramp]; exact h, Nr.out⟩
  · have O3 := Lib.hid (show w3.ownsRow w.heap.size 23 1 (.slice (some ⟨w.heap.size, 0, none⟩) n n) n (cellsS (fillL (archAt n) n 0)) from by
      rw [toList_madeCells_one] at hown3
      rw [fillL_zero]
      simpa [cellsS] using hown3)
    have N3 := Lib.hid (show Nw w w3 from hgrow3)
    clear hown3 hgrow3
    go_wp2_with fail
    go_loopw [44] (fun i wr => FillI w.heap.size w.heap.size n (archAt n) w i wr) (fun i _ => n - (intOf i).toNat)
    case atStart => exact ⟨0, by omega, rfl, O3.out, N3.out⟩
    case round =>
      obtain ⟨k, hk, rfl, how, hnw⟩ := hrel
      have Ow := Lib.hid how
      have Nr := Lib.hid hnw
      clear how hnw
      by_cases hlt : k < n
      · have hb := all_pairs arch_all n k hn hlt
        rw [archB_eq] at hb
        simp only [Bool.and_eq_true] at hb
        have c1 := calm_of hb.1.1.1.1
        have c2 := calm_of hb.1.1.1.2
        have c3 := calm_of hb.1.1.2
        have c4 := calm_of hb.1.2
        have r1 := c1.res
        have d1 := c1.fdr
        have r2 := c2.res
        have d2 := c2.fdr
        have r3 := c3.res
        have d3 := c3.fdr
        have r4 := c4.res
        have d4 := c4.fdr
        have e1 := Ow.out.cellAt k (by omega)
        rw [fillL_cell (archAt n) n k hlt] at e1
        have e2 := Ow.out.frozenAt k
        have hset := Ow.out.stored k (.float .f32 (archAt n k))
        rw [fillL_set (archAt n) n k hlt] at hset
        have F := Lib.hid hset.1
        have N2 := Lib.hid (Nr.out.set (p := ⟨w.heap.size, k, none⟩) (by show w.heap.size ≤ w.heap.size; omega) (.float .f32 (archAt n k)))
        clear hb c1 c2 c3 c4 hset
        unfold archAt archP archM archT at F N2
        unfold archP archM archT at r4 d4
        unfold archT at r2 d2 r3 d3
        go_wp2_with fail
        go_roundw
        case rel => exact ⟨k + 1, by omega, by rw [show ((k + 1 : Nat) : Int) = (k : Int) + 1 from by omega], F.out, N2.out⟩
        case measure => simp only [intOf]; omega
      · obtain rfl : k = n := by omega
        go_wp2_with fail
        go_ret2
        exact ⟨_, rfl, by have h := Ow.out; rw [fillL_full] at h; rw [shapeL_arch]; exact h, Nr.out⟩

end Go.Proofs.YtiakcibeobbonaaGreat

/- The walks of StrikeShape of the model, of StrikeShape for all arguments, and of the marks that the exact laws set.
   Conditions: those that each statement names. -/
namespace Go.Proofs.YtiakcibeobbonaaGreat
set_option linter.unusedSimpArgs false
set_option linter.unusedVariables false
open Go Go.RowKit

def ShapeV (zs : List Nat) (ok : Bool) (w : World) (e : Ending) (w' : World) : Prop :=
  ∃ v : Value, e = .returned (.tuple #[v, .bool ok]) ∧ w'.ownsRow w.heap.size 23 1 v zs.length (cellsS zs) ∧ Nw w w'
def StrS (kind n : Nat) (w : World) (v i : Value) (wr : World) : Prop :=
  ∃ k : Nat, k ≤ n ∧ i = .int .i64 (k : Int) ∧ wr.ownsRow w.heap.size 23 1 v k (cellsS ((List.range k).map (shapeAt kind n))) ∧ Nw w wr
theorem shapeL_len (kind n : Nat) : (shapeL kind n).length = n := by unfold shapeL; simp
theorem row_snoc (kind n k : Nat) : cellsS ((List.range k).map (shapeAt kind n)) ++ cellsS [shapeAt kind n k] = cellsS ((List.range (k + 1)).map (shapeAt kind n)) := by
  rw [List.range_succ]; simp [cellsS]

theorem nw_grow2 {a w w1 : World} {row : Option Nat} (h : Nw a w) (hg : w.grownBy w1 row) (hr : ∀ q, row = some q → a.heap.size ≤ q) : Nw a w1 :=
  ⟨hg.os.trans h.os, hg.tape.trans h.tape, hg.output.trans h.output, Nat.le_trans h.size hg.size, fun k hk hne => (hg.block k (Nat.lt_of_lt_of_le hk h.size) (fun e => by have := hr k e.symm; omega)).trans (h.block k hk hne)⟩

theorem l1In_any (x a b : Int) (w : World) :
    Calls Tryz.prog 26 #[.int .i64 x, .int .i64 a, .int .i64 b] w fun e w' => e = .returned (.bool (decide (a ≤ x ∧ x ≤ b))) ∧ w = w' := by
  by_cases h1 : a ≤ x
  all_goals by_cases h2 : x ≤ b
  all_goals
    go_enter Tryz.func26, Tryz.ntmps26
    go_wp2
    go_ret
    exact ⟨by simp [h1, h2], rfl⟩

set_option maxRecDepth 100000 in
set_option maxHeartbeats 6400000 in
theorem specStrike_ok (kind n : Nat) (hk : kind ≤ 2) (h1 : 1 ≤ n) (hn : n ≤ 64) (w : World) :
    Calls Tryz.prog 48 #[.int .i64 (kind : Int), .int .i64 (n : Int)] w (ShapeV (shapeL kind n) true w) := by
  obtain ⟨i0, hi, hz0, hz1, hz2⟩ := info_parts info_f32
  have hk3 : kind = 0 ∨ kind = 1 ∨ kind = 2 := by omega
  rcases hk3 with rfl | rfl | rfl
  all_goals
    go_enter Tryz.func48, Tryz.ntmps48
  · go_wp2_with (first | (go_at_call 26; refine (l1In_any _ _ _ _).mono ?_; rintro e w' ⟨rfl, rfl⟩; rw [decide_eq_true (by omega)]))
    go_loopw [6, 7] (fun v i wr => StrS 0 n w v i wr) (fun _ i _ => n - (intOf i).toNat)
    case atStart => exact ⟨0, by omega, rfl, World.ownsRow_lit (base := w.heap.size) (e := 23) (size := 1) w #[] 0 (Nat.le_refl _) (by decide) rfl, (Nw.refl w).alloc _⟩
    case round =>
      obtain ⟨k, hk', rfl, how, hnw⟩ := hrel
      obtain ⟨sa, sc, rfl⟩ := own_shape' how
      have Ow := Lib.hid how
      have Nr := Lib.hid hnw
      clear how hnw
      by_cases hlt : k < n
      · skip
        by_cases hk0 : k = 0
        · subst hk0
          go_wp2_with (at_builtin; refine wpList_append_own _ rfl _ _ 35 rfl w.heap.size 23 i0 (.float .f32 0) 1 4 Tryz.underlying35 hi hz0 hz1 hz2 rfl (by decide) _ _ _ rfl (Ow.out.alloc _) ⟨wr.heap.size, 0, none⟩ 1 1 [.float .f32 1065353216] rfl rfl ?c1 ?c2 ?c3 ?c4 ?c5 ?_)
          case c1 =>
            intro j u hj
            match j, hj with
            | 0, hj => simp at hj; subst hj; simp [Addr.add]
          case c2 => intro u hu; simp at hu; subst hu; rfl
          case c3 => unfold maxLen; omega
          case c4 => omega
          case c5 => have := Nr.out.size; simp; omega
          · intro v' w4 hown4 hgrow _
            have hrow : ∀ q, (Value.slice sa 0 sc).ownBlock = some q → w.heap.size ≤ q := fun q hq => own_ge Ow.out q hq
            have N4 := Lib.hid (nw_grow2 (Nr.out.alloc (.cells #[.float .f32 1065353216] 23 (0, 0))) hgrow hrow)
            have O4 := Lib.hid (show w4.ownsRow w.heap.size 23 1 v' 1 (cellsS ((List.range 1).map (shapeAt 0 n))) from by simpa [cellsS, shapeAt, clickAt] using hown4)
            clear hown4 hgrow hrow
            go_wp2_with fail
            go_roundw
            case rel => exact ⟨1, by omega, rfl, O4.out, N4.out⟩
            case measure => simp only [intOf]; omega
        · skip
          go_wp2_with (at_builtin; refine wpList_append_own _ rfl _ _ 35 rfl w.heap.size 23 i0 (.float .f32 0) 1 4 Tryz.underlying35 hi hz0 hz1 hz2 rfl (by decide) _ _ _ rfl (Ow.out.alloc _) ⟨wr.heap.size, 0, none⟩ 1 1 [.float .f32 0] rfl rfl ?c1 ?c2 ?c3 ?c4 ?c5 ?_)
          case c1 =>
            intro j u hj
            match j, hj with
            | 0, hj => simp at hj; subst hj; simp [Addr.add]
          case c2 => intro u hu; simp at hu; subst hu; rfl
          case c3 => unfold maxLen; omega
          case c4 => omega
          case c5 => have := Nr.out.size; simp; omega
          · intro v' w4 hown4 hgrow _
            have hrow : ∀ q, (Value.slice sa k sc).ownBlock = some q → w.heap.size ≤ q := fun q hq => own_ge Ow.out q hq
            have N4 := Lib.hid (nw_grow2 (Nr.out.alloc (.cells #[.float .f32 0] 23 (0, 0))) hgrow hrow)
            rw [show [Value.float .f32 0] = cellsS [shapeAt 0 n k] from by simp [cellsS, shapeAt, clickAt, hk0], row_snoc] at hown4
            have O4 := Lib.hid hown4
            clear hown4 hgrow hrow
            go_wp2_with fail
            go_roundw
            case rel => exact ⟨k + 1, by omega, by rw [show ((k + 1 : Nat) : Int) = (k : Int) + 1 from by omega], O4.out, N4.out⟩
            case measure => simp only [intOf]; omega
      · obtain rfl : k = n := by omega
        go_wp2_with fail
        go_ret2
        exact ⟨_, rfl, by rw [shapeL_len]; exact Ow.out, Nr.out⟩
  · go_wp2_with (first | (go_at_call 26; refine (l1In_any _ _ _ _).mono ?_; rintro e w' ⟨rfl, rfl⟩; rw [decide_eq_true (by omega)]))
    go_loopw [6, 7] (fun v i wr => StrS 1 n w v i wr) (fun _ i _ => n - (intOf i).toNat)
    case atStart => exact ⟨0, by omega, rfl, World.ownsRow_lit (base := w.heap.size) (e := 23) (size := 1) w #[] 0 (Nat.le_refl _) (by decide) rfl, (Nw.refl w).alloc _⟩
    case round =>
      obtain ⟨k, hk', rfl, how, hnw⟩ := hrel
      obtain ⟨sa, sc, rfl⟩ := own_shape' how
      have Ow := Lib.hid how
      have Nr := Lib.hid hnw
      clear how hnw
      by_cases hlt : k < n
      · skip
        have hb := all_pairs ramp_all n k hn hlt
        rw [rampB_eq] at hb
        simp only [Bool.and_eq_true] at hb
        have hc := calm_of hb.1.1.1
        have r1 := hc.res
        have d1 := hc.fdr
        clear hb hc
        go_wp2_with (at_builtin; refine wpList_append_own _ rfl _ _ 35 rfl w.heap.size 23 i0 (.float .f32 0) 1 4 Tryz.underlying35 hi hz0 hz1 hz2 rfl (by decide) _ _ _ rfl (Ow.out.alloc _) ⟨wr.heap.size, 0, none⟩ 1 1 [.float .f32 (opB .quo .f32 (floatOfInt .f32 ((k : Int) + 1)) (floatOfInt .f32 (n : Int)))] rfl rfl ?c1 ?c2 ?c3 ?c4 ?c5 ?_)
        case c1 =>
          intro j u hj
          match j, hj with
          | 0, hj => simp at hj; subst hj; simp [Addr.add]
        case c2 => intro u hu; simp at hu; subst hu; rfl
        case c3 => unfold maxLen; omega
        case c4 => omega
        case c5 => have := Nr.out.size; simp; omega
        · intro v' w4 hown4 hgrow _
          have hrow : ∀ q, (Value.slice sa k sc).ownBlock = some q → w.heap.size ≤ q := fun q hq => own_ge Ow.out q hq
          have N4 := Lib.hid (nw_grow2 (Nr.out.alloc (.cells #[.float .f32 (opB .quo .f32 (floatOfInt .f32 ((k : Int) + 1)) (floatOfInt .f32 (n : Int)))] 23 (0, 0))) hgrow hrow)
          rw [show [Value.float .f32 (opB .quo .f32 (floatOfInt .f32 ((k : Int) + 1)) (floatOfInt .f32 (n : Int)))] = cellsS [shapeAt 1 n k] from by simp [cellsS, shapeAt, rampAt], row_snoc] at hown4
          have O4 := Lib.hid hown4
          clear hown4 hgrow hrow
          go_wp2_with fail
          go_roundw
          case rel => exact ⟨k + 1, by omega, by rw [show ((k + 1 : Nat) : Int) = (k : Int) + 1 from by omega], O4.out, N4.out⟩
          case measure => simp only [intOf]; omega
      · obtain rfl : k = n := by omega
        go_wp2_with fail
        go_ret2
        exact ⟨_, rfl, by rw [shapeL_len]; exact Ow.out, Nr.out⟩
  · go_wp2_with (first | (go_at_call 26; refine (l1In_any _ _ _ _).mono ?_; rintro e w' ⟨rfl, rfl⟩; rw [decide_eq_true (by omega)]))
    go_loopw [6, 7] (fun v i wr => StrS 2 n w v i wr) (fun _ i _ => n - (intOf i).toNat)
    case atStart => exact ⟨0, by omega, rfl, World.ownsRow_lit (base := w.heap.size) (e := 23) (size := 1) w #[] 0 (Nat.le_refl _) (by decide) rfl, (Nw.refl w).alloc _⟩
    case round =>
      obtain ⟨k, hk', rfl, how, hnw⟩ := hrel
      obtain ⟨sa, sc, rfl⟩ := own_shape' how
      have Ow := Lib.hid how
      have Nr := Lib.hid hnw
      clear how hnw
      by_cases hlt : k < n
      · skip
        have hb := all_pairs arch_all n k hn hlt
        rw [archB_eq] at hb
        simp only [Bool.and_eq_true] at hb
        have c1 := calm_of hb.1.1.1.1
        have c2 := calm_of hb.1.1.1.2
        have c3 := calm_of hb.1.1.2
        have c4 := calm_of hb.1.2
        have r1 := c1.res
        have d1 := c1.fdr
        have r2 := c2.res
        have d2 := c2.fdr
        have r3 := c3.res
        have d3 := c3.fdr
        have r4 := c4.res
        have d4 := c4.fdr
        clear hb c1 c2 c3 c4
        unfold archP archM archT at r4 d4
        unfold archT at r2 d2 r3 d3
        go_wp2_with (at_builtin; refine wpList_append_own _ rfl _ _ 35 rfl w.heap.size 23 i0 (.float .f32 0) 1 4 Tryz.underlying35 hi hz0 hz1 hz2 rfl (by decide) _ _ _ rfl (Ow.out.alloc _) ⟨wr.heap.size, 0, none⟩ 1 1 [.float .f32 (opB .mul .f32 (opB .mul .f32 1082130432 (opB .quo .f32 (floatOfInt .f32 (2 * (k : Int) + 1)) (floatOfInt .f32 (2 * (n : Int))))) (opB .sub .f32 1065353216 (opB .quo .f32 (floatOfInt .f32 (2 * (k : Int) + 1)) (floatOfInt .f32 (2 * (n : Int))))))] rfl rfl ?c1 ?c2 ?c3 ?c4 ?c5 ?_)
        case c1 =>
          intro j u hj
          match j, hj with
          | 0, hj => simp at hj; subst hj; simp [Addr.add]
        case c2 => intro u hu; simp at hu; subst hu; rfl
        case c3 => unfold maxLen; omega
        case c4 => omega
        case c5 => have := Nr.out.size; simp; omega
        · intro v' w4 hown4 hgrow _
          have hrow : ∀ q, (Value.slice sa k sc).ownBlock = some q → w.heap.size ≤ q := fun q hq => own_ge Ow.out q hq
          have N4 := Lib.hid (nw_grow2 (Nr.out.alloc (.cells #[.float .f32 (opB .mul .f32 (opB .mul .f32 1082130432 (opB .quo .f32 (floatOfInt .f32 (2 * (k : Int) + 1)) (floatOfInt .f32 (2 * (n : Int))))) (opB .sub .f32 1065353216 (opB .quo .f32 (floatOfInt .f32 (2 * (k : Int) + 1)) (floatOfInt .f32 (2 * (n : Int))))))] 23 (0, 0))) hgrow hrow)
          rw [show [Value.float .f32 (opB .mul .f32 (opB .mul .f32 1082130432 (opB .quo .f32 (floatOfInt .f32 (2 * (k : Int) + 1)) (floatOfInt .f32 (2 * (n : Int))))) (opB .sub .f32 1065353216 (opB .quo .f32 (floatOfInt .f32 (2 * (k : Int) + 1)) (floatOfInt .f32 (2 * (n : Int))))))] = cellsS [shapeAt 2 n k] from by simp [cellsS, shapeAt, archAt, archP, archM, archT], row_snoc] at hown4
          have O4 := Lib.hid hown4
          clear hown4 hgrow hrow
          go_wp2_with fail
          go_roundw
          case rel => exact ⟨k + 1, by omega, by rw [show ((k + 1 : Nat) : Int) = (k : Int) + 1 from by omega], O4.out, N4.out⟩
          case measure => simp only [intOf]; omega
      · obtain rfl : k = n := by omega
        go_wp2_with fail
        go_ret2
        exact ⟨_, rfl, by rw [shapeL_len]; exact Ow.out, Nr.out⟩

end Go.Proofs.YtiakcibeobbonaaGreat

/- What draws scores, first part: a number out of a list; a number of moderate size.
   Conditions: those that each statement names. -/
namespace Go.Proofs.YtiakcibeobbonaaGreat
set_option linter.unusedSimpArgs false
set_option linter.unusedVariables false
open Go Go.RowKit

/-- the integers zs lie in block g from its head on -/
def IntsL (w : World) (g : Nat) (zs : List Int) : Prop := ∀ (k : Nat) z, zs[k]? = some z → w.cell? ⟨g, k, none⟩ = some (.int .i64 z)
def InP (B : Nat) (w0 : World) (a : Option Addr) (len cap c : Nat) (zs : List Int) (e : Ending) (w' : World) : Prop :=
  ∃ x : Int, x ∈ zs ∧ e = .returned (.int .i64 x) ∧ At B w0 a len cap c w'
theorem l01Int_in (B : Nat) (w0 : World) (a : Option Addr) (len cap c : Nat) (g n m : Nat) (zs : List Int) (hz : zs.length = n) (hn : 1 ≤ n) (hn2 : n ≤ 256) (w : World) (hc : At B w0 a len cap c w) (hg : g < w.heap.size) (hgc : g ≠ c) (hi : IntsL w g zs) :
    Calls Tryz.prog 23 #[.pointer (some ⟨c, 0, none⟩), .slice (some ⟨g, 0, none⟩) n m] w (InP B w0 a len cap c zs) := by
  have Hi := Lib.hid hi
  clear hi
  have Hc := Lib.hid hc
  clear hc
  have Hz := Lib.hid hz
  clear hz
  go_enter Tryz.func23, Tryz.ntmps23
  go_wp2_with fail
  refine (below_at _ _ _ _ _ _ _ (by omega) (by omega) _ Hc.out.here).mono ?_
  rintro e w1 ⟨x, x0, x1, rfl, hc1⟩
  obtain ⟨k, rfl⟩ : ∃ k : Nat, x = k := ⟨x.toNat, by omega⟩
  obtain ⟨z, hzk⟩ : ∃ z, zs[k]? = some z := ⟨zs[k]'(by rw [Hz.out]; omega), List.getElem?_eq_getElem _⟩
  have hz := Hi.out k z hzk
  have hmem := Lib.hid (List.mem_of_getElem? hzk)
  have hz1 : w1.cell? ⟨g, k, none⟩ = some (.int .i64 z) := by rw [hc1.2.cell (p := ⟨g, k, none⟩) hg hgc]; exact hz
  have hkn : k < n := by omega
  have Hc1 := Lib.hid (show At B w0 a len cap c w1 from ⟨hc1.1, Hc.out.2.trans hc1.2⟩)
  clear hc1 hz hzk
  go_wp2
  go_ret
  exact ⟨_, hmem.out, rfl, Hc1.out⟩

/-! ### a number of moderate size -/
theorem nm_16 : Flo.Nm 4625196817309499392 ∧ Flo.W 4625196817309499392 = 16 := by
  have h := Flo.int_double 16 (by decide)
  rw [show floatOfInt .f64 16 = 4625196817309499392 from by decide +kernel] at h
  exact ⟨h.1, by rw [h.2]; rfl⟩
theorem nm_mega : Flo.Nm 4697254411347427328 ∧ Flo.W 4697254411347427328 = 1048576 := by
  have h := Flo.int_double 1048576 (by decide)
  rw [show floatOfInt .f64 1048576 = 4697254411347427328 from by decide +kernel] at h
  exact ⟨h.1, by rw [h.2]; rfl⟩
theorem nm_three : Flo.Nm 4613937818241073152 ∧ Flo.W 4613937818241073152 = 3 := by
  have h := Flo.int_double 3 (by decide)
  rw [show floatOfInt .f64 3 = 4613937818241073152 from by decide +kernel] at h
  exact ⟨h.1, by rw [h.2]; rfl⟩
/-- an integer of at most a million, divided by a number that is no less than 1 -/
theorem int_quo (z : Int) (hz : z.natAbs ≤ 1000000) (y : Nat) (hy : Flo.Nm y) (h1 : 1 ≤ Flo.W y) :
    ∃ r, floatBits .quo .f64 (floatOfInt .f64 z) y = some r ∧ Flo.Nm r ∧ Flo.Ab (Flo.W r) 1000005 := by
  obtain ⟨n1, n2⟩ := Flo.int_double z (by omega)
  have hzr : Flo.Ab (z : Rat) 1000000 := by
    have a1 : z ≤ 1000000 := by omega
    have a2 : -1000000 ≤ z := by omega
    have b1 : (z : Rat) ≤ ((1000000 : Int) : Rat) := Rat.intCast_le_intCast.2 a1
    have b2 : ((-1000000 : Int) : Rat) ≤ (z : Rat) := Rat.intCast_le_intCast.2 a2
    have c1 : ((1000000 : Int) : Rat) = 1000000 := rfl
    have c2 : ((-1000000 : Int) : Rat) = -1000000 := rfl
    exact ⟨by grind, by grind⟩
  have hy0 : Flo.W y ≠ 0 := by grind
  have hq : (Flo.W (floatOfInt .f64 z) / Flo.W y) * Flo.W y = Flo.W (floatOfInt .f64 z) := Rat.div_mul_cancel hy0
  have hb : Flo.Ab (Flo.W (floatOfInt .f64 z) / Flo.W y) 1000000 := by
    refine Flo.Ab.div (y := Flo.W y) (D := 1) ?_ (by grind) h1
    rw [hq, n2]
    simpa using hzr
  have hp : (1000000 : Rat) < Flo.pw 1022 := by
    have h := Flo.pw_nat 20
    have hm : Flo.pw 20 ≤ Flo.pw 1022 := Flo.pw_le (by omega)
    rw [show ((20 : Nat) : Int) = 20 from rfl] at h
    rw [h] at hm
    have e : ((2 ^ 20 : Nat) : Rat) = 1048576 := rfl
    grind
  obtain ⟨r, h1, h2, h3⟩ := Flo.d_div _ y n1 hy hy0 _ 1000000 hq hb hp
  refine ⟨r, h1, h2, ?_⟩
  have hu := Flo.u_le
  have ht : Flo.et ≤ Flo.u := Flo.pw_le (by omega)
  unfold Flo.Ab at hb h3 ⊢
  grind

/-- a number of double precision that is not great -/
def Mo (b : Nat) : Prop := Flo.Nm b ∧ Flo.Ab (Flo.W b) 1000005
theorem mo_quo (z : Int) (hz : z.natAbs ≤ 1000000) (y : Nat) (hy : Flo.Nm y) (h1 : 1 ≤ Flo.W y) (w : World) : Mo (fres w .quo .f64 (floatOfInt .f64 z) y) := by
  obtain ⟨r, h2, h3, h4⟩ := int_quo z hz y hy h1
  unfold fres
  rw [h2]
  exact ⟨h3, h4⟩
theorem mo_int (z : Int) (hz : z.natAbs ≤ 1000000) : Mo (floatOfInt .f64 z) := by
  obtain ⟨n1, n2⟩ := Flo.int_double z (by omega)
  refine ⟨n1, ?_⟩
  rw [n2]
  have b1 : (z : Rat) ≤ ((1000000 : Int) : Rat) := Rat.intCast_le_intCast.2 (by omega)
  have b2 : ((-1000000 : Int) : Rat) ≤ (z : Rat) := Rat.intCast_le_intCast.2 (by omega)
  have c1 : ((1000000 : Int) : Rat) = 1000000 := rfl
  have c2 : ((-1000000 : Int) : Rat) = -1000000 := rfl
  exact ⟨by grind, by grind⟩
def MoP (B : Nat) (w0 : World) (a : Option Addr) (len cap c : Nat) (e : Ending) (w' : World) : Prop :=
  ∃ b : Nat, e = .returned (.float .f64 b) ∧ Mo b ∧ At B w0 a len cap c w'
theorem l1Some_mo (B : Nat) (w0 : World) (a : Option Addr) (len cap c : Nat) (w : World) (hc : At B w0 a len cap c w) :
    Calls Tryz.prog 45 #[.pointer (some ⟨c, 0, none⟩)] w (MoP B w0 a len cap c) := by
  go_enter Tryz.func45, Tryz.ntmps45
  go_wp2_with (go_at_call 22; refine (below_at _ _ _ _ _ _ _ (by omega) (by omega) _ (by assumption)).mono ?_; rintro e w1 ⟨x, x0, x1, rfl, hc1⟩)
  all_goals
    go_ret
    first
      | exact ⟨_, rfl, mo_int _ (by omega), by assumption⟩
      | exact ⟨_, rfl, mo_quo _ (by omega) _ nm_16.1 (by rw [nm_16.2]; decide) _, At.draw (by assumption) _⟩
      | exact ⟨_, rfl, mo_quo _ (by omega) _ nm_mega.1 (by rw [nm_mega.2]; decide) _, At.draw (by assumption) _⟩
      | exact ⟨_, rfl, mo_quo _ (by omega) _ nm_three.1 (by rw [nm_three.2]; decide) _, At.draw (by assumption) _⟩

/-! ### boxes of any number of cells -/
def HasC (w : World) (b : Nat) (cs : List Value) : Prop :=
  b < w.heap.size ∧ ∀ (k : Nat) v, cs[k]? = some v → w.cell? ⟨b, k, none⟩ = some v ∧ w.frozen? ⟨b, k, none⟩ = false
theorem HasC.of {w w' : World} {b : Nat} {cs : List Value} (h : HasC w b cs) (hs : w.heap.size ≤ w'.heap.size) (hb : w'.heap[b]? = w.heap[b]?) : HasC w' b cs :=
  ⟨Nat.lt_of_lt_of_le h.1 hs, fun k v hk => by rw [World.cell?_of_block (w := w) (a := ⟨b, k, none⟩) hb, World.frozen?_of_block (w := w) (a := ⟨b, k, none⟩) hb]; exact h.2 k v hk⟩
theorem HasC.kp {c : Nat} {w w' : World} {b : Nat} {cs : List Value} (h : HasC w b cs) (hk : Kp c w w') (hne : b ≠ c) : HasC w' b cs := h.of hk.size (hk.block b h.1 (fun e => hne (by cases e; rfl)))
theorem HasC.nw {w w' : World} {b : Nat} {cs : List Value} (h : HasC w b cs) (hk : Nw w w') : HasC w' b cs := h.of hk.size (hk.block b h.1 (by simp))
theorem HasC.alloc {w : World} {b : Nat} {cs : List Value} (h : HasC w b cs) (o : Obj) : HasC (w.alloc o) b cs := h.nw ((Nw.refl _).alloc _)
theorem HasC.draw {w : World} {b : Nat} {cs : List Value} (h : HasC w b cs) (n : Nat) : HasC (w.drewN n) b cs := h.nw ((Nw.refl _).draw _)

theorem HasC.set {w : World} {b : Nat} {cs : List Value} (h : HasC w b cs) (j : Nat) (u : Value) : HasC (w.setCell ⟨b, j, none⟩ u) b (cs.set j u) := by
  refine ⟨by simpa [World.setCell] using h.1, fun k v hk => ?_⟩
  by_cases hj : j = k
  · subst hj
    have hl := (List.getElem?_eq_some_iff.1 hk).1
    simp at hl
    rw [List.getElem?_set_self hl] at hk
    cases hk
    obtain ⟨h1, h2⟩ := h.2 j cs[j] (List.getElem?_eq_getElem hl)
    constructor <;> go_simp
  · rw [List.getElem?_set_ne hj] at hk
    obtain ⟨h1, h2⟩ := h.2 k v hk
    have hk' : k ≠ j := fun e => hj e.symm
    constructor <;> go_simp
theorem HasC.sete {w : World} {b : Nat} {cs : List Value} (h : HasC w b cs) {p : Addr} (hp : p.block ≠ b) (u : Value) : HasC (w.setCell p u) b cs :=
  h.of (by simp [World.setCell]) (Below.heap_setCell _ _ _ _ (fun e => hp e.symm))

end Go.Proofs.YtiakcibeobbonaaGreat

/- Bodies and events in memory, their appends; events compared.
   Conditions: those that each statement names. -/
namespace Go.Proofs.YtiakcibeobbonaaGreat
set_option linter.unusedSimpArgs false
set_option linter.unusedVariables false
open Go Go.RowKit

theorem info_body : (Tryz.prog.info? 65).map (fun i => (i.zero, i.size, i.bytes)) = some (some (.agg #[.slice none 0 0]), 1, 24) := by kernel_rfl
theorem info_event : (Tryz.prog.info? 68).map (fun i => (i.zero, i.size, i.bytes)) = some (some (.agg #[.int .i64 0, .int .i64 0, .int .i64 0, .int .i64 0, .int .i64 0, .float .f32 0]), 6, 48) := by kernel_rfl

/-- rows in memory of different types lie in different blocks -/
theorem rows_apart {w : World} {b b' : Nat} {E E' : TypeId} {size size' n n' : Nat} {v v' : Value} {xs xs' : List Value} (h : w.ownsRow b E size v n xs) (k : w.ownsRow b' E' size' v' n' xs') (hE : E ≠ E') : v.ownBlock = none ∨ v.ownBlock ≠ v'.ownBlock := by
  rcases h.2 with ⟨rfl, _⟩ | ⟨g, cap, cur, rfl, hb, hg, _⟩
  · exact .inl rfl
  · rcases k.2 with ⟨rfl, _⟩ | ⟨g', cap', cur', rfl, hb', hg', _⟩
    · right; simp [Value.ownBlock]
    · right
      intro e
      simp [Value.ownBlock] at e
      subst e
      rw [hg] at hg'
      injection hg' with hg'
      injection hg' with h1 h2 h3
      exact hE h2

/-! ### bodies -/
def BodsR (w : World) (base : Nat) (sv : Value) (bs : List (List M4)) : Prop :=
  ∃ vs : List Value, w.ownsRow base 65 1 sv bs.length vs ∧ ∀ (p : Nat) ms, bs[p]? = some ms → ∃ v, vs[p]? = some v ∧ w.ownsRow base 93 2 v ms.length (cellsM ms)
theorem BodsR.nil (w : World) (base : Nat) : BodsR w base (.slice none 0 0) [] := ⟨[], World.ownsRow_nil _ _ _ _, fun p r h => by simp at h⟩
theorem BodsR.nw {w w' : World} {base : Nat} {sv : Value} {bs : List (List M4)} (h : BodsR w base sv bs) (hk : Nw w w') : BodsR w' base sv bs := by
  obtain ⟨vs, h1, h2⟩ := h
  exact ⟨vs, own_nw h1 hk, fun p r hp => by obtain ⟨v, a, b⟩ := h2 p r hp; exact ⟨v, a, own_nw b hk⟩⟩
theorem BodsR.kp {c : Nat} {w w' : World} {base : Nat} {sv : Value} {bs : List (List M4)} (h : BodsR w base sv bs) (hk : Kp c w w') (hc : c < base) : BodsR w' base sv bs := by
  obtain ⟨vs, h1, h2⟩ := h
  exact ⟨vs, own_kp h1 hk hc, fun p r hp => by obtain ⟨v, a, b⟩ := h2 p r hp; exact ⟨v, a, own_kp b hk hc⟩⟩
theorem BodsR.base {w : World} {base b' : Nat} {sv : Value} {bs : List (List M4)} (h : BodsR w base sv bs) (hb : b' ≤ base) : BodsR w b' sv bs := by
  obtain ⟨vs, h1, h2⟩ := h
  exact ⟨vs, own_base h1 hb, fun p r hp => by obtain ⟨v, a, b⟩ := h2 p r hp; exact ⟨v, a, own_base b hb⟩⟩
theorem BodsR.set {w : World} {base : Nat} {sv : Value} {bs : List (List M4)} (h : BodsR w base sv bs) {p : Addr} (hp : p.block < base) (u : Value) : BodsR (w.setCell p u) base sv bs := by
  obtain ⟨vs, h1, h2⟩ := h
  exact ⟨vs, own_set h1 hp u, fun p r hp' => by obtain ⟨v, a, b⟩ := h2 p r hp'; exact ⟨v, a, own_set b hp u⟩⟩
theorem BodsR.shape {w : World} {base : Nat} {sv : Value} {bs : List (List M4)} (h : BodsR w base sv bs) : ∃ a c, sv = .slice a bs.length c := by
  obtain ⟨vs, h1, h2⟩ := h
  exact own_shape' h1
/-- a row of another type grows: the bodies stay -/
theorem BodsR.grown {w w' : World} {base b2 : Nat} {E : TypeId} {size n : Nat} {v sv : Value} {xs : List Value} {bs : List (List M4)} (h : BodsR w base sv bs) (hr : w.ownsRow b2 E size v n xs) (h1 : 65 ≠ E) (h2 : 93 ≠ E) (hg : w.grownBy w' v.ownBlock) : BodsR w' base sv bs := by
  obtain ⟨vs, k1, k2⟩ := h
  exact ⟨vs, k1.kept hg (rows_apart k1 hr h1), fun p r hp => by obtain ⟨v, a, b⟩ := k2 p r hp; exact ⟨v, a, b.kept hg (rows_apart b hr h2)⟩⟩
/-- a body behind the others -/
theorem BodsR.snoc {w w' : World} {base b2 : Nat} {sv sv' rv : Value} {bs : List (List M4)} {vs : List Value} {ms : List M4} (ho : w.ownsRow base 65 1 sv bs.length vs)
    (hi : ∀ (p : Nat) r, bs[p]? = some r → ∃ v, vs[p]? = some v ∧ w.ownsRow base 93 2 v r.length (cellsM r)) (hr : w.ownsRow b2 93 2 rv ms.length (cellsM ms)) (hb : base ≤ b2)
    (hn : w'.ownsRow base 65 1 sv' (bs.length + 1) (vs ++ [rv])) (hg : w.grownBy w' sv.ownBlock) : BodsR w' base sv' (bs ++ [ms]) := by
  refine ⟨vs ++ [rv], by rw [List.length_append]; exact hn, fun p r' hp => ?_⟩
  have hv : vs.length = bs.length := by have := ho.1; omega
  by_cases h : p < bs.length
  · rw [List.getElem?_append_left h] at hp
    obtain ⟨v, b, c⟩ := hi p r' hp
    exact ⟨v, by rw [List.getElem?_append_left (by omega)]; exact b, c.kept hg (rows_apart c ho (by decide))⟩
  · have h2 := (List.getElem?_eq_some_iff.1 hp).1
    rw [List.length_append] at h2
    obtain rfl : p = bs.length := by simp at h2; omega
    rw [List.getElem?_append_right (Nat.le_refl _), Nat.sub_self] at hp
    simp at hp
    subst hp
    exact ⟨rv, by rw [← hv, List.getElem?_append_right (Nat.le_refl _), Nat.sub_self]; rfl, own_base (hr.kept hg (rows_apart hr ho (by decide))) hb⟩
/-- one body, read -/
theorem BodsR.at {w : World} {base n : Nat} {sv : Value} {bs : List (List M4)} (h : BodsR w base sv bs) (hn : n = bs.length) {p : Nat} {ms : List M4} (hp : bs[p]? = some ms) :
    ∃ g cap a c, sv = .slice (some ⟨g, 0, none⟩) n cap ∧ n ≤ cap ∧ cap ≤ maxLen ∧ g < w.heap.size ∧ w.cell? ⟨g, p, none⟩ = some (.slice a ms.length c) ∧ w.ownsRow base 93 2 (.slice a ms.length c) ms.length (cellsM ms) := by
  obtain ⟨vs, ho, hi⟩ := h
  obtain ⟨v, h2, h3⟩ := hi p ms hp
  have hk := (List.getElem?_eq_some_iff.1 hp).1
  obtain ⟨a, c, rfl⟩ := own_shape' h3
  rcases ho.2 with ⟨_, h0⟩ | ⟨g, cap, cur, hv, hb, hg, hc, hm, hs, ht⟩
  · omega
  · subst hv
    have c1 := ho.cellAt p (by omega)
    rw [h2] at c1
    exact ⟨g, cap, a, c, by rw [hn], by omega, hm, (ho.lt g rfl).2, c1, h3⟩

/-! ### events -/
structure Ev6 where
  t : Int
  k : Int
  b : Int
  s : Int
  m : Int
  f : Nat
def Ev6.cells (e : Ev6) : List Value := [.int .i64 e.t, .int .i64 e.k, .int .i64 e.b, .int .i64 e.s, .int .i64 e.m, .float .f32 e.f]
def cellsE (es : List Ev6) : List Value := es.flatMap Ev6.cells
theorem cellsE_len (es : List Ev6) : (cellsE es).length = es.length * 6 := by
  induction es with
  | nil => rfl
  | cons m ms ih => simp only [cellsE, List.flatMap_cons, List.length_append, List.length_cons] at *; simp [Ev6.cells] at *; omega
theorem cellsE_snoc (es : List Ev6) (e : Ev6) : cellsE (es ++ [e]) = cellsE es ++ e.cells := by simp [cellsE]
theorem cellsE_one (es : List Ev6) : ∀ u ∈ cellsE es, u.oneCell' = true := by
  intro u hu
  obtain ⟨e, _, h⟩ := List.mem_flatMap.1 hu
  simp [Ev6.cells] at h
  rcases h with rfl | rfl | rfl | rfl | rfl | rfl <;> rfl
theorem cellsE_at (es : List Ev6) (k j : Nat) (e : Ev6) (h : es[k]? = some e) (hj : j < 6) : (cellsE es)[6 * k + j]? = e.cells[j]? := by
  induction es generalizing k with
  | nil => simp at h
  | cons a es ih =>
    have hl : a.cells.length = 6 := rfl
    cases k with
    | zero =>
      simp at h; subst h
      simp only [cellsE, List.flatMap_cons, Nat.mul_zero, Nat.zero_add]
      rw [List.getElem?_append_left (by rw [hl]; exact hj)]
    | succ k =>
      have := ih k (by simpa using h)
      simp only [cellsE, List.flatMap_cons] at this ⊢
      rw [List.getElem?_append_right (by rw [hl]; omega), hl, show 6 * (k + 1) + j - 6 = 6 * k + j from by omega]
      exact this

/-- append of one body -/
theorem step_append_body {ops : Array Oper} {o : Oper} {a : Act} {w : World} {K : Act → World → Prop} {Q : Exit → Act → World → Prop} {E : Prop} (hg : o.guard = none) (s x : Operand)
    (hop : o.op = Op.call { callee := Callee.builtin Builtin.append, args := #[s, x], argTypes := #[24, 24] }) (base n h : Nat) (v rv : Value) (vs : List Value) (hs : a.eval s = v) (hx : a.eval x = .slice (some ⟨h, 0, none⟩) 1 1)
    (hv : w.ownsRow base 65 1 v n vs) (hc : w.cell? ⟨h, 0, none⟩ = some rv) (h1 : rv.oneCell' = true) (hn : n ≤ 1048576) (hb : base ≤ w.heap.size)
    (hK : ∀ v' w', w'.ownsRow base 65 1 v' (n + 1) (vs ++ [rv]) → w.grownBy w' v.ownBlock → K (a.put o.dst v') w') :
    if Region.wanted o (yielded ops a.tmps) = true then Oper.wp Tryz.prog o a w K Q else E := by
  have hw : Region.wanted o (yielded ops a.tmps) = true := by simp [Region.wanted, hg]
  rw [if_pos hw]
  obtain ⟨j0, hj, hy0, hy1, hy2⟩ := info_parts info_body
  refine wp_append_own w s x 24 hop base 65 j0 (.agg #[.slice none 0 0]) 1 24 Tryz.underlying24 hj hy0 hy1 hy2 rfl (by decide) v n vs hs hv ⟨h, 0, none⟩ 1 1 [rv] hx (by simp) ?_ ?_ (by unfold maxLen; omega) (by omega) hb ?_
  · intro j z hj
    match j, hj with
    | 0, hj => simp at hj; subst hj; simpa [Addr.add] using hc
  · intro u hu; simp at hu; subst hu; exact h1
  · intro v' w' h1 h2 _
    exact hK v' w' h1 h2

/-- one event, read -/
theorem own_event {w : World} {base n : Nat} {v : Value} {es : List Ev6} (h : w.ownsRow base 68 6 v n (cellsE es)) (hn : es.length = n) {k : Nat} {e : Ev6} (hk : es[k]? = some e) :
    ∃ g cap, v = .slice (some ⟨g, 0, none⟩) n cap ∧ n ≤ cap ∧ cap ≤ maxLen ∧ g < w.heap.size ∧ w.cell? ⟨g, k * 6, none⟩ = some (.int .i64 e.t) ∧ w.cell? ⟨g, k * 6 + 1, none⟩ = some (.int .i64 e.k) ∧ w.cell? ⟨g, k * 6 + 2, none⟩ = some (.int .i64 e.b) ∧
      w.cell? ⟨g, k * 6 + 3, none⟩ = some (.int .i64 e.s) ∧ w.cell? ⟨g, k * 6 + 4, none⟩ = some (.int .i64 e.m) ∧ w.cell? ⟨g, k * 6 + 5, none⟩ = some (.float .f32 e.f) := by
  have hkn := (List.getElem?_eq_some_iff.1 hk).1
  rcases h.2 with ⟨_, h0⟩ | ⟨g, cap, cur, hv, hb, hg, hc, hm, hs, ht⟩
  · omega
  · subst hv
    have c : ∀ j, j < 6 → w.cell? ⟨g, k * 6 + j, none⟩ = e.cells[j]? := fun j hj => by
      have := h.cellAt (k * 6 + j) (by omega)
      rw [show k * 6 + j = 6 * k + j from by omega, cellsE_at es k j e hk hj, show 6 * k + j = k * 6 + j from by omega] at this
      exact this
    exact ⟨g, cap, rfl, by omega, hm, (h.lt g rfl).2, c 0 (by omega), c 1 (by omega), c 2 (by omega), c 3 (by omega), c 4 (by omega), c 5 (by omega)⟩

/-- append of one event -/
theorem step_append_event {ops : Array Oper} {o : Oper} {a : Act} {w : World} {K : Act → World → Prop} {Q : Exit → Act → World → Prop} {E : Prop} (hg : o.guard = none) (s x : Operand)
    (hop : o.op = Op.call { callee := Callee.builtin Builtin.append, args := #[s, x], argTypes := #[25, 25] }) (base n h : Nat) (v : Value) (ev : Ev6) (es : List Ev6) (hs : a.eval s = v) (hx : a.eval x = .slice (some ⟨h, 0, none⟩) 1 1)
    (hv : w.ownsRow base 68 6 v n (cellsE es)) (hc : ∀ (j : Nat) u, ev.cells[j]? = some u → w.cell? ⟨h, j, none⟩ = some u) (hn : n ≤ 1048576) (hb : base ≤ w.heap.size)
    (hK : ∀ v' w', w'.ownsRow base 68 6 v' (n + 1) (cellsE (es ++ [ev])) → w.grownBy w' v.ownBlock → K (a.put o.dst v') w') :
    if Region.wanted o (yielded ops a.tmps) = true then Oper.wp Tryz.prog o a w K Q else E := by
  have hw : Region.wanted o (yielded ops a.tmps) = true := by simp [Region.wanted, hg]
  rw [if_pos hw]
  obtain ⟨j0, hj, hy0, hy1, hy2⟩ := info_parts info_event
  refine wp_append_own w s x 25 hop base 68 j0 (.agg #[.int .i64 0, .int .i64 0, .int .i64 0, .int .i64 0, .int .i64 0, .float .f32 0]) 6 48 Tryz.underlying25 hj hy0 hy1 hy2 rfl (by decide) v n (cellsE es) hs hv ⟨h, 0, none⟩ 1 1 ev.cells hx (by simp [Ev6.cells]) ?_ ?_ (by unfold maxLen; omega) (by omega) hb ?_
  · intro j z hj
    rw [show (⟨h, 0, none⟩ : Addr).add j = ⟨h, j, none⟩ from by simp [Addr.add]; first | done | (intro e; omega)]
    exact hc j z hj
  · intro u hu
    simp [Ev6.cells] at hu
    rcases hu with rfl | rfl | rfl | rfl | rfl | rfl <;> rfl
  · intro v' w' h1 h2 _
    exact hK v' w' (by rw [cellsE_snoc]; exact h1) h2

def evV (t k b s m : Int) (f : Nat) : Value := .agg #[.int .i64 t, .int .i64 k, .int .i64 b, .int .i64 s, .int .i64 m, .float .f32 f]
/-- equality of numbers of single precision, as the language has it -/
def feq (x y : Nat) : Bool := FloatKind.f32.format.order x y == some .eq
theorem feq_self {x : Nat} (h : Sm x) : feq x x = true := by
  have o := Flo.order_num Ieee.single x x h h
  unfold feq
  rw [show FloatKind.f32.format = Ieee.single from rfl, beq_iff_eq]
  exact o.2.1.2 rfl
def Ev6.val (e : Ev6) : Value := evV e.t e.k e.b e.s e.m e.f
def Ev6.eqB (x y : Ev6) : Bool := x.t == y.t && (x.k == y.k && (x.b == y.b && (x.s == y.s && (x.m == y.m && feq x.f y.f))))
theorem Ev6.eqB_self {x : Ev6} (h : Sm x.f) : x.eqB x = true := by
  unfold Ev6.eqB
  rw [feq_self h]; simp
theorem eqlIn_f32 (w : World) (d : Nat) (x y : Nat) : (Op.equalIn (d + 1) 23 (.float .f32 x) (.float .f32 y)).run Tryz.prog w = .ok (feq x y) w := by
  have hu := Tryz.underlying23
  simp [Op.equalIn, run_underlying hu, feq, Op.floatEq]
theorem eqlIn_int (w : World) (d : Nat) (x y : Int) : (Op.equalIn (d + 1) 3 (.int .i64 x) (.int .i64 y)).run Tryz.prog w = .ok (x == y) w :=
  run_equalIn_int w d _ _ _ x y Tryz.underlying3
theorem eqFields_step {P : Program} {d : Nat} {xs ys : Array Value} {f : Field} {fs : List Field} {a b : Value} {r : Bool} {w : World} (hn : f.name ≠ "_") (h1 : (part f.type xs f.offset).run P w = .ok a w) (h2 : (part f.type ys f.offset).run P w = .ok b w)
    (h3 : (Op.equalIn d f.type a b).run P w = .ok r w) : (Op.eqFields d xs ys (f :: fs)).run P w = if r = true then (Op.eqFields d xs ys fs).run P w else .ok false w := by
  simp only [Op.eqFields, if_pos hn, Sem.run_bind, h1, h2, h3, Result.andThen_ok]
  cases r <;> simp
set_option maxRecDepth 100000 in
theorem eql_fields (w : World) (d : Nat) (t k b s m t' k' b' s' m' : Int) (f f' : Nat) :
    (Op.equalIn (d + 2) 68 (.agg #[.int .i64 t, .int .i64 k, .int .i64 b, .int .i64 s, .int .i64 m, .float .f32 f]) (.agg #[.int .i64 t', .int .i64 k', .int .i64 b', .int .i64 s', .int .i64 m', .float .f32 f'])).run Tryz.prog w
      = .ok (Ev6.eqB ⟨t, k, b, s, m, f⟩ ⟨t', k', b', s', m', f'⟩) w := by
  have hu := Tryz.underlying68
  have hh : Tryz.prog.stoodInHeld 68 = false := by kernel_rfl
  have hf : Tryz.prog.fieldsOf 68 = #[{ name := "At", type := 3, offset := 0, embedded := false, tag := "", pkgPath := "", byteOffset := 0 },
      { name := "Kind", type := 3, offset := 1, embedded := false, tag := "", pkgPath := "", byteOffset := 8 },
      { name := "Body", type := 3, offset := 2, embedded := false, tag := "", pkgPath := "", byteOffset := 16 },
      { name := "Shape", type := 3, offset := 3, embedded := false, tag := "", pkgPath := "", byteOffset := 24 },
      { name := "Count", type := 3, offset := 4, embedded := false, tag := "", pkgPath := "", byteOffset := 32 },
      { name := "Force", type := 23, offset := 5, embedded := false, tag := "", pkgPath := "", byteOffset := 40 }] := by unfold Program.fieldsOf; rw [hu]
  have a1 : ∀ (x y : Int) (w : World), (Op.equalIn (d + 1) 3 (.int .i64 x) (.int .i64 y)).run Tryz.prog w = .ok (x == y) w := fun x y w => eqlIn_int w d x y
  have a2 : ∀ (x y : Nat) (w : World), (Op.equalIn (d + 1) 23 (.float .f32 x) (.float .f32 y)).run Tryz.prog w = .ok (feq x y) w := fun x y w => eqlIn_f32 w d x y
  rw [run_equalIn_struct w (d + 1) _ _ _ (by rw [hf]; exact hu) hh, hf]
  refine (eqFields_step (by decide) (a := .int .i64 t) (b := .int .i64 t') rfl rfl (a1 _ _ _)).trans ?_
  unfold Ev6.eqB
  cases h0 : (t == t')
  · rfl
  refine (eqFields_step (by decide) (a := .int .i64 k) (b := .int .i64 k') rfl rfl (a1 _ _ _)).trans ?_
  cases h1 : (k == k')
  · rfl
  refine (eqFields_step (by decide) (a := .int .i64 b) (b := .int .i64 b') rfl rfl (a1 _ _ _)).trans ?_
  cases h2 : (b == b')
  · rfl
  refine (eqFields_step (by decide) (a := .int .i64 s) (b := .int .i64 s') rfl rfl (a1 _ _ _)).trans ?_
  cases h3 : (s == s')
  · rfl
  refine (eqFields_step (by decide) (a := .int .i64 m) (b := .int .i64 m') rfl rfl (a1 _ _ _)).trans ?_
  cases h4 : (m == m')
  · rfl
  refine (eqFields_step (by decide) (a := .float .f32 f) (b := .float .f32 f') rfl rfl (a2 _ _ _)).trans ?_
  cases h5 : feq f f'
  · rfl
  · rfl
theorem eql_event (w : World) (t k b s m t' k' b' s' m' : Int) (f f' : Nat) :
    (binOp .eql 68 (.agg #[.int .i64 t, .int .i64 k, .int .i64 b, .int .i64 s, .int .i64 m, .float .f32 f]) (.agg #[.int .i64 t', .int .i64 k', .int .i64 b', .int .i64 s', .int .i64 m', .float .f32 f'])).run Tryz.prog w
      = .ok (.bool (Ev6.eqB ⟨t, k, b, s, m, f⟩ ⟨t', k', b', s', m', f'⟩)) w := by
  rw [run_eql_struct, eql_fields w 9998]
  rfl
theorem neq_event (w : World) (t k b s m t' k' b' s' m' : Int) (f f' : Nat) :
    (binOp .neq 68 (.agg #[.int .i64 t, .int .i64 k, .int .i64 b, .int .i64 s, .int .i64 m, .float .f32 f]) (.agg #[.int .i64 t', .int .i64 k', .int .i64 b', .int .i64 s', .int .i64 m', .float .f32 f'])).run Tryz.prog w
      = .ok (.bool (!Ev6.eqB ⟨t, k, b, s, m, f⟩ ⟨t', k', b', s', m', f'⟩)) w := by
  rw [run_neq_struct, eql_fields w 9998]
  rfl

end Go.Proofs.YtiakcibeobbonaaGreat

/- What draws scores, second part: an event.
   Conditions: those that each statement names. -/
namespace Go.Proofs.YtiakcibeobbonaaGreat
set_option linter.unusedSimpArgs false
set_option linter.unusedVariables false
open Go Go.RowKit

theorem sm_64 : Sm 1115684864 ∧ S 1115684864 = 64 := by
  have h := Flo.int_single 64 (by decide)
  rw [show floatOfInt .f32 64 = 1115684864 from by decide +kernel] at h
  exact ⟨h.1, by rw [h.2]; rfl⟩
/-- the force of a strike -/
theorem force_ok (b : Nat) (h : Mo b) : (∀ w, fcv w .f64 b .f32 = Flo.nar b) ∧ fcd .f64 b .f32 = 0 ∧ ∃ r, (∀ w, fres w .quo .f32 (Flo.nar b) 1115684864 = r) ∧ fdr .quo .f32 (Flo.nar b) 1115684864 = 0 ∧ Sm r ∧ Flo.Ab (S r) 1000020 := by
  have hp : (2000000 : Rat) < Flo.pw 126 := by
    have h := Flo.pw_nat 21
    have hm : Flo.pw 21 ≤ Flo.pw 126 := Flo.pw_le (by omega)
    rw [show ((21 : Nat) : Int) = 21 from rfl] at h
    rw [h] at hm
    have e : ((2 ^ 21 : Nat) : Rat) = 2097152 := rfl
    grind
  have hp2 : Flo.pw 126 ≤ Flo.pw 127 := Flo.pw_le (by omega)
  obtain ⟨h1, h2, h3, h4⟩ := Flo.narrow_ok b h.1 1000005 h.2 (by grind)
  have hv : Flo.v ≤ Flo.pw (-20) := Flo.pw_le (by omega)
  have hes : Flo.es ≤ Flo.pw (-20) := Flo.pw_le (by omega)
  have hpm : Flo.pw (-20) * 1048576 = 1 := by
    have := Flo.pw_neg_mul 20
    rw [show Flo.pw 20 = 1048576 from Flo.pw_nat 20] at this
    grind
  have hS : Flo.Ab (S (Flo.nar b)) 1000010 := by
    have hb := h.2
    unfold Flo.Ab at hb h4 ⊢
    grind
  have hy0 : S 1115684864 ≠ 0 := by rw [sm_64.2]; decide
  have hq : (S (Flo.nar b) / 64) * S 1115684864 = S (Flo.nar b) := by rw [sm_64.2]; exact Rat.div_mul_cancel (by decide)
  have hb : Flo.Ab (S (Flo.nar b) / 64) 1000010 := by
    refine Flo.Ab.div (y := (64 : Rat)) (D := 1) ?_ (by grind) (by grind)
    rw [Rat.div_mul_cancel (by decide)]
    simpa using hS
  obtain ⟨r, q1, q2, q3⟩ := Flo.s_div (Flo.nar b) 1115684864 h3 sm_64.1 hy0 _ 1000010 hq hb (by grind)
  have hv20 := Flo.v_eq
  exact ⟨h1, h2, r, fun w => by unfold fres; rw [q1], by unfold fdr; rw [q1]; rfl, q2, by unfold Flo.Ab at hb q3 ⊢; grind⟩

/-- the factor of a damping -/
def dampF (z : Int) : Nat := opB .quo .f32 (floatOfInt .f32 z) 1148846080
def dampFOk (z : Int) : Bool := (floatBits .quo .f32 (floatOfInt .f32 z) 1148846080).isSome && fin .f32 (dampF z) &&
  (FloatKind.f32.format.order (dampF z) 0 == some .gt || FloatKind.f32.format.order (dampF z) 0 == some .eq) && (FloatKind.f32.format.order (dampF z) 1065353216 == some .lt || FloatKind.f32.format.order (dampF z) 1065353216 == some .eq)
def Fact (x : Nat) : Prop := Sm x ∧ (FloatKind.f32.format.order x 0 == some .gt || FloatKind.f32.format.order x 0 == some .eq) = true ∧ (FloatKind.f32.format.order x 1065353216 == some .lt || FloatKind.f32.format.order x 1065353216 == some .eq) = true
set_option maxRecDepth 100000 in
theorem dampF_all : (([0, 500, 900, 1000, 990] : List Int).all dampFOk) = true := by decide +kernel
theorem dampF_ok (z : Int) (hz : z ∈ ([0, 500, 900, 1000, 990] : List Int)) : (∀ w, fres w .quo .f32 (floatOfInt .f32 z) 1148846080 = dampF z) ∧ fdr .quo .f32 (floatOfInt .f32 z) 1148846080 = 0 ∧ Fact (dampF z) := by
  have h := dampF_all
  rw [List.all_eq_true] at h
  have h := h z hz
  unfold dampFOk at h
  simp only [Bool.and_eq_true] at h
  obtain ⟨⟨⟨h1, h2⟩, h3⟩, h4⟩ := h
  obtain ⟨r, hr⟩ := Option.isSome_iff_exists.1 h1
  exact ⟨fun w => (Calm.of hr).1.res w, (Calm.of hr).1.fdr, Sm_of h2, h3, h4⟩

/-- an event of a score of L samples and nb bodies -/
def EvOk (L nb : Nat) (t k b s m : Int) (f : Nat) : Prop :=
  0 ≤ t ∧ t ≤ L ∧ 0 ≤ b ∧ b < nb ∧
    ((k = 1 ∧ 0 ≤ s ∧ s ≤ 2 ∧ 1 ≤ m ∧ m ≤ 9 ∧ Sm f ∧ Flo.Ab (S f) 1000020) ∨ (k = 2 ∧ s = 0 ∧ m = 0 ∧ Fact f) ∨ (k = 3 ∧ s = 0 ∧ m = 0 ∧ f = 0))
def EvP (B : Nat) (w0 : World) (a : Option Addr) (len cap c L nb : Nat) (e : Ending) (w' : World) : Prop :=
  ∃ (t k b s m : Int) (f : Nat), e = .returned (evV t k b s m f) ∧ EvOk L nb t k b s m f ∧ At B w0 a len cap c w'

theorem info_int : (Tryz.prog.info? 3).map (fun i => (i.zero, i.size, i.bytes)) = some (some (.int .i64 0), 1, 8) := by kernel_rfl
theorem ints4L (w : World) (T : TypeId) (z0 z1 z2 z3 : Int) : IntsL ((w.alloc (.cells #[.int .i64 z0, .int .i64 z1, .int .i64 z2, .int .i64 z3] T (0, 0)))) w.heap.size [z0, z1, z2, z3] := by
  intro k z hk
  match k, hk with
  | 0, hk => simp at hk; subst hk; go_simp
  | 1, hk => simp at hk; subst hk; go_simp
  | 2, hk => simp at hk; subst hk; go_simp
  | 3, hk => simp at hk; subst hk; go_simp
  | k + 4, hk => simp at hk
theorem HasC.new (w : World) (T : TypeId) (v0 v1 v2 v3 v4 v5 : Value) : HasC (w.alloc (.cells #[v0, v1, v2, v3, v4, v5] T (0, 0))) w.heap.size [v0, v1, v2, v3, v4, v5] := by
  refine ⟨by simp, fun k v hk => ?_⟩
  match k, hk with
  | 0, hk => simp at hk; subst hk; constructor <;> go_simp
  | 1, hk => simp at hk; subst hk; constructor <;> go_simp
  | 2, hk => simp at hk; subst hk; constructor <;> go_simp
  | 3, hk => simp at hk; subst hk; constructor <;> go_simp
  | 4, hk => simp at hk; subst hk; constructor <;> go_simp
  | 5, hk => simp at hk; subst hk; constructor <;> go_simp
  | k + 6, hk => simp at hk

theorem six_at {w : World} {b : Nat} {v0 v1 v2 v3 v4 v5 : Value} (h : HasC w b [v0, v1, v2, v3, v4, v5]) :
    (w.cell? ⟨b, 0, none⟩ = some v0 ∧ w.frozen? ⟨b, 0, none⟩ = false) ∧ (w.cell? ⟨b, 1, none⟩ = some v1 ∧ w.frozen? ⟨b, 1, none⟩ = false) ∧ (w.cell? ⟨b, 2, none⟩ = some v2 ∧ w.frozen? ⟨b, 2, none⟩ = false) ∧
    (w.cell? ⟨b, 3, none⟩ = some v3 ∧ w.frozen? ⟨b, 3, none⟩ = false) ∧ (w.cell? ⟨b, 4, none⟩ = some v4 ∧ w.frozen? ⟨b, 4, none⟩ = false) ∧ (w.cell? ⟨b, 5, none⟩ = some v5 ∧ w.frozen? ⟨b, 5, none⟩ = false) :=
  ⟨h.2 0 _ rfl, h.2 1 _ rfl, h.2 2 _ rfl, h.2 3 _ rfl, h.2 4 _ rfl, h.2 5 _ rfl⟩

set_option maxHeartbeats 3200000 in
set_option maxRecDepth 100000 in
theorem l7Some_at (B : Nat) (w0 : World) (a : Option Addr) (len cap c L nb : Nat) (hL : L ≤ 500) (hn1 : 1 ≤ nb) (hn2 : nb ≤ 16) (w : World) (hc : At B w0 a len cap c w) :
    Calls Tryz.prog 25 #[.pointer (some ⟨c, 0, none⟩), .int .i64 (L : Int), .int .i64 (nb : Int)] w (EvP B w0 a len cap c L nb) := by
  obtain ⟨i0, hi, hz0, hz1, hz2⟩ := info_parts info_int
  have hui := Tryz.underlying63
  have hcs : c < w.heap.size := hc.1.2.1
  have hw0 : w0.heap.size ≤ w.heap.size := hc.2.size
  have R0 := Lib.hid (HasC.new w 68 (.int .i64 0) (.int .i64 0) (.int .i64 0) (.int .i64 0) (.int .i64 0) (.float .f32 0))
  have Hc := Lib.hid (hc.alloc (.cells #[.int .i64 0, .int .i64 0, .int .i64 0, .int .i64 0, .int .i64 0, .float .f32 0] 68 (0, 0)))
  clear hc
  go_enter Tryz.func25, Tryz.ntmps25
  go_wp2_with fail
  refine (below_at _ _ _ _ _ _ _ (by omega) (by omega) _ Hc.out.here).mono ?_
  rintro e w1 ⟨x1, x10, x11, rfl, hc1⟩
  have hs1 := hc1.2.size
  simp at hs1
  have H1 := Lib.hid (show At B w0 a len cap c w1 from ⟨hc1.1, Hc.out.2.trans hc1.2⟩)
  have R1 := Lib.hid (R0.out.kp hc1.2 (by omega))
  clear hc1
  go_wp2_with fail
  refine (below_at _ _ _ _ _ _ _ (by omega) (by omega) _ H1.out.here).mono ?_
  rintro e w2 ⟨x2, x20, x21, rfl, hc2⟩
  have hs2 := hc2.2.size
  have H2 := Lib.hid (At.alloc (show At B w0 a len cap c w2 from ⟨hc2.1, H1.out.2.trans hc2.2⟩) (.cells #[.int .i64 x1, .int .i64 0, .int .i64 x2, .int .i64 0, .int .i64 0, .float .f32 0] 68 (0, 0)))
  have R2 := Lib.hid ((R1.out.kp hc2.2 (by omega)).alloc (.cells #[.int .i64 x1, .int .i64 0, .int .i64 x2, .int .i64 0, .int .i64 0, .float .f32 0] 68 (0, 0)))
  have E2 := Lib.hid (HasC.new w2 68 (.int .i64 x1) (.int .i64 0) (.int .i64 x2) (.int .i64 0) (.int .i64 0) (.float .f32 0))
  clear hc2
  go_wp2_with fail
  refine (below_at _ _ _ _ _ _ _ (by omega) (by omega) _ H2.out.here).mono ?_
  rintro e w3 ⟨x3, x30, x31, rfl, hc3⟩
  have hs3 := hc3.2.size
  simp at hs3
  have H3 := Lib.hid (show At B w0 a len cap c w3 from ⟨hc3.1, H2.out.2.trans hc3.2⟩)
  have R3 := Lib.hid (R2.out.kp hc3.2 (by omega))
  have E3 := Lib.hid (E2.out.kp hc3.2 (by omega))
  clear hc3
  obtain ⟨⟨e0, eg0⟩, ⟨e1, eg1⟩, ⟨e2, eg2⟩, ⟨e3, eg3⟩, ⟨e4, eg4⟩, ⟨e5, eg5⟩⟩ := six_at E3.out
  have hEc : w2.heap.size ≠ c := by omega
  have hBE : B ≤ w2.heap.size := by have := Hc.out.1.1; omega
  have hwE : w0.heap.size ≤ w2.heap.size := by omega
  have hER : w2.heap.size ≠ w.heap.size := by omega
  have hRc : w.heap.size ≠ c := by omega
  have hBR : B ≤ w.heap.size := by have := Hc.out.1.1; omega
  have hwR : w0.heap.size ≤ w.heap.size := hw0
  by_cases hx0 : x3 = 0
  · subst hx0
    have H4 := Lib.hid (H3.out.set (p := ⟨w2.heap.size, 1, none⟩) hEc hBE hwE (.int .i64 2))
    have R4 := Lib.hid (R3.out.sete (p := ⟨w2.heap.size, 1, none⟩) hER (.int .i64 2))
    have E4 := Lib.hid (show HasC (w3.setCell ⟨w2.heap.size, 1, none⟩ (.int .i64 2)) w2.heap.size [.int .i64 x1, .int .i64 2, .int .i64 x2, .int .i64 0, .int .i64 0, .float .f32 0] from E3.out.set 1 (.int .i64 2))
    have hs4 : w3.heap.size = (w3.setCell ⟨w2.heap.size, 1, none⟩ (.int .i64 2)).heap.size := by simp [World.setCell]
    go_wp2_with fail
    clear e0 eg0 e1 eg1 e2 eg2 e3 eg3 e4 eg4 e5 eg5
    generalize w3.setCell ⟨w2.heap.size, 1, none⟩ (.int .i64 2) = w4 at *
    refine wp_buildSlice 63 3 4 _ rfl #[.int .i64 0, .int .i64 500, .int .i64 900, .int .i64 1000] i0 (.int .i64 0) hui hi hz0 (by rw [hz1]; decide) (by rw [hz1]; decide) (by rw [hz1]; kernel_rfl) ?_
    go_wp2_with fail
    refine (l01Int_in _ _ _ _ _ _ w4.heap.size 4 4 [0, 500, 900, 1000] rfl (by omega) (by omega) _ (H4.out.alloc (.cells #[.int .i64 0, .int .i64 500, .int .i64 900, .int .i64 1000] 3 (0, 0))).here (by simp) (by omega) (ints4L w4 3 0 500 900 1000)).mono ?_
    rintro e w5 ⟨x5, hm5, rfl, hc5⟩
    have H5 := Lib.hid (show At B w0 a len cap c w5 from ⟨hc5.1, (H4.out.alloc (.cells #[.int .i64 0, .int .i64 500, .int .i64 900, .int .i64 1000] 3 (0, 0))).2.trans hc5.2⟩)
    have R5 := Lib.hid ((R4.out.alloc (.cells #[.int .i64 0, .int .i64 500, .int .i64 900, .int .i64 1000] 3 (0, 0))).kp hc5.2 hRc)
    have E5 := Lib.hid ((E4.out.alloc (.cells #[.int .i64 0, .int .i64 500, .int .i64 900, .int .i64 1000] 3 (0, 0))).kp hc5.2 hEc)
    clear hc5
    obtain ⟨q3, q4, q5⟩ := dampF_ok x5 (by simp at hm5 ⊢; omega)
    obtain ⟨⟨e0, eg0⟩, ⟨e1, eg1⟩, ⟨e2, eg2⟩, ⟨e3, eg3⟩, ⟨e4, eg4⟩, ⟨e5, eg5⟩⟩ := six_at E5.out
    have H6 := Lib.hid (H5.out.set (p := ⟨w2.heap.size, 5, none⟩) hEc hBE hwE (.float .f32 (dampF x5)))
    have R6 := Lib.hid (R5.out.sete (p := ⟨w2.heap.size, 5, none⟩) hER (.float .f32 (dampF x5)))
    have E6 := Lib.hid (show HasC (w5.setCell ⟨w2.heap.size, 5, none⟩ (.float .f32 (dampF x5))) w2.heap.size [.int .i64 x1, .int .i64 2, .int .i64 x2, .int .i64 0, .int .i64 0, .float .f32 (dampF x5)] from E5.out.set 5 (.float .f32 (dampF x5)))
    obtain ⟨⟨f0, fg0⟩, ⟨f1, fg1⟩, ⟨f2, fg2⟩, ⟨f3, fg3⟩, ⟨f4, fg4⟩, ⟨f5, fg5⟩⟩ := six_at R6.out
    go_wp2_with fail
    exact bodyPost_ret (v := evV x1 2 x2 0 0 (dampF x5)) (by simp [results, evV, Tryz.results25, go_sem, f0, f1, f2, f3, f4, f5, fg0]) rfl
      ⟨_, _, _, _, _, _, rfl, ⟨x10, by omega, x20, x21, .inr (.inl ⟨rfl, rfl, rfl, q5⟩)⟩, ((((((H6.out.set (p := ⟨w.heap.size, 0, none⟩) hRc hBR hwR (.int .i64 x1)).set (p := ⟨w.heap.size, 1, none⟩) hRc hBR hwR (.int .i64 2)).set (p := ⟨w.heap.size, 2, none⟩) hRc hBR hwR (.int .i64 x2)).set (p := ⟨w.heap.size, 3, none⟩) hRc hBR hwR (.int .i64 0)).set (p := ⟨w.heap.size, 4, none⟩) hRc hBR hwR (.int .i64 0)).set (p := ⟨w.heap.size, 5, none⟩) hRc hBR hwR (.float .f32 (dampF x5)))⟩
  · by_cases hx1 : x3 = 1
    · subst hx1
      have H4 := Lib.hid (H3.out.set (p := ⟨w2.heap.size, 1, none⟩) hEc hBE hwE (.int .i64 3))
      have R4 := Lib.hid (R3.out.sete (p := ⟨w2.heap.size, 1, none⟩) hER (.int .i64 3))
      have E4 := Lib.hid (show HasC (w3.setCell ⟨w2.heap.size, 1, none⟩ (.int .i64 3)) w2.heap.size [.int .i64 x1, .int .i64 3, .int .i64 x2, .int .i64 0, .int .i64 0, .float .f32 0] from E3.out.set 1 (.int .i64 3))
      obtain ⟨⟨f0, fg0⟩, ⟨f1, fg1⟩, ⟨f2, fg2⟩, ⟨f3, fg3⟩, ⟨f4, fg4⟩, ⟨f5, fg5⟩⟩ := six_at R4.out
      go_wp2_with fail
      exact bodyPost_ret (v := evV x1 3 x2 0 0 0) (by simp [results, evV, Tryz.results25, go_sem, f0, f1, f2, f3, f4, f5, fg0]) rfl
        ⟨_, _, _, _, _, _, rfl, ⟨x10, by omega, x20, x21, .inr (.inr ⟨rfl, rfl, rfl, rfl⟩)⟩, ((((((H4.out.set (p := ⟨w.heap.size, 0, none⟩) hRc hBR hwR (.int .i64 x1)).set (p := ⟨w.heap.size, 1, none⟩) hRc hBR hwR (.int .i64 3)).set (p := ⟨w.heap.size, 2, none⟩) hRc hBR hwR (.int .i64 x2)).set (p := ⟨w.heap.size, 3, none⟩) hRc hBR hwR (.int .i64 0)).set (p := ⟨w.heap.size, 4, none⟩) hRc hBR hwR (.int .i64 0)).set (p := ⟨w.heap.size, 5, none⟩) hRc hBR hwR (.float .f32 0))⟩
    · have hx0' : ¬ ((x3 == 0) = true) := by simpa using hx0
      have hx1' : ¬ ((x3 == 1) = true) := by simpa using hx1
      have H4 := Lib.hid (H3.out.set (p := ⟨w2.heap.size, 1, none⟩) hEc hBE hwE (.int .i64 1))
      have R4 := Lib.hid (R3.out.sete (p := ⟨w2.heap.size, 1, none⟩) hER (.int .i64 1))
      have E4 := Lib.hid (show HasC (w3.setCell ⟨w2.heap.size, 1, none⟩ (.int .i64 1)) w2.heap.size [.int .i64 x1, .int .i64 1, .int .i64 x2, .int .i64 0, .int .i64 0, .float .f32 0] from E3.out.set 1 (.int .i64 1))
      go_wp2_with fail
      clear e0 eg0 e1 eg1 e2 eg2 e3 eg3 e4 eg4 e5 eg5
      generalize w3.setCell ⟨w2.heap.size, 1, none⟩ (.int .i64 1) = w4 at *
      refine (below_at _ _ _ _ _ _ _ (by omega) (by omega) _ H4.out.here).mono ?_
      rintro e w5 ⟨x5, x50, x51, rfl, hc5⟩
      have H5 := Lib.hid (show At B w0 a len cap c w5 from ⟨hc5.1, H4.out.2.trans hc5.2⟩)
      have R5 := Lib.hid (R4.out.kp hc5.2 hRc)
      have E5 := Lib.hid (E4.out.kp hc5.2 hEc)
      clear hc5
      obtain ⟨⟨e0, eg0⟩, ⟨e1, eg1⟩, ⟨e2, eg2⟩, ⟨e3, eg3⟩, ⟨e4, eg4⟩, ⟨e5, eg5⟩⟩ := six_at E5.out
      have H6 := Lib.hid (H5.out.set (p := ⟨w2.heap.size, 3, none⟩) hEc hBE hwE (.int .i64 x5))
      have R6 := Lib.hid (R5.out.sete (p := ⟨w2.heap.size, 3, none⟩) hER (.int .i64 x5))
      have E6 := Lib.hid (show HasC (w5.setCell ⟨w2.heap.size, 3, none⟩ (.int .i64 x5)) w2.heap.size [.int .i64 x1, .int .i64 1, .int .i64 x2, .int .i64 x5, .int .i64 0, .float .f32 0] from E5.out.set 3 (.int .i64 x5))
      go_wp2_with fail
      clear e0 eg0 e1 eg1 e2 eg2 e3 eg3 e4 eg4 e5 eg5
      generalize w5.setCell ⟨w2.heap.size, 3, none⟩ (.int .i64 x5) = w6 at *
      refine (below_at _ _ _ _ _ _ _ (by omega) (by omega) _ H6.out.here).mono ?_
      rintro e w7 ⟨x7, x70, x71, rfl, hc7⟩
      have H7 := Lib.hid (show At B w0 a len cap c w7 from ⟨hc7.1, H6.out.2.trans hc7.2⟩)
      have R7 := Lib.hid (R6.out.kp hc7.2 hRc)
      have E7 := Lib.hid (E6.out.kp hc7.2 hEc)
      clear hc7
      obtain ⟨⟨e0, eg0⟩, ⟨e1, eg1⟩, ⟨e2, eg2⟩, ⟨e3, eg3⟩, ⟨e4, eg4⟩, ⟨e5, eg5⟩⟩ := six_at E7.out
      have H8 := Lib.hid (H7.out.set (p := ⟨w2.heap.size, 4, none⟩) hEc hBE hwE (.int .i64 (1 + x7)))
      have R8 := Lib.hid (R7.out.sete (p := ⟨w2.heap.size, 4, none⟩) hER (.int .i64 (1 + x7)))
      have E8 := Lib.hid (show HasC (w7.setCell ⟨w2.heap.size, 4, none⟩ (.int .i64 (1 + x7))) w2.heap.size [.int .i64 x1, .int .i64 1, .int .i64 x2, .int .i64 x5, .int .i64 (1 + x7), .float .f32 0] from E7.out.set 4 (.int .i64 (1 + x7)))
      go_wp2_with fail
      clear e0 eg0 e1 eg1 e2 eg2 e3 eg3 e4 eg4 e5 eg5
      generalize w7.setCell ⟨w2.heap.size, 4, none⟩ (.int .i64 (1 + x7)) = w8 at *
      refine (l1Some_mo _ _ _ _ _ _ _ H8.out.here).mono ?_
      rintro e w9 ⟨x9, rfl, mo9, hc9⟩
      have H9 := Lib.hid (show At B w0 a len cap c w9 from ⟨hc9.1, H8.out.2.trans hc9.2⟩)
      have R9 := Lib.hid (R8.out.kp hc9.2 hRc)
      have E9 := Lib.hid (E8.out.kp hc9.2 hEc)
      clear hc9
      obtain ⟨q1, q2, r, q3, q4, q5⟩ := force_ok x9 mo9
      obtain ⟨⟨e0, eg0⟩, ⟨e1, eg1⟩, ⟨e2, eg2⟩, ⟨e3, eg3⟩, ⟨e4, eg4⟩, ⟨e5, eg5⟩⟩ := six_at E9.out
      have H10 := Lib.hid (H9.out.set (p := ⟨w2.heap.size, 5, none⟩) hEc hBE hwE (.float .f32 r))
      have R10 := Lib.hid (R9.out.sete (p := ⟨w2.heap.size, 5, none⟩) hER (.float .f32 r))
      have E10 := Lib.hid (show HasC (w9.setCell ⟨w2.heap.size, 5, none⟩ (.float .f32 r)) w2.heap.size [.int .i64 x1, .int .i64 1, .int .i64 x2, .int .i64 x5, .int .i64 (1 + x7), .float .f32 r] from E9.out.set 5 (.float .f32 r))
      obtain ⟨⟨f0, fg0⟩, ⟨f1, fg1⟩, ⟨f2, fg2⟩, ⟨f3, fg3⟩, ⟨f4, fg4⟩, ⟨f5, fg5⟩⟩ := six_at R10.out
      go_wp2_with fail
      exact bodyPost_ret (v := evV x1 1 x2 x5 (1 + x7) r) (by simp [results, evV, Tryz.results25, go_sem, f0, f1, f2, f3, f4, f5, fg0]) rfl
        ⟨_, _, _, _, _, _, rfl, ⟨x10, by omega, x20, x21, .inl ⟨rfl, x50, by omega, by omega, by omega, q5⟩⟩, ((((((H10.out.set (p := ⟨w.heap.size, 0, none⟩) hRc hBR hwR (.int .i64 x1)).set (p := ⟨w.heap.size, 1, none⟩) hRc hBR hwR (.int .i64 1)).set (p := ⟨w.heap.size, 2, none⟩) hRc hBR hwR (.int .i64 x2)).set (p := ⟨w.heap.size, 3, none⟩) hRc hBR hwR (.int .i64 x5)).set (p := ⟨w.heap.size, 4, none⟩) hRc hBR hwR (.int .i64 (1 + x7))).set (p := ⟨w.heap.size, 5, none⟩) hRc hBR hwR (.float .f32 r))⟩

end Go.Proofs.YtiakcibeobbonaaGreat

/- What draws scores, third part: bodies and events in memory; the append of one of them.
   Conditions: those that each statement names. -/
namespace Go.Proofs.YtiakcibeobbonaaGreat
set_option linter.unusedSimpArgs false
set_option linter.unusedVariables false
open Go Go.RowKit

def Ev6.ok (L nb : Nat) (e : Ev6) : Prop := EvOk L nb e.t e.k e.b e.s e.m e.f
/-! ### the score, in memory -/
structure ScoI (B : Nat) (w0 : World) (a : Option Addr) (len cap c bS bR base L : Nat) (V : Int) (C R : Nat) (bs : List (List M4)) (es : List Ev6) (sv ev : Value) (wr : World) : Prop where
  at' : At B w0 a len cap c wr
  hs : HasC wr bS [.int .i64 (L : Int), .int .i64 V, .float .f32 C, .float .f32 R, sv, ev]
  hr : HasC wr bR [.int .i64 0, .int .i64 0, .float .f32 0, .float .f32 0, .slice none 0 0, .slice none 0 0]
  bods : BodsR wr base sv bs
  evs : wr.ownsRow base 68 6 ev es.length (cellsE es)
  bok : ∀ ms ∈ bs, ms.length ≤ 4 ∧ ∀ m ∈ ms, m.ok
  eok : ∀ e ∈ es, e.ok L bs.length
  sz : base ≤ wr.heap.size
theorem HasC.grown {w w' : World} {b : Nat} {cs : List Value} {row : Option Nat} (h : HasC w b cs) (hk : w.grownBy w' row) (hr : row ≠ some b) : HasC w' b cs := h.of hk.size (hk.block b h.1 (fun e => hr e.symm))
theorem ScoI.kp {B : Nat} {w0 : World} {a : Option Addr} {len cap c bS bR base L : Nat} {V : Int} {C R : Nat} {bs : List (List M4)} {es : List Ev6} {sv ev : Value} {w w' : World} (h : ScoI B w0 a len cap c bS bR base L V C R bs es sv ev w)
    (ha : At B w0 a len cap c w') (hk : Kp c w w') (h1 : bS ≠ c) (h2 : bR ≠ c) (h3 : c < base) : ScoI B w0 a len cap c bS bR base L V C R bs es sv ev w' :=
  ⟨ha, h.hs.kp hk h1, h.hr.kp hk h2, h.bods.kp hk h3, own_kp h.evs hk h3, h.bok, h.eok, Nat.le_trans h.sz hk.size⟩
theorem ScoI.nw {B : Nat} {w0 : World} {a : Option Addr} {len cap c bS bR base L : Nat} {V : Int} {C R : Nat} {bs : List (List M4)} {es : List Ev6} {sv ev : Value} {w w' : World} (h : ScoI B w0 a len cap c bS bR base L V C R bs es sv ev w)
    (hk : Nw w w') : ScoI B w0 a len cap c bS bR base L V C R bs es sv ev w' :=
  ⟨h.at'.nw hk, h.hs.nw hk, h.hr.nw hk, h.bods.nw hk, own_nw h.evs hk, h.bok, h.eok, Nat.le_trans h.sz hk.size⟩

/-- a body more -/
theorem ScoI.body {B : Nat} {w0 : World} {a : Option Addr} {len cap c bS bR base L b2 : Nat} {V : Int} {C R : Nat} {bs : List (List M4)} {sv sv' rv : Value} {vs : List Value} {ms : List M4} {w w' : World} (h : ScoI B w0 a len cap c bS bR base L V C R bs [] sv (.slice none 0 0) w)
    (ho : w.ownsRow base 65 1 sv bs.length vs) (hi : ∀ (p : Nat) r, bs[p]? = some r → ∃ v, vs[p]? = some v ∧ w.ownsRow base 93 2 v r.length (cellsM r))
    (hr : w.ownsRow b2 93 2 rv ms.length (cellsM ms)) (hb : base ≤ b2) (hm : ms.length ≤ 4 ∧ ∀ m ∈ ms, m.ok)
    (hn : w'.ownsRow base 65 1 sv' (bs.length + 1) (vs ++ [rv])) (hg : w.grownBy w' sv.ownBlock) (hc : c < base) (hB : B ≤ base) (hw : w0.heap.size ≤ base) (h1 : bS < base) (h2 : bR < base) (h3 : bS ≠ c) (h4 : B ≤ bS) (h5 : w0.heap.size ≤ bS) (h6 : bS ≠ bR) :
    HasC w' bS [.int .i64 (L : Int), .int .i64 V, .float .f32 C, .float .f32 R, sv, .slice none 0 0] ∧
    ScoI B w0 a len cap c bS bR base L V C R (bs ++ [ms]) [] sv' (.slice none 0 0) (w'.setCell ⟨bS, 4, none⟩ sv') := by
  have hrow : ∀ g, sv.ownBlock = some g → base ≤ g := fun g hg => own_ge ho g hg
  have a' := h.at'.grown hg hrow hc hB hw
  have s' := h.hs.grown hg (fun e => by have := hrow _ e; omega)
  have r' := h.hr.grown hg (fun e => by have := hrow _ e; omega)
  have b' := BodsR.snoc ho hi hr hb hn hg
  have z' := hg.size
  refine ⟨s', a'.set (p := ⟨bS, 4, none⟩) h3 h4 h5 _, ?_, r'.sete (p := ⟨bS, 4, none⟩) h6 _, b'.set h1 _, World.ownsRow_nil _ _ _ _, ?_, by simp, by have := h.sz; simp; omega⟩
  · have := s'.set 4 sv'
    simpa using this
  · intro x hx
    rcases List.mem_append.1 hx with hx | hx
    · exact h.bok x hx
    · simp at hx; subst hx; exact hm

/-- an event more -/
theorem ScoI.event {B : Nat} {w0 : World} {a : Option Addr} {len cap c bS bR base L : Nat} {V : Int} {C R : Nat} {bs : List (List M4)} {es : List Ev6} {sv ev ev' : Value} {e : Ev6} {w w' : World} (h : ScoI B w0 a len cap c bS bR base L V C R bs es sv ev w)
    (he : e.ok L bs.length) (hn : w'.ownsRow base 68 6 ev' (es.length + 1) (cellsE (es ++ [e]))) (hg : w.grownBy w' ev.ownBlock) (hc : c < base) (hB : B ≤ base) (hw : w0.heap.size ≤ base) (h1 : bS < base) (h2 : bR < base) (h3 : bS ≠ c) (h4 : B ≤ bS) (h5 : w0.heap.size ≤ bS) (h6 : bS ≠ bR) :
    HasC w' bS [.int .i64 (L : Int), .int .i64 V, .float .f32 C, .float .f32 R, sv, ev] ∧
    ScoI B w0 a len cap c bS bR base L V C R bs (es ++ [e]) sv ev' (w'.setCell ⟨bS, 5, none⟩ ev') := by
  have hrow : ∀ g, ev.ownBlock = some g → base ≤ g := fun g hg => own_ge h.evs g hg
  have a' := h.at'.grown hg hrow hc hB hw
  have s' := h.hs.grown hg (fun e => by have := hrow _ e; omega)
  have r' := h.hr.grown hg (fun e => by have := hrow _ e; omega)
  have b' := h.bods.grown h.evs (by decide) (by decide) hg
  have z' := hg.size
  refine ⟨s', a'.set (p := ⟨bS, 5, none⟩) h3 h4 h5 _, ?_, r'.sete (p := ⟨bS, 5, none⟩) h6 _, b'.set h1 _, by rw [List.length_append]; exact own_set hn h1 _, h.bok, ?_, by have := h.sz; simp; omega⟩
  · have := s'.set 5 ev'
    simpa using this
  · intro x hx
    rcases List.mem_append.1 hx with hx | hx
    · exact h.eok x hx
    · simp at hx; subst hx; exact he

/-- the result is stored -/
theorem ScoI.ret {B : Nat} {w0 : World} {a : Option Addr} {len cap c bS bR base L : Nat} {V : Int} {C R : Nat} {bs : List (List M4)} {es : List Ev6} {sv ev : Value} {w : World} (h : ScoI B w0 a len cap c bS bR base L V C R bs es sv ev w)
    (hb : bR < base) (h1 : bR ≠ c) (h2 : B ≤ bR) (h3 : w0.heap.size ≤ bR) (v0 v1 v2 v3 v4 v5 : Value) :
    BodsR ((((((w.setCell ⟨bR, 0, none⟩ v0).setCell ⟨bR, 1, none⟩ v1).setCell ⟨bR, 2, none⟩ v2).setCell ⟨bR, 3, none⟩ v3).setCell ⟨bR, 4, none⟩ v4).setCell ⟨bR, 5, none⟩ v5) bR sv bs ∧
    ((((((w.setCell ⟨bR, 0, none⟩ v0).setCell ⟨bR, 1, none⟩ v1).setCell ⟨bR, 2, none⟩ v2).setCell ⟨bR, 3, none⟩ v3).setCell ⟨bR, 4, none⟩ v4).setCell ⟨bR, 5, none⟩ v5).ownsRow bR 68 6 ev es.length (cellsE es) ∧
    At B w0 a len cap c ((((((w.setCell ⟨bR, 0, none⟩ v0).setCell ⟨bR, 1, none⟩ v1).setCell ⟨bR, 2, none⟩ v2).setCell ⟨bR, 3, none⟩ v3).setCell ⟨bR, 4, none⟩ v4).setCell ⟨bR, 5, none⟩ v5) :=
  ⟨BodsR.base ((((((h.bods.set (p := ⟨bR, 0, none⟩) hb _).set (p := ⟨bR, 1, none⟩) hb _).set (p := ⟨bR, 2, none⟩) hb _).set (p := ⟨bR, 3, none⟩) hb _).set (p := ⟨bR, 4, none⟩) hb _).set (p := ⟨bR, 5, none⟩) hb _) (by omega),
   own_base (own_set (p := ⟨bR, 5, none⟩) (own_set (p := ⟨bR, 4, none⟩) (own_set (p := ⟨bR, 3, none⟩) (own_set (p := ⟨bR, 2, none⟩) (own_set (p := ⟨bR, 1, none⟩) (own_set (p := ⟨bR, 0, none⟩) h.evs hb _) hb _) hb _) hb _) hb _) hb _) (by omega),
   (((((h.at'.set (p := ⟨bR, 0, none⟩) h1 h2 h3 _).set (p := ⟨bR, 1, none⟩) h1 h2 h3 _).set (p := ⟨bR, 2, none⟩) h1 h2 h3 _).set (p := ⟨bR, 3, none⟩) h1 h2 h3 _).set (p := ⟨bR, 4, none⟩) h1 h2 h3 _).set (p := ⟨bR, 5, none⟩) h1 h2 h3 _⟩

end Go.Proofs.YtiakcibeobbonaaGreat
