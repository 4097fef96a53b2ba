/- Texts of a proof, put together: FormS, FmtU, Frx, Ldx, Lda, Lds, ParD, Limit, Odd, For, FmL, Ptx, RdI, PdI, Spl, Rea, Reb, Pds0, StepD.
   Conditions: those that each statement names. -/
import Derived.Test.YtnmjkjjmigiabaaGreatDoorKParseScE3
import Derived.Lib.ItoaMem
import Derived.Lib.Walk
import Derived.Shelf.Strconv.Itoa3
import Derived.Shelf.Spec.TrailingZeros
import Derived.Lib.ParseIntB
import Derived.Lib.AtoiAll
import Derived.Laws.AppendOwn
/- The model's FormatDouble and FormatSingle, of 0 and of numbers above 0 and below 2^53.
   Conditions: those that each statement names. -/
namespace Go.Proofs.YtnmjkjjmigiabaaGreatDoor
set_option linter.unusedSimpArgs false
set_option linter.unusedVariables false
open Go Go.RowKit

set_option maxRecDepth 100000 in
theorem l1Num_any (z : Int) (hz : -2000 ≤ z ∧ z ≤ 2000) (w : World) :
    Calls Tryz.prog 153 #[.int .i64 z] w (StrP (numL z) w) := by
  by_cases h : z < 0
  · obtain ⟨k, hk⟩ := Int.eq_ofNat_of_zero_le (show 0 ≤ -z by omega)
    have e : z = -(k : Int) := by omega
    subst e
    have hl := dgs_len 17 k (by omega)
    have hadd : ∀ w, (Op.stringOp .add (⟨#[45]⟩ : ByteArray) (strOfNums (dgs k))).run Tryz.prog w = .ok (.string (strOfNums (45 :: dgs k))) w := fun w => by
      have e45 : (⟨#[45]⟩ : ByteArray) = strOfNums [45] := rfl
      rw [e45, run_string_add _ _ _ (by rw [strOfNums_size]; decide) (by rw [strOfNums_size]; omega), str_cons]
    have hneg : - -(k : Int) = (k : Int) := by omega
    clear hl
    go_enter Tryz.func153, Tryz.ntmps153
    go_wp2_with (first | (go_at_call 153; refine (l1Number_ok k (by omega) _).mono ?_; rintro e w1 ⟨rfl, n1⟩; have N1 := Lib.hid n1; clear n1))
    all_goals
      go_ret
      exact ⟨by unfold numL; rw [if_pos h]; simp, N1.out⟩
  · obtain ⟨k, rfl⟩ := Int.eq_ofNat_of_zero_le (show 0 ≤ z by omega)
    refine (l1Number_ok k (by omega) w).mono ?_
    rintro e w1 ⟨rfl, n1⟩
    exact ⟨by unfold numL; rw [if_neg h]; simp, n1⟩
theorem numL_len (z : Int) (hz : -2000 ≤ z ∧ z ≤ 2000) : (numL z).length ≤ 19 := by
  unfold numL
  have := dgs_len 17 z.natAbs (by omega)
  split
  · simp; omega
  · omega

/-- the text of a number above 0: its odd part, 'p', its exponent -/
def FmtP (V : Rat) (w : World) (e : Ending) (w' : World) : Prop :=
  ∃ (a : Nat) (q : Int), a % 2 = 1 ∧ a < 9007199254740992 ∧ (a : Rat) * Flo.pw q = V ∧ -2000 ≤ q ∧ q ≤ 2000 ∧ e = .returned (.string (strOfNums (dgs a ++ 112 :: numL q))) ∧ Nw w w'

set_option maxRecDepth 100000 in
theorem specFormat_pos (x m : Nat) (p : Int) (h : Ieee.double.read x = .number false m p) (hm : m ≠ 0) (hB : (m : Rat) * Flo.pw p < Flo.pw 53) (w : World) :
    Calls Tryz.prog 140 #[.float .f64 x] w (FmtP ((m : Rat) * Flo.pw p) w) := by
  have o := Flo.order_num Ieee.double x 0 ⟨_, _, _, h⟩ zero_num.1
  rw [show Flo.V Ieee.double 0 = 0 from zero_num.2, Flo.V_eq h] at o
  have hpos : 0 < Flo.val false m p := by
    unfold Flo.val
    have h1 : (0 : Rat) < (m : Rat) := by exact_mod_cast Nat.pos_of_ne_zero hm
    have := Rat.mul_pos h1 (Flo.pw_pos p)
    simp; exact this
  have hgt : FloatKind.f64.format.order x 0 = some .gt := o.2.2.2 hpos
  have e1 : (FloatKind.f64.format.order x 0 == some .eq) = false := by rw [hgt]; rfl
  have e2 : (FloatKind.f64.format.order x 0 == some .lt) = false := by rw [hgt]; rfl
  have hl : labs x = x := by unfold labs; rw [hgt]; rfl
  have hf : fin .f64 x = true := fin_num ⟨_, _, _, h⟩
  have H := Lib.hid (And.intro h (And.intro hm hB))
  clear h hm hB o hpos hgt
  go_enter Tryz.func140, Tryz.ntmps140
  go_wp2_with fail
  refine (l1Finite_any _ _).mono ?_
  rintro e w1 ⟨rfl, n1, rfl⟩
  rw [hf]
  go_wp2_with fail
  refine (l1Abs_any _ _).mono ?_
  rintro e w2 ⟨rfl, rfl⟩
  rw [hl]
  go_wp2_with fail
  refine (l1Parts_ok x m p H.out.1 H.out.2.1 H.out.2.2 _).mono ?_
  rintro e w3 ⟨a, q, rfl, ha, ha53, hv, hq1, hq2, rfl⟩
  have A := Lib.hid (And.intro ha (And.intro ha53 hv))
  have l1 := dgs_len 17 a (by omega)
  have l2 := numL_len q ⟨hq1, hq2⟩
  have c1 : ∀ w, (Op.stringOp .add (⟨#[]⟩ : ByteArray) (strOfNums (dgs a))).run Tryz.prog w = .ok (.string (strOfNums (dgs a))) w := fun w => by
    have e0 : (⟨#[]⟩ : ByteArray) = strOfNums [] := rfl
    rw [e0, run_string_add _ _ _ (by rw [strOfNums_size]; decide) (by rw [strOfNums_size]; omega), str_app]; rfl
  have c2 : ∀ w, (Op.stringOp .add (strOfNums (dgs a)) (⟨#[112]⟩ : ByteArray)).run Tryz.prog w = .ok (.string (strOfNums (dgs a ++ [112]))) w := fun w => by
    have e0 : (⟨#[112]⟩ : ByteArray) = strOfNums [112] := rfl
    rw [e0, run_string_add _ _ _ (by rw [strOfNums_size]; omega) (by rw [strOfNums_size]; decide), str_app]
  have c3 : ∀ w, (Op.stringOp .add (strOfNums (dgs a ++ [112])) (strOfNums (numL q))).run Tryz.prog w = .ok (.string (strOfNums (dgs a ++ 112 :: numL q))) w := fun w => by
    rw [run_string_add _ _ _ (by rw [strOfNums_size, List.length_append]; simp; omega) (by rw [strOfNums_size]; omega), str_app]; simp
  clear ha ha53 hv l1 l2
  go_wp2_with fail
  refine (l1Number_ok a (by have := A.out.2.1; omega) _).mono ?_
  rintro e w4 ⟨rfl, n4⟩
  have N4 := Lib.hid (((Nw.refl w).draw _).trans n4)
  clear n4
  go_wp2_with fail
  refine (l1Num_any q ⟨hq1, hq2⟩ _).mono ?_
  rintro e w5 ⟨rfl, n5⟩
  have N5 := Lib.hid (N4.out.trans n5)
  clear n5
  go_wp2_with fail
  go_ret
  exact ⟨a, q, A.out.1, A.out.2.1, A.out.2.2, hq1, hq2, rfl, N5.out⟩

set_option maxRecDepth 100000 in
theorem specFormat_zero (w : World) : Calls Tryz.prog 140 #[.float .f64 0] w fun e w' => e = .returned (.string ⟨#[48]⟩) ∧ Nw w w' := by
  have hf : fin .f64 0 = true := by decide
  have e1 : (FloatKind.f64.format.order 0 0 == some .eq) = true := by decide
  have r1 : ∀ w, fres w .quo .f64 4607182418800017408 0 = 9218868437227405312 := fun w => by unfold fres; rw [show floatBits .quo .f64 4607182418800017408 0 = some 9218868437227405312 from by decide]
  have r2 : fdr .quo .f64 4607182418800017408 0 = 0 := by decide
  have e2 : (FloatKind.f64.format.order 9218868437227405312 0 == some .lt) = false := by decide
  go_enter Tryz.func140, Tryz.ntmps140
  go_wp2_with fail
  refine (l1Finite_any _ _).mono ?_
  rintro e w1 ⟨rfl, n1, rfl⟩
  rw [hf]
  go_wp2_with fail
  all_goals
    go_ret
    exact ⟨rfl, (Nw.refl w).draw _⟩
set_option maxRecDepth 100000 in
theorem specFormat_minus (w : World) : Calls Tryz.prog 140 #[.float .f64 9223372036854775808] w fun e w' => e = .returned (.string ⟨#[45, 48]⟩) ∧ Nw w w' := by
  have hf : fin .f64 9223372036854775808 = true := by decide
  have e1 : (FloatKind.f64.format.order 9223372036854775808 0 == some .eq) = true := by decide
  have r1 : ∀ w, fres w .quo .f64 4607182418800017408 9223372036854775808 = 18442240474082181120 := fun w => by unfold fres; rw [show floatBits .quo .f64 4607182418800017408 9223372036854775808 = some 18442240474082181120 from by decide]
  have r2 : fdr .quo .f64 4607182418800017408 9223372036854775808 = 0 := by decide
  have e2 : (FloatKind.f64.format.order 18442240474082181120 0 == some .lt) = true := by decide
  go_enter Tryz.func140, Tryz.ntmps140
  go_wp2_with fail
  refine (l1Finite_any _ _).mono ?_
  rintro e w1 ⟨rfl, n1, rfl⟩
  rw [hf]
  go_wp2_with fail
  all_goals
    go_ret
    exact ⟨rfl, (Nw.refl w).draw _⟩

end Go.Proofs.YtnmjkjjmigiabaaGreatDoor

/- The decimal texts: strconv.FormatUint and Itoa as told; texts alike.
   Conditions: those that each statement names. -/
namespace Go.Proofs.YtnmjkjjmigiabaaGreatDoor
set_option linter.unusedSimpArgs false
set_option linter.unusedVariables false
open Go Go.RowKit

/-! ### digits -/
theorem digs_eq : ∀ (f u : Nat), u < 10 ^ (f + 1) → (Lib.decDigits u) = (dgs u).map fun n => UInt8.ofNat n.toNat
  | f, u, h => by
    by_cases h10 : u < 10
    · rw [Lib.decDigits, dif_pos h10, dgs_small h10]
      simp only [List.map_cons, List.map_nil, List.cons.injEq, and_true]
      congr 1
    · rw [Lib.decDigits, dif_neg h10, dgs_big h10, List.map_append]
      cases f with
      | zero => omega
      | succ f =>
        rw [digs_eq f (u / 10) (by rw [Nat.pow_succ] at h; omega)]
        simp only [List.map_cons, List.map_nil]
        congr 3
theorem digs_str (u : Nat) (h : u < 18446744073709551616) : (⟨(Lib.decDigits u).toArray⟩ : ByteArray) = strOfNums (dgs u) := by
  rw [digs_eq 19 u (by omega)]; rfl
theorem itoa_str (q : Int) (h : q.natAbs < 18446744073709551616) : (⟨(Lib.itoa q).toArray⟩ : ByteArray) = strOfNums (numL q) := by
  unfold Lib.itoa numL strOfNums
  split
  · rename_i hq
    rw [digs_eq 19 q.natAbs (by omega)]
    rfl
  · rename_i hq
    rw [show q.toNat = q.natAbs by omega, digs_eq 19 q.natAbs (by omega)]

theorem tab_nw {w w' : World} {nm : String} {k : IntKind} {zs : List Int} (h : Nw w w') (t : Lib.TabIs Tryz.prog w nm k zs) : Lib.TabIs Tryz.prog w' nm k zs := by
  unfold Lib.TabIs World.var? at *
  cases hg : Program.globalNamed Tryz.prog nm with
  | none => simp [hg] at t
  | some g =>
    simp only [hg, Option.bind_some] at t ⊢
    have hlt : g < w.heap.size := by
      rcases Nat.lt_or_ge g w.heap.size with h' | h'
      · exact h'
      · rw [Array.getElem?_eq_none h'] at t; simp at t
    rw [h.block g hlt (by simp)]
    exact t
theorem nw_grow (w : World) (os : Array Obj) : Nw w (Sort.grow w os) :=
  ⟨rfl, rfl, rfl, by simp [Sort.grow], fun k hk _ => Sort.heap_grow_old w os hk⟩

theorem holds_zero0 (w : World) (T : TypeId) (nd : Nat) (hs : nd ≤ 24) : Sort.Holds (fun (b : UInt8) => Value.int .u8 (b.toNat : Int)) (w.alloc (.cells Lib.zeros24 T)) w.heap.size 0 (Array.replicate nd (0 : UInt8)) := fun j hj => by
  have hj' : j < nd := by simpa using hj
  refine ⟨?_, World.frozen?_alloc_new _ _ _ _⟩
  rw [World.cell?_alloc_new, Lib.zeros24_at _ (by omega), getElem!_pos _ j hj]
  simp
theorem nw_put (w : World) (o : Obj) (dk : Array UInt8) (k : Nat) : Nw w ((Sort.putRow (fun (b : UInt8) => Value.int .u8 (b.toNat : Int)) (w.alloc o) w.heap.size 0 dk).drewN k) := by
  rw [Sort.alloc_eq_grow]
  obtain ⟨os', _, e⟩ := Sort.putRow_grow_new (fun (b : UInt8) => Value.int .u8 (b.toNat : Int)) w #[o] w.heap.size 0 dk (Nat.le_refl _)
  rw [e]
  exact (nw_grow w os').draw k

set_option maxHeartbeats 6400000 in
set_option maxRecDepth 100000 in
theorem fmtU_inner (u : Nat) (hu1 : 1 ≤ u) (hu64 : u < 18446744073709551616) (w : World) (htab : Lib.TabIs Tryz.prog w "internal/strconv.uint64pow10" .u64 Lib.pow10Tab) :
    Calls Tryz.prog 115 #[.int .u64 (u : Int), .int .i64 10] w (StrP (dgs u) w) := by
  have hstr := digs_str u hu64
  by_cases hs : u < 100
  · go_enter Tryz.func115, Tryz.ntmps115
    go_wp2_with (go_at_call 169; refine (Tryz.internal_strconv_small u hs _).mono ?_; rintro e w' ⟨rfl, rfl⟩)
    go_ret
    exact ⟨by first | rfl | (rw [hstr]; rfl), Nw.refl _⟩
  · have hnd20 : Lib.nDigits u ≤ 20 := by have := Lib.numDigits_eq u hu1 hu64; split at this <;> omega
    have hal : Program.arrayLen Tryz.prog 196 = 24 := by kernel_rfl
    have hsl : ∀ W, (Instr.sliceAt 196 (.pointer (some ⟨w.heap.size, 0, none⟩)) none (some (.int .i64 (Lib.nDigits u : Int))) none).run Tryz.prog W = .ok (.slice (some ⟨w.heap.size, 0, none⟩) (Lib.nDigits u) 24) W := fun W => by
      rw [run_sliceAt_array_h W 196 ⟨w.heap.size, 0, none⟩ (by kernel_rfl) .i64 (Lib.nDigits u : Int) (by omega) (by rw [hal]; omega)]
      go_simp
    have hH0 := holds_zero0 w 196 (Lib.nDigits u) (by omega)
    have hfmt := Tryz.internal_strconv_formatBase10 w.heap.size 0 24 u (Array.replicate (Lib.nDigits u) 0) (w.alloc (.cells Lib.zeros24 196)) hH0 (by rw [Array.size_replicate]; exact Lib.lt_pow_nDigits u) hu64 (by rw [Array.size_replicate]; omega)
    rw [Array.size_replicate] at hfmt
    have HH0 := Lib.hid hH0
    clear hH0 hal
    go_enter Tryz.func115, Tryz.ntmps115
    go_wp2_with (go_at_call 170; refine (Tryz.internal_strconv_numDigits u hu1 hu64 _ (Lib.tabIs_alloc htab _)).mono ?_; rintro e w' ⟨rfl, rfl⟩)
    go_at_call 171
    refine hfmt.mono ?_
    rintro e w' ⟨rfl, k, v', dk, rfl, hF⟩
    have hcv : (convert 22 9 (.slice (some ⟨w.heap.size, 0, none⟩) (Lib.nDigits u) 24)).run Tryz.prog ((Sort.putRow (fun (b : UInt8) => Value.int .u8 (b.toNat : Int)) (w.alloc (.cells Lib.zeros24 196)) w.heap.size 0 dk).drewN k) = .ok (.string ⟨(Lib.decDigits u).toArray⟩) ((Sort.putRow (fun (b : UInt8) => Value.int .u8 (b.toNat : Int)) (w.alloc (.cells Lib.zeros24 196)) w.heap.size 0 dk).drewN k) := by
      have h := run_convert_bytes_back (P := Tryz.prog) ((Sort.putRow (fun (b : UInt8) => Value.int .u8 (b.toNat : Int)) (w.alloc (.cells Lib.zeros24 196)) w.heap.size 0 dk).drewN k) 22 9 5 ⟨w.heap.size, 0, none⟩ 24 (Lib.decDigits u) Tryz.underlying22 Tryz.underlying5 Tryz.underlying9 (fun j hj => by
        rw [Lib.row_is_numeral hF j hj, Lib.add_plain, World.cell?_drewN]
        exact Sort.cell?_putRow (fun (b : UInt8) => Value.int .u8 (b.toNat : Int)) _ w.heap.size 0 _ dk HH0.out (by rw [hF.size, Array.size_replicate]) j (by rw [hF.size]; rw [Lib.decDigits_length] at hj; exact hj))
      rw [Lib.decDigits_length] at h
      exact h
    have fin : Nw w ((Sort.putRow (fun (b : UInt8) => Value.int .u8 (b.toNat : Int)) (w.alloc (.cells Lib.zeros24 196)) w.heap.size 0 dk).drewN k) := nw_put _ _ _ _
    go_wp2
    go_ret
    exact ⟨by first | rfl | (rw [hstr]; rfl), fin⟩

theorem fmtU_ok (u : Nat) (hu1 : 1 ≤ u) (hu64 : u < 18446744073709551616) (w : World) (htab : Lib.TabIs Tryz.prog w "internal/strconv.uint64pow10" .u64 Lib.pow10Tab) :
    Calls Tryz.prog 51 #[.int .u64 (u : Int), .int .i64 10] w (StrP (dgs u) w) := by
  go_enter Tryz.func51, Tryz.ntmps51
  go_wp2_with (go_at_call 115; refine (fmtU_inner u hu1 hu64 _ htab).mono ?_; rintro e w' ⟨rfl, n1⟩; have N1 := Lib.hid n1; clear n1)
  go_ret
  exact ⟨rfl, N1.out⟩

theorem itoa_ok (q : Int) (hq : -2000 ≤ q ∧ q ≤ 2000) (w : World) (htab : Lib.TabIs Tryz.prog w "internal/strconv.uint64pow10" .u64 Lib.pow10Tab) :
    Calls Tryz.prog 52 #[.int .i64 q] w (StrP (numL q) w) := by
  refine (Tryz.strconv_Itoa q (by omega) (by omega) w htab).mono ?_
  rintro e w' ⟨rfl, k, os, rfl⟩
  exact ⟨by rw [itoa_str q (by omega)], ((Nw.refl w).draw k).trans (nw_grow _ os)⟩

end Go.Proofs.YtnmjkjjmigiabaaGreatDoor

/- math.Frexp and math.Ldexp(.., 53), bits.TrailingZeros64: the odd part of a number above 0.
   Conditions: those that each statement names. -/
namespace Go.Proofs.YtnmjkjjmigiabaaGreatDoor
set_option linter.unusedSimpArgs false
set_option linter.unusedVariables false
open Go Go.RowKit

/-! ### normalize -/
def NorP (sg : Bool) (m : Nat) (p : Int) (w : World) (e : Ending) (w' : World) : Prop :=
  ∃ (X s E F : Nat) (z : Int), e = .returned (.tuple #[.float .f64 X, .int .i64 z]) ∧ X = s * 9223372036854775808 + (E * 4503599627370496 + F) ∧ s < 2 ∧ sg = (s == 1) ∧ 1 ≤ E ∧ E < 2047 ∧ F < 4503599627370496 ∧ (z = 0 ∨ z = -52) ∧
    ((4503599627370496 + F : Nat) : Rat) * Flo.pw ((E : Int) - 1075 + z) = (m : Rat) * Flo.pw p ∧ ∃ n, w' = w.drewN n

theorem read_min : Ieee.double.read 4503599627370496 = .number false 4503599627370496 (-1074) := by decide
theorem V_min : Flo.V Ieee.double 4503599627370496 = Flo.pw (-1022) := by
  rw [Flo.V_eq read_min]; unfold Flo.val
  rw [show (-1022 : Int) = -1074 + (52 : Nat) from by omega, Flo.pw_add, Flo.pw_nat]
  simp
  grind

theorem lt_min (x m : Nat) (sg : Bool) (p : Int) (h : Ieee.double.read x = .number sg m p) :
    (FloatKind.f64.format.order (x % signBit) 4503599627370496 == some .lt) = decide ((m : Rat) * Flo.pw p < Flo.pw (-1022)) := by
  have hr : Ieee.double.read (x % signBit) = .number false m p := by
    show FloatKind.f64.decode (x % signBit) = _
    rw [mod_read, show FloatKind.f64.decode x = _ from h]
  have o := Flo.order_num Ieee.double (x % signBit) 4503599627370496 ⟨_, _, _, hr⟩ ⟨_, _, _, read_min⟩
  have e1 : Flo.V Ieee.double (x % signBit) = (m : Rat) * Flo.pw p := by rw [Flo.V_eq hr]; unfold Flo.val; simp
  rw [e1, V_min] at o
  show (Ieee.double.order _ _ == some .lt) = _
  by_cases hlt : (m : Rat) * Flo.pw p < Flo.pw (-1022)
  · rw [decide_eq_true hlt, o.1.2 hlt]; rfl
  · rw [decide_eq_false hlt]
    cases hg : (Ieee.double.order (x % signBit) 4503599627370496 == some .lt) with
    | false => rfl
    | true => exact absurd (o.1.1 (by simpa using hg)) hlt

theorem scale_up (x m : Nat) (sg : Bool) (hx : Ieee.double.read x = .number sg m (-1074)) (hm : m ≠ 0) (hm2 : m < 4503599627370496) :
    ∃ s E F : Nat, floatBits .mul .f64 x 4841369599423283200 = some (s * 9223372036854775808 + (E * 4503599627370496 + F)) ∧ s < 2 ∧ sg = (s == 1) ∧ 1 ≤ E ∧ E < 2047 ∧ F < 4503599627370496 ∧ ((4503599627370496 + F : Nat) : Rat) * Flo.pw ((E : Int) - 1075 + -52) = (m : Rat) * Flo.pw (-1074) := by
  have r52 : Ieee.double.read 4841369599423283200 = .number false 4503599627370496 0 := by decide
  have e : floatBits .mul .f64 x 4841369599423283200 = some (Ieee.double.write (.number sg (m * 4503599627370496) (-1074 + 0))) := by
    show Ieee.double.mul x _ = _
    unfold Ieee.Format.mul
    rw [hx, r52]
    cases sg <;> rfl
  have hv : ((m * 4503599627370496 : Nat) : Rat) * Flo.pw (-1074 + 0) = (m : Rat) * Flo.pw (-1022) := by
    rw [show (-1022 : Int) = -1074 + 0 + (52 : Nat) from by omega, Flo.pw_add (-1074 + 0), Flo.pw_nat]
    have : ((2 ^ 52 : Nat) : Rat) = ((4503599627370496 : Nat) : Rat) := rfl
    rw [this]; push_cast; grind
  have hm3 : (m : Rat) < 4503599627370496 := by exact_mod_cast hm2
  have hm1 : (1 : Rat) ≤ (m : Rat) := by exact_mod_cast Nat.pos_of_ne_zero hm
  have p22 := Flo.pw_pos (-1022)
  obtain ⟨m', p', w1, w2, w3, w4⟩ := Flo.write_exact Ieee.double (by decide) sg _ _ m (-1022) hv (by
    have : 2 ^ (Ieee.double.fractionBits + 1) = 9007199254740992 := by decide
    omega) (by rw [Flo.lp_double]; omega) (by
    rw [hv, Flo.top_double]
    have l : Flo.pw (-1022 + (52 : Nat)) < Flo.pw 1023 := Flo.pw_lt (by omega)
    rw [Flo.pw_add, Flo.pw_nat] at l
    have e52 : ((2 ^ 52 : Nat) : Rat) = 4503599627370496 := rfl
    rw [e52] at l
    have := Rat.mul_lt_mul_of_pos_right hm3 p22
    grind)
  obtain ⟨s, hs, hsg, hc⟩ := word_cases _ m' sg p' (Ieee.Format.write_lt _ _) w1
  rcases hc with ⟨hx1, hs1, hs2⟩ | ⟨E, F, hx1, k1, k2, k3, k4, k5⟩
  · exfalso
    rw [hs2, hv] at w4
    have h1 : (m' : Rat) < 4503599627370496 := by exact_mod_cast hs1
    have p74 := Flo.pw_pos (-1074)
    have h2 := Rat.mul_lt_mul_of_pos_right h1 p74
    have h3 := Rat.mul_le_mul_of_nonneg_right hm1 (Rat.le_of_lt p22)
    have h4 : Flo.pw (-1022) = 4503599627370496 * Flo.pw (-1074) := by
      rw [show (-1022 : Int) = -1074 + (52 : Nat) from by omega, Flo.pw_add, Flo.pw_nat]
      rw [show ((2 ^ 52 : Nat) : Rat) = 4503599627370496 from rfl]; grind
    grind
  · refine ⟨s, E, F, by rw [e, hx1], hs, hsg, k1, k2, k3, ?_⟩
    rw [hv, k4, k5] at w4
    rw [Flo.pw_add ((E : Int) - 1075)]
    rw [show ((m : Nat) : Rat) * Flo.pw (-1074) = (m : Rat) * (Flo.pw (-1022) * Flo.pw (-52)) from by rw [← Flo.pw_add]; rfl]
    grind

set_option maxRecDepth 100000 in
theorem normalize_ok (x m : Nat) (sg : Bool) (p : Int) (hx : x < 18446744073709551616) (h : Ieee.double.read x = .number sg m p) (hm : m ≠ 0) (w : World) :
    Calls Tryz.prog 198 #[.float .f64 x] w (NorP sg m p w) := by
  have hlt := lt_min x m sg p h
  obtain ⟨s, hs, hsg, hc⟩ := word_cases x m sg p hx h
  have p0 := Flo.pw_pos (-1022)
  have hx' : x < 2 ^ 64 := hx
  rcases hc with ⟨hx1, hm2, hp⟩ | ⟨E, F, hx1, k1, k2, k3, k4, k5⟩
  · have hsub : (m : Rat) * Flo.pw p < Flo.pw (-1022) := by
      rw [hp]
      have h1 : (m : Rat) < 4503599627370496 := by exact_mod_cast hm2
      have h2 := Rat.mul_lt_mul_of_pos_right h1 (Flo.pw_pos (-1074))
      have h4 : Flo.pw (-1022) = 4503599627370496 * Flo.pw (-1074) := by
        rw [show (-1022 : Int) = -1074 + (52 : Nat) from by omega, Flo.pw_add, Flo.pw_nat]
        rw [show ((2 ^ 52 : Nat) : Rat) = 4503599627370496 from rfl]; grind
      grind
    rw [decide_eq_true hsub] at hlt
    subst hp
    obtain ⟨s', E, F, z1, z2, z3, z4, z5, z6, z7⟩ := scale_up x m sg h hm hm2
    have r1 : ∀ w, fres w .mul .f64 x 4841369599423283200 = s' * 9223372036854775808 + (E * 4503599627370496 + F) := fun w => by unfold fres; rw [z1]
    have r2 : fdr .mul .f64 x 4841369599423283200 = 0 := by unfold fdr; rw [z1]; rfl
    have Z := Lib.hid (And.intro z2 (And.intro z3 (And.intro z4 (And.intro z5 (And.intro z6 z7)))))
    clear z1 z2 z3 z4 z5 z6 z7 hsub h p0 hx1 hsg hm2 hs
    go_enter Tryz.func198, Tryz.ntmps198
    go_wp2_with (go_at_call 50; refine (abs_any _ _ hx').mono ?_; rintro e w' ⟨rfl, rfl⟩)
    go_ret2
    exact ⟨_, s', E, F, -52, rfl, rfl, Z.out.1, Z.out.2.1, Z.out.2.2.1, Z.out.2.2.2.1, Z.out.2.2.2.2.1, .inr rfl, Z.out.2.2.2.2.2, 0, rfl⟩
  · have hnor : ¬ (m : Rat) * Flo.pw p < Flo.pw (-1022) := by
      rw [k4, k5]
      have l := Flo.pw_le (show (-1074 : Int) ≤ (E : Int) - 1075 by omega)
      have h1 : (4503599627370496 : Rat) ≤ ((4503599627370496 + F : Nat) : Rat) := by exact_mod_cast Nat.le_add_right _ F
      have h3 := Rat.mul_le_mul_of_nonneg_right h1 (Rat.le_of_lt (Flo.pw_pos ((E : Int) - 1075)))
      have h4 : Flo.pw (-1022) = 4503599627370496 * Flo.pw (-1074) := by
        rw [show (-1022 : Int) = -1074 + (52 : Nat) from by omega, Flo.pw_add, Flo.pw_nat]
        rw [show ((2 ^ 52 : Nat) : Rat) = 4503599627370496 from rfl]; grind
      grind
    rw [decide_eq_false hnor] at hlt
    have Z := Lib.hid (And.intro hs (And.intro hsg (And.intro k1 (And.intro k2 k3))))
    have X := Lib.hid (And.intro hx1 (And.intro k4 k5))
    clear hs hsg k1 k2 k3 hnor h p0 hx1 k4 k5
    go_enter Tryz.func198, Tryz.ntmps198
    go_wp2_with (go_at_call 50; refine (abs_any _ _ hx').mono ?_; rintro e w' ⟨rfl, rfl⟩)
    go_ret2
    exact ⟨x, s, E, F, 0, rfl, X.out.1, Z.out.1, Z.out.2.1, Z.out.2.2.1, Z.out.2.2.2.1, Z.out.2.2.2.2, .inl rfl, by rw [X.out.2.1, X.out.2.2, Int.add_zero], 0, rfl⟩

/-! ### Frexp -/
theorem ne0_num (x m : Nat) (sg : Bool) (p : Int) (h : Ieee.double.read x = .number sg m p) (hm : m ≠ 0) : (FloatKind.f64.format.order x 0 == some .eq) = false := by
  have o := Flo.order_num Ieee.double x 0 ⟨_, _, _, h⟩ zero_num.1
  rw [show Flo.V Ieee.double 0 = 0 from zero_num.2, Flo.V_eq h] at o
  cases hg : (FloatKind.f64.format.order x 0 == some .eq) with
  | false => rfl
  | true =>
    exfalso
    have h0 := o.2.1.1 (show FloatKind.f64.format.order x 0 = some .eq by simpa using hg)
    apply hm
    apply Flo.mag_zero (p := p)
    unfold Flo.val at h0
    cases sg <;> simp at h0 <;> grind
theorem and_exp (s E F : Nat) (hs : s < 2) (hE : E < 2047) (hF : F < 4503599627370496) : bits .and .u64 (((s * 9223372036854775808 + (E * 4503599627370496 + F) : Nat) : Int) / 4503599627370496) 2047 = (E : Int) := by
  have k : (s * 2048 + E) % 2048 = E := by omega
  have e : ((s * 9223372036854775808 + (E * 4503599627370496 + F) : Nat) : Int) / 4503599627370496 = ((s * 2048 + E : Nat) : Int) := by omega
  have e2 := u64_and_nat (s * 2048 + E) 2047 (by omega) (by decide)
  rw [nat_mask11, k] at e2
  exact (congrArg (fun v => bits .and .u64 v 2047) e).trans e2
theorem clr_word (s E F : Nat) (hs : s < 2) (hE : E < 2047) (hF : F < 4503599627370496) : bits .andNot .u64 ((s * 9223372036854775808 + (E * 4503599627370496 + F) : Nat) : Int) 9218868437227405312 = ((s * 9223372036854775808 + F : Nat) : Int) := by
  rw [clr _ (by omega)]
  have h1 : (s * 9223372036854775808 + (E * 4503599627370496 + F)) / 9223372036854775808 = s := by omega
  have h2 : (s * 9223372036854775808 + (E * 4503599627370496 + F)) % 4503599627370496 = F := by clear h1; omega
  rw [h1, h2]

def FrxP (sg : Bool) (m : Nat) (p : Int) (w : World) (e : Ending) (w' : World) : Prop :=
  ∃ (X s E F : Nat) (z : Int), e = .returned (.tuple #[.float .f64 X, .int .i64 (z + ((E : Int) - 1023 + 1))]) ∧ X = s * 9223372036854775808 + (1022 * 4503599627370496 + F) ∧ s < 2 ∧ sg = (s == 1) ∧ 1 ≤ E ∧ E < 2047 ∧ F < 4503599627370496 ∧ (z = 0 ∨ z = -52) ∧
    ((4503599627370496 + F : Nat) : Rat) * Flo.pw ((E : Int) - 1075 + z) = (m : Rat) * Flo.pw p ∧ ∃ n, w' = w.drewN n

set_option maxRecDepth 100000 in
theorem frexp_inner (x m : Nat) (sg : Bool) (p : Int) (hx : x < 18446744073709551616) (h : Ieee.double.read x = .number sg m p) (hm : m ≠ 0) (w : World) :
    Calls Tryz.prog 166 #[.float .f64 x] w (FrxP sg m p w) := by
  have h0 := ne0_num x m sg p h hm
  have hx' : x < 2 ^ 64 := hx
  have hi : (FloatKind.f64.decode x).isInfinity = false := by rw [show FloatKind.f64.decode x = _ from h]; rfl
  have hn : (FloatKind.f64.decode x).isNaN = false := by rw [show FloatKind.f64.decode x = _ from h]; rfl
  have H := Lib.hid (And.intro h hm)
  clear h hm
  go_enter Tryz.func166, Tryz.ntmps166
  go_wp2_with (first
    | (go_at_call 109; refine (isInf_any _ _ hx').mono ?_; rintro e w' ⟨rfl, rfl⟩; rw [hi])
    | (go_at_call 108; refine (isNaN_any _ _).mono ?_; rintro e w' ⟨rfl, rfl⟩; rw [hn]))
  go_at_call 198
  refine (normalize_ok x m sg p hx H.out.1 H.out.2 _).mono ?_
  rintro e w' ⟨X, s, E, F, z, rfl, hX, h1, h2, h3, h4, h5, h6, h7, n, rfl⟩
  obtain ⟨Y, hY⟩ : ∃ Y : Nat, Y = s * 9223372036854775808 + F := ⟨_, rfl⟩
  obtain ⟨Z, hZ⟩ : ∃ Z : Nat, Z = s * 9223372036854775808 + (1022 * 4503599627370496 + F) := ⟨_, rfl⟩
  have a1 : bits .and .u64 ((X : Int) / 4503599627370496) 2047 = (E : Int) := by rw [hX]; exact and_exp s E F h1 h4 h5
  have a2 : bits .andNot .u64 (X : Int) 9218868437227405312 = (Y : Int) := by rw [hX, hY]; exact clr_word s E F h1 h4 h5
  have a3 : bits .or .u64 (Y : Int) 4602678819172646912 = (Z : Int) := by rw [hY, hZ]; exact put s F 1022 h1 h5 (by omega)
  have a4 : RowKit.wrap64 (E : Int) = (E : Int) := by unfold RowKit.wrap64; omega
  have HH := Lib.hid (And.intro h1 (And.intro h2 (And.intro h3 (And.intro h4 (And.intro h5 (And.intro h6 h7))))))
  have HZ := Lib.hid hZ
  have c1 := call_bits X
  have c2 := call_frombits
  clear h1 h2 h3 h5 h7 hX hY hZ
  go_wp2_with fail
  go_ret2
  exact ⟨Z, s, E, F, z, rfl, HZ.out, HH.out.1, HH.out.2.1, HH.out.2.2.1, HH.out.2.2.2.1, HH.out.2.2.2.2.1, HH.out.2.2.2.2.2.1, HH.out.2.2.2.2.2.2, n, rfl⟩

theorem frexp_ok (x m : Nat) (sg : Bool) (p : Int) (hx : x < 18446744073709551616) (h : Ieee.double.read x = .number sg m p) (hm : m ≠ 0) (w : World) :
    Calls Tryz.prog 111 #[.float .f64 x] w (FrxP sg m p w) := by
  have H := Lib.hid (And.intro h hm)
  clear h hm
  go_enter Tryz.func111, Tryz.ntmps111
  go_wp2_with fail
  refine (frexp_inner x m sg p hx H.out.1 H.out.2 _).mono ?_
  rintro e w' ⟨X, s, E, F, z, rfl, h1, h2, h3, h4, h5, h6, h7, h8, n, rfl⟩
  have HH := Lib.hid (And.intro h1 (And.intro h2 (And.intro h3 (And.intro h4 (And.intro h5 (And.intro h6 (And.intro h7 h8)))))))
  clear h1 h2 h3 h4 h5 h6 h7 h8
  go_wp2_with fail
  go_ret2
  exact ⟨X, s, E, F, z, rfl, HH.out.1, HH.out.2.1, HH.out.2.2.1, HH.out.2.2.2.1, HH.out.2.2.2.2.1, HH.out.2.2.2.2.2.1, HH.out.2.2.2.2.2.2.1, HH.out.2.2.2.2.2.2.2, n, rfl⟩

/-! ### Ldexp where the answer is a normal number -/
theorem one_mul_word (s E F : Nat) (hs : s < 2) (h1 : 1 ≤ E) (h2 : E < 2047) (hF : F < 4503599627370496) : floatBits .mul .f64 4607182418800017408 (s * 9223372036854775808 + (E * 4503599627370496 + F)) = some (s * 9223372036854775808 + (E * 4503599627370496 + F)) := by
  have r := read_nor s E F hs h1 h2 hF
  have r1 : Ieee.double.read 4607182418800017408 = .number false 4503599627370496 (-52) := by decide
  obtain ⟨X, hX⟩ : ∃ X : Nat, X = s * 9223372036854775808 + (E * 4503599627370496 + F) := ⟨_, rfl⟩
  rw [← hX] at r ⊢
  have e : floatBits .mul .f64 4607182418800017408 X = some (Ieee.double.write (.number (s == 1) (4503599627370496 * (4503599627370496 + F)) (-52 + ((E : Int) - 1075)))) := by
    show Ieee.double.mul _ X = _
    unfold Ieee.Format.mul
    rw [r, r1]
    cases (s == 1) <;> rfl
  rw [e]
  congr 1
  obtain ⟨M, hM⟩ : ∃ M : Nat, M = 4503599627370496 + F := ⟨_, rfl⟩
  rw [← hM]
  have hlog : (4503599627370496 * M).log2 = 104 := by
    have n0 : 4503599627370496 * M ≠ 0 := by omega
    rw [Nat.log2_eq_iff n0]
    constructor
    · show 20282409603651670423947251286016 ≤ _; omega
    · show _ < 40564819207303340847894502572032; omega
  show Ieee.double.nearest (s == 1) (4503599627370496 * M) (-52 + ((E : Int) - 1075)) = X
  unfold Ieee.Format.nearest
  rw [if_neg (by omega)]
  simp only [hlog, show (Ieee.double.fractionBits : Int) = 52 from rfl, show Ieee.double.leastPlace = -1074 from by decide]
  have m1 : max (-52 + ((E : Int) - 1075) + ((104 : Nat) : Int) - 52) (-1074) = (E : Int) - 1075 := by omega
  rw [m1]
  have m2 : (-52 + ((E : Int) - 1075) - ((E : Int) - 1075)).toNat = 0 := by omega
  have m3 : ((E : Int) - 1075 - (-52 + ((E : Int) - 1075))).toNat = 52 := by omega
  have m4 : ((E : Int) - 1075 - -1074).toNat = E - 1 := by omega
  rw [m2, m3, m4, Nat.shiftLeft_zero]
  have m5 : Ieee.Toward.even.cut (s == 1) (4503599627370496 * M) 52 = M := by
    unfold Ieee.Toward.cut
    simp only [hlog]
    have g1 : 1 <<< min 52 (104 + 2) = 4503599627370496 := by decide
    rw [g1, Nat.mul_div_cancel_left _ (by decide), Nat.mul_mod_right]
    simp
  rw [m5, show Ieee.double.binade = 4503599627370496 from by decide, show Ieee.double.infRung = 9218868437227405312 from by decide]
  have m6 : min ((E - 1) * 4503599627370496 + M) 9218868437227405312 = E * 4503599627370496 + F := by
    clear hlog m1 m2 m3 m4 m5 e r r1 hX
    have m7 : (E - 1) * 4503599627370496 + M = E * 4503599627370496 + F := by omega
    rw [m7]
    exact Nat.min_eq_left (by omega)
  rw [m6]
  unfold Ieee.Format.word
  rw [show Ieee.double.signWeight = 9223372036854775808 from by decide, hX]
  rcases Nat.lt_or_ge s 1 with g | g
  · rw [show s = 0 by omega]; simp
  · rw [show s = 1 by omega]; simp

end Go.Proofs.YtnmjkjjmigiabaaGreatDoor

/- math.Ldexp where the answer is a normal number.
   Conditions: those that each statement names. -/
namespace Go.Proofs.YtnmjkjjmigiabaaGreatDoor
set_option linter.unusedSimpArgs false
set_option linter.unusedVariables false
open Go Go.RowKit

def LdP (sg : Bool) (m : Nat) (p k : Int) (w : World) (e : Ending) (w' : World) : Prop :=
  ∃ (Y s N F : Nat), e = .returned (.float .f64 Y) ∧ Y = s * 9223372036854775808 + (N * 4503599627370496 + F) ∧ s < 2 ∧ sg = (s == 1) ∧ 1 ≤ N ∧ N < 2047 ∧ F < 4503599627370496 ∧
    ((4503599627370496 + F : Nat) : Rat) * Flo.pw ((N : Int) - 1075) = (m : Rat) * Flo.pw (p + k) ∧ ∃ n, w' = w.drewN n

/-- the exponent of the answer lies in the range of normal numbers -/
theorem exp_range (F m : Nat) (q p k : Int) (hF : F < 4503599627370496) (h : ((4503599627370496 + F : Nat) : Rat) * Flo.pw q = (m : Rat) * Flo.pw p) (h1 : Flo.pw (-1022) ≤ (m : Rat) * Flo.pw (p + k)) (h2 : (m : Rat) * Flo.pw (p + k) < Flo.pw 1024) :
    -1022 ≤ q + 52 + k ∧ q + 52 + k ≤ 1023 := by
  have e : ((4503599627370496 + F : Nat) : Rat) * Flo.pw (q + k) = (m : Rat) * Flo.pw (p + k) := by
    rw [Flo.pw_add q, Flo.pw_add p]; grind
  rw [← e] at h1 h2
  have f1 : ((4503599627370496 + F : Nat) : Rat) < 9007199254740992 := by exact_mod_cast (show 4503599627370496 + F < 9007199254740992 by omega)
  have f2 : (4503599627370496 : Rat) ≤ ((4503599627370496 + F : Nat) : Rat) := by exact_mod_cast Nat.le_add_right _ F
  have g1 := Rat.mul_lt_mul_of_pos_right f1 (Flo.pw_pos (q + k))
  have g2 := Rat.mul_le_mul_of_nonneg_right f2 (Rat.le_of_lt (Flo.pw_pos (q + k)))
  have p53 : (9007199254740992 : Rat) * Flo.pw (q + k) = Flo.pw (q + k + (53 : Nat)) := by rw [Flo.pw_add (q + k), Flo.pw_nat, show ((2 ^ 53 : Nat) : Rat) = 9007199254740992 from rfl]; grind
  have p52 : (4503599627370496 : Rat) * Flo.pw (q + k) = Flo.pw (q + k + (52 : Nat)) := by rw [Flo.pw_add (q + k), Flo.pw_nat, show ((2 ^ 52 : Nat) : Rat) = 4503599627370496 from rfl]; grind
  rw [p53] at g1
  rw [p52] at g2
  constructor
  · rcases Int.lt_or_le (q + 52 + k) (-1022) with g | g
    · exfalso
      have := Flo.pw_le (show q + k + (53 : Nat) ≤ -1022 by omega)
      grind
    · exact g
  · rcases Int.lt_or_le 1023 (q + 52 + k) with g | g
    · exfalso
      have := Flo.pw_le (show 1024 ≤ q + k + (52 : Nat) by omega)
      grind
    · exact g

theorem i64_low11 (a : Nat) (ha : a < 4096) : bits .and .i64 (a : Int) 2047 = ((a % 2048 : Nat) : Int) := by
  have hb : (BitVec.ofInt 64 2047).toNat = 2047 := by decide
  have hr : (BitVec.ofInt 64 (a : Int) &&& BitVec.ofInt 64 2047).toNat = a % 2048 := by
    rw [BitVec.toNat_and, hb, ofInt_u64 a (by omega), nat_mask11]
  show IntKind.i64.wrap ((BitVec.ofInt 64 (a : Int) &&& BitVec.ofInt 64 2047).toNat : Int) = _
  rw [hr, IntKind.wrap_i64]
  omega
theorem and_exp_i (s E F : Nat) (hs : s < 2) (hE : E < 2047) (hF : F < 4503599627370496) : bits .and .i64 (((s * 9223372036854775808 + (E * 4503599627370496 + F) : Nat) : Int) / 4503599627370496) 2047 = (E : Int) := by
  have k : (s * 2048 + E) % 2048 = E := by omega
  have e : ((s * 9223372036854775808 + (E * 4503599627370496 + F) : Nat) : Int) / 4503599627370496 = ((s * 2048 + E : Nat) : Int) := by omega
  have e2 := i64_low11 (s * 2048 + E) (by omega)
  rw [k] at e2
  exact (congrArg (fun v => bits .and .i64 v 2047) e).trans e2

set_option maxRecDepth 100000 in
theorem ldexp_inner (x m : Nat) (sg : Bool) (p k : Int) (hx : x < 18446744073709551616) (h : Ieee.double.read x = .number sg m p) (hm : m ≠ 0) (hk : -100000 ≤ k ∧ k ≤ 100000)
    (r1 : Flo.pw (-1022) ≤ (m : Rat) * Flo.pw (p + k)) (r2 : (m : Rat) * Flo.pw (p + k) < Flo.pw 1024) (w : World) :
    Calls Tryz.prog 168 #[.float .f64 x, .int .i64 k] w (LdP sg m p k w) := by
  have h0 := ne0_num x m sg p h hm
  have hx' : x < 2 ^ 64 := hx
  have hi : (FloatKind.f64.decode x).isInfinity = false := by rw [show FloatKind.f64.decode x = _ from h]; rfl
  have hn : (FloatKind.f64.decode x).isNaN = false := by rw [show FloatKind.f64.decode x = _ from h]; rfl
  have H := Lib.hid (And.intro h (And.intro hm (And.intro r1 r2)))
  clear h hm r1 r2
  go_enter Tryz.func168, Tryz.ntmps168
  go_wp2_with (first
    | (go_at_call 109; refine (isInf_any _ _ hx').mono ?_; rintro e w' ⟨rfl, rfl⟩; rw [hi])
    | (go_at_call 108; refine (isNaN_any _ _).mono ?_; rintro e w' ⟨rfl, rfl⟩; rw [hn]))
  go_at_call 198
  refine (normalize_ok x m sg p hx H.out.1 H.out.2.1 _).mono ?_
  rintro e w' ⟨X, s, E, F, z, rfl, hX, h1, h2, h3, h4, h5, h6, h7, n, rfl⟩
  have ht := exp_range F m _ p k h5 h7 H.out.2.2.1 H.out.2.2.2
  obtain ⟨Y, hY⟩ : ∃ Y : Nat, Y = s * 9223372036854775808 + F := ⟨_, rfl⟩
  obtain ⟨t, et⟩ : ∃ t : Int, t = k + z + ((E : Int) - 1023) := ⟨_, rfl⟩
  have et2 : t = (E : Int) - 1075 + z + 52 + k := by omega
  rw [← et2] at ht
  obtain ⟨N, hN⟩ := Int.eq_ofNat_of_zero_le (show 0 ≤ t + 1023 by omega)
  obtain ⟨Z, hZ⟩ : ∃ Z : Nat, Z = s * 9223372036854775808 + (N * 4503599627370496 + F) := ⟨_, rfl⟩
  have hN1 : 1 ≤ N := by omega
  have hN2 : N < 2047 := by omega
  have a0 : RowKit.wrap64 ((X : Int) / 4503599627370496) = (X : Int) / 4503599627370496 := by unfold RowKit.wrap64; omega
  have a1 : bits .and .i64 ((X : Int) / 4503599627370496) 2047 = (E : Int) := by rw [hX]; exact and_exp_i s E F h1 h4 h5
  have a2 : bits .andNot .u64 (X : Int) 9218868437227405312 = (Y : Int) := by rw [hX, hY]; exact clr_word s E F h1 h4 h5
  have a3 : bits .or .u64 (Y : Int) ((k + z + ((E : Int) - 1023) + 1023) * 4503599627370496) = (Z : Int) := by rw [← et, hN, hY, hZ]; exact put s F N h1 h5 (by omega)
  have a4 : ((Z : Nat) : Int).toNat = Z := by omega
  have hv : ((4503599627370496 + F : Nat) : Rat) * Flo.pw ((N : Int) - 1075) = (m : Rat) * Flo.pw (p + k) := by
    rw [show (N : Int) - 1075 = (E : Int) - 1075 + z + k from by omega, Flo.pw_add _ k, Flo.pw_add p k, ← Rat.mul_assoc, h7, Rat.mul_assoc]
  have o1 : floatBits .mul .f64 4607182418800017408 Z = some Z := by rw [hZ]; exact one_mul_word s N F h1 hN1 hN2 h5
  have o2 : ∀ w, fres w .mul .f64 4607182418800017408 Z = Z := fun w => by unfold fres; rw [o1]
  have o3 : fdr .mul .f64 4607182418800017408 Z = 0 := by unfold fdr; rw [o1]; rfl
  have HH := Lib.hid (And.intro h1 (And.intro h2 (And.intro hN1 (And.intro hN2 (And.intro h5 (And.intro hZ hv))))))
  have c1 := call_bits X
  have c2 := call_frombits
  clear h1 h2 h3 h5 h7 hX hY hZ o1 hv
  go_wp2_with fail
  go_ret
  exact ⟨Z, s, N, F, rfl, HH.out.2.2.2.2.2.1, HH.out.1, HH.out.2.1, HH.out.2.2.1, HH.out.2.2.2.1, HH.out.2.2.2.2.1, HH.out.2.2.2.2.2.2, _, rfl⟩

theorem ldexp_nor (x m : Nat) (sg : Bool) (p k : Int) (hx : x < 18446744073709551616) (h : Ieee.double.read x = .number sg m p) (hm : m ≠ 0) (hk : -100000 ≤ k ∧ k ≤ 100000)
    (r1 : Flo.pw (-1022) ≤ (m : Rat) * Flo.pw (p + k)) (r2 : (m : Rat) * Flo.pw (p + k) < Flo.pw 1024) (w : World) :
    Calls Tryz.prog 112 #[.float .f64 x, .int .i64 k] w (LdP sg m p k w) := by
  have H := Lib.hid (And.intro h (And.intro hm (And.intro r1 r2)))
  clear h hm r1 r2
  go_enter Tryz.func112, Tryz.ntmps112
  go_wp2_with fail
  refine (ldexp_inner x m sg p k hx H.out.1 H.out.2.1 hk H.out.2.2.1 H.out.2.2.2 _).mono ?_
  rintro e w' ⟨Y, s, N, F, rfl, h1⟩
  have HH := Lib.hid h1
  clear h1
  go_wp2_with fail
  go_ret
  exact ⟨Y, s, N, F, rfl, HH.out⟩

/-! ### whole numbers of 64 bits, without a sign -/
theorem trunc_u64 {x : Nat} {iv : Nat} (h : floatToIntVal .f64 x .i64 = some (iv : Int)) : floatToIntVal .f64 x .u64 = some (iv : Int) := by
  unfold floatToIntVal at h ⊢
  cases hd : (FloatKind.f64.decode x).toInt .zero with
  | none => rw [hd] at h; simp at h
  | some n =>
    rw [hd] at h
    simp only at h ⊢
    have hmin : IntKind.i64.min = -9223372036854775808 := by decide
    have hmax : IntKind.i64.max = 9223372036854775807 := by decide
    have umin : IntKind.u64.min = 0 := by decide
    have umax : IntKind.u64.max = 18446744073709551615 := by decide
    rw [hmin, hmax] at h
    rw [umin, umax]
    split at h
    · rename_i hc
      injection h with h
      rw [if_pos (by omega), h]
    · simp at h

/-! ### TrailingZeros64 -/
theorem tz_core (x k idx : Nat) (w : World) (hz : ((x : Int) == 0) = false)
    (key : IntKind.u64.wrap (bits BinOp.and IntKind.u64 (x : Int) (IntKind.u64.wrap (-(x : Int))) * 285870213051353865) / 288230376151711744 = (idx : Int))
    (hi : idx < 64) (hk : k < 64) (hcell : w.cell? ⟨1, idx, none⟩ = some (.int .u8 k)) :
    Calls Tryz.prog 113 #[.int .u64 (x : Int)] w fun e w' => e = .returned (.int .i64 (k : Nat)) ∧ w' = w := by
  go_enter Tryz.func113, Tryz.ntmps113
  go_wp2_with (simp only [key])
  go_ret
  exact ⟨rfl, rfl⟩
theorem tz_ok (x : Nat) (h0 : x ≠ 0) (hx : x < 18446744073709551616) (w : World) (hT : TabAt 1 Lib.deBruijn64tab w) :
    Calls Tryz.prog 113 #[.int .u64 (x : Int)] w fun e w' => e = .returned (.int .i64 (Lib.ctz 64 x : Nat)) ∧ w' = w := by
  obtain ⟨hlow, hk⟩ := Lib.lowest_bit 64 x h0 hx
  obtain ⟨hi, htab⟩ := Lib.deBruijn64_at _ hk
  have hcell := hT _ hi
  rw [htab] at hcell
  exact tz_core x _ _ w (by simp; omega) (tz64_key x _ hx h0 hlow) hi hk hcell

end Go.Proofs.YtnmjkjjmigiabaaGreatDoor

/- math.Ldexp at any number and any exponent: it answers some double.
   Conditions: those that each statement names. -/
namespace Go.Proofs.YtnmjkjjmigiabaaGreatDoor
set_option linter.unusedSimpArgs false
set_option linter.unusedVariables false
open Go Go.RowKit

def SomeD (w : World) (e : Ending) (w' : World) : Prop := ∃ Y n, e = .returned (.float .f64 Y) ∧ Y < 18446744073709551616 ∧ w' = w.drewN n

theorem bits_lt (op : BinOp) (a b : Int) : 0 ≤ bits op .u64 a b ∧ bits op .u64 a b < 18446744073709551616 := by
  unfold bits
  simp only
  rw [IntKind.wrap_u64]
  omega

set_option maxRecDepth 100000 in
theorem copysign_any (x y : Nat) (w : World) : Calls Tryz.prog 117 #[.float .f64 x, .float .f64 y] w (SomeD w) := by
  have c1 := call_bits x
  have c1' := call_bits y
  have c2 := call_frombits
  go_enter Tryz.func117, Tryz.ntmps117
  go_wp2_with fail
  go_ret
  refine ⟨_, 0, rfl, ?_, rfl⟩
  have := bits_lt .or (bits .andNot .u64 (x : Int) 9223372036854775808) (bits .and .u64 (y : Int) 9223372036854775808)
  omega

set_option maxRecDepth 100000 in
theorem inf_any (k : Int) (w : World) : Calls Tryz.prog 199 #[.int .i64 k] w (SomeD w) := by
  have c2 := call_frombits
  go_enter Tryz.func199, Tryz.ntmps199
  go_wp2_with fail
  all_goals
    go_ret
    exact ⟨_, 0, rfl, by decide, rfl⟩

set_option maxHeartbeats 1600000 in
set_option maxRecDepth 100000 in
theorem ldexp_all (x m : Nat) (sg : Bool) (p k : Int) (hx : x < 18446744073709551616) (h : Ieee.double.read x = .number sg m p) (hm : m ≠ 0) (w : World) :
    Calls Tryz.prog 168 #[.float .f64 x, .int .i64 k] w (SomeD w) := by
  have h0 := ne0_num x m sg p h hm
  have hx' : x < 2 ^ 64 := hx
  have hi : (FloatKind.f64.decode x).isInfinity = false := by rw [show FloatKind.f64.decode x = _ from h]; rfl
  have hn : (FloatKind.f64.decode x).isNaN = false := by rw [show FloatKind.f64.decode x = _ from h]; rfl
  have H := Lib.hid (And.intro h hm)
  clear h hm
  go_enter Tryz.func168, Tryz.ntmps168
  go_wp2_with (first
    | (go_at_call 109; refine (isInf_any _ _ hx').mono ?_; rintro e w' ⟨rfl, rfl⟩; rw [hi])
    | (go_at_call 108; refine (isNaN_any _ _).mono ?_; rintro e w' ⟨rfl, rfl⟩; rw [hn]))
  go_at_call 198
  refine (normalize_ok x m sg p hx H.out.1 H.out.2 _).mono ?_
  rintro e w' ⟨X, s, E, F, z, rfl, hX, h1, h2, h3, h4, h5, h6, h7, n, rfl⟩
  have c1 := call_bits X
  have c2 := call_frombits
  clear h1 h2 h3 h5 h7 hX h6 h4
  go_wp2_with (first
    | (go_at_call 117; refine (copysign_any _ _ _).mono ?_; rintro e w2 ⟨Y, n2, rfl, hY, rfl⟩)
    | (go_at_call 199; refine (inf_any _ _).mono ?_; rintro e w2 ⟨Y, n2, rfl, hY, rfl⟩))
  all_goals
    go_ret
    first
      | exact ⟨_, _, rfl, by assumption, by first | rfl | (rw [World.drewN_drewN])⟩
      | exact ⟨_, _, rfl, fres_wf _ _ _ _ _, rfl⟩
end Go.Proofs.YtnmjkjjmigiabaaGreatDoor

/- math.Ldexp where the answer is a double: that double, normal or not.
   Conditions: those that each statement names. -/
namespace Go.Proofs.YtnmjkjjmigiabaaGreatDoor
set_option linter.unusedSimpArgs false
set_option linter.unusedVariables false
open Go Go.RowKit

theorem shrink_exact (s N F n : Nat) (hs : s < 2) (h1 : 1 ≤ N) (h2 : N < 2047) (hF : F < 4503599627370496) (hn : n < 4503599627370496)
    (hv : ((4503599627370496 + F : Nat) : Rat) * Flo.pw ((N : Int) - 1075 - 53) = (n : Rat) * Flo.pw (-1074)) :
    ∃ Y m' p', floatBits .mul .f64 4368491638549381120 (s * 9223372036854775808 + (N * 4503599627370496 + F)) = some Y ∧ Y < 18446744073709551616 ∧ Ieee.double.read Y = .number (s == 1) m' p' ∧ (m' : Rat) * Flo.pw p' = (n : Rat) * Flo.pw (-1074) := by
  have r := read_nor s N F hs h1 h2 hF
  have r1 : Ieee.double.read 4368491638549381120 = .number false 4503599627370496 (-105) := by decide
  obtain ⟨X, hX⟩ : ∃ X : Nat, X = s * 9223372036854775808 + (N * 4503599627370496 + F) := ⟨_, rfl⟩
  rw [← hX] at r ⊢
  have e : floatBits .mul .f64 4368491638549381120 X = some (Ieee.double.write (.number (s == 1) (4503599627370496 * (4503599627370496 + F)) (-105 + ((N : Int) - 1075)))) := by
    show Ieee.double.mul _ X = _
    unfold Ieee.Format.mul
    rw [r, r1]
    cases (s == 1) <;> rfl
  have hw : ((4503599627370496 * (4503599627370496 + F) : Nat) : Rat) * Flo.pw (-105 + ((N : Int) - 1075)) = (n : Rat) * Flo.pw (-1074) := by
    rw [← hv, show (N : Int) - 1075 - 53 = -105 + ((N : Int) - 1075) + (52 : Nat) from by omega, Flo.pw_add (-105 + ((N : Int) - 1075)), Flo.pw_nat]
    have : ((2 ^ 52 : Nat) : Rat) = ((4503599627370496 : Nat) : Rat) := rfl
    rw [this]
    push_cast; grind
  have hn3 : (n : Rat) < 4503599627370496 := by exact_mod_cast hn
  obtain ⟨m', p', w1, w2, w3, w4⟩ := Flo.write_exact Ieee.double (by decide) (s == 1) _ _ n (-1074) hw (by
    have : 2 ^ (Ieee.double.fractionBits + 1) = 9007199254740992 := by decide
    omega) (by rw [Flo.lp_double]; omega) (by
    rw [hw, Flo.top_double]
    have l : Flo.pw (-1074 + (52 : Nat)) < Flo.pw 1023 := Flo.pw_lt (by omega)
    rw [Flo.pw_add, Flo.pw_nat] at l
    have e52 : ((2 ^ 52 : Nat) : Rat) = 4503599627370496 := rfl
    rw [e52] at l
    have := Rat.mul_lt_mul_of_pos_right hn3 (Flo.pw_pos (-1074))
    grind)
  exact ⟨_, m', p', e, Ieee.Format.write_lt _ _, w1, by rw [w4, hw]⟩

/-- the exponent of a subnormal answer -/
theorem exp_low (F m n : Nat) (q p k : Int) (hF : F < 4503599627370496) (h : ((4503599627370496 + F : Nat) : Rat) * Flo.pw q = (m : Rat) * Flo.pw p) (h1 : (m : Rat) * Flo.pw (p + k) = (n : Rat) * Flo.pw (-1074)) (hn0 : n ≠ 0) (hn : n < 4503599627370496) :
    -1074 ≤ q + 52 + k ∧ q + 52 + k ≤ -1023 := by
  have e : ((4503599627370496 + F : Nat) : Rat) * Flo.pw (q + k) = (n : Rat) * Flo.pw (-1074) := by
    rw [← h1, Flo.pw_add q, Flo.pw_add p]; grind
  have f1 : ((4503599627370496 + F : Nat) : Rat) < 9007199254740992 := by exact_mod_cast (show 4503599627370496 + F < 9007199254740992 by omega)
  have f2 : (4503599627370496 : Rat) ≤ ((4503599627370496 + F : Nat) : Rat) := by exact_mod_cast Nat.le_add_right _ F
  have n1 : (1 : Rat) ≤ (n : Rat) := by exact_mod_cast Nat.pos_of_ne_zero hn0
  have n2 : (n : Rat) < 4503599627370496 := by exact_mod_cast hn
  have g1 := Rat.mul_lt_mul_of_pos_right f1 (Flo.pw_pos (q + k))
  have g2 := Rat.mul_le_mul_of_nonneg_right f2 (Rat.le_of_lt (Flo.pw_pos (q + k)))
  have g3 := Rat.mul_le_mul_of_nonneg_right n1 (Rat.le_of_lt (Flo.pw_pos (-1074)))
  have g4 := Rat.mul_lt_mul_of_pos_right n2 (Flo.pw_pos (-1074))
  have p53 : (9007199254740992 : Rat) * Flo.pw (q + k) = Flo.pw (q + k + (53 : Nat)) := by rw [Flo.pw_add (q + k), Flo.pw_nat, show ((2 ^ 53 : Nat) : Rat) = 9007199254740992 from rfl]; grind
  have p52 : (4503599627370496 : Rat) * Flo.pw (q + k) = Flo.pw (q + k + (52 : Nat)) := by rw [Flo.pw_add (q + k), Flo.pw_nat, show ((2 ^ 52 : Nat) : Rat) = 4503599627370496 from rfl]; grind
  have p22 : (4503599627370496 : Rat) * Flo.pw (-1074) = Flo.pw (-1074 + (52 : Nat)) := by rw [Flo.pw_add (-1074), Flo.pw_nat, show ((2 ^ 52 : Nat) : Rat) = 4503599627370496 from rfl]; grind
  rw [p53] at g1
  rw [p52] at g2
  rw [p22] at g4
  rw [e] at g1 g2
  constructor
  · rcases Int.lt_or_le (q + 52 + k) (-1074) with g | g
    · exfalso
      have := Flo.pw_le (show q + k + (53 : Nat) ≤ -1074 by omega)
      grind
    · exact g
  · rcases Int.lt_or_le (-1023) (q + 52 + k) with g | g
    · exfalso
      have := Flo.pw_le (show -1074 + ((52 : Nat) : Int) ≤ q + k + (52 : Nat) by omega)
      grind
    · exact g

set_option maxRecDepth 100000 in
theorem ldexp_sub (x m : Nat) (sg : Bool) (p k : Int) (y my : Nat) (hx : x < 18446744073709551616) (h : Ieee.double.read x = .number sg m p) (hm : m ≠ 0) (hk : -100000 ≤ k ∧ k ≤ 100000)
    (hy : y < 18446744073709551616) (ry : Ieee.double.read y = .number sg my (-1074)) (hmy0 : my ≠ 0) (hmy : my < 4503599627370496) (hv : (m : Rat) * Flo.pw (p + k) = (my : Rat) * Flo.pw (-1074)) (w : World) :
    Calls Tryz.prog 168 #[.float .f64 x, .int .i64 k] w fun e w' => e = .returned (.float .f64 y) ∧ ∃ n, w' = w.drewN n := by
  have h0 := ne0_num x m sg p h hm
  have hx' : x < 2 ^ 64 := hx
  have hi : (FloatKind.f64.decode x).isInfinity = false := by rw [show FloatKind.f64.decode x = _ from h]; rfl
  have hn : (FloatKind.f64.decode x).isNaN = false := by rw [show FloatKind.f64.decode x = _ from h]; rfl
  have H := Lib.hid (And.intro h (And.intro hm (And.intro hv (And.intro hmy0 (And.intro hmy (And.intro hy ry))))))
  clear h hm hv hmy0 hmy hy ry
  go_enter Tryz.func168, Tryz.ntmps168
  go_wp2_with (first
    | (go_at_call 109; refine (isInf_any _ _ hx').mono ?_; rintro e w' ⟨rfl, rfl⟩; rw [hi])
    | (go_at_call 108; refine (isNaN_any _ _).mono ?_; rintro e w' ⟨rfl, rfl⟩; rw [hn]))
  go_at_call 198
  refine (normalize_ok x m sg p hx H.out.1 H.out.2.1 _).mono ?_
  rintro e w' ⟨X, s, E, F, z, rfl, hX, h1, h2, h3, h4, h5, h6, h7, n, rfl⟩
  have ht := exp_low F m my _ p k h5 h7 H.out.2.2.1 H.out.2.2.2.1 H.out.2.2.2.2.1
  obtain ⟨Y, hY⟩ : ∃ Y : Nat, Y = s * 9223372036854775808 + F := ⟨_, rfl⟩
  obtain ⟨t, et⟩ : ∃ t : Int, t = k + z + ((E : Int) - 1023) := ⟨_, rfl⟩
  have et2 : t = (E : Int) - 1075 + z + 52 + k := by omega
  rw [← et2] at ht
  obtain ⟨N, hN⟩ := Int.eq_ofNat_of_zero_le (show 0 ≤ t + 53 + 1023 by omega)
  obtain ⟨Z, hZ⟩ : ∃ Z : Nat, Z = s * 9223372036854775808 + (N * 4503599627370496 + F) := ⟨_, rfl⟩
  have hN1 : 1 ≤ N := by omega
  have hN2 : N < 2047 := by omega
  have a0 : RowKit.wrap64 ((X : Int) / 4503599627370496) = (X : Int) / 4503599627370496 := by unfold RowKit.wrap64; omega
  have a1 : bits .and .i64 ((X : Int) / 4503599627370496) 2047 = (E : Int) := by rw [hX]; exact and_exp_i s E F h1 h4 h5
  have a2 : bits .andNot .u64 (X : Int) 9218868437227405312 = (Y : Int) := by rw [hX, hY]; exact clr_word s E F h1 h4 h5
  have a3 : bits .or .u64 (Y : Int) ((k + z + ((E : Int) - 1023) + 53 + 1023) * 4503599627370496) = (Z : Int) := by rw [← et, hN, hY, hZ]; exact put s F N h1 h5 (by omega)
  have a4 : ((Z : Nat) : Int).toNat = Z := by omega
  have hv : ((4503599627370496 + F : Nat) : Rat) * Flo.pw ((N : Int) - 1075 - 53) = (my : Rat) * Flo.pw (-1074) := by
    rw [← H.out.2.2.1, show (N : Int) - 1075 - 53 = (E : Int) - 1075 + z + k from by omega, Flo.pw_add _ k, Flo.pw_add p k, ← Rat.mul_assoc, h7, Rat.mul_assoc]
  obtain ⟨y', m', p', o1, o4, o5, o6⟩ := shrink_exact s N F my h1 hN1 hN2 h5 H.out.2.2.2.2.1 hv
  rw [← h2] at o5
  obtain rfl : y' = y := Flo.read_inj Ieee.double o5 H.out.2.2.2.2.2.2 o4 H.out.2.2.2.2.2.1 o6
  rw [← hZ] at o1
  have o2 : ∀ w, fres w .mul .f64 4368491638549381120 Z = y' := fun w => by unfold fres; rw [o1]
  have o3 : fdr .mul .f64 4368491638549381120 Z = 0 := by unfold fdr; rw [o1]; rfl
  have c1 := call_bits X
  have c2 := call_frombits
  clear h1 h2 h3 h5 h7 hX hY hZ o1 hv o4 o5 o6
  go_wp2_with fail
  go_ret
  exact ⟨rfl, _, rfl⟩

/-- Ldexp where the answer is the double y -/
theorem ldexp_eq (x m : Nat) (sg : Bool) (p k : Int) (y my : Nat) (py : Int) (hx : x < 18446744073709551616) (h : Ieee.double.read x = .number sg m p) (hm : m ≠ 0) (hk : -100000 ≤ k ∧ k ≤ 100000)
    (hy : y < 18446744073709551616) (ry : Ieee.double.read y = .number sg my py) (hmy0 : my ≠ 0) (hv : (m : Rat) * Flo.pw (p + k) = (my : Rat) * Flo.pw py) (w : World) :
    Calls Tryz.prog 112 #[.float .f64 x, .int .i64 k] w fun e w' => e = .returned (.float .f64 y) ∧ ∃ n, w' = w.drewN n := by
  obtain ⟨s, hs, hsg, hc⟩ := word_cases y my sg py hy ry
  rcases hc with ⟨hx1, hm2, hp⟩ | ⟨E, F, hx1, k1, k2, k3, k4, k5⟩
  · subst hp
    have H := Lib.hid (ldexp_sub x m sg p k y my hx h hm hk hy ry hmy0 hm2 hv w)
    clear h hm hy ry hmy0 hm2 hv hx1 hs hsg
    go_enter Tryz.func112, Tryz.ntmps112
    go_wp2_with fail
    refine H.out.mono ?_
    rintro e w' ⟨rfl, n, rfl⟩
    go_wp2_with fail
    go_ret
    exact ⟨rfl, n, rfl⟩
  · have f1 : ((4503599627370496 + F : Nat) : Rat) < 9007199254740992 := by exact_mod_cast (show 4503599627370496 + F < 9007199254740992 by omega)
    have f2 : (4503599627370496 : Rat) ≤ ((4503599627370496 + F : Nat) : Rat) := by exact_mod_cast Nat.le_add_right _ F
    have g1 := Rat.mul_lt_mul_of_pos_right f1 (Flo.pw_pos ((E : Int) - 1075))
    have g2 := Rat.mul_le_mul_of_nonneg_right f2 (Rat.le_of_lt (Flo.pw_pos ((E : Int) - 1075)))
    have p53 : (9007199254740992 : Rat) * Flo.pw ((E : Int) - 1075) = Flo.pw ((E : Int) - 1075 + (53 : Nat)) := by rw [Flo.pw_add ((E : Int) - 1075), Flo.pw_nat, show ((2 ^ 53 : Nat) : Rat) = 9007199254740992 from rfl]; grind
    have p52 : (4503599627370496 : Rat) * Flo.pw ((E : Int) - 1075) = Flo.pw ((E : Int) - 1075 + (52 : Nat)) := by rw [Flo.pw_add ((E : Int) - 1075), Flo.pw_nat, show ((2 ^ 52 : Nat) : Rat) = 4503599627370496 from rfl]; grind
    have l1 := Flo.pw_le (show -1022 ≤ (E : Int) - 1075 + (52 : Nat) by omega)
    have l2 := Flo.pw_le (show (E : Int) - 1075 + (53 : Nat) ≤ 1024 by omega)
    rw [k4, k5] at hv
    refine (ldexp_nor x m sg p k hx h hm hk (by rw [hv]; grind) (by rw [hv]; grind) w).mono ?_
    rintro e w' ⟨Y, s', N, F', rfl, hY, q1, q2, q3, q4, q5, q6, n, rfl⟩
    have rY := read_nor s' N F' q1 q3 q4 q5
    rw [← hY, ← q2] at rY
    have hYl : Y < 18446744073709551616 := by rw [hY]; omega
    refine ⟨?_, n, rfl⟩
    rw [Flo.read_inj Ieee.double rY ry hYl hy (by rw [q6, hv, k4, k5])]

theorem ldexp_any (x m : Nat) (sg : Bool) (p k : Int) (hx : x < 18446744073709551616) (h : Ieee.double.read x = .number sg m p) (w : World) :
    Calls Tryz.prog 112 #[.float .f64 x, .int .i64 k] w (SomeD w) := by
  by_cases hm : m = 0
  · have e0 : (FloatKind.f64.format.order x 0 == some .eq) = true := by
      have o := Flo.order_num Ieee.double x 0 ⟨_, _, _, h⟩ zero_num.1
      rw [show Flo.V Ieee.double 0 = 0 from zero_num.2, Flo.V_eq h] at o
      have : FloatKind.f64.format.order x 0 = some .eq := o.2.1.2 (by subst hm; unfold Flo.val; cases sg <;> simp)
      rw [this]; rfl
    have hP : Calls Tryz.prog 168 #[.float .f64 x, .int .i64 k] w (SomeD w) := by
      have hP : SomeD w (.returned (.float .f64 x)) w := ⟨x, 0, rfl, hx, rfl⟩
      go_enter Tryz.func168, Tryz.ntmps168
      go_wp2_with fail
      go_ret
      exact hP
    have H := Lib.hid hP
    clear h hm e0 hP
    go_enter Tryz.func112, Tryz.ntmps112
    go_wp2_with fail
    refine H.out.mono ?_
    rintro e w' ⟨Y, n, rfl, hY, rfl⟩
    go_wp2_with fail
    go_ret
    exact ⟨Y, n, rfl, hY, rfl⟩
  · have H := Lib.hid (ldexp_all x m sg p k hx h hm w)
    clear h hm
    go_enter Tryz.func112, Tryz.ntmps112
    go_wp2_with fail
    refine H.out.mono ?_
    rintro e w' ⟨Y, n, rfl, hY, rfl⟩
    go_wp2_with fail
    go_ret
    exact ⟨Y, n, rfl, hY, rfl⟩
end Go.Proofs.YtnmjkjjmigiabaaGreatDoor

/- The model's l1Parts, of any number above 0.
   Conditions: those that each statement names. -/
namespace Go.Proofs.YtnmjkjjmigiabaaGreatDoor
set_option linter.unusedSimpArgs false
set_option linter.unusedVariables false
open Go Go.RowKit

theorem half_exact (m : Nat) (p : Int) (hp : -1073 ≤ p) (hm0 : m ≠ 0) (hm : m < 9007199254740992) (hp2 : p ≤ 971) (y : Nat) (n : Nat) (q : Int) (hy : Ieee.double.read y = .number false n q) (hv : (n : Rat) * Flo.pw q = (m : Rat) * Flo.pw p) :
    ∃ z n' q', floatBits .quo .f64 y 4611686018427387904 = some z ∧ Ieee.double.read z = .number false n' q' ∧ (n' : Rat) * Flo.pw q' = (m : Rat) * Flo.pw (p - 1) := by
  have hD : Flo.Dy p (m : Int) y := ⟨⟨_, _, _, hy⟩, by
    rw [show Flo.W y = _ from Flo.V_eq hy]
    unfold Flo.val
    simp only [Bool.false_eq_true, if_false]
    rw [hv]
    push_cast
    grind⟩
  obtain ⟨z, z1, z2⟩ := Flo.dy_div hD (y := 4611686018427387904) (d := 1) (by decide) (by simpa using hm) (by omega) (by omega)
  obtain ⟨⟨s, n', q', hz⟩, vz⟩ := z2
  have hpos : (0 : Rat) ≤ (m : Rat) * Flo.pw (p - 1) := Flo.mag_nonneg m (p - 1)
  rw [show Flo.W z = _ from Flo.V_eq hz] at vz
  have ec : (((m : Nat) : Int) : Rat) = (m : Rat) := by exact_mod_cast rfl
  rw [ec] at vz
  refine ⟨z, n', q', z1, ?_, ?_⟩
  · cases s with
    | false => exact hz
    | true =>
      exfalso
      have p0 := Flo.pw_pos (p - 1)
      have m1 : (1 : Rat) ≤ (m : Rat) := by exact_mod_cast Nat.pos_of_ne_zero hm0
      have := Rat.mul_le_mul_of_nonneg_right m1 (Rat.le_of_lt p0)
      have := Flo.mag_nonneg n' q'
      unfold Flo.val at vz; simp at vz; grind
  · cases s with
    | false => unfold Flo.val at vz; simp at vz; exact vz
    | true =>
      have := Flo.mag_nonneg n' q'
      unfold Flo.val at vz; simp at vz; grind

def P1I (m : Nat) (p : Int) (w : World) (x e : Value) (wr : World) : Prop :=
  ∃ (j y m' : Nat) (p' : Int), e = .int .i64 (j : Int) ∧ x = .float .f64 y ∧ Ieee.double.read y = .number false m' p' ∧ (m' : Rat) * Flo.pw p' = (m : Rat) * Flo.pw (p - j) ∧ (j : Int) ≤ p ∧ w = wr
theorem ge_53 {y : Nat} (hy : Flo.Nm y) : (FloatKind.f64.format.order y 4845873199050653696 == some .gt || FloatKind.f64.format.order y 4845873199050653696 == some .eq) = decide (Flo.pw 53 ≤ Flo.W y) := by
  have h53 : Ieee.double.read 4845873199050653696 = .number false 4503599627370496 1 := by decide
  have o := Flo.order_num Ieee.double y 4845873199050653696 hy ⟨_, _, _, h53⟩
  have e2 : Flo.V Ieee.double 4845873199050653696 = Flo.pw 53 := by
    rw [Flo.V_eq h53]; unfold Flo.val
    have : Flo.pw 1 = 2 := Flo.pw_one
    rw [this, Flo.p53]
    have : ((4503599627370496 : Nat) : Rat) = 4503599627370496 := rfl
    rw [this]; simp; grind
  rw [e2] at o
  rw [show FloatKind.f64.format = Ieee.double from rfl]
  by_cases h : Flo.pw 53 ≤ Flo.W y
  · rw [decide_eq_true h, Bool.or_eq_true, beq_iff_eq, beq_iff_eq, o.2.2, o.2.1]
    rcases Rat.le_iff_lt_or_eq.1 h with g | g
    · exact .inl g
    · exact .inr g.symm
  · rw [decide_eq_false h]
    have : Ieee.double.order y 4845873199050653696 = some .lt := o.1.2 (by show Flo.W y < _; grind)
    rw [this]; rfl

set_option maxRecDepth 100000 in
set_option maxHeartbeats 1600000 in
theorem l1Parts_big (x m0 : Nat) (p0 : Int) (h : Ieee.double.read x = .number false m0 p0) (hm : m0 ≠ 0) (hB : ¬ (m0 : Rat) * Flo.pw p0 < Flo.pw 53) (w : World) :
    Calls Tryz.prog 190 #[.float .f64 x] w (PartP ((m0 : Rat) * Flo.pw p0) w) := by
  obtain ⟨b1, b2, b3⟩ := Flo.read_bound Ieee.double (by decide) x false m0 p0 h
  have b3' : p0 ≤ 971 := by
    have e1 : (2 ^ Ieee.double.exponentBits : Nat) = 2048 := by decide
    rw [Flo.lp_double, e1] at b3; omega
  have hp0 : 0 < p0 := by
    rcases Int.lt_or_le 0 p0 with g | g
    · exact g
    · exfalso
      have l := Flo.pw_le g
      rw [Flo.pw_zero] at l
      have hm : (m0 : Rat) < 9007199254740992 := by exact_mod_cast b1
      have h0 : (0 : Rat) ≤ (m0 : Rat) := by exact_mod_cast Nat.zero_le m0
      have := Rat.mul_le_mul_of_nonneg_left l h0
      rw [Flo.p53] at hB
      grind
  have H0 := Lib.hid (And.intro h hm)
  have M0 := Lib.hid (show m0 < 9007199254740992 from b1)
  clear h hm b1 b2 b3 hB
  go_enter Tryz.func190, Tryz.ntmps190
  go_wp2_with fail
  go_loopw [0, 4] (fun y e wr => P1I m0 p0 w y e wr) (fun _ e _ => (p0 - intOf e).toNat)
  case atStart => exact ⟨0, x, m0, p0, rfl, rfl, H0.out.1, by simp, by omega, rfl⟩
  case round =>
    obtain ⟨J, y0, m, p, rfl, rfl, hy0, hv0, hj0, rfl⟩ := hrel
    have Hy0 := Lib.hid (And.intro hy0 hv0)
    have ey0 : Flo.W y0 = (m0 : Rat) * Flo.pw (p0 - J) := by rw [show Flo.W y0 = _ from Flo.V_eq hy0]; unfold Flo.val; simp; exact hv0
    have hge := ge_53 (y := y0) ⟨_, _, _, hy0⟩
    have hJ : (J : Int) ≤ 2000 := by omega
    by_cases hbig : Flo.pw 53 ≤ Flo.W y0
    · rw [decide_eq_true hbig] at hge
      have hlt : (J : Int) < p0 := by
        rcases Int.lt_or_le (J : Int) p0 with g | g
        · exact g
        · exfalso
          rw [ey0] at hbig
          have l := Flo.pw_le (show p0 - J ≤ 0 by omega)
          rw [Flo.pw_zero] at l
          have hm : (m0 : Rat) < 9007199254740992 := by exact_mod_cast M0.out
          have h0 : (0 : Rat) ≤ (m0 : Rat) := by exact_mod_cast Nat.zero_le m0
          have := Rat.mul_le_mul_of_nonneg_left l h0
          rw [Flo.p53] at hbig
          grind
      obtain ⟨z, n', q', z1, z2, z3⟩ := half_exact m0 (p0 - J) (by omega) H0.out.2 M0.out (by omega) y0 m p hy0 hv0
      have r1 : ∀ w, fres w .quo .f64 y0 4611686018427387904 = z := fun w => by unfold fres; rw [z1]
      have r2 : fdr .quo .f64 y0 4611686018427387904 = 0 := by unfold fdr; rw [z1]; rfl
      have Z := Lib.hid (And.intro z2 z3)
      clear hy0 hv0 ey0 hbig z1 z2 z3
      go_wp2_with fail
      go_roundw
      case rel => exact ⟨J + 1, z, n', q', by rw [show ((J + 1 : Nat) : Int) = (J : Int) + 1 from by omega], rfl, Z.out.1, by rw [Z.out.2]; congr 2; omega, by omega, rfl⟩
      case measure => simp only [intOf]; omega
    · rw [decide_eq_false hbig] at hge
      have hB : (m : Rat) * Flo.pw p < Flo.pw 53 := by rw [hv0, ← ey0]; grind
      obtain ⟨iv, t1, t2, t3⟩ := Flo.trunc_ok y0 m p hy0 hB
      have hi := Flo.trunc_lt t2 (by grind)
      have ho := order_int (x := y0) (iv := iv) ⟨_, _, _, hy0⟩ hi
      obtain ⟨d, hd⟩ := Int.eq_ofNat_of_zero_le (show 0 ≤ p0 - J by omega)
      have eN : Flo.W y0 = ((m0 * 2 ^ d : Nat) : Rat) := by rw [ey0, hd, Flo.pw_nat]; push_cast; rfl
      have heq : Flo.W y0 = (iv : Rat) := by
        have k := Flo.int_eq (a := iv) (b := m0 * 2 ^ d) (by rw [← eN]; exact t2) (by rw [← eN]; exact t3)
        rw [eN, k]
      have cv := fun w => run_convert_float_int (P := Tryz.prog) w 26 3 .f64 .i64 y0 (iv : Int) (by kernel_rfl) Tryz.underlying3 t1
      rw [decide_eq_true heq] at ho
      have ho2 : (FloatKind.f64.format.order y0 (floatOfInt .f64 (iv : Int)) != some .eq) = false := by unfold bne; rw [ho]; rfl
      have hiv1 : 1 ≤ iv := by
        rcases Nat.eq_zero_or_pos iv with h0 | h0
        · exfalso
          rw [h0, ey0] at heq
          exact H0.out.2 (Flo.mag_zero (by rw [heq]; exact Rat.le_refl))
        · exact h0
      have Hv := Lib.hid (show (iv : Rat) * Flo.pw ((J : Int) + (0 : Nat)) = (m0 : Rat) * Flo.pw p0 from by
        rw [← heq, ey0, Rat.mul_assoc, ← Flo.pw_add]
        congr 2
        omega)
      clear hy0 hv0 ey0 hbig t2 t3 eN heq hB t1 hd
      go_wp2_with fail
      clear hge
      go_loopw [0, 4] (fun y e wr => y = .float .f64 y0 ∧ e = .int .i64 (J : Int) ∧ w = wr) (fun _ _ _ => 0)
      case atStart => exact ⟨rfl, rfl, rfl⟩
      case round =>
        obtain ⟨rfl, rfl, rfl⟩ := hrel
        go_wp2_with fail
        clear ho ho2
        go_loopw [4, 5] (fun e a wr => P3I ((m0 : Rat) * Flo.pw p0) (J : Int) w e a wr) (fun _ a _ => (intOf a).toNat)
        case atStart => exact ⟨0, iv, by simp, rfl, hiv1, by simpa using hi, Hv.out, rfl⟩
        case round =>
          obtain ⟨t, b, rfl, rfl, hb1, hbt, hbv, rfl⟩ := hrel
          have ht := pow_t hb1 hbt
          have Hb := Lib.hid (And.intro hbt hbv)
          have hb53 : b < 9007199254740992 := Nat.lt_of_le_of_lt (Nat.le_mul_of_pos_right b (Nat.two_pow_pos t)) hbt
          clear hbt hbv
          by_cases h2 : b % 2 = 0
          · have hm2 : (b : Int) % 2 = 0 := by omega
            go_wp2_with fail
            go_roundw
            case rel =>
              refine ⟨t + 1, b / 2, by rw [show (J : Int) + ((t + 1 : Nat) : Int) = (J : Int) + (t : Int) + 1 from by omega], by rw [show ((b / 2 : Nat) : Int) = (b : Int) / 2 from by omega], by omega, ?_, ?_, rfl⟩
              · have := Hb.out.1
                rw [Nat.pow_succ, Nat.mul_comm (2 ^ t) 2, ← Nat.mul_assoc, show b / 2 * 2 = b by omega]; exact this
              · rw [← Hb.out.2, show (J : Int) + ((t + 1 : Nat) : Int) = (J : Int) + (t : Int) + 1 from by omega, Flo.pw_succ]
                have e : (b : Rat) = 2 * ((b / 2 : Nat) : Rat) := by
                  have : ((2 * (b / 2) : Nat) : Rat) = (b : Rat) := by rw [show 2 * (b / 2) = b by omega]
                  rw [← this]; push_cast; rfl
                rw [e]; grind
            case measure => simp only [intOf]; omega
          · have hm2 : (b : Int) % 2 = 1 := by omega
            go_wp2_with fail
            go_ret2
            exact ⟨b, _, rfl, by omega, hb53, Hb.out.2, by omega, by omega, rfl⟩
theorem l1Parts_any (x m : Nat) (p : Int) (h : Ieee.double.read x = .number false m p) (hm : m ≠ 0) (w : World) :
    Calls Tryz.prog 190 #[.float .f64 x] w (PartP ((m : Rat) * Flo.pw p) w) := by
  by_cases hB : (m : Rat) * Flo.pw p < Flo.pw 53
  · exact l1Parts_ok x m p h hm hB w
  · exact l1Parts_big x m p h hm hB w

end Go.Proofs.YtnmjkjjmigiabaaGreatDoor

/- Ceiling and release: what the program's isCeiling, isRelease and the model's l7Limits answer, of any numbers.
   Conditions: those that each statement names. -/
namespace Go.Proofs.YtnmjkjjmigiabaaGreatDoor
set_option linter.unusedSimpArgs false
set_option linter.unusedVariables false
open Go Go.RowKit

def ge0 (r : Nat) : Bool := FloatKind.f32.format.order r 0 == some .gt || FloatKind.f32.format.order r 0 == some .eq
def le1 (r : Nat) : Bool := FloatKind.f32.format.order r 1065353216 == some .lt || FloatKind.f32.format.order r 1065353216 == some .eq
def gt0 (c : Nat) : Bool := FloatKind.f32.format.order c 0 == some .gt
def lim (c r : Nat) : Bool := (gt0 c && fin .f32 c) && ((ge0 r && le1 r) && !(r == 2147483648))

/-- a release between 0 and 1 -/
theorem release_case {r : Nat} (hr : r < 2 ^ 32) (h0 : ge0 r = true) (h1 : le1 r = true) :
    r = 0 ∨ r = 2147483648 ∨ (r ≠ 0 ∧ r ≠ 2147483648 ∧ wid r < 2 ^ 63 ∧ ∃ m p, Ieee.double.read (wid r) = .number false m p ∧ m ≠ 0 ∧ (m : Rat) * Flo.pw p < Flo.pw 53) := by
  have hsw : Ieee.single.signWeight = 2147483648 := by decide
  have z0 : Ieee.single.read 0 = .number false 0 (-149) := by decide
  have z1 : Ieee.single.read 2147483648 = .number true 0 (-149) := by decide
  have o1 : Ieee.single.read 1065353216 = .number false 8388608 (-23) := by decide
  cases hd : Ieee.single.read r with
  | nan s f =>
    exfalso
    unfold ge0 FloatKind.format Ieee.Format.order at h0
    simp only [hd, z0, Ieee.Datum.order] at h0
    simp at h0
  | infinity s =>
    exfalso
    cases s with
    | true =>
      unfold ge0 FloatKind.format Ieee.Format.order at h0
      simp only [hd, z0, Ieee.Datum.order] at h0
      simp at h0
    | false =>
      unfold le1 FloatKind.format Ieee.Format.order at h1
      simp only [hd, o1, Ieee.Datum.order] at h1
      simp at h1
  | number s m p =>
    have a0 := Flo.order_num Ieee.single r 0 ⟨_, _, _, hd⟩ ⟨_, _, _, z0⟩
    have a1 := Flo.order_num Ieee.single r 1065353216 ⟨_, _, _, hd⟩ ⟨_, _, _, o1⟩
    rw [Flo.V_eq hd, Flo.V_eq z0, Flo.val_zero] at a0
    have v1 : Flo.V Ieee.single 1065353216 = 1 := by
      rw [Flo.V_eq o1]; unfold Flo.val
      have e := Flo.pw_neg_mul 23
      have e2 : Flo.pw 23 = 8388608 := Flo.pw_nat 23
      rw [e2] at e
      have e3 : ((8388608 : Nat) : Rat) = 8388608 := rfl
      rw [e3]; simp; grind
    rw [Flo.V_eq hd, v1] at a1
    have hv0 : 0 ≤ Flo.val s m p := by
      unfold ge0 at h0
      rw [Bool.or_eq_true, beq_iff_eq, beq_iff_eq] at h0
      rcases h0 with h | h
      · have := a0.2.2.1 h; grind
      · have := a0.2.1.1 h; grind
    have hv1 : Flo.val s m p ≤ 1 := by
      unfold le1 at h1
      rw [Bool.or_eq_true, beq_iff_eq, beq_iff_eq] at h1
      rcases h1 with h | h
      · have := a1.1.1 h; grind
      · have := a1.2.1.1 h; grind
    by_cases hm : m = 0
    · subst hm
      cases s with
      | false => exact .inl (Flo.read_inj Ieee.single hd z0 (by rw [hsw]; omega) (by rw [hsw]; omega) (by simp))
      | true => exact .inr (.inl (Flo.read_inj Ieee.single hd z1 (by rw [hsw]; omega) (by rw [hsw]; omega) (by simp)))
    · right; right
      have hmp : 0 < (m : Rat) * Flo.pw p := Rat.mul_pos (by exact_mod_cast Nat.pos_of_ne_zero hm) (Flo.pw_pos p)
      have hs : s = false := by
        cases s with
        | false => rfl
        | true => exfalso; unfold Flo.val at hv0; simp only [if_true] at hv0; grind
      subst hs
      obtain ⟨m', p', w1, w2⟩ := wid_read hd
      have hm' : m' ≠ 0 := by
        intro e; subst e
        rw [← w2] at hmp; simp at hmp
      refine ⟨?_, ?_, ?_, m', p', w1, hm', ?_⟩
      · intro e; subst e
        rw [z0] at hd; injection hd with _ e2 _; exact hm e2.symm
      · intro e; subst e
        rw [z1] at hd; injection hd with e2 _ _; cases e2
      · obtain ⟨g1, -⟩ := Flo.read_rung Ieee.double w1
        have hw := wid_lt r
        have hsd : Ieee.double.signWeight = 2 ^ 63 := by decide
        rw [hsd] at g1
        rcases Nat.lt_or_ge (wid r) (2 ^ 63) with g | g
        · exact g
        · exfalso
          have e : wid r / 2 ^ 63 = 1 := by omega
          rw [e] at g1
          cases g1
      · rw [w2]
        have : (m : Rat) * Flo.pw p ≤ 1 := by unfold Flo.val at hv1; simpa using hv1
        rw [Flo.p53]; grind

theorem wid_zero : wid 0 = 0 := by decide
theorem wid_minus : wid 2147483648 = 9223372036854775808 := by decide
theorem text_minus (xs : List Int) (d : Int) (rest : List Int) (h : xs = d :: rest) (h1 : 48 ≤ d) (h2 : d ≤ 57) : strOfNums xs ≠ (⟨#[45, 48]⟩ : ByteArray) := by
  subst h
  intro e
  have e1 := congrArg (fun b : ByteArray => b.data.toList.head?) e
  simp [strOfNums] at e1
  have e2 := congrArg UInt8.toNat e1
  simp at e2
  omega

/-- FormatSingle of a release between 0 and 1: '-0' for that alone -/
theorem specSingle_ok (r : Nat) (hr : r < 2 ^ 32) (h0 : ge0 r = true) (h1 : le1 r = true) (w : World) :
    Calls Tryz.prog 76 #[.float .f32 r] w fun e w' => (∃ s : ByteArray, e = .returned (.string s) ∧ ((r = 2147483648 ∧ s = ⟨#[45, 48]⟩) ∨ (r ≠ 2147483648 ∧ s ≠ ⟨#[45, 48]⟩))) ∧ Nw w w' := by
  rcases release_case hr h0 h1 with rfl | rfl | ⟨n0, n1, hlt, m, p, hd, hm, hB⟩
  · have a1 : ∀ w, fcv w .f32 0 .f64 = 0 := fun w => by rw [fcv_wide (by decide)]; exact wid_zero
    have a2 : fcd .f32 0 .f64 = 0 := fcd_wide (by decide)
    go_enter Tryz.func76, Tryz.ntmps76
    go_wp2_with fail
    refine (specFormat_zero _).mono ?_
    rintro e w1 ⟨rfl, n1⟩
    have N1 := Lib.hid n1
    clear n1
    go_wp2_with fail
    go_ret
    exact ⟨⟨_, rfl, .inr ⟨by decide, by decide⟩⟩, N1.out⟩
  · have a1 : ∀ w, fcv w .f32 2147483648 .f64 = 9223372036854775808 := fun w => by rw [fcv_wide (by decide)]; exact wid_minus
    have a2 : fcd .f32 2147483648 .f64 = 0 := fcd_wide (by decide)
    go_enter Tryz.func76, Tryz.ntmps76
    go_wp2_with fail
    refine (specFormat_minus _).mono ?_
    rintro e w1 ⟨rfl, n1⟩
    have N1 := Lib.hid n1
    clear n1
    go_wp2_with fail
    go_ret
    exact ⟨⟨_, rfl, .inl ⟨by first | rfl | trivial, rfl⟩⟩, N1.out⟩
  · have hn : nan32 r = false := by
      cases hx : nan32 r with
      | false => rfl
      | true =>
        exfalso
        unfold ge0 at h0
        unfold nan32 at hx
        unfold Ieee.Format.order at h0
        unfold FloatKind.decode at hx
        cases hq : FloatKind.f32.format.read r <;> rw [hq] at hx <;> simp [Ieee.Datum.isNaN] at hx
        simp [hq, Ieee.Datum.order] at h0
    have a1 := fcv_wide hn
    have a2 := fcd_wide hn
    go_enter Tryz.func76, Tryz.ntmps76
    go_wp2_with fail
    refine (specFormat_pos (wid r) m p hd hm hB _).mono ?_
    rintro e w1 ⟨a, q, -, -, -, -, -, rfl, g1⟩
    have N1 := Lib.hid g1
    clear g1
    obtain ⟨d, rest, he, d1, d2⟩ := dgs_head a
    have hs : strOfNums (dgs a ++ 112 :: numL q) ≠ (⟨#[45, 48]⟩ : ByteArray) := text_minus _ d (rest ++ 112 :: numL q) (by rw [he]; rfl) d1 d2
    generalize strOfNums (dgs a ++ 112 :: numL q) = s at *
    go_wp2_with fail
    go_ret
    exact ⟨⟨_, rfl, .inr ⟨n1, hs⟩⟩, N1.out⟩

theorem gt0_nan {c : Nat} (h : gt0 c = true) : nan32 c = false := by
  cases hx : nan32 c with
  | false => rfl
  | true =>
    exfalso
    unfold gt0 Ieee.Format.order at h
    unfold nan32 FloatKind.decode at hx
    cases hq : FloatKind.f32.format.read c <;> rw [hq] at hx <;> simp [Ieee.Datum.isNaN] at hx
    simp [hq, Ieee.Datum.order] at h

set_option maxRecDepth 100000 in
theorem l7Limits_any (c r : Nat) (hr : r < 2 ^ 32) (w : World) :
    Calls Tryz.prog 151 #[.float .f32 c, .float .f32 r] w fun e w' => e = .returned (.bool (lim c r)) ∧ Nw w w' := by
  cases hc : gt0 c with
  | false =>
    have hl : lim c r = false := by unfold lim; rw [hc]; simp
    have Hl := Lib.hid hl
    have hc' := hc
    unfold gt0 at hc'
    clear hl hc
    go_enter Tryz.func151, Tryz.ntmps151
    go_wp2_with fail
    all_goals
      go_ret
      exact ⟨by rw [Hl.out]; rfl, Nw.refl _⟩
  | true =>
    have a1 := fcv_wide (gt0_nan hc)
    have a2 := fcd_wide (gt0_nan hc)
    have hf : fin .f64 (wid c) = fin .f32 c := by rw [← a1 w]; exact fin_up c w
    have Hf := Lib.hid hf
    have hc' := hc
    unfold gt0 at hc'
    cases hfc : fin .f32 c with
    | false =>
      have hl : lim c r = false := by unfold lim; rw [hfc]; simp
      have Hl := Lib.hid hl
      clear hl hc hf
      go_enter Tryz.func151, Tryz.ntmps151
      go_wp2_with (go_at_call 183; refine (l1Finite_any _ _).mono ?_; rintro e w1 ⟨rfl, n1, rfl⟩; rw [Hf.out, hfc])
      all_goals
        go_ret
        exact ⟨by rw [Hl.out]; rfl, (Nw.refl w).draw _⟩
    | true =>
      cases h0 : ge0 r with
      | false =>
        have hl : lim c r = false := by unfold lim; rw [h0]; simp
        have Hl := Lib.hid hl
        have h0' := h0
        unfold ge0 at h0'
        clear hl hc hf h0
        go_enter Tryz.func151, Tryz.ntmps151
        go_wp2_with (go_at_call 183; refine (l1Finite_any _ _).mono ?_; rintro e w1 ⟨rfl, n1, rfl⟩; rw [Hf.out, hfc])
        all_goals
          go_ret
          exact ⟨by rw [Hl.out]; rfl, (Nw.refl w).draw _⟩
      | true =>
        cases h1 : le1 r with
        | false =>
          have hl : lim c r = false := by unfold lim; rw [h1]; simp
          have Hl := Lib.hid hl
          have h0' := h0
          unfold ge0 at h0'
          have h1' := h1
          unfold le1 at h1'
          clear hl hc hf h0 h1
          go_enter Tryz.func151, Tryz.ntmps151
          go_wp2_with (go_at_call 183; refine (l1Finite_any _ _).mono ?_; rintro e w1 ⟨rfl, n1, rfl⟩; rw [Hf.out, hfc])
          all_goals
            go_ret
            exact ⟨by rw [Hl.out]; rfl, (Nw.refl w).draw _⟩
        | true =>
          have hl : lim c r = !(r == 2147483648) := by unfold lim; rw [hc, hfc, h0, h1]; rfl
          have Hl := Lib.hid hl
          have Hs := Lib.hid (specSingle_ok r hr h0 h1)
          have h0' := h0
          unfold ge0 at h0'
          have h1' := h1
          unfold le1 at h1'
          clear hl hc hf h0 h1
          go_enter Tryz.func151, Tryz.ntmps151
          go_wp2_with (first
            | (go_at_call 183; refine (l1Finite_any _ _).mono ?_; rintro e w1 ⟨rfl, n1, rfl⟩; rw [Hf.out, hfc])
            | (go_at_call 76; refine (Hs.out _).mono ?_; rintro e w2 ⟨⟨s, rfl, hs⟩, g2⟩; have N2 := Lib.hid (((Nw.refl w).draw _).trans g2); have Hs2 := Lib.hid hs; clear hs g2))
          all_goals
            go_ret
            refine ⟨?_, N2.out⟩
            rw [Hl.out]
            rcases Hs2.out with ⟨e1, e2⟩ | ⟨e1, e2⟩
            · simp [e1, e2]
            · have b1 : (r == 2147483648) = false := by simpa using e1
              have b2 : (s.toList == [45, 48]) = false := by
                cases hq : (s.toList == [45, 48]) with
                | false => rfl
                | true =>
                  exfalso
                  apply e2
                  have h2 : s.toList = [45, 48] := by simpa using hq
                  rw [ByteArray.toList_eq] at h2
                  apply ByteArray.ext
                  exact Array.toList_inj.1 h2
              simp [b1, b2]

/-! ### the program's -/
theorem signbit_any (x : Nat) (hx : x < 2 ^ 64) (w : World) :
    Calls Tryz.prog 48 #[.float .f64 x] w fun e w' => e = .returned (.bool (decide (2 ^ 63 ≤ x))) ∧ w = w' := by
  have h1 := call_bits x
  by_cases h : 2 ^ 63 ≤ x
  · have hw : RowKit.wrap64 (x : Int) < 0 := by unfold RowKit.wrap64; omega
    go_enter Tryz.func48, Tryz.ntmps48
    go_wp2
    all_goals (go_ret; exact ⟨by simp [h, hw], rfl⟩)
  · have hw : ¬ RowKit.wrap64 (x : Int) < 0 := by unfold RowKit.wrap64; omega
    go_enter Tryz.func48, Tryz.ntmps48
    go_wp2
    all_goals (go_ret; exact ⟨by simp [h]; try omega, rfl⟩)
theorem isCeiling_any (c : Nat) (w : World) :
    Calls Tryz.prog 159 #[.float .f32 c] w fun e w' => e = .returned (.bool (gt0 c && fin .f32 c)) ∧ w = w' := by
  cases hc : gt0 c with
  | false =>
    have hc' := hc
    unfold gt0 at hc'
    clear hc
    go_enter Tryz.func159, Tryz.ntmps159
    go_wp2_with fail
    all_goals (go_ret; exact ⟨by simp, rfl⟩)
  | true =>
    have a1 := fcv_wide (gt0_nan hc)
    have a2 := fcd_wide (gt0_nan hc)
    have hf : fin .f64 (wid c) = fin .f32 c := by rw [← a1 w]; exact fin_up c w
    have hc' := hc
    unfold gt0 at hc'
    clear hc
    go_enter Tryz.func159, Tryz.ntmps159
    go_wp2_with (go_at_call 47; refine (isFinitePart_any _ _ (wid_lt c)).mono ?_; rintro e w1 ⟨rfl, rfl⟩; rw [hf])
    all_goals (go_ret; exact ⟨by simp, rfl⟩)
theorem isFactor_any (r : Nat) (w : World) :
    Calls Tryz.prog 196 #[.float .f32 r] w fun e w' => e = .returned (.bool (ge0 r && le1 r)) ∧ w = w' := by
  cases h0 : ge0 r with
  | false =>
    have h0' := h0
    unfold ge0 at h0'
    clear h0
    go_enter Tryz.func196, Tryz.ntmps196
    go_wp2_with fail
    all_goals (go_ret; exact ⟨by simp, rfl⟩)
  | true =>
    have h0' := h0
    unfold ge0 at h0'
    clear h0
    go_enter Tryz.func196, Tryz.ntmps196
    go_wp2_with fail
    all_goals (go_ret; exact ⟨by unfold le1; simp, rfl⟩)
theorem isRelease_any (r : Nat) (hr : r < 2 ^ 32) (w : World) :
    Calls Tryz.prog 160 #[.float .f32 r] w fun e w' => e = .returned (.bool ((ge0 r && le1 r) && !(r == 2147483648))) ∧ w = w' := by
  cases hf : (ge0 r && le1 r) with
  | false =>
    have Hf := Lib.hid hf
    clear hf
    go_enter Tryz.func160, Tryz.ntmps160
    go_wp2_with (go_at_call 196; refine (isFactor_any _ _).mono ?_; rintro e w1 ⟨rfl, rfl⟩; rw [Hf.out])
    all_goals (go_ret; exact ⟨by simp, rfl⟩)
  | true =>
    have h01 : ge0 r = true ∧ le1 r = true := by simpa using hf
    have hsb : nan32 r = false ∧ decide (2 ^ 63 ≤ wid r) = (r == 2147483648) := by
      rcases release_case hr h01.1 h01.2 with rfl | rfl | ⟨n0, n1, hlt, m, p, hd, -⟩
      · exact ⟨by decide, by decide⟩
      · exact ⟨by decide, by decide⟩
      · refine ⟨?_, ?_⟩
        · cases hx : nan32 r with
          | false => rfl
          | true =>
            have hwn := nan_wide hx w
            exfalso
            have h0 := h01.1
            unfold ge0 Ieee.Format.order at h0
            unfold nan32 FloatKind.decode at hx
            cases hq : FloatKind.f32.format.read r <;> rw [hq] at hx <;> simp [Ieee.Datum.isNaN] at hx
            simp [hq, Ieee.Datum.order] at h0
        · rw [decide_eq_false (by omega)]
          simpa using n1
    have a1 := fcv_wide hsb.1
    have a2 := fcd_wide hsb.1
    have Hf := Lib.hid hf
    have Hs := Lib.hid hsb.2
    clear hf h01 hsb
    go_enter Tryz.func160, Tryz.ntmps160
    go_wp2_with (first
      | (go_at_call 196; refine (isFactor_any _ _).mono ?_; rintro e w1 ⟨rfl, rfl⟩; rw [Hf.out])
      | (go_at_call 48; refine (signbit_any _ (wid_lt r) _).mono ?_; rintro e w2 ⟨rfl, rfl⟩; rw [Hs.out]))
    all_goals (go_ret; exact ⟨by simp, rfl⟩)

end Go.Proofs.YtnmjkjjmigiabaaGreatDoor

/- impl.oddPart, and impl.FormatDouble of a number that is not 0.
   Conditions: those that each statement names. -/
namespace Go.Proofs.YtnmjkjjmigiabaaGreatDoor
set_option linter.unusedSimpArgs false
set_option linter.unusedVariables false
open Go Go.RowKit

theorem tabAt_nw {g : Nat} {tab : List Nat} {w w' : World} (h : Nw w w') (hg : g < w.heap.size) (t : TabAt g tab w) : TabAt g tab w' := fun j hj => by
  rw [h.cell (p := ⟨g, j, none⟩) hg]; exact t j hj

theorem odd_split (M : Nat) (h0 : M ≠ 0) (h : M < 18446744073709551616) : ∃ a, a % 2 = 1 ∧ M = 2 ^ Lib.ctz 64 M * a ∧ Lib.ctz 64 M < 64 := by
  unfold Lib.ctz
  rw [if_neg h0]
  obtain ⟨j, hj, hl⟩ := Lib.ctzFrom_spec 64 M (Nat.pos_of_ne_zero h0) h
  exact ⟨2 * j + 1, by omega, hj, hl⟩

def OddP (V : Rat) (w : World) (e : Ending) (w' : World) : Prop :=
  ∃ (a : Nat) (q : Int), e = .returned (.tuple #[.int .u64 (a : Int), .int .i64 q]) ∧ a % 2 = 1 ∧ a < 9007199254740992 ∧ (a : Rat) * Flo.pw q = V ∧ -2000 ≤ q ∧ q ≤ 2000 ∧ ∃ n, w' = w.drewN n

set_option maxRecDepth 100000 in
theorem oddPart_ok (x m : Nat) (p : Int) (hx : x < 18446744073709551616) (h : Ieee.double.read x = .number false m p) (hm : m ≠ 0) (w : World) (hT : TabAt 1 Lib.deBruijn64tab w) :
    Calls Tryz.prog 49 #[.float .f64 x] w (OddP ((m : Rat) * Flo.pw p) w) := by
  have H := Lib.hid (And.intro h hm)
  have T := Lib.hid hT
  clear h hm hT
  go_enter Tryz.func49, Tryz.ntmps49
  go_wp2_with fail
  refine (frexp_ok x m false p hx H.out.1 H.out.2 _).mono ?_
  rintro e w' ⟨X, s, E, F, z, rfl, hX, h1, h2, h3, h4, h5, h6, h7, n, rfl⟩
  obtain rfl : s = 0 := by
    rcases Nat.lt_or_ge s 1 with g | g
    · omega
    · rw [show s = 1 by omega] at h2; simp at h2
  have rX : Ieee.double.read X = .number false (4503599627370496 + F) (-53) := by rw [hX]; exact read_nor 0 1022 F (by omega) (by omega) (by omega) h5
  have hXl : X < 18446744073709551616 := by rw [hX]; omega
  obtain ⟨M, hM⟩ : ∃ M : Nat, M = 4503599627370496 + F := ⟨_, rfl⟩
  rw [← hM] at rX h7
  have hM1 : 4503599627370496 ≤ M := by omega
  have hM2 : M < 9007199254740992 := by omega
  have q1 : (4503599627370496 : Rat) ≤ (M : Rat) := by exact_mod_cast hM1
  have q2 : (M : Rat) < 9007199254740992 := by exact_mod_cast hM2
  have b0 : (M : Rat) * Flo.pw (-53 + 53) = (M : Rat) := by rw [show (-53 : Int) + 53 = 0 from rfl, Flo.pw_zero]; grind
  have b1 : Flo.pw (-1022) ≤ (M : Rat) * Flo.pw (-53 + 53) := by
    rw [b0]
    have := Flo.pw_le (show (-1022 : Int) ≤ 0 by omega)
    rw [Flo.pw_zero] at this
    grind
  have b2 : (M : Rat) * Flo.pw (-53 + 53) < Flo.pw 1024 := by
    rw [b0]
    have := Flo.pw_le (show (53 : Int) ≤ 1024 by omega)
    rw [Flo.p53] at this
    grind
  have HH := Lib.hid (And.intro h3 (And.intro h4 (And.intro h6 h7)))
  have HX := Lib.hid (And.intro rX (And.intro b1 (And.intro b2 b0)))
  clear hX h1 h2 h3 h4 h5 h6 h7 rX b1 b2 hM q1 q2 b0
  go_wp2_with fail
  refine (ldexp_nor X M false (-53) 53 hXl HX.out.1 (by omega) (by omega) HX.out.2.1 HX.out.2.2.1 _).mono ?_
  rintro e w' ⟨Y, s', N, F', rfl, hY, g1, g2, g3, g4, g5, g6, n', rfl⟩
  obtain rfl : s' = 0 := by
    rcases Nat.lt_or_ge s' 1 with g | g
    · omega
    · rw [show s' = 1 by omega] at g2; simp at g2
  have rY : Ieee.double.read Y = .number false (4503599627370496 + F') ((N : Int) - 1075) := by rw [hY]; exact read_nor 0 N F' (by omega) g3 g4 g5
  rw [HX.out.2.2.2] at g6
  have q2 : (M : Rat) < Flo.pw 53 := by rw [Flo.p53]; exact_mod_cast hM2
  obtain ⟨iv, t1, t2, t3⟩ := Flo.trunc_ok Y _ _ rY (by rw [g6]; exact q2)
  have eW : Flo.W Y = (M : Rat) := by
    rw [show Flo.W Y = _ from Flo.V_eq rY]; unfold Flo.val; simp only [Bool.false_eq_true, if_false, Rat.one_mul]; exact g6
  rw [eW] at t2 t3
  obtain rfl := Flo.int_eq t2 t3
  have cv := fun w => run_convert_float_int (P := Tryz.prog) w 26 77 .f64 .u64 Y (iv : Int) (by kernel_rfl) Tryz.underlying77 (trunc_u64 t1)
  obtain ⟨a, ha, hs, hc⟩ := odd_split iv (by omega) (by omega)
  clear t1 t2 t3 eW q2 rY g1 g2 g3 g4 g5 g6 hY
  have hT2 : ∀ n, TabAt 1 Lib.deBruijn64tab (w.drewN n) := fun n j hj => by rw [World.cell?_drewN]; exact T.out j hj
  have tz := fun n => tz_ok iv (by omega) (by omega) (w.drewN n) (hT2 n)
  have hsh : (iv : Int) / 2 ^ ((Lib.ctz 64 iv : Nat) : Int).toNat = (a : Int) := by
    rw [Int.toNat_natCast]
    conv => lhs; lhs; rw [hs]
    push_cast
    exact Int.mul_ediv_cancel_left _ (by have := Nat.two_pow_pos (Lib.ctz 64 iv); exact_mod_cast Nat.ne_of_gt this)
  have hval : (a : Rat) * Flo.pw ((E : Int) - 1075 + z + (Lib.ctz 64 iv : Nat)) = (m : Rat) * Flo.pw p := by
    rw [← HH.out.2.2.2, Flo.pw_add _ ((Lib.ctz 64 iv : Nat) : Int), Flo.pw_nat]
    have : (iv : Rat) = ((2 ^ Lib.ctz 64 iv : Nat) : Rat) * (a : Rat) := by
      have e : ((2 ^ Lib.ctz 64 iv * a : Nat) : Rat) = (iv : Rat) := by rw [← hs]
      rw [← e]; push_cast; rfl
    rw [this]; grind
  have ha53 : a < 9007199254740992 := by
    have := Nat.le_mul_of_pos_left a (Nat.two_pow_pos (Lib.ctz 64 iv))
    omega
  have hE := HH.out.1
  have hE2 := HH.out.2.1
  have hz := HH.out.2.2.1
  have HS := Lib.hid (And.intro ha (And.intro ha53 hval))
  generalize Lib.ctz 64 iv = c at *
  clear hs ha hval hT2 HX HH
  go_wp2_with fail
  refine (tz _).mono ?_
  rintro e w' ⟨rfl, rfl⟩
  clear tz
  go_wp2_with fail
  go_ret2
  exact ⟨a, (E : Int) - 1075 + z + (c : Nat), by rw [show (E : Int) - 1075 + z + (c : Nat) = z + ((E : Int) - 1023 + 1) - 53 + (c : Nat) from by omega, ← hsh, Int.toNat_natCast]; rfl, HS.out.1, HS.out.2.1, HS.out.2.2, by omega, by omega, _, rfl⟩

end Go.Proofs.YtnmjkjjmigiabaaGreatDoor

/- FormatDouble, the program's and the model's, of any number.
   Conditions: those that each statement names. -/
namespace Go.Proofs.YtnmjkjjmigiabaaGreatDoor
set_option linter.unusedSimpArgs false
set_option linter.unusedVariables false
open Go Go.RowKit

def sgn (sg : Bool) : List Int := if sg then [45] else []
/-- the text of a number that is not 0 -/
def FmtT (sg : Bool) (V : Rat) (w : World) (e : Ending) (w' : World) : Prop :=
  ∃ (a : Nat) (q : Int), a % 2 = 1 ∧ a < 9007199254740992 ∧ (a : Rat) * Flo.pw q = V ∧ -2000 ≤ q ∧ q ≤ 2000 ∧ e = .returned (.string (strOfNums (sgn sg ++ (dgs a ++ 112 :: numL q)))) ∧ Nw w w'

theorem add_str (xs ys : List Int) (hx : xs.length ≤ 100) (hy : ys.length ≤ 100) (w : World) : (Op.stringOp .add (strOfNums xs) (strOfNums ys)).run Tryz.prog w = .ok (.string (strOfNums (xs ++ ys))) w := by
  rw [run_string_add _ _ _ (by rw [strOfNums_size]; omega) (by rw [strOfNums_size]; omega), str_app]

theorem tabs_draw {w w' : World} (h : Nw w w') (t : Lib.TabIs Tryz.prog w "internal/strconv.uint64pow10" .u64 Lib.pow10Tab) : Lib.TabIs Tryz.prog w' "internal/strconv.uint64pow10" .u64 Lib.pow10Tab := tab_nw h t

theorem abs_rd (x m : Nat) (sg : Bool) (p : Int) (h : Ieee.double.read x = .number sg m p) : Ieee.double.read (x % signBit) = .number false m p := by
  show FloatKind.f64.decode (x % signBit) = _
  rw [mod_read, show FloatKind.f64.decode x = _ from h]
theorem sign_bit (x m : Nat) (sg : Bool) (p : Int) (hx : x < 18446744073709551616) (h : Ieee.double.read x = .number sg m p) : decide (2 ^ 63 ≤ x) = sg := by
  obtain ⟨s, hs, hsg, hc⟩ := word_cases x m sg p hx h
  rcases Nat.lt_or_ge s 1 with g | g
  · obtain rfl : s = 0 := by omega
    rw [hsg]
    rcases hc with ⟨hx1, hm2, hp⟩ | ⟨E, F, hx1, k1, k2, k3, k4, k5⟩
    · simp; omega
    · simp; omega
  · obtain rfl : s = 1 := by omega
    rw [hsg]
    rcases hc with ⟨hx1, hm2, hp⟩ | ⟨E, F, hx1, k1, k2, k3, k4, k5⟩
    · simp; omega
    · simp; omega

set_option maxRecDepth 100000 in
theorem implFormat_ok (x m : Nat) (sg : Bool) (p : Int) (hx : x < 18446744073709551616) (h : Ieee.double.read x = .number sg m p) (hm : m ≠ 0) (w : World) (hT : TabAt 1 Lib.deBruijn64tab w) (ht : Lib.TabIs Tryz.prog w "internal/strconv.uint64pow10" .u64 Lib.pow10Tab) :
    Calls Tryz.prog 9 #[.float .f64 x] w (FmtT sg ((m : Rat) * Flo.pw p) w) := by
  have hx' : x < 2 ^ 64 := hx
  have hf : fin .f64 x = true := fin_num ⟨_, _, _, h⟩
  have h0 := ne0_num x m sg p h hm
  have hs := sign_bit x m sg p hx h
  have ha := abs_rd x m sg p h
  have hxa : x % signBit < 18446744073709551616 := Nat.lt_of_le_of_lt (Nat.mod_le _ _) hx
  have H := Lib.hid (And.intro ha (And.intro hm hT))
  have T := Lib.hid ht
  clear h hm hT ht ha
  cases sg
  all_goals
    go_enter Tryz.func9, Tryz.ntmps9
    go_wp2_with (first
      | (go_at_call 47; refine (isFinitePart_any _ _ hx').mono ?_; rintro e w' ⟨rfl, rfl⟩; rw [hf])
      | (go_at_call 48; refine (signbit_any _ hx' _).mono ?_; rintro e w' ⟨rfl, rfl⟩; rw [hs])
      | (go_at_call 50; refine (abs_any _ _ hx').mono ?_; rintro e w' ⟨rfl, rfl⟩))
    go_at_call 49
    refine (oddPart_ok _ m p hxa H.out.1 H.out.2.1 _ H.out.2.2).mono ?_
    rintro e w1 ⟨a, q, rfl, g1, g2, g3, g4, g5, n, rfl⟩
    have hau : a < 18446744073709551616 := by omega
    have ha1 : 1 ≤ a := by omega
    have A := Lib.hid (And.intro g1 (And.intro g2 g3))
    have l1 := dgs_len 17 a (by omega)
    have l2 := numL_len q ⟨g4, g5⟩
    have s0 : (⟨#[]⟩ : ByteArray) = strOfNums [] := rfl
    have s1 : (⟨#[45]⟩ : ByteArray) = strOfNums [45] := rfl
    have s2 : (⟨#[112]⟩ : ByteArray) = strOfNums [112] := rfl
    have c1 : ∀ w, (Op.stringOp .add (⟨#[]⟩ : ByteArray) (strOfNums (dgs a))).run Tryz.prog w = .ok (.string (strOfNums (dgs a))) w := fun w => by rw [s0, add_str _ _ (by simp) (by omega)]; rfl
    have c1' : ∀ w, (Op.stringOp .add (⟨#[45]⟩ : ByteArray) (strOfNums (dgs a))).run Tryz.prog w = .ok (.string (strOfNums (45 :: dgs a))) w := fun w => by rw [s1, add_str _ _ (by simp) (by omega)]; rfl
    have c2 : ∀ w, (Op.stringOp .add (strOfNums (dgs a)) (⟨#[112]⟩ : ByteArray)).run Tryz.prog w = .ok (.string (strOfNums (dgs a ++ [112]))) w := fun w => by rw [s2, add_str _ _ (by omega) (by simp)]
    have c2' : ∀ w, (Op.stringOp .add (strOfNums (45 :: dgs a)) (⟨#[112]⟩ : ByteArray)).run Tryz.prog w = .ok (.string (strOfNums (45 :: (dgs a ++ [112])))) w := fun w => by rw [s2, add_str _ _ (by simp; omega) (by simp)]; rfl
    have c3 : ∀ w, (Op.stringOp .add (strOfNums (dgs a ++ [112])) (strOfNums (numL q))).run Tryz.prog w = .ok (.string (strOfNums (dgs a ++ 112 :: numL q))) w := fun w => by rw [add_str _ _ (by simp; omega) (by omega)]; simp
    have c3' : ∀ w, (Op.stringOp .add (strOfNums (45 :: (dgs a ++ [112]))) (strOfNums (numL q))).run Tryz.prog w = .ok (.string (strOfNums (45 :: (dgs a ++ 112 :: numL q)))) w := fun w => by rw [add_str _ _ (by simp; omega) (by omega)]; simp
    clear l1 l2 s0 s1 s2 g1 g2 g3
    go_wp2_with fail
    refine (fmtU_ok a ha1 hau _ (tab_nw ((Nw.refl w).draw _) T.out)).mono ?_
    rintro e w2 ⟨rfl, n2⟩
    have N2 := Lib.hid (((Nw.refl w).draw n).trans n2)
    clear n2
    go_wp2_with fail
    refine (itoa_ok q ⟨g4, g5⟩ _ (tab_nw N2.out T.out)).mono ?_
    rintro e w3 ⟨rfl, n3⟩
    have N3 := Lib.hid (N2.out.trans n3)
    clear n3
    go_wp2_with fail
    go_ret
    exact ⟨a, q, A.out.1, A.out.2.1, A.out.2.2, g4, g5, rfl, N3.out⟩

set_option maxRecDepth 100000 in
theorem specFormat_ok (x m : Nat) (sg : Bool) (p : Int) (hx : x < 18446744073709551616) (h : Ieee.double.read x = .number sg m p) (hm : m ≠ 0) (w : World) :
    Calls Tryz.prog 140 #[.float .f64 x] w (FmtT sg ((m : Rat) * Flo.pw p) w) := by
  have hx' : x < 2 ^ 64 := hx
  have hf : fin .f64 x = true := fin_num ⟨_, _, _, h⟩
  have e1 := ne0_num x m sg p h hm
  have hmp : 0 < (m : Rat) * Flo.pw p := by
    have h1 : (0 : Rat) < (m : Rat) := by exact_mod_cast Nat.pos_of_ne_zero hm
    exact Rat.mul_pos h1 (Flo.pw_pos p)
  have o := Flo.order_num Ieee.double x 0 ⟨_, _, _, h⟩ zero_num.1
  rw [show Flo.V Ieee.double 0 = 0 from zero_num.2] at o
  have hV := Flo.V_eq h
  have e2 : (FloatKind.f64.format.order x 0 == some .lt) = sg := by
    cases sg
    · have : FloatKind.f64.format.order x 0 = some .gt := o.2.2.2 (by rw [hV]; unfold Flo.val; simp; exact hmp)
      rw [this]; rfl
    · have : FloatKind.f64.format.order x 0 = some .lt := o.1.2 (by rw [hV]; unfold Flo.val; simp; grind)
      rw [this]; rfl
  have hl : ∃ m' p', Ieee.double.read (labs x) = .number false m' p' ∧ m' ≠ 0 ∧ (m' : Rat) * Flo.pw p' = (m : Rat) * Flo.pw p := by
    obtain ⟨⟨s', m', p', r⟩, v⟩ := labs_num x hx' ⟨_, _, _, h⟩
    have v1 : ra (Flo.W x) = (m : Rat) * Flo.pw p := by
      rw [show Flo.W x = _ from hV]
      unfold Flo.val ra
      cases sg
      · simp; grind
      · simp; grind
    rw [v1, show Flo.W (labs x) = _ from Flo.V_eq r] at v
    have nn := Flo.mag_nonneg m' p'
    cases s'
    · unfold Flo.val at v
      simp at v
      refine ⟨m', p', r, ?_, v⟩
      rintro rfl
      simp at v
      grind
    · exfalso
      unfold Flo.val at v
      simp at v
      grind
  obtain ⟨m', p', r, hm', hv⟩ := hl
  have H := Lib.hid (And.intro r (And.intro hm' hv))
  clear h hm o hV hmp r hm' hv
  cases sg
  all_goals
    go_enter Tryz.func140, Tryz.ntmps140
    go_wp2_with fail
    refine (l1Finite_any _ _).mono ?_
    rintro e w1 ⟨rfl, n1, rfl⟩
    rw [hf]
    go_wp2_with fail
    refine (l1Abs_any _ _).mono ?_
    rintro e w2 ⟨rfl, rfl⟩
    go_wp2_with fail
    refine (l1Parts_any _ m' p' H.out.1 H.out.2.1 _).mono ?_
    rw [H.out.2.2]
    rintro e w3 ⟨a, q, rfl, ha, ha53, hv, hq1, hq2, rfl⟩
    have A := Lib.hid (And.intro ha (And.intro ha53 hv))
    have l1 := dgs_len 17 a (by omega)
    have l2 := numL_len q ⟨hq1, hq2⟩
    have s0 : (⟨#[]⟩ : ByteArray) = strOfNums [] := rfl
    have s1 : (⟨#[45]⟩ : ByteArray) = strOfNums [45] := rfl
    have s2 : (⟨#[112]⟩ : ByteArray) = strOfNums [112] := rfl
    have c1 : ∀ w, (Op.stringOp .add (⟨#[]⟩ : ByteArray) (strOfNums (dgs a))).run Tryz.prog w = .ok (.string (strOfNums (dgs a))) w := fun w => by rw [s0, add_str _ _ (by simp) (by omega)]; rfl
    have c1' : ∀ w, (Op.stringOp .add (⟨#[45]⟩ : ByteArray) (strOfNums (dgs a))).run Tryz.prog w = .ok (.string (strOfNums (45 :: dgs a))) w := fun w => by rw [s1, add_str _ _ (by simp) (by omega)]; rfl
    have c2 : ∀ w, (Op.stringOp .add (strOfNums (dgs a)) (⟨#[112]⟩ : ByteArray)).run Tryz.prog w = .ok (.string (strOfNums (dgs a ++ [112]))) w := fun w => by rw [s2, add_str _ _ (by omega) (by simp)]
    have c2' : ∀ w, (Op.stringOp .add (strOfNums (45 :: dgs a)) (⟨#[112]⟩ : ByteArray)).run Tryz.prog w = .ok (.string (strOfNums (45 :: (dgs a ++ [112])))) w := fun w => by rw [s2, add_str _ _ (by simp; omega) (by simp)]; rfl
    have c3 : ∀ w, (Op.stringOp .add (strOfNums (dgs a ++ [112])) (strOfNums (numL q))).run Tryz.prog w = .ok (.string (strOfNums (dgs a ++ 112 :: numL q))) w := fun w => by rw [add_str _ _ (by simp; omega) (by omega)]; simp
    have c3' : ∀ w, (Op.stringOp .add (strOfNums (45 :: (dgs a ++ [112]))) (strOfNums (numL q))).run Tryz.prog w = .ok (.string (strOfNums (45 :: (dgs a ++ 112 :: numL q)))) w := fun w => by rw [add_str _ _ (by simp; omega) (by omega)]; simp
    clear ha ha53 hv l1 l2 s0 s1 s2
    go_wp2_with fail
    refine (l1Number_ok a (by have := A.out.2.1; omega) _).mono ?_
    rintro e w4 ⟨rfl, n4⟩
    have N4 := Lib.hid (((Nw.refl w).draw _).trans n4)
    clear n4
    go_wp2_with fail
    refine (l1Num_any q ⟨hq1, hq2⟩ _).mono ?_
    rintro e w5 ⟨rfl, n5⟩
    have N5 := Lib.hid (N4.out.trans n5)
    clear n5
    go_wp2_with fail
    go_ret
    exact ⟨a, q, A.out.1, A.out.2.1, A.out.2.2, hq1, hq2, rfl, N5.out⟩

end Go.Proofs.YtnmjkjjmigiabaaGreatDoor

/- FormatDouble of any double at all; the laws FnExactFormatDouble, FnExactFormatSingle as calls.
   Conditions: those that each statement names. -/
namespace Go.Proofs.YtnmjkjjmigiabaaGreatDoor
set_option linter.unusedSimpArgs false
set_option linter.unusedVariables false
open Go Go.RowKit

def TxtOf (x : Nat) (xs : List Int) : Prop :=
  (fin .f64 x = false ∧ xs = []) ∨ (x = 0 ∧ xs = [48]) ∨ (x = 9223372036854775808 ∧ xs = [45, 48]) ∨
  ∃ (sg : Bool) (m : Nat) (p : Int) (a : Nat) (q : Int), Ieee.double.read x = .number sg m p ∧ m ≠ 0 ∧ a % 2 = 1 ∧ a < 9007199254740992 ∧ (a : Rat) * Flo.pw q = (m : Rat) * Flo.pw p ∧ -2000 ≤ q ∧ q ≤ 2000 ∧ xs = sgn sg ++ (dgs a ++ 112 :: numL q)
def TxtP (x : Nat) (w : World) (e : Ending) (w' : World) : Prop := ∃ xs, e = .returned (.string (strOfNums xs)) ∧ TxtOf x xs ∧ Nw w w'

theorem txt_cases (x : Nat) (hx : x < 18446744073709551616) : fin .f64 x = false ∨ x = 0 ∨ x = 9223372036854775808 ∨ ∃ sg m p, Ieee.double.read x = .number sg m p ∧ m ≠ 0 := by
  cases h : FloatKind.f64.decode x with
  | infinity s => left; unfold fin; rw [h]
  | nan s f => left; unfold fin; rw [h]
  | number sg m p =>
    by_cases hm : m = 0
    · subst hm
      obtain ⟨s, hs, hsg, hc⟩ := word_cases x 0 sg p hx h
      rcases hc with ⟨hx1, hm2, hp⟩ | ⟨E, F, hx1, k1, k2, k3, k4, k5⟩
      · rcases Nat.lt_or_ge s 1 with g | g
        · exact .inr (.inl (by omega))
        · exact .inr (.inr (.inl (by omega)))
      · omega
    · exact .inr (.inr (.inr ⟨sg, m, p, h, hm⟩))

theorem txt_unique {x : Nat} {xs ys : List Int} (h1 : TxtOf x xs) (h2 : TxtOf x ys) : xs = ys := by
  have f0 : fin .f64 0 = true := by decide
  have f1 : fin .f64 9223372036854775808 = true := by decide
  have r0 : Ieee.double.read 0 = .number false 0 (-1074) := by decide
  have r1 : Ieee.double.read 9223372036854775808 = .number true 0 (-1074) := by decide
  rcases h1 with ⟨a1, rfl⟩ | ⟨rfl, rfl⟩ | ⟨rfl, rfl⟩ | ⟨sg, m, p, a, q, b1, b2, b3, b4, b5, b6, b7, rfl⟩
  · rcases h2 with ⟨_, rfl⟩ | ⟨rfl, rfl⟩ | ⟨rfl, rfl⟩ | ⟨sg, m, p, a, q, b1, b2, _⟩
    · rfl
    · rw [f0] at a1; simp at a1
    · rw [f1] at a1; simp at a1
    · rw [fin_num ⟨_, _, _, b1⟩] at a1; simp at a1
  · rcases h2 with ⟨a1, rfl⟩ | ⟨_, rfl⟩ | ⟨h, rfl⟩ | ⟨sg, m, p, a, q, b1, b2, _⟩
    · rw [f0] at a1; simp at a1
    · rfl
    · simp at h
    · rw [r0] at b1; injection b1 with _ e _; exact absurd e.symm b2
  · rcases h2 with ⟨a1, rfl⟩ | ⟨h, rfl⟩ | ⟨_, rfl⟩ | ⟨sg, m, p, a, q, b1, b2, _⟩
    · rw [f1] at a1; simp at a1
    · simp at h
    · rfl
    · rw [r1] at b1; injection b1 with _ e _; exact absurd e.symm b2
  · rcases h2 with ⟨a1, rfl⟩ | ⟨rfl, rfl⟩ | ⟨rfl, rfl⟩ | ⟨sg', m', p', a', q', c1, c2, c3, c4, c5, c6, c7, rfl⟩
    · rw [fin_num ⟨_, _, _, b1⟩] at a1; simp at a1
    · rw [r0] at b1; injection b1 with _ e _; exact absurd e.symm b2
    · rw [r1] at b1; injection b1 with _ e _; exact absurd e.symm b2
    · rw [b1] at c1
      injection c1 with e1 e2 e3
      subst e1 e2 e3
      obtain ⟨rfl, rfl⟩ := odd_unique a a' q q' b3 c3 (by rw [b5, c5])
      rfl

set_option maxRecDepth 100000 in
theorem specText (x : Nat) (hx : x < 18446744073709551616) (w : World) : Calls Tryz.prog 140 #[.float .f64 x] w (TxtP x w) := by
  rcases txt_cases x hx with hf | rfl | rfl | ⟨sg, m, p, h, hm⟩
  · have hP : ∀ n, TxtP x w (.returned (.string ⟨#[]⟩)) (w.drewN n) := fun n => ⟨[], rfl, .inl ⟨hf, rfl⟩, (Nw.refl w).draw n⟩
    go_enter Tryz.func140, Tryz.ntmps140
    go_wp2_with fail
    refine (l1Finite_any _ _).mono ?_
    rintro e w1 ⟨rfl, n1, rfl⟩
    rw [hf]
    go_wp2_with fail
    go_ret
    exact hP _
  · exact (specFormat_zero w).mono fun e w' h => ⟨[48], by rw [h.1]; rfl, .inr (.inl ⟨rfl, rfl⟩), h.2⟩
  · exact (specFormat_minus w).mono fun e w' h => ⟨[45, 48], by rw [h.1]; rfl, .inr (.inr (.inl ⟨rfl, rfl⟩)), h.2⟩
  · refine (specFormat_ok x m sg p hx h hm w).mono ?_
    rintro e w' ⟨a, q, b1, b2, b3, b4, b5, rfl, n⟩
    exact ⟨_, rfl, .inr (.inr (.inr ⟨sg, m, p, a, q, h, hm, b1, b2, b3, b4, b5, rfl⟩)), n⟩

set_option maxRecDepth 100000 in
theorem implText (x : Nat) (hx : x < 18446744073709551616) (w : World) (hT : TabAt 1 Lib.deBruijn64tab w) (ht : Lib.TabIs Tryz.prog w "internal/strconv.uint64pow10" .u64 Lib.pow10Tab) : Calls Tryz.prog 9 #[.float .f64 x] w (TxtP x w) := by
  have hx' : x < 2 ^ 64 := hx
  rcases txt_cases x hx with hf | rfl | rfl | ⟨sg, m, p, h, hm⟩
  · have hP : TxtP x w (.returned (.string ⟨#[]⟩)) w := ⟨[], rfl, .inl ⟨hf, rfl⟩, Nw.refl w⟩
    go_enter Tryz.func9, Tryz.ntmps9
    go_wp2_with (go_at_call 47; refine (isFinitePart_any _ _ hx').mono ?_; rintro e w' ⟨rfl, rfl⟩; rw [hf])
    go_ret
    exact hP
  · have hf : fin .f64 0 = true := by decide
    have h0 : (FloatKind.f64.format.order 0 0 == some .eq) = true := by decide
    have hs : decide (2 ^ 63 ≤ 0) = false := by decide
    have hP : TxtP 0 w (.returned (.string ⟨#[48]⟩)) w := ⟨[48], rfl, .inr (.inl ⟨rfl, rfl⟩), Nw.refl w⟩
    have c1 : ∀ w, (Op.stringOp .add (⟨#[]⟩ : ByteArray) (⟨#[48]⟩ : ByteArray)).run Tryz.prog w = .ok (.string ⟨#[48]⟩) w := fun w => by
      rw [show (⟨#[]⟩ : ByteArray) = strOfNums [] from rfl, show (⟨#[48]⟩ : ByteArray) = strOfNums [48] from rfl, add_str _ _ (by simp) (by simp)]; rfl
    go_enter Tryz.func9, Tryz.ntmps9
    go_wp2_with (first
      | (go_at_call 47; refine (isFinitePart_any _ _ hx').mono ?_; rintro e w' ⟨rfl, rfl⟩; rw [hf])
      | (go_at_call 48; refine (signbit_any _ hx' _).mono ?_; rintro e w' ⟨rfl, rfl⟩; rw [hs]))
    go_ret
    exact hP
  · have hf : fin .f64 9223372036854775808 = true := by decide
    have h0 : (FloatKind.f64.format.order 9223372036854775808 0 == some .eq) = true := by decide
    have hs : decide (2 ^ 63 ≤ 9223372036854775808) = true := by decide
    have hP : TxtP 9223372036854775808 w (.returned (.string ⟨#[45, 48]⟩)) w := ⟨[45, 48], rfl, .inr (.inr (.inl ⟨rfl, rfl⟩)), Nw.refl w⟩
    have c1 : ∀ w, (Op.stringOp .add (⟨#[45]⟩ : ByteArray) (⟨#[48]⟩ : ByteArray)).run Tryz.prog w = .ok (.string ⟨#[45, 48]⟩) w := fun w => by
      rw [show (⟨#[45]⟩ : ByteArray) = strOfNums [45] from rfl, show (⟨#[48]⟩ : ByteArray) = strOfNums [48] from rfl, add_str _ _ (by simp) (by simp)]; rfl
    go_enter Tryz.func9, Tryz.ntmps9
    go_wp2_with (first
      | (go_at_call 47; refine (isFinitePart_any _ _ hx').mono ?_; rintro e w' ⟨rfl, rfl⟩; rw [hf])
      | (go_at_call 48; refine (signbit_any _ hx' _).mono ?_; rintro e w' ⟨rfl, rfl⟩; rw [hs]))
    go_ret
    exact hP
  · refine (implFormat_ok x m sg p hx h hm w hT ht).mono ?_
    rintro e w' ⟨a, q, b1, b2, b3, b4, b5, rfl, n⟩
    exact ⟨_, rfl, .inr (.inr (.inr ⟨sg, m, p, a, q, h, hm, b1, b2, b3, b4, b5, rfl⟩)), n⟩

theorem tabAt_lt {w : World} (hT : TabAt 1 Lib.deBruijn64tab w) : 1 < w.heap.size := by
  have h := hT 0 (by decide)
  rcases Nat.lt_or_ge 1 w.heap.size with g | g
  · exact g
  · exfalso
    unfold World.cell? at h
    rw [Array.getElem?_eq_none g] at h
    simp at h

end Go.Proofs.YtnmjkjjmigiabaaGreatDoor

/- Plain: decimal texts read back; a text cut at its 'p'.
   Conditions: those that each statement names. -/
namespace Go.Proofs.YtnmjkjjmigiabaaGreatDoor
set_option linter.unusedSimpArgs false
set_option linter.unusedVariables false
open Go Go.RowKit

/-- the bytes of a row of numbers -/
def byts (xs : List Int) : List UInt8 := xs.map fun n => UInt8.ofNat n.toNat
theorem byts_str (xs : List Int) : (strOfNums xs).data.toList = byts xs := rfl
def valU (acc : Nat) (l : List UInt8) : Nat := l.foldl (fun a c => a * 10 + (c.toNat - 48)) acc
theorem valU_ge : ∀ (l : List UInt8) (acc : Nat), acc ≤ valU acc l
  | [], acc => Nat.le_refl _
  | c :: l, acc => by
    have := valU_ge l (acc * 10 + (c.toNat - 48))
    show acc ≤ valU (acc * 10 + (c.toNat - 48)) l
    omega
theorem pM_ok : ∀ (l : List UInt8) (acc : Nat), (∀ c ∈ l, 48 ≤ c.toNat ∧ c.toNat ≤ 57) → valU acc l < 1000000000000000000 → Lib.parseUintM (2 ^ 64 - 1) acc l = .ok (valU acc l)
  | [], acc, _, _ => rfl
  | c :: l, acc, hd, hv => by
    have h1 := hd c (List.mem_cons_self)
    have hv' : valU (acc * 10 + (c.toNat - 48)) l < 1000000000000000000 := hv
    have h2 := valU_ge l (acc * 10 + (c.toNat - 48))
    have ih := pM_ok l (acc * 10 + (c.toNat - 48)) (fun d hd' => hd d (List.mem_cons_of_mem _ hd')) hv'
    unfold Lib.parseUintM
    rw [if_pos h1, if_neg (by omega), if_neg (by omega), ih]
    rfl
theorem p10_ok : ∀ (l : List UInt8) (acc : Nat), (∀ c ∈ l, 48 ≤ c.toNat ∧ c.toNat ≤ 57) → valU acc l < 1000000000000000000 → Lib.parseUint10 acc l = .ok (valU acc l)
  | [], acc, _, _ => rfl
  | c :: l, acc, hd, hv => by
    have h1 := hd c (List.mem_cons_self)
    have hv' : valU (acc * 10 + (c.toNat - 48)) l < 1000000000000000000 := hv
    have h2 := valU_ge l (acc * 10 + (c.toNat - 48))
    have ih := p10_ok l (acc * 10 + (c.toNat - 48)) (fun d hd' => hd d (List.mem_cons_of_mem _ hd')) hv'
    unfold Lib.parseUint10
    rw [if_pos h1, if_neg (by omega), if_neg (by omega), ih]
    rfl
theorem byt_dig (d : Int) (h1 : 48 ≤ d) (h2 : d ≤ 57) : ((UInt8.ofNat d.toNat).toNat : Int) = d := by
  rw [UInt8.toNat_ofNat']; omega
theorem dgs_all : ∀ (f n : Nat), n < 10 ^ (f + 1) → ∀ d ∈ dgs n, 48 ≤ d ∧ d ≤ 57
  | f, n, h, d, hd => by
    by_cases h10 : n < 10
    · rw [dgs_small h10] at hd
      simp at hd
      omega
    · rw [dgs_big h10] at hd
      rw [List.mem_append] at hd
      cases f with
      | zero => omega
      | succ f =>
        rcases hd with hd | hd
        · exact dgs_all f (n / 10) (by rw [Nat.pow_succ] at h; omega) d hd
        · simp at hd
          omega
theorem val_dgs : ∀ (f n : Nat), n < 10 ^ (f + 1) → valU 0 (byts (dgs n)) = n
  | f, n, h => by
    by_cases h10 : n < 10
    · rw [dgs_small h10]
      have hd := byt_dig (48 + (n : Int)) (by omega) (by omega)
      show 0 * 10 + ((UInt8.ofNat (48 + (n : Int)).toNat).toNat - 48) = n
      omega
    · rw [dgs_big h10]
      cases f with
      | zero => omega
      | succ f =>
        have ih := val_dgs f (n / 10) (by rw [Nat.pow_succ] at h; omega)
        have hd := byt_dig (48 + ((n % 10 : Nat) : Int)) (by omega) (by omega)
        have e : valU 0 (byts (dgs (n / 10) ++ [48 + ((n % 10 : Nat) : Int)])) = valU 0 (byts (dgs (n / 10))) * 10 + ((UInt8.ofNat (48 + ((n % 10 : Nat) : Int)).toNat).toNat - 48) := by
          unfold byts valU
          rw [List.map_append, List.foldl_append]
          rfl
        rw [e, ih]
        omega
theorem byts_dig (n : Nat) (h : n < 10 ^ 18) : ∀ c ∈ byts (dgs n), 48 ≤ c.toNat ∧ c.toNat ≤ 57 := by
  intro c hc
  unfold byts at hc
  rw [List.mem_map] at hc
  obtain ⟨d, hd, rfl⟩ := hc
  have := dgs_all 17 n h d hd
  have e := byt_dig d this.1 this.2
  show 48 ≤ (UInt8.ofNat d.toNat).toNat ∧ (UInt8.ofNat d.toNat).toNat ≤ 57
  omega
theorem byts_head (n : Nat) (h : n < 10 ^ 18) : ∃ c r, byts (dgs n) = c :: r ∧ 48 ≤ c.toNat ∧ c.toNat ≤ 57 := by
  obtain ⟨d, r, e, h1, h2⟩ := dgs_head n
  refine ⟨_, byts r, by rw [e]; rfl, ?_⟩
  have := byt_dig d h1 h2
  show 48 ≤ (UInt8.ofNat d.toNat).toNat ∧ (UInt8.ofNat d.toNat).toNat ≤ 57
  omega

theorem parseInt_ok (sg : Bool) (a : Nat) (h : a < 10 ^ 17) : Lib.parseIntB 64 (byts (sgn sg ++ dgs a)) = .ok (if sg then -(a : Int) else (a : Int)) := by
  have hv := val_dgs 17 a (by omega)
  have hm := pM_ok (byts (dgs a)) 0 (byts_dig a (by omega)) (by rw [hv]; omega)
  rw [hv] at hm
  obtain ⟨c, r, hc, c1, c2⟩ := byts_head a (by omega)
  have hb : Lib.parseUintB 64 (byts (dgs a)) = .ok a := by
    unfold Lib.parseUintB
    rw [if_neg (by rw [hc]; simp), hm]
  cases sg with
  | false =>
    show Lib.parseIntB 64 (byts (dgs a)) = _
    rw [hc] at hb ⊢
    unfold Lib.parseIntB
    simp only
    rw [if_neg (by omega), hb]
    simp only
    rw [if_neg (by omega), if_neg (by omega), if_neg (by omega)]
    simp
  | true =>
    show Lib.parseIntB 64 (45 :: byts (dgs a)) = _
    unfold Lib.parseIntB
    simp only
    rw [if_pos (by decide), hb]
    simp only
    rw [if_neg (by simp), if_neg (by omega), if_pos (by decide)]
    simp
theorem atoi_ok (q : Int) (h : q.natAbs < 10 ^ 17) : Lib.atoiAll (byts (numL q)) = .ok q := by
  have hv := val_dgs 17 q.natAbs (by omega)
  have hm := p10_ok (byts (dgs q.natAbs)) 0 (byts_dig _ (by omega)) (by rw [hv]; omega)
  rw [hv] at hm
  obtain ⟨c, r, hc, c1, c2⟩ := byts_head q.natAbs (by omega)
  have hb : Lib.parseMag (byts (dgs q.natAbs)) = .ok q.natAbs := by
    unfold Lib.parseMag
    rw [if_neg (by rw [hc]; simp), hm]
  unfold numL
  by_cases hq : q < 0
  · rw [if_pos hq]
    show Lib.atoiAll (45 :: byts (dgs q.natAbs)) = _
    unfold Lib.atoiAll
    simp only
    rw [if_pos (by decide), hb]
    simp only
    rw [if_neg (by simp), if_neg (by omega), if_pos (by decide)]
    congr 1
    omega
  · rw [if_neg hq]
    rw [hc] at hb ⊢
    unfold Lib.atoiAll
    simp only
    rw [if_neg (by omega), hb]
    simp only
    rw [if_neg (by omega), if_neg (by omega), if_neg (by omega)]
    congr 1
    first | done | omega

theorem index_p : ∀ (pre post : List UInt8), (∀ c ∈ pre, c ≠ 112) → Lib.index (pre ++ 112 :: post) [112] = (pre.length : Int)
  | [], post, _ => by
    show Lib.index (112 :: post) [112] = 0
    unfold Lib.index
    simp [List.isPrefixOf]
  | c :: pre, post, h => by
    have hc := h c List.mem_cons_self
    have ih := index_p pre post fun d hd => h d (List.mem_cons_of_mem _ hd)
    show Lib.index (c :: (pre ++ 112 :: post)) [112] = _
    unfold Lib.index
    have e : List.isPrefixOf [112] (c :: (pre ++ 112 :: post)) = false := by
      simp [List.isPrefixOf]
      exact fun h => hc h.symm
    rw [e, ih]
    simp only [Bool.false_eq_true, if_false]
    rw [if_neg (by simp)]
    simp

end Go.Proofs.YtnmjkjjmigiabaaGreatDoor

/- impl.ParseDouble: where the string is the text of a double, that double; else false.
   Conditions: those that each statement names. -/
namespace Go.Proofs.YtnmjkjjmigiabaaGreatDoor
set_option linter.unusedSimpArgs false
set_option linter.unusedVariables false
open Go Go.RowKit

/-- what the library's variables hold -/
def LibW (w : World) : Prop :=
  TabAt 1 Lib.deBruijn64tab w ∧ Lib.TabIs Tryz.prog w "internal/strconv.uint64pow10" .u64 Lib.pow10Tab ∧ (∃ tp p, w.var? Tryz.prog "strconv.ErrSyntax" = some #[.iface tp p]) ∧ (∃ tp p, w.var? Tryz.prog "strconv.ErrRange" = some #[.iface tp p]) ∧ ∃ m, w.cell? ⟨3, 0, none⟩ = some (.int .i64 m)
theorem var_nw {w w' : World} {nm : String} {cs : Array Value} (h : Nw w w') (t : w.var? Tryz.prog nm = some cs) : w'.var? Tryz.prog nm = some cs := by
  unfold World.var? at *
  cases hg : Program.globalNamed Tryz.prog nm with
  | none => simp [hg] at t
  | some g =>
    simp only [hg, Option.bind_some] at t ⊢
    have hlt : g < w.heap.size := by
      rcases Nat.lt_or_ge g w.heap.size with h' | h'
      · exact h'
      · rw [Array.getElem?_eq_none h'] at t; simp at t
    rw [h.block g hlt (by simp)]
    exact t
theorem LibW.nw {w w' : World} (hw : LibW w) (h : Nw w w') : LibW w' := by
  obtain ⟨a, b, ⟨t1, p1, c⟩, ⟨t2, p2, d⟩, m, e⟩ := hw
  exact ⟨tabAt_nw h (tabAt_lt a) a, tab_nw h b, ⟨t1, p1, var_nw h c⟩, ⟨t2, p2, var_nw h d⟩, m, by rw [h.cell (p := ⟨_, 0, none⟩) (cell_lt e).1]; exact e⟩

theorem nw_of_below {w w1 : World} (h : Below w.heap.size w w1) : Nw w w1 := ⟨h.os, h.tape, h.output, h.size, fun k hk _ => h.block k hk⟩
theorem nw_bytes (w : World) (t : TypeId) (s : ByteArray) : Nw w (Lib.bytesWorld w t s) :=
  ⟨rfl, rfl, rfl, by rw [Lib.bytesWorld_size]; omega, fun k hk _ => Lib.bytesWorld_at_old w t s k hk⟩

/-- how a number of a text is read -/
def NumP (r : Lib.NumEnd Int) (w : World) (e : Ending) (w' : World) : Prop :=
  Nw w w' ∧ ((∃ v, r = .ok v ∧ e = .returned (.tuple #[.int .i64 v, .nilIface])) ∨ (∃ v b, (∀ u, r ≠ .ok u) ∧ e = .returned (.tuple #[.int .i64 v, .iface 231 (.pointer (some ⟨b, 0, none⟩))])))
theorem parseInt_any (s : ByteArray) (hs : s.size ≤ 1048576) (w : World) (hL : LibW w) :
    Calls Tryz.prog 119 #[.string s, .int .i64 10, .int .i64 64] w (NumP (Lib.parseIntB 64 s.data.toList) w) := by
  obtain ⟨-, -, ⟨t1, p1, c⟩, ⟨t2, p2, d⟩, -⟩ := hL
  match h : Lib.parseIntB 64 s.data.toList with
  | .ok v =>
    refine (Tryz.strconv_ParseInt_10_at64_ok s (by omega) v h w).mono ?_
    rintro e w' ⟨rfl, hw⟩
    refine ⟨?_, .inl ⟨v, rfl, rfl⟩⟩
    rcases hw with rfl | ⟨t, rfl⟩
    · exact Nw.refl _
    · exact nw_bytes _ _ _
  | Lib.NumEnd.syntax =>
    refine (Tryz.strconv_ParseInt_10_at64_syntax_var s (by omega) h t1 p1 w c).mono ?_
    rintro e w' ⟨N, rfl, -, -, hb⟩
    exact ⟨nw_of_below hb, .inr ⟨_, N, (fun u hu => by cases hu), rfl⟩⟩
  | .range =>
    refine (Tryz.strconv_ParseInt_10_at64_range_var s (by omega) h t2 p2 w d).mono ?_
    rintro e w' ⟨N, rfl, -, -, hb⟩
    exact ⟨nw_of_below hb, .inr ⟨_, N, (fun u hu => by cases hu), rfl⟩⟩
theorem atoi_any (s : ByteArray) (hs : s.size ≤ 1048576) (w : World) (hL : LibW w) :
    Calls Tryz.prog 120 #[.string s] w (NumP (Lib.atoiAll s.data.toList) w) := by
  obtain ⟨-, -, ⟨t1, p1, c⟩, ⟨t2, p2, d⟩, -⟩ := hL
  match h : Lib.atoiAll s.data.toList with
  | .ok v =>
    refine (Tryz.strconv_Atoi_ok s (by omega) v h w).mono ?_
    rintro e w' ⟨rfl, hw⟩
    refine ⟨?_, .inl ⟨v, rfl, rfl⟩⟩
    rcases hw with rfl | ⟨t, rfl⟩
    · exact Nw.refl _
    · exact nw_bytes _ _ _
  | Lib.NumEnd.syntax =>
    refine (Tryz.strconv_Atoi_syntax_var s (by omega) h t1 p1 w c).mono ?_
    rintro e w' ⟨N, rfl, -, -, hb⟩
    exact ⟨nw_of_below hb, .inr ⟨_, N, (fun u hu => by cases hu), rfl⟩⟩
  | .range =>
    refine (Tryz.strconv_Atoi_range_var s (by omega) h t2 p2 w d).mono ?_
    rintro e w' ⟨N, rfl, -, -, hb⟩
    exact ⟨nw_of_below hb, .inr ⟨_, N, (fun u hu => by cases hu), rfl⟩⟩

theorem float_int (v : Int) (h : v.natAbs ≤ 9223372036854775808) : ∃ sg m p, Ieee.double.read (floatOfInt .f64 v) = .number sg m p := by
  have hB : ((v.natAbs : Nat) : Rat) * Flo.pw 0 < Flo.pw (Flo.top Ieee.double) := by
    rw [Flo.top_double, Flo.pw_zero]
    have h1 : ((v.natAbs : Nat) : Rat) ≤ ((9223372036854775808 : Nat) : Rat) := by exact_mod_cast h
    have h2 := Flo.pw_lt (show (63 : Int) < 1023 by omega)
    have h3 : Flo.pw 63 = ((9223372036854775808 : Nat) : Rat) := Flo.pw_nat 63
    grind
  obtain ⟨m', p', k, -⟩ := Flo.nearest_ok Ieee.double (by decide) (decide (v < 0)) v.natAbs 0 hB
  exact ⟨_, m', p', k⟩

/-! ### readDouble -/
def RdP (s : ByteArray) (w : World) (e : Ending) (w' : World) : Prop := ∃ y b, e = .returned (.tuple #[.float .f64 y, .bool b]) ∧ y < 18446744073709551616 ∧ Nw w w' ∧ (b = true → s ≠ ⟨#[]⟩)

theorem cut_le (l : List UInt8) : (Lib.cut l [112]).1.length ≤ l.length ∧ (Lib.cut l [112]).2.1.length ≤ l.length := by
  unfold Lib.cut
  split
  · simp; omega
  · simp

theorem float_int_lt (v : Int) : floatOfInt .f64 v < 18446744073709551616 :=
  (Ieee.Format.write_lt Ieee.double (.number (decide (v < 0)) v.natAbs 0) : Ieee.double.write (.number (decide (v < 0)) v.natAbs 0) < 2 ^ Ieee.double.width)
theorem str_ne {s : ByteArray} {l : List UInt8} (h : s ≠ ⟨l.toArray⟩) : (s.toList == l) = false := by
  cases hq : (s.toList == l) with
  | false => rfl
  | true =>
    exfalso
    apply h
    have h2 : s.toList = l := by simpa using hq
    rw [ByteArray.toList_eq] at h2
    apply ByteArray.ext
    exact Array.toList_inj.1 h2

set_option maxRecDepth 100000 in
theorem readDouble_any (s : ByteArray) (hs : s.size ≤ 1048576) (h1 : s ≠ ⟨#[48]⟩) (h2 : s ≠ ⟨#[45, 48]⟩) (w : World) (hL : LibW w) :
    Calls Tryz.prog 53 #[.string s] w (RdP s w) := by
  have g1 : (s.toList == [48]) = false := str_ne h1
  have g2 : (s.toList == [45, 48]) = false := str_ne h2
  obtain ⟨m0, hm0⟩ := hL.2.2.2.2
  have L := Lib.hid hL
  obtain ⟨pre, hpre⟩ : ∃ pre, pre = (Lib.cut s.data.toList [112]).1 := ⟨_, rfl⟩
  obtain ⟨post, hpost⟩ : ∃ post, post = (Lib.cut s.data.toList [112]).2.1 := ⟨_, rfl⟩
  have lp : (⟨pre.toArray⟩ : ByteArray).size ≤ 1048576 := by
    have := (cut_le s.data.toList).1
    rw [← hpre] at this
    have e : s.data.toList.length = s.size := Array.length_toList
    show pre.toArray.size ≤ _
    rw [List.size_toArray]; omega
  have lq : (⟨post.toArray⟩ : ByteArray).size ≤ 1048576 := by
    have := (cut_le s.data.toList).2
    rw [← hpost] at this
    have e : s.data.toList.length = s.size := Array.length_toList
    show post.toArray.size ≤ _
    rw [List.size_toArray]; omega
  have hcut := Tryz.strings_Cut s ⟨#[112]⟩ m0 w (by omega) hm0
  have hc : Lib.cut s.data.toList (⟨#[112]⟩ : ByteArray).data.toList = (pre, post, (Lib.cut s.data.toList [112]).2.2) := by rw [hpre, hpost]
  rw [hc] at hcut
  generalize (Lib.cut s.data.toList [112]).2.2 = fd at hcut
  have C := Lib.hid hcut
  have P := Lib.hid hpre
  clear h1 h2 hL hm0 hpre hpost hcut hc
  go_enter Tryz.func53, Tryz.ntmps53
  go_wp2_with fail
  refine C.out.mono ?_
  rintro e w1 ⟨rfl, n1, rfl⟩
  go_wp2_with fail
  refine (parseInt_any _ lp _ (L.out.nw ((Nw.refl w).draw n1))).mono ?_
  rintro e w2 ⟨nw2, ⟨v, hr, rfl⟩ | ⟨v, b, hr, rfl⟩⟩
  · have N2 := Lib.hid (((Nw.refl w).draw n1).trans nw2)
    have hv : v.natAbs ≤ 9223372036854775808 := by
      unfold Lib.parseIntB at hr
      cases hp : (⟨pre.toArray⟩ : ByteArray).data.toList with
      | nil => rw [hp] at hr; cases hr
      | cons c r =>
        rw [hp] at hr
        simp only at hr
        generalize Lib.parseUintB 64 (if c.toNat = 43 ∨ c.toNat = 45 then r else c :: r) = u at hr
        match u, hr with
        | Lib.NumEnd.syntax, hr => cases hr
        | .range, hr => cases hr
        | .ok u, hr =>
          simp only at hr
          split at hr
          · cases hr
          · split at hr
            · cases hr
            · injection hr with hr
              split at hr <;> omega
    obtain ⟨sg, m, p, rf⟩ := float_int v hv
    have RF := Lib.hid rf
    have ne : s ≠ ⟨#[]⟩ := by
      rintro rfl
      have e := P.out
      have e2 : pre = [] := e
      rw [e2] at hr
      cases hr
    have NE := Lib.hid ne
    clear hr nw2 hv rf ne
    go_wp2_with fail
    refine (atoi_any _ lq _ (L.out.nw N2.out)).mono ?_
    rintro e w3 ⟨nw3, ⟨k, hr, rfl⟩ | ⟨k, b, hr, rfl⟩⟩
    · have N3 := Lib.hid (N2.out.trans nw3)
      clear hr nw3
      go_wp2_with fail
      refine (ldexp_any _ m sg p k (float_int_lt v) RF.out _).mono ?_
      rintro e w4 ⟨Y, n4, rfl, hY, rfl⟩
      have N4 := Lib.hid (N3.out.draw n4)
      go_wp2_with fail
      go_ret2
      exact ⟨Y, true, rfl, hY, N4.out, fun _ => NE.out⟩
    · have N3 := Lib.hid (N2.out.trans nw3)
      clear hr nw3
      go_wp2_with fail
      go_ret2
      exact ⟨0, false, rfl, by decide, N3.out, fun h => by cases h⟩
  · have N2 := Lib.hid (((Nw.refl w).draw n1).trans nw2)
    clear hr nw2
    go_wp2_with fail
    go_ret2
    exact ⟨0, false, rfl, by decide, N2.out, fun h => by cases h⟩

theorem pre_no_p (sg : Bool) (a : Nat) (h : a < 10 ^ 18) : ∀ c ∈ byts (sgn sg ++ dgs a), c ≠ 112 := by
  intro c hc
  have e : byts (sgn sg ++ dgs a) = byts (sgn sg) ++ byts (dgs a) := by unfold byts; rw [List.map_append]
  rw [e, List.mem_append] at hc
  rcases hc with hc | hc
  · cases sg
    · simp [sgn, byts] at hc
    · simp [sgn, byts] at hc
      subst hc
      decide
  · have := byts_dig a h c hc
    rintro rfl
    revert this
    decide
theorem cut_text (sg : Bool) (a : Nat) (q : Int) (h : a < 10 ^ 18) : Lib.cut (byts (sgn sg ++ (dgs a ++ 112 :: numL q))) [112] = (byts (sgn sg ++ dgs a), byts (numL q), true) := by
  have e : byts (sgn sg ++ (dgs a ++ 112 :: numL q)) = byts (sgn sg ++ dgs a) ++ 112 :: byts (numL q) := by
    unfold byts
    rw [← List.append_assoc, List.map_append]
    rfl
  rw [e]
  have i := index_p (byts (sgn sg ++ dgs a)) (byts (numL q)) (pre_no_p sg a h)
  unfold Lib.cut
  rw [i, if_pos (by omega)]
  simp

theorem float_exact (v : Int) (h : v.natAbs < 9007199254740992) : ∃ m p, Ieee.double.read (floatOfInt .f64 v) = .number (decide (v < 0)) m p ∧ (m : Rat) * Flo.pw p = ((v.natAbs : Nat) : Rat) := by
  obtain ⟨m', p', w1, -, -, w4⟩ := Flo.write_exact Ieee.double (by decide) (decide (v < 0)) v.natAbs 0 v.natAbs 0 rfl (by
    have : 2 ^ (Ieee.double.fractionBits + 1) = 9007199254740992 := by decide
    omega) (by decide) (by
    rw [Flo.top_double, Flo.pw_zero]
    have h1 : ((v.natAbs : Nat) : Rat) < ((9007199254740992 : Nat) : Rat) := by exact_mod_cast h
    have h2 := Flo.pw_lt (show (53 : Int) < 1023 by omega)
    have h3 : Flo.pw 53 = ((9007199254740992 : Nat) : Rat) := Flo.pw_nat 53
    grind)
  exact ⟨m', p', w1, by rw [w4, Flo.pw_zero]; grind⟩

theorem text_len (sg : Bool) (a : Nat) (q : Int) (ha : a < 10 ^ 17) (hq : -2000 ≤ q ∧ q ≤ 2000) : 3 ≤ (sgn sg ++ (dgs a ++ 112 :: numL q)).length ∧ (sgn sg ++ (dgs a ++ 112 :: numL q)).length ≤ 60 := by
  have l1 := dgs_len 17 a (by omega)
  have l2 := numL_len q hq
  obtain ⟨d, r, e, -, -⟩ := dgs_head a
  have l3 : 1 ≤ (dgs a).length := by rw [e]; simp
  have l4 : 1 ≤ (numL q).length := by
    obtain ⟨d, r, e, -, -⟩ := dgs_head q.natAbs
    unfold numL
    split
    · simp
    · rw [e]; simp
  have l5 : (sgn sg).length ≤ 1 := by cases sg <;> simp [sgn]
  simp only [List.length_append, List.length_cons]
  omega

set_option maxRecDepth 100000 in
theorem readDouble_ok (sg : Bool) (a : Nat) (q : Int) (ha : a % 2 = 1) (ha53 : a < 9007199254740992) (hq : -2000 ≤ q ∧ q ≤ 2000) (y my : Nat) (py : Int) (hy : y < 18446744073709551616) (ry : Ieee.double.read y = .number sg my py) (hmy : my ≠ 0) (hv : (a : Rat) * Flo.pw q = (my : Rat) * Flo.pw py) (w : World) (hL : LibW w) :
    Calls Tryz.prog 53 #[.string (strOfNums (sgn sg ++ (dgs a ++ 112 :: numL q)))] w fun e w' => e = .returned (.tuple #[.float .f64 y, .bool true]) ∧ Nw w w' := by
  have tl := text_len sg a q (by omega) hq
  have sz : (strOfNums (sgn sg ++ (dgs a ++ 112 :: numL q))).size = (sgn sg ++ (dgs a ++ 112 :: numL q)).length := strOfNums_size _
  have g1 : ((strOfNums (sgn sg ++ (dgs a ++ 112 :: numL q))).toList == [48]) = false := str_ne (by
    intro h; rw [h] at sz; have : (⟨#[48]⟩ : ByteArray).size = 1 := rfl; rw [show ([48] : List UInt8).toArray = #[48] from rfl] at sz; omega)
  have g2 : ((strOfNums (sgn sg ++ (dgs a ++ 112 :: numL q))).toList == [45, 48]) = false := str_ne (by
    intro h; rw [h] at sz; have : (⟨#[45, 48]⟩ : ByteArray).size = 2 := rfl; rw [show ([45, 48] : List UInt8).toArray = #[45, 48] from rfl] at sz; omega)
  obtain ⟨m0, hm0⟩ := hL.2.2.2.2
  have L := Lib.hid hL
  have hcut := Tryz.strings_Cut (strOfNums (sgn sg ++ (dgs a ++ 112 :: numL q))) ⟨#[112]⟩ m0 w (by omega) hm0
  have hc : Lib.cut (strOfNums (sgn sg ++ (dgs a ++ 112 :: numL q))).data.toList (⟨#[112]⟩ : ByteArray).data.toList = (byts (sgn sg ++ dgs a), byts (numL q), true) := cut_text sg a q (by omega)
  rw [hc] at hcut
  have C := Lib.hid hcut
  have hp := parseInt_ok sg a (by omega)
  have hk := atoi_ok q (by omega)
  obtain ⟨v, hv0⟩ : ∃ v : Int, v = if sg then -(a : Int) else (a : Int) := ⟨_, rfl⟩
  rw [← hv0] at hp
  have vn : v.natAbs = a := by rw [hv0]; cases sg <;> simp
  have vs : decide (v < 0) = sg := by rw [hv0]; cases sg <;> simp <;> omega
  obtain ⟨m, p, rf, vf⟩ := float_exact v (by omega)
  rw [vs] at rf
  rw [vn] at vf
  have hm : m ≠ 0 := by
    rintro rfl
    have : ((1 : Nat) : Rat) ≤ (a : Rat) := by exact_mod_cast (show 1 ≤ a by omega)
    simp at vf
    grind
  have hval : (m : Rat) * Flo.pw (p + q) = (my : Rat) * Flo.pw py := by rw [Flo.pw_add, ← Rat.mul_assoc, vf, hv]
  have sp : (⟨(byts (sgn sg ++ dgs a)).toArray⟩ : ByteArray).size ≤ 1048576 := by
    show (byts (sgn sg ++ dgs a)).toArray.size ≤ _
    rw [List.size_toArray]
    unfold byts
    simp only [List.length_map, List.length_append, List.length_cons] at tl ⊢
    omega
  have sq : (⟨(byts (numL q)).toArray⟩ : ByteArray).size ≤ 1048576 := by
    show (byts (numL q)).toArray.size ≤ _
    rw [List.size_toArray]
    unfold byts
    simp only [List.length_map, List.length_append, List.length_cons] at tl ⊢
    omega
  have LD := Lib.hid (fun w => ldexp_eq _ m sg p q y my py (float_int_lt v) rf hm (by omega) hy ry hmy hval w)
  have P := Lib.hid (And.intro hp hk)
  clear hL hm0 hcut hc hp hk hv0 vn vs rf vf hm hval hy ry hmy hv tl sz
  generalize strOfNums (sgn sg ++ (dgs a ++ 112 :: numL q)) = S at *
  go_enter Tryz.func53, Tryz.ntmps53
  go_wp2_with fail
  refine C.out.mono ?_
  rintro e w1 ⟨rfl, n1, rfl⟩
  go_wp2_with fail
  refine (parseInt_any _ sp _ (L.out.nw ((Nw.refl w).draw n1))).mono ?_
  rintro e w2 ⟨nw2, ⟨v', hr, rfl⟩ | ⟨v', b, hr, rfl⟩⟩
  · have e1 : Lib.parseIntB 64 (byts (sgn sg ++ dgs a)) = .ok v' := hr
    rw [P.out.1] at e1
    injection e1 with e1
    subst e1
    have N2 := Lib.hid (((Nw.refl w).draw n1).trans nw2)
    clear hr nw2
    go_wp2_with fail
    refine (atoi_any _ sq _ (L.out.nw N2.out)).mono ?_
    rintro e w3 ⟨nw3, ⟨k, hr, rfl⟩ | ⟨k, b, hr, rfl⟩⟩
    · have e2 : Lib.atoiAll (byts (numL q)) = .ok k := hr
      rw [P.out.2] at e2
      injection e2 with e2
      subst e2
      have N3 := Lib.hid (N2.out.trans nw3)
      clear hr nw3
      go_wp2_with fail
      refine (LD.out _).mono ?_
      rintro e w4 ⟨rfl, n4, rfl⟩
      have N4 := Lib.hid (N3.out.draw n4)
      go_wp2_with fail
      go_ret2
      exact ⟨rfl, N4.out⟩
    · exact absurd P.out.2 (hr _)
  · exact absurd P.out.1 (hr _)

end Go.Proofs.YtnmjkjjmigiabaaGreatDoor

/- impl.ParseDouble: where the string is the text of a finite double, that double and true; else 0 and false.
   Conditions: those that each statement names. -/
namespace Go.Proofs.YtnmjkjjmigiabaaGreatDoor
set_option linter.unusedSimpArgs false
set_option linter.unusedVariables false
open Go Go.RowKit

/-- s is the text of the finite double y -/
def IsTxt (s : ByteArray) (y : Nat) : Prop := y < 18446744073709551616 ∧ fin .f64 y = true ∧ ∃ xs, TxtOf y xs ∧ s = strOfNums xs

theorem txt_str {y : Nat} {xs : List Int} (h : TxtOf y xs) : xs.length ≤ 60 := by
  rcases h with ⟨_, rfl⟩ | ⟨_, rfl⟩ | ⟨_, rfl⟩ | ⟨sg, m, p, a, q, b1, b2, b3, b4, b5, b6, b7, rfl⟩
  · simp
  · simp
  · simp
  · exact (text_len sg a q (by omega) ⟨b6, b7⟩).2

theorem neg_zero (w : World) : Calls Tryz.prog 117 #[.float .f64 0, .float .f64 13830554455654793216] w fun e w' => e = .returned (.float .f64 9223372036854775808) ∧ w' = w := by
  have c1 := call_bits 0
  have c1' := call_bits 13830554455654793216
  have c2 := call_frombits
  have e : bits .or .u64 (bits .andNot .u64 0 9223372036854775808) (bits .and .u64 13830554455654793216 9223372036854775808) = 9223372036854775808 := by decide
  have e0 : ((0 : Nat) : Int) = 0 := rfl
  go_enter Tryz.func117, Tryz.ntmps117
  go_wp2_with fail
  go_ret
  exact ⟨by first | rfl | (rw [e]; rfl), rfl⟩

theorem read_zero (s : ByteArray) (y : Nat) (hs : (y = 0 ∧ s = ⟨#[48]⟩) ∨ (y = 9223372036854775808 ∧ s = ⟨#[45, 48]⟩)) (w : World) :
    Calls Tryz.prog 53 #[.string s] w fun e w' => e = .returned (.tuple #[.float .f64 y, .bool true]) ∧ Nw w w' := by
  rcases hs with ⟨rfl, rfl⟩ | ⟨rfl, rfl⟩
  · have g1 : ((⟨#[48]⟩ : ByteArray).toList == [48]) = true := by rw [ByteArray.toList_eq]; rfl
    go_enter Tryz.func53, Tryz.ntmps53
    go_wp2_with fail
    go_ret2
    exact ⟨rfl, Nw.refl _⟩
  · have g1 : ((⟨#[45, 48]⟩ : ByteArray).toList == [48]) = false := by rw [ByteArray.toList_eq]; rfl
    have g2 : ((⟨#[45, 48]⟩ : ByteArray).toList == [45, 48]) = true := by rw [ByteArray.toList_eq]; rfl
    go_enter Tryz.func53, Tryz.ntmps53
    go_wp2_with fail
    refine (neg_zero _).mono ?_
    rintro e w1 ⟨rfl, rfl⟩
    go_wp2_with fail
    go_ret2
    exact ⟨rfl, Nw.refl _⟩

theorem read_text (s : ByteArray) (y : Nat) (h : IsTxt s y) (w : World) (hL : LibW w) :
    Calls Tryz.prog 53 #[.string s] w fun e w' => e = .returned (.tuple #[.float .f64 y, .bool true]) ∧ Nw w w' := by
  obtain ⟨hy, hf, xs, ht, rfl⟩ := h
  rcases ht with ⟨h, _⟩ | ⟨rfl, rfl⟩ | ⟨rfl, rfl⟩ | ⟨sg, m, p, a, q, b1, b2, b3, b4, b5, b6, b7, rfl⟩
  · rw [hf] at h; cases h
  · exact read_zero _ _ (.inl ⟨rfl, rfl⟩) w
  · exact read_zero _ _ (.inr ⟨rfl, rfl⟩) w
  · exact readDouble_ok sg a q b3 b4 ⟨b6, b7⟩ y m p hy b1 b2 b5 w hL

set_option maxRecDepth 100000 in
theorem implParse_yes (s : ByteArray) (y : Nat) (h : IsTxt s y) (w : World) (hL : LibW w) :
    Calls Tryz.prog 10 #[.string s] w fun e w' => e = .returned (.tuple #[.float .f64 y, .bool true]) ∧ Nw w w' := by
  have L := Lib.hid hL
  have H := Lib.hid h
  clear h hL
  go_enter Tryz.func10, Tryz.ntmps10
  go_wp2_with fail
  refine (read_text s y H.out _ L.out).mono ?_
  rintro e w1 ⟨rfl, n1⟩
  have N1 := Lib.hid n1
  clear n1
  have L1 := L.out.nw N1.out
  have T := Lib.hid (implText y H.out.1 w1 L1.1 L1.2.1)
  clear L1
  go_wp2_with fail
  refine T.out.mono ?_
  rintro e w2 ⟨ys, rfl, t2, n2⟩
  have N2 := Lib.hid (N1.out.trans n2)
  have es : s = strOfNums ys := by
    obtain ⟨-, -, xs, ht, rfl⟩ := H.out
    rw [txt_unique ht t2]
  clear n2 t2
  subst es
  go_wp2_with fail
  go_ret2
  exact ⟨rfl, N2.out⟩

set_option maxRecDepth 100000 in
theorem implParse_no (s : ByteArray) (hs : s.size ≤ 1048576) (h : ∀ y, ¬ IsTxt s y) (w : World) (hL : LibW w) :
    Calls Tryz.prog 10 #[.string s] w fun e w' => e = .returned (.tuple #[.float .f64 0, .bool false]) ∧ Nw w w' := by
  have h1 : s ≠ ⟨#[48]⟩ := by rintro rfl; exact h 0 ⟨by decide, by decide, [48], .inr (.inl ⟨rfl, rfl⟩), rfl⟩
  have h2 : s ≠ ⟨#[45, 48]⟩ := by rintro rfl; exact h 9223372036854775808 ⟨by decide, by decide, [45, 48], .inr (.inr (.inl ⟨rfl, rfl⟩)), rfl⟩
  have L := Lib.hid hL
  have H := Lib.hid h
  have H12 := Lib.hid (And.intro h1 h2)
  clear h hL h1 h2
  go_enter Tryz.func10, Tryz.ntmps10
  go_wp2_with fail
  refine (readDouble_any s hs H12.out.1 H12.out.2 _ L.out).mono ?_
  rintro e w1 ⟨x, b, rfl, hx, n1, hb⟩
  have N1 := Lib.hid n1
  have HB := Lib.hid hb
  clear n1 hb
  cases b with
  | false =>
    go_wp2_with fail
    all_goals
      go_ret2
      exact ⟨rfl, N1.out⟩
  | true =>
    have L1 := L.out.nw N1.out
    have T := Lib.hid (implText x hx w1 L1.1 L1.2.1)
    clear L1
    go_wp2_with fail
    refine T.out.mono ?_
    rintro e w2 ⟨ys, rfl, t2, n2⟩
    have N2 := Lib.hid (N1.out.trans n2)
    have ne : strOfNums ys ≠ s := by
      rintro rfl
      rcases Bool.eq_false_or_eq_true (fin .f64 x) with hf | hf
      · exact H.out x ⟨hx, hf, ys, t2, rfl⟩
      · have : ys = [] := by
          rcases t2 with ⟨_, rfl⟩ | ⟨rfl, _⟩ | ⟨rfl, _⟩ | ⟨sg, m, p, a, q, b1, _⟩
          · rfl
          · exact absurd hf (by decide)
          · exact absurd hf (by decide)
          · rw [fin_num ⟨_, _, _, b1⟩] at hf; cases hf
        subst this
        exact HB.out (by simp) rfl
    have g : ((strOfNums ys).toList == s.toList) = false := by
      cases hq : ((strOfNums ys).toList == s.toList) with
      | false => rfl
      | true =>
        exfalso
        apply ne
        have h2 : (strOfNums ys).toList = s.toList := by simpa using hq
        rw [ByteArray.toList_eq, ByteArray.toList_eq] at h2
        apply ByteArray.ext
        exact Array.toList_inj.1 h2
    clear n2 t2 ne
    go_wp2_with fail
    all_goals
      go_ret2
      exact ⟨rfl, N2.out⟩

end Go.Proofs.YtnmjkjjmigiabaaGreatDoor

/- The model's l1Split: a string cut at each 'p'.
   Conditions: those that each statement names. -/
namespace Go.Proofs.YtnmjkjjmigiabaaGreatDoor
set_option linter.unusedSimpArgs false
set_option linter.unusedVariables false
open Go Go.RowKit

theorem info_str : (Tryz.prog.info? 9).map (fun i => (i.zero, i.size, i.bytes)) = some (some (Value.string ⟨#[]⟩), 1, 16) := by kernel_rfl

/-- pieces, each behind with its 'p' -/
def glue (ps : List (List UInt8)) : List UInt8 := (ps.map fun p => p ++ [112]).flatten
def cellsT (ps : List (List UInt8)) : List Value := ps.map fun p => .string ⟨p.toArray⟩
def SplI (l : List UInt8) (w0 : World) (v st i : Value) (wr : World) : Prop :=
  ∃ (ps : List (List UInt8)) (a k : Nat), st = .int .i64 (a : Int) ∧ i = .int .i64 (k : Int) ∧ a ≤ k ∧ k ≤ l.length ∧ l.take a = glue ps ∧ (∀ p ∈ ps, 112 ∉ p) ∧ 112 ∉ (l.take k).drop a ∧ ps.length ≤ k ∧ wr.ownsRow w0.heap.size 9 1 v ps.length (cellsT ps) ∧ Nw w0 wr
/-- the pieces of a string -/
def SplP (l : List UInt8) (w : World) (e : Ending) (w' : World) : Prop :=
  ∃ (ps : List (List UInt8)) (r : List UInt8) (v : Value), e = .returned v ∧ l = glue ps ++ r ∧ (∀ p ∈ ps, 112 ∉ p) ∧ 112 ∉ r ∧ w'.ownsRow w.heap.size 9 1 v (ps.length + 1) (cellsT (ps ++ [r])) ∧ Nw w w'

theorem nwg {a w w1 : World} {row : Option Nat} (h : Nw a w) (hg : w.grownBy w1 row) (hr : ∀ q, row = some q → a.heap.size ≤ q) : Nw a w1 :=
  ⟨hg.os.trans h.os, hg.tape.trans h.tape, hg.output.trans h.output, Nat.le_trans h.size hg.size, fun i hi hne => (hg.block i (Nat.lt_of_lt_of_le hi h.size) (fun e => by have := hr i e.symm; omega)).trans (h.block i hi hne)⟩
theorem ext_bytes (s : ByteArray) (a k : Nat) : s.extract a k = ⟨((s.data.toList.take k).drop a).toArray⟩ := by
  apply ByteArray.ext
  apply Array.toList_inj.1
  rw [ByteArray.data_extract, Array.toList_extract]
  simp [List.extract_eq_take_drop, List.drop_take]
theorem drop_snoc {l : List UInt8} {a k : Nat} (ha : a ≤ k) (hk : k < l.length) : (l.take (k + 1)).drop a = (l.take k).drop a ++ [l[k]] := by
  rw [List.take_succ_eq_append_getElem hk, List.drop_append_of_le_length (by rw [List.length_take]; omega)]
theorem take_glue {l : List UInt8} {a k : Nat} {ps : List (List UInt8)} (ha : a ≤ k) (hk : k < l.length) (h : l.take a = glue ps) (hb : l[k] = 112) : l.take (k + 1) = glue (ps ++ [(l.take k).drop a]) := by
  have e : l.take k = l.take a ++ (l.take k).drop a := by
    conv => lhs; rw [← List.take_append_drop a (l.take k)]
    rw [List.take_take, Nat.min_eq_left ha]
  have g : glue (ps ++ [(l.take k).drop a]) = glue ps ++ ((l.take k).drop a ++ [112]) := by unfold glue; simp
  rw [g, ← h, ← List.append_assoc, ← e, List.take_succ_eq_append_getElem hk, hb]

theorem slice_lh (s : ByteArray) (a k : Nat) (h : a ≤ k) (hk : k ≤ s.size) (W : World) : (Instr.sliceAt 9 (.string s) (some (.int .i64 (a : Int))) (some (.int .i64 (k : Int))) none).run Tryz.prog W = .ok (.string (s.extract a k)) W := by
  rw [run_sliceAt_string _ _ _ _ _ _ Tryz.underlying9]
  have h1 : (0 : Int) ≤ (a : Int) := by omega
  have h2 : (a : Int) ≤ (k : Int) := by omega
  have h3 : (k : Int) ≤ (s.size : Int) := by omega
  simp [Instr.slice, run_underlying Tryz.underlying9, Instr.sliceBounds, run_sliceBound, sliced, *]

set_option maxHeartbeats 3200000 in
set_option maxRecDepth 100000 in
theorem l1Split_ok (s : ByteArray) (hs : s.size ≤ 1048576) (w : World) :
    Calls Tryz.prog 78 #[.string s, .int .u8 112] w (SplP s.data.toList w) := by
  obtain ⟨i0, hi, hz0, hz1, hz2⟩ := info_parts info_str
  have hl : s.data.toList.length = s.size := Array.length_toList
  go_enter Tryz.func78, Tryz.ntmps78
  go_wp2_with fail
  have Hown := Lib.hid (World.ownsRow_lit (base := w.heap.size) (e := 9) (size := 1) w #[] 0 (Nat.le_refl _) (by decide) rfl)
  go_loopw [5, 6, 7] (fun v st i wr => SplI s.data.toList w v st i wr) (fun _ _ i _ => s.size - (intOf i).toNat)
  case atStart => exact ⟨[], 0, 0, rfl, rfl, Nat.le_refl _, Nat.zero_le _, by simp [glue], by simp, by simp, by simp, Hown.out, (Nw.refl w).alloc _⟩
  case round =>
    obtain ⟨ps, a, k, rfl, rfl, hak, hk, htk, hps, hno, hlen, hown, hN⟩ := hrel
    have Hk := Lib.hid (And.intro htk (And.intro hps hno))
    obtain ⟨sa, sl, sc, rfl⟩ := own_shape hown
    have Hown2 := Lib.hid hown
    have Nr := Lib.hid hN
    have hN0 := Nr
    clear htk hps hno hown hN
    have hsz := Lib.hid (show w.heap.size ≤ wr.heap.size from hN0.out.size)
    by_cases hlt : k < s.size
    · have hkl : k < s.data.toList.length := by omega
      have hbk : s.data.toList[k]'hkl = s[k] := rfl
      by_cases hb : s[k] = 112
      · have hb' : (((s[k]).toNat : Int) == 112) = true := by rw [hb]; rfl
        have HB := Lib.hid (And.intro hkl (And.intro hb hbk))
        clear hb hbk
        have hsl : ∀ W, (Instr.sliceAt 9 (.string s) (some (.int .i64 (a : Int))) (some (.int .i64 (k : Int))) none).run Tryz.prog W = .ok (.string (s.extract a k)) W := fun W => by
          exact slice_lh s a k hak (by omega) W
        go_wp2_with (at_builtin; refine wpList_append_own _ rfl _ _ 119 rfl w.heap.size 9 i0 (.string ⟨#[]⟩) 1 16 Tryz.underlying119 hi hz0 hz1 hz2 rfl (by decide) _ _ _ rfl (Hown2.out.alloc _) ⟨wr.heap.size, 0, none⟩ 1 1 [.string (s.extract a k)] rfl rfl ?c1 ?c2 ?c3 ?c4 ?c5 ?_)
        case c2 => rfl
        case c3 => unfold maxLen; omega
        case c4 => omega
        case c5 => have := hsz.out; simp; omega
        · intro v' w4 hown4 hgrow _
          have hrow : ∀ q, (Value.slice sa sl sc).ownBlock = some q → w.heap.size ≤ q := fun q hq => own_ge Hown2.out q hq
          have Nw4 := Lib.hid (nwg (Nr.out.alloc _) hgrow hrow)
          have e : cellsT ps ++ [Value.string (s.extract a k)] = cellsT (ps ++ [(s.data.toList.take k).drop a]) := by rw [ext_bytes]; simp [cellsT]
          rw [e, show ps.length + 1 = (ps ++ [(s.data.toList.take k).drop a]).length from by simp] at hown4
          have Hown4 := Lib.hid hown4
          clear hown4 hgrow hrow e
          go_wp2_with fail
          go_roundw
          case rel =>
            refine ⟨ps ++ [(s.data.toList.take k).drop a], k + 1, k + 1, by rw [show ((k + 1 : Nat) : Int) = (k : Int) + 1 from by omega], by rw [show ((k + 1 : Nat) : Int) = (k : Int) + 1 from by omega], Nat.le_refl _, by omega, take_glue hak HB.out.1 Hk.out.1 (by rw [HB.out.2.2]; exact HB.out.2.1), ?_, ?_, by simp; omega, Hown4.out, Nw4.out⟩
            · intro q hq
              rcases List.mem_append.1 hq with hq | hq
              · exact Hk.out.2.1 q hq
              · simp at hq; subst hq; exact Hk.out.2.2
            · rw [List.drop_eq_nil_of_le (by rw [List.length_take]; omega)]; simp
          case measure => simp only [intOf]; omega
      · have hb' : (((s[k]).toNat : Int) == 112) = false := by
          cases h : (((s[k]).toNat : Int) == 112) with
          | false => rfl
          | true =>
            exfalso
            apply hb
            have h2 : ((s[k]).toNat : Int) = 112 := by simpa using h
            apply UInt8.toNat_inj.1
            have : (112 : UInt8).toNat = 112 := rfl
            omega
        have HB := Lib.hid (And.intro hkl (And.intro hb hbk))
        clear hb hbk
        go_wp2_with fail
        go_roundw
        case rel =>
          refine ⟨ps, a, k + 1, rfl, by rw [show ((k + 1 : Nat) : Int) = (k : Int) + 1 from by omega], by omega, by omega, Hk.out.1, Hk.out.2.1, ?_, by omega, Hown2.out, Nr.out⟩
          rw [drop_snoc hak hkl]
          intro hm
          rcases List.mem_append.1 hm with hm | hm
          · exact Hk.out.2.2 hm
          · simp at hm
            exact HB.out.2.1 (by rw [← HB.out.2.2]; exact hm.symm)
        case measure => simp only [intOf]; omega
    · have hks : k = s.size := by omega
      go_wp2_with (at_builtin; refine wpList_append_own _ rfl _ _ 119 rfl w.heap.size 9 i0 (.string ⟨#[]⟩) 1 16 Tryz.underlying119 hi hz0 hz1 hz2 rfl (by decide) _ _ _ rfl (Hown2.out.alloc _) ⟨wr.heap.size, 0, none⟩ 1 1 [.string (s.extract a s.size)] rfl rfl ?d1 ?d2 ?d3 ?d4 ?d5 ?_)
      case d2 => rfl
      case d3 => unfold maxLen; omega
      case d4 => omega
      case d5 => have := hsz.out; simp; omega
      · intro v' w4 hown4 hgrow _
        have hrow : ∀ q, (Value.slice sa sl sc).ownBlock = some q → w.heap.size ≤ q := fun q hq => own_ge Hown2.out q hq
        have Nw4 := Lib.hid (nwg (Nr.out.alloc _) hgrow hrow)
        have e : cellsT ps ++ [Value.string (s.extract a s.size)] = cellsT (ps ++ [(s.data.toList.take s.size).drop a]) := by rw [ext_bytes]; simp [cellsT]
        rw [e] at hown4
        have Hown4 := Lib.hid hown4
        clear hown4 hgrow hrow e
        go_wp2_with fail
        go_ret
        refine ⟨ps, (s.data.toList.take s.size).drop a, _, rfl, ?_, Hk.out.2.1, ?_, Hown4.out, Nw4.out⟩
        · rw [← Hk.out.1, ← hl, List.take_length, List.take_append_drop]
        · rw [← hks]; exact Hk.out.2.2

end Go.Proofs.YtnmjkjjmigiabaaGreatDoor

/- The model's l1Read: a whole number's text read.
   Conditions: those that each statement names. -/
namespace Go.Proofs.YtnmjkjjmigiabaaGreatDoor
set_option linter.unusedSimpArgs false
set_option linter.unusedVariables false
open Go Go.RowKit

def DigL (l : List UInt8) : Prop := 1 ≤ l.length ∧ l.length ≤ 17 ∧ (∀ c ∈ l, 48 ≤ c.toNat ∧ c.toNat ≤ 57) ∧ (∀ h : 1 < l.length, l[0] ≠ 48)
def PosP (l : List UInt8) (w : World) (e : Ending) (w' : World) : Prop :=
  ∃ (n : Nat) (b : Bool), e = .returned (.tuple #[.int .i64 (n : Int), .bool b]) ∧ n < 100000000000000000 ∧ (DigL l → b = true ∧ n = valU 0 l) ∧ Nw w w'
def ReaI (l : List UInt8) (w0 : World) (v i : Value) (wr : World) : Prop :=
  ∃ k : Nat, i = .int .i64 (k : Int) ∧ v = .int .i64 ((valU 0 (l.take k) : Nat) : Int) ∧ k ≤ l.length ∧ valU 0 (l.take k) < 10 ^ k ∧ Nw w0 wr
theorem valU_snoc (l : List UInt8) (c : UInt8) : valU 0 (l ++ [c]) = valU 0 l * 10 + (c.toNat - 48) := by unfold valU; rw [List.foldl_append]; rfl

theorem beqF {c : UInt8} (d : UInt8) (k : Int) (hk : ((d.toNat : Nat) : Int) = k) (h : c ≠ d) : (((c.toNat : Nat) : Int) == k) = false := by
  cases hq : (((c.toNat : Nat) : Int) == k) with
  | false => rfl
  | true =>
    exfalso
    apply h
    have h2 : ((c.toNat : Nat) : Int) = k := by simpa using hq
    apply UInt8.toNat_inj.1
    omega

/-- from the loop on -/
def LoopP (l : List UInt8) (w : World) (e : Ending) (w' : World) : Prop :=
  ∃ (n : Nat) (b : Bool), e = .returned (.tuple #[.int .i64 (n : Int), .bool b]) ∧ n < 100000000000000000 ∧ ((∀ c ∈ l, 48 ≤ c.toNat ∧ c.toNat ≤ 57) → b = true ∧ n = valU 0 l) ∧ Nw w w'

set_option maxHeartbeats 3200000 in
set_option maxRecDepth 100000 in
theorem l1Read_pos (s : ByteArray) (hs : s.size ≤ 1048576) (hneg : (h : 1 < s.size) → s[0] = 45 → s[1] = 45) (w : World) :
    Calls Tryz.prog 192 #[.string s] w (PosP s.data.toList w) := by
  have hl : s.data.toList.length = s.size := Array.length_toList
  have bad : (¬ DigL s.data.toList) → ∀ w', Nw w w' → PosP s.data.toList w (.returned (.tuple #[.int .i64 0, .bool false])) w' := fun hb w' hn => ⟨0, false, rfl, by decide, fun h => absurd h hb, hn⟩
  by_cases h0 : s.size = 0
  · have hbad := bad (fun h => by have := h.1; omega)
    have B := Lib.hid hbad
    clear bad hbad hneg
    go_enter Tryz.func192, Tryz.ntmps192
    go_wp2_with fail
    all_goals
      go_ret2
      exact B.out _ (Nw.refl _)
  · have hp : 0 < s.size := by omega
    have hcase : (∃ h : 1 < s.size, s[0] = 45 ∧ s[1] = 45) ∨ (s[0] ≠ 45) ∨ s.size = 1 := by
      by_cases h1 : 1 < s.size
      · by_cases h2 : s[0] = 45
        · exact .inl ⟨h1, h2, hneg h1 h2⟩
        · exact .inr (.inl h2)
      · exact .inr (.inr (by omega))
    clear hneg
    by_cases h17 : 17 < s.size
    · have B := Lib.hid (bad (fun h => by have := h.2.1; omega))
      clear bad
      rcases hcase with ⟨h1, h2, h3⟩ | h2 | h2
      · have t0 : (((s[0]).toNat : Int) == 45) = true := by rw [h2]; rfl
        have t1 : (((s[1]).toNat : Int) != 45) = false := by rw [h3]; rfl
        clear h2 h3
        go_enter Tryz.func192, Tryz.ntmps192
        go_wp2_with fail
        all_goals
          go_ret2
          exact B.out _ (Nw.refl _)
      · have t0 : (((s[0]).toNat : Int) == 45) = false := beqF 45 45 rfl h2
        clear h2
        go_enter Tryz.func192, Tryz.ntmps192
        go_wp2_with fail
        all_goals
          go_ret2
          exact B.out _ (Nw.refl _)
      · omega
    · by_cases hz : s[0] = 48 ∧ 1 < s.size
      · have B := Lib.hid (bad (fun h => by exact h.2.2.2 (by omega) hz.1))
        clear bad
        have t0 : (((s[0]).toNat : Int) == 45) = false := beqF 45 45 rfl (by rw [hz.1]; decide)
        have t1 : (((s[0]).toNat : Int) == 48) = true := by rw [hz.1]; rfl
        have h1 := hz.2
        clear hz hcase
        go_enter Tryz.func192, Tryz.ntmps192
        go_wp2_with fail
        all_goals
          go_ret2
          exact B.out _ (Nw.refl _)
      · have fin : ∀ e w', LoopP s.data.toList w e w' → PosP s.data.toList w e w' := fun e w' ⟨n, b, h1, h2, h3, h4⟩ => ⟨n, b, h1, h2, fun hd => h3 hd.2.2.1, h4⟩
        have F := Lib.hid fin
        clear bad fin
        have body : ∀ (k : Nat) (hk : k < s.size) (v : Nat), True := fun _ _ _ => trivial
        have hsplit : (∃ h1 : 1 < s.size, (((s[0]).toNat : Int) == 45) = true ∧ (((s[1]).toNat : Int) != 45) = false ∧ (((s[0]).toNat : Int) == 48) = false) ∨ (1 < s.size ∧ (((s[0]).toNat : Int) == 45) = false ∧ (((s[0]).toNat : Int) == 48) = false) ∨ (s.size = 1 ∧ (((s[0]).toNat : Int) == 48) = true) ∨ (s.size = 1 ∧ (((s[0]).toNat : Int) == 48) = false) := by
          by_cases h1 : 1 < s.size
          · have z48 : s[0] ≠ 48 := fun h => hz ⟨h, h1⟩
            rcases hcase with ⟨_, h2, h3⟩ | h2 | h2
            · exact .inl ⟨h1, by rw [h2]; rfl, by rw [h3]; rfl, beqF 48 48 rfl z48⟩
            · exact .inr (.inl ⟨h1, beqF 45 45 rfl h2, beqF 48 48 rfl z48⟩)
            · omega
          · cases h48 : (((s[0]).toNat : Int) == 48) with
            | true => exact .inr (.inr (.inl ⟨by omega, rfl⟩))
            | false => exact .inr (.inr (.inr ⟨by omega, rfl⟩))
        clear hz hcase body
        rcases hsplit with ⟨h1, t0, t1, t2⟩ | ⟨h1, t0, t2⟩ | ⟨h1, t2⟩ | ⟨h1, t2⟩
        all_goals
          go_enter Tryz.func192, Tryz.ntmps192
          go_wp2_with fail
          go_loopw [6, 7] (fun v i wr => ReaI s.data.toList w v i wr) (fun _ i _ => s.size - (intOf i).toNat)
          case atStart => exact ⟨0, rfl, rfl, Nat.zero_le _, by simp [valU], Nw.refl _⟩
          case round =>
            obtain ⟨k, rfl, rfl, hk, hv, hN⟩ := hrel
            have Nr := Lib.hid hN
            clear hN
            by_cases hlt : k < s.size
            · have hkl : k < s.data.toList.length := by omega
              have hbk : s.data.toList[k]'hkl = s[k] := rfl
              have e10 : 10 ^ k ≤ 10 ^ 16 := Nat.pow_le_pow_right (by decide) (by omega)
              obtain ⟨n, hn⟩ : ∃ n : Nat, n = valU 0 (s.data.toList.take k) := ⟨_, rfl⟩
              rw [← hn] at hv ⊢
              have hn16 : n < 10000000000000000 := by omega
              by_cases hd : 48 ≤ (s[k]).toNat ∧ (s[k]).toNat ≤ 57
              · have d1 : (48 : Int) ≤ ((s[k]).toNat : Int) := by omega
                have d2 : ((s[k]).toNat : Int) ≤ 57 := by omega
                have hnew : valU 0 (s.data.toList.take (k + 1)) = n * 10 + ((s[k]).toNat - 48) := by rw [List.take_succ_eq_append_getElem hkl, valU_snoc, ← hn, hbk]
                have H := Lib.hid (And.intro hnew (And.intro hv hd))
                clear hnew hv hn hbk
                go_wp2_with fail
                go_roundw
                case rel =>
                  refine ⟨k + 1, by rw [show ((k + 1 : Nat) : Int) = (k : Int) + 1 from by omega], ?_, by omega, ?_, Nr.out⟩
                  · rw [H.out.1]; congr 1; have := H.out.2.2; omega
                  · rw [H.out.1, Nat.pow_succ]; have := H.out.2.1; have := H.out.2.2; omega
                case measure => simp only [intOf]; omega
              · have hbad : ¬ ∀ c ∈ s.data.toList, 48 ≤ c.toNat ∧ c.toNat ≤ 57 := fun h => hd (by have := h _ (List.getElem_mem hkl); rw [hbk] at this; exact this)
                have B := Lib.hid hbad
                clear hbad hn hbk hv
                by_cases d1 : (48 : Int) ≤ ((s[k]).toNat : Int)
                · have d2 : ¬ ((s[k]).toNat : Int) ≤ 57 := by omega
                  clear hd
                  go_wp2_with fail
                  all_goals
                    go_ret2
                    exact F.out _ _ ⟨0, false, rfl, by decide, fun h => absurd h B.out, Nr.out⟩
                · clear hd
                  go_wp2_with fail
                  all_goals
                    go_ret2
                    exact F.out _ _ ⟨0, false, rfl, by decide, fun h => absurd h B.out, Nr.out⟩
            · have hks : k = s.data.toList.length := by omega
              have e10 : 10 ^ k ≤ 10 ^ 17 := Nat.pow_le_pow_right (by decide) (by omega)
              have ht : s.data.toList.take k = s.data.toList := by rw [hks, List.take_length]
              rw [ht] at hv ⊢
              have V := Lib.hid (show valU 0 s.data.toList < 100000000000000000 by omega)
              clear hv ht e10 hks
              go_wp2_with fail
              go_ret2
              exact F.out _ _ ⟨_, true, rfl, V.out, fun _ => ⟨rfl, rfl⟩, Nr.out⟩
end Go.Proofs.YtnmjkjjmigiabaaGreatDoor

/- The model's l1Read of any string.
   Conditions: those that each statement names. -/
namespace Go.Proofs.YtnmjkjjmigiabaaGreatDoor
set_option linter.unusedSimpArgs false
set_option linter.unusedVariables false
open Go Go.RowKit

theorem dgs_nz : ∀ (f n : Nat), n < 10 ^ (f + 1) → n ≠ 0 → ∃ d r, dgs n = d :: r ∧ 49 ≤ d ∧ d ≤ 57
  | f, n, h, h0 => by
    by_cases h10 : n < 10
    · exact ⟨_, [], dgs_small h10, by omega, by omega⟩
    · cases f with
      | zero => omega
      | succ f =>
        obtain ⟨d, r, e, h1, h2⟩ := dgs_nz f (n / 10) (by rw [Nat.pow_succ] at h; omega) (by omega)
        exact ⟨d, r ++ [48 + ((n % 10 : Nat) : Int)], by rw [dgs_big h10, e]; rfl, h1, h2⟩
theorem digL_dgs (a : Nat) (h : a < 10 ^ 16) : DigL (byts (dgs a)) := by
  have l1 := dgs_len 15 a (by omega)
  obtain ⟨c, r, e, c1, c2⟩ := byts_head a (by omega)
  have hlen : (byts (dgs a)).length = (dgs a).length := by unfold byts; rw [List.length_map]
  refine ⟨by rw [e]; simp, by omega, byts_dig a (by omega), fun hl => ?_⟩
  by_cases h0 : a = 0
  · subst h0
    exfalso
    rw [dgs_small (by omega)] at hl
    simp [byts] at hl
  · obtain ⟨d, r', e', d1, d2⟩ := dgs_nz 15 a (by omega) h0
    have hc : (byts (dgs a))[0] = UInt8.ofNat d.toNat := by
      have : byts (dgs a) = UInt8.ofNat d.toNat :: byts r' := by rw [e']; rfl
      simp [this]
    rw [hc]
    intro hh
    have := byt_dig d (by omega) d2
    rw [hh] at this
    have k : ((48 : UInt8).toNat : Int) = 48 := rfl
    omega

def ReadP (l : List UInt8) (w : World) (e : Ending) (w' : World) : Prop :=
  ∃ (n : Int) (b : Bool), e = .returned (.tuple #[.int .i64 n, .bool b]) ∧ n.natAbs < 100000000000000000 ∧ (∀ sg a, a < 10 ^ 16 → (sg = true → a ≠ 0) → l = byts (sgn sg ++ dgs a) → b = true ∧ n = if sg then -(a : Int) else (a : Int)) ∧ Nw w w'

set_option maxHeartbeats 3200000 in
set_option maxRecDepth 100000 in
theorem l1Read_any (s : ByteArray) (hs : s.size ≤ 1048576) (w : World) :
    Calls Tryz.prog 192 #[.string s] w (ReadP s.data.toList w) := by
  have hl : s.data.toList.length = s.size := Array.length_toList
  by_cases hneg : ∃ h : 1 < s.size, s[0] = 45 ∧ s[1] ≠ 45
  · obtain ⟨h1, h2, h3⟩ := hneg
    have t0 : (((s[0]).toNat : Int) == 45) = true := by rw [h2]; rfl
    have t1 : (((s[1]).toNat : Int) != 45) = true := by unfold bne; rw [beqF 45 45 rfl h3]; rfl
    obtain ⟨t, ht⟩ : ∃ t, t = s.extract 1 s.size := ⟨_, rfl⟩
    have tb : t.data.toList = s.data.toList.drop 1 := by
      rw [ht, ext_bytes]
      show (s.data.toList.take s.size).drop 1 = _
      rw [← hl, List.take_length]
    have tsz : t.size = s.size - 1 := by
      have : t.data.toList.length = t.size := Array.length_toList
      rw [tb, List.length_drop] at this
      omega
    have t00 : (h : 0 < t.size) → t[0] = s[1] := fun h => by
      have e1 : t[0] = t.data.toList[0]'(by rw [show t.data.toList.length = t.size from Array.length_toList]; exact h) := rfl
      have e2 : s[1] = s.data.toList[1]'(by omega) := rfl
      rw [e1, e2]
      simp only [tb, List.getElem_drop]
    have P := Lib.hid (l1Read_pos t (by omega) (fun h hh => absurd (by rw [← t00 (by omega)]; exact hh) h3) w)
    have C : ∀ sg a, a < 10 ^ 16 → (sg = true → a ≠ 0) → s.data.toList = byts (sgn sg ++ dgs a) → sg = true ∧ t.data.toList = byts (dgs a) := by
      intro sg a ha _ he
      cases sg with
      | true => exact ⟨rfl, by rw [tb, he]; rfl⟩
      | false =>
        exfalso
        obtain ⟨c, r, e, c1, c2⟩ := byts_head a (by omega)
        have he' : s.data.toList = c :: r := by rw [he, ← e]; rfl
        have : s[0] = c := by
          have e1 : s[0] = s.data.toList[0]'(by omega) := rfl
          rw [e1]; simp [he']
        rw [this] at h2
        rw [h2] at c1
        revert c1
        decide
    have CC := Lib.hid C
    clear h2 h3 tb tsz t00 C
    have hsl : s.extract 1 s.size = t := ht.symm
    have hsl2 : s.extract (1 : Int).toNat s.size = t := ht.symm
    clear ht
    go_enter Tryz.func192, Tryz.ntmps192
    go_wp2_with fail
    first
      | refine P.out.mono ?_
      | (simp only [hsl]; refine P.out.mono ?_)
      | (simp only [hsl2]; refine P.out.mono ?_)
    rintro e w1 ⟨n, b, rfl, hn, hc, n1⟩
    have N1 := Lib.hid n1
    have HC := Lib.hid hc
    clear n1 hc
    cases b with
    | false =>
      have R : ReadP s.data.toList w (.returned (.tuple #[.int .i64 (-(n : Int)), .bool false])) w1 := by
        refine ⟨-(n : Int), false, rfl, by omega, fun sg a ha h0 he => ?_, N1.out⟩
        obtain ⟨-, ht⟩ := CC.out sg a ha h0 he
        have := (HC.out (by rw [ht]; exact digL_dgs a ha)).1
        cases this
      have RR := Lib.hid R
      clear R
      go_wp2_with fail
      all_goals
        go_ret2
        exact RR.out
    | true =>
      have R : ReadP s.data.toList w (.returned (.tuple #[.int .i64 (-(n : Int)), .bool ((n : Int) != 0)])) w1 := by
        refine ⟨-(n : Int), _, rfl, by omega, fun sg a ha h0 he => ?_, N1.out⟩
        obtain ⟨rfl, ht⟩ := CC.out sg a ha h0 he
        have := (HC.out (by rw [ht]; exact digL_dgs a ha)).2
        rw [ht, val_dgs 17 a (by omega)] at this
        subst this
        exact ⟨by have := h0 rfl; simp; omega, by simp⟩
      have RR := Lib.hid R
      clear R
      go_wp2_with fail
      all_goals
        go_ret2
        exact RR.out
  · refine (l1Read_pos s hs (fun h h2 => Classical.byContradiction fun h3 => hneg ⟨h, h2, h3⟩) w).mono ?_
    rintro e w' ⟨n, b, rfl, hn, hc, n1⟩
    refine ⟨(n : Int), b, rfl, by omega, fun sg a ha h0 he => ?_, n1⟩
    cases sg with
    | false =>
      have he' : s.data.toList = byts (dgs a) := he
      have := hc (by rw [he']; exact digL_dgs a ha)
      rw [he', val_dgs 17 a (by omega)] at this
      exact ⟨this.1, by rw [this.2]; simp⟩
    | true =>
      exfalso
      have he' : s.data.toList = 45 :: byts (dgs a) := he
      obtain ⟨c, r, e, c1, c2⟩ := byts_head a (by omega)
      rw [e] at he'
      have h1 : 1 < s.size := by rw [← hl, he']; simp
      apply hneg
      refine ⟨h1, ?_, ?_⟩
      · have e1 : s[0] = s.data.toList[0]'(by omega) := rfl
        rw [e1]; simp [he']
      · have e1 : s[1] = s.data.toList[1]'(by omega) := rfl
        have e2 : s[1] = c := by rw [e1]; simp [he']
        rw [e2]
        rintro rfl
        revert c1
        decide
end Go.Proofs.YtnmjkjjmigiabaaGreatDoor

/- Plain: doubling and halving exactly; a text cut at its one 'p'.
   Conditions: those that each statement names. -/
namespace Go.Proofs.YtnmjkjjmigiabaaGreatDoor
set_option linter.unusedSimpArgs false
set_option linter.unusedVariables false
open Go Go.RowKit

theorem two_mul_word (s E F : Nat) (hs : s < 2) (h1 : 1 ≤ E) (h2 : E + 1 < 2047) (hF : F < 4503599627370496) : floatBits .mul .f64 (s * 9223372036854775808 + (E * 4503599627370496 + F)) 4611686018427387904 = some (s * 9223372036854775808 + ((E + 1) * 4503599627370496 + F)) := by
  have r := read_nor s E F hs h1 (by omega) hF
  have r1 : Ieee.double.read 4611686018427387904 = .number false 4503599627370496 (-51) := by decide
  obtain ⟨X, hX⟩ : ∃ X : Nat, X = s * 9223372036854775808 + (E * 4503599627370496 + F) := ⟨_, rfl⟩
  obtain ⟨Y, hY⟩ : ∃ Y : Nat, Y = s * 9223372036854775808 + ((E + 1) * 4503599627370496 + F) := ⟨_, rfl⟩
  rw [← hX] at r ⊢
  rw [← hY]
  have e : floatBits .mul .f64 X 4611686018427387904 = some (Ieee.double.write (.number (s == 1) ((4503599627370496 + F) * 4503599627370496) ((E : Int) - 1075 + -51))) := by
    show Ieee.double.mul X _ = _
    unfold Ieee.Format.mul
    rw [r, r1]
    cases (s == 1) <;> rfl
  rw [e]
  congr 1
  obtain ⟨M, hM⟩ : ∃ M : Nat, M = 4503599627370496 + F := ⟨_, rfl⟩
  rw [← hM, Nat.mul_comm M]
  have hlog : (4503599627370496 * M).log2 = 104 := by
    have n0 : 4503599627370496 * M ≠ 0 := by omega
    rw [Nat.log2_eq_iff n0]
    constructor
    · show 20282409603651670423947251286016 ≤ _; omega
    · show _ < 40564819207303340847894502572032; omega
  show Ieee.double.nearest (s == 1) (4503599627370496 * M) ((E : Int) - 1075 + -51) = Y
  unfold Ieee.Format.nearest
  rw [if_neg (by omega)]
  simp only [hlog, show (Ieee.double.fractionBits : Int) = 52 from rfl, show Ieee.double.leastPlace = -1074 from by decide]
  have m1 : max ((E : Int) - 1075 + -51 + ((104 : Nat) : Int) - 52) (-1074) = (E : Int) - 1074 := by omega
  rw [m1]
  have m2 : ((E : Int) - 1075 + -51 - ((E : Int) - 1074)).toNat = 0 := by omega
  have m3 : ((E : Int) - 1074 - ((E : Int) - 1075 + -51)).toNat = 52 := by omega
  have m4 : ((E : Int) - 1074 - -1074).toNat = E := by omega
  rw [m2, m3, m4, Nat.shiftLeft_zero]
  have m5 : Ieee.Toward.even.cut (s == 1) (4503599627370496 * M) 52 = M := by
    unfold Ieee.Toward.cut
    simp only [hlog]
    have g1 : 1 <<< min 52 (104 + 2) = 4503599627370496 := by decide
    rw [g1, Nat.mul_div_cancel_left _ (by decide), Nat.mul_mod_right]
    simp
  rw [m5, show Ieee.double.binade = 4503599627370496 from by decide, show Ieee.double.infRung = 9218868437227405312 from by decide]
  have m6 : min (E * 4503599627370496 + M) 9218868437227405312 = (E + 1) * 4503599627370496 + F := by
    clear hlog m1 m2 m3 m4 m5 e r r1 hX hY
    have m7 : E * 4503599627370496 + M = (E + 1) * 4503599627370496 + F := by omega
    rw [m7]
    exact Nat.min_eq_left (by omega)
  rw [m6]
  unfold Ieee.Format.word
  rw [show Ieee.double.signWeight = 9223372036854775808 from by decide, hY]
  rcases Nat.lt_or_ge s 1 with g | g
  · rw [show s = 0 by omega]; simp
  · rw [show s = 1 by omega]; simp

theorem sign_of {z : Nat} {sg : Bool} {V : Rat} (hz : Flo.Nm z) (hV : 0 < V) (h : Flo.W z = if sg then -V else V) : ∃ m p, Ieee.double.read z = .number sg m p ∧ (m : Rat) * Flo.pw p = V := by
  obtain ⟨s', m', p', r⟩ := hz
  rw [show Flo.W z = _ from Flo.V_eq r] at h
  have nn := Flo.mag_nonneg m' p'
  unfold Flo.val at h
  cases s' <;> cases sg <;> simp at h
  · exact ⟨m', p', r, h⟩
  · exfalso; grind
  · exfalso; grind
  · exact ⟨m', p', r, by grind⟩

theorem half_sg (x m a : Nat) (sg : Bool) (p e : Int) (h : Ieee.double.read x = .number sg m p) (hv : (m : Rat) * Flo.pw p = (a : Rat) * Flo.pw e) (ha0 : a ≠ 0) (ha : a < 9007199254740992) (h1 : -1073 ≤ e) (h2 : e ≤ 0) :
    ∃ z m' p', floatBits .quo .f64 x 4611686018427387904 = some z ∧ z < 18446744073709551616 ∧ Ieee.double.read z = .number sg m' p' ∧ (m' : Rat) * Flo.pw p' = (a : Rat) * Flo.pw (e - 1) := by
  have ha1 : (0 : Rat) < (a : Rat) := by exact_mod_cast Nat.pos_of_ne_zero ha0
  have hD : Flo.Dy e (if sg then -(a : Int) else (a : Int)) x := by
    refine ⟨⟨_, _, _, h⟩, ?_⟩
    rw [show Flo.W x = _ from Flo.V_eq h]
    unfold Flo.val
    cases sg
    · simp only [Bool.false_eq_true, if_false]; rw [hv]; push_cast; grind
    · simp only [if_true]; rw [hv]; push_cast; grind
  obtain ⟨z, z1, z2⟩ := Flo.dy_div hD (y := 4611686018427387904) (d := 1) (by decide) (by cases sg <;> simp <;> omega) (by omega) (by omega)
  have hz : z < 18446744073709551616 := by
    have e1 : Ieee.double.div x 4611686018427387904 = some z := z1
    have := fres_wf default .quo .f64 x 4611686018427387904
    unfold fres at this
    rw [z1] at this
    exact this
  have hpos : 0 < (a : Rat) * Flo.pw (e - 1) := Rat.mul_pos ha1 (Flo.pw_pos _)
  obtain ⟨m', p', r, v⟩ := sign_of (sg := sg) z2.1 hpos (by
    rw [z2.2]
    cases sg
    · simp only [Bool.false_eq_true, if_false]; push_cast; grind
    · simp only [if_true]; push_cast; grind)
  exact ⟨z, m', p', z1, hz, r, v⟩

theorem glue_count (ps : List (List UInt8)) (h : ∀ p ∈ ps, 112 ∉ p) : (glue ps).count 112 = ps.length := by
  induction ps with
  | nil => rfl
  | cons p ps ih =>
    have e : glue (p :: ps) = p ++ ([112] ++ glue ps) := by unfold glue; simp
    rw [e, List.count_append, List.count_append, ih fun q hq => h q (List.mem_cons_of_mem _ hq), List.count_eq_zero_of_not_mem (h p List.mem_cons_self)]
    simp
    omega
theorem cut_unique {p q r t : List UInt8} (h : p ++ 112 :: r = q ++ 112 :: t) (hp : 112 ∉ p) (hq : 112 ∉ q) : p = q ∧ r = t := by
  induction p generalizing q with
  | nil =>
    cases q with
    | nil => simp at h; exact ⟨rfl, h⟩
    | cons c q => simp at h; exact absurd (by rw [h.1]; exact List.mem_cons_self) hq
  | cons c p ih =>
    cases q with
    | nil => simp at h; exact absurd (by rw [h.1]; exact List.mem_cons_self) hp
    | cons d q =>
      simp at h
      obtain ⟨rfl, h⟩ := h
      obtain ⟨rfl, rfl⟩ := ih h (fun hm => hp (List.mem_cons_of_mem _ hm)) (fun hm => hq (List.mem_cons_of_mem _ hm))
      exact ⟨rfl, rfl⟩
theorem split_unique {l p t r : List UInt8} {ps : List (List UInt8)} (h : l = glue ps ++ r) (hps : ∀ p ∈ ps, 112 ∉ p) (hr : 112 ∉ r) (h2 : l = p ++ 112 :: t) (hp : 112 ∉ p) (ht : 112 ∉ t) : ps = [p] ∧ r = t := by
  have c1 : l.count 112 = ps.length := by rw [h, List.count_append, glue_count ps hps, List.count_eq_zero_of_not_mem hr]; omega
  have c2 : l.count 112 = 1 := by rw [h2, List.count_append, List.count_cons, List.count_eq_zero_of_not_mem hp, List.count_eq_zero_of_not_mem ht]; rfl
  have hl : ps.length = 1 := by omega
  match ps, hl with
  | [q], _ =>
    have e : glue [q] ++ r = q ++ 112 :: r := by unfold glue; simp
    rw [e] at h
    obtain ⟨rfl, rfl⟩ := cut_unique (h.symm.trans h2) (hps _ List.mem_cons_self) hp
    exact ⟨rfl, rfl⟩
end Go.Proofs.YtnmjkjjmigiabaaGreatDoor

/- One step of a mode in double precision: its bits, how near it is to the exact step, and the walk of stepDouble; no NaN and no infinity is met.
   Conditions: those that each statement names. -/
namespace Go.Proofs.YtnmjkjjmigiabaaGreatDoor
set_option linter.unusedSimpArgs false
set_option linter.unusedVariables false
open Go Go.RowKit

def mulDre (a b c d : Nat) : Nat := opB .sub .f64 (opB .mul .f64 a c) (opB .mul .f64 b d)
def mulDim (a b c d : Nat) : Nat := opB .add .f64 (opB .mul .f64 a d) (opB .mul .f64 b c)
def stepD (m : M4) (s : Nat × Nat) (x : Nat) : Nat × Nat :=
  (opB .add .f64 (mulDre s.1 s.2 (wid m.pr) (wid m.pi)) (opB .mul .f64 (wid m.gr) x), opB .add .f64 (mulDim s.1 s.2 (wid m.pr) (wid m.pi)) (opB .mul .f64 (wid m.gi) x))

structure StepDOk (m : M4) (s : Nat × Nat) (x : Nat) : Prop where
  a1 : Calm .mul .f64 s.1 (wid m.pr)
  a2 : Calm .mul .f64 s.2 (wid m.pi)
  a3 : Calm .sub .f64 (opB .mul .f64 s.1 (wid m.pr)) (opB .mul .f64 s.2 (wid m.pi))
  a4 : Calm .mul .f64 s.1 (wid m.pi)
  a5 : Calm .mul .f64 s.2 (wid m.pr)
  a6 : Calm .add .f64 (opB .mul .f64 s.1 (wid m.pi)) (opB .mul .f64 s.2 (wid m.pr))
  c1 : Calm .mul .f64 (wid m.gr) x
  c2 : Calm .mul .f64 (wid m.gi) x
  c3 : Calm .add .f64 (mulDre s.1 s.2 (wid m.pr) (wid m.pi)) (opB .mul .f64 (wid m.gr) x)
  c4 : Calm .add .f64 (mulDim s.1 s.2 (wid m.pr) (wid m.pi)) (opB .mul .f64 (wid m.gi) x)

/-- the sums of the errors of one part, in plain numbers -/
theorem stepD_sum (D R H u v et es : Rat) (hD : 0 ≤ D) (hR : 0 ≤ R) (hH : 0 ≤ H) (u0 : 0 < u) (huv : u ≤ v / 536870912) (ve : v * 16777216 = 1) (e0 : 0 < et) (ee : et ≤ es / 1024) :
    0 ≤ R * u ∧ 0 ≤ D * u ∧ 0 ≤ H * u ∧ 0 ≤ et * u ∧ R * u ≤ R / 1048576 ∧ D * u ≤ D / 1048576 ∧ H * u ≤ H / 1048576 ∧ et * u ≤ et ∧ 
    (D + 2 * (2 * R * u + et)) * u + et + 2 * (2 * R * u + et) ≤ D / 1048576 + R / 65536 + es ∧
    (D + ((D + 2 * (2 * R * u + et)) * u + et + 2 * (2 * R * u + et)) + (H + (H * u + et))) * u + et + ((D + 2 * (2 * R * u + et)) * u + et + 2 * (2 * R * u + et)) + (H * u + et) ≤ (2 * D + 2 * H) * v + (D + R + H) * v / 1024 + 6 * es := by
  have hv : v = 1 / 16777216 := by grind
  subst hv
  have u1 : u ≤ 1 / 1048576 := by grind
  have k1 := Rat.mul_le_mul_of_nonneg_left huv hR
  have k2 := Rat.mul_nonneg hR (Rat.le_of_lt u0)
  have d1 := Rat.mul_le_mul_of_nonneg_left huv hD
  have d2 := Rat.mul_nonneg hD (Rat.le_of_lt u0)
  have h1 := Rat.mul_le_mul_of_nonneg_left huv hH
  have h2 := Rat.mul_nonneg hH (Rat.le_of_lt u0)
  have t1 := Rat.mul_le_mul_of_nonneg_left u1 (Rat.le_of_lt e0)
  have t2 := Rat.mul_nonneg (Rat.le_of_lt e0) (Rat.le_of_lt u0)
  have k3 := Rat.mul_le_mul_of_nonneg_left u1 k2
  have k4 := Rat.mul_nonneg k2 (Rat.le_of_lt u0)
  have k5 := Rat.mul_le_mul_of_nonneg_left u1 k4
  have d3 := Rat.mul_le_mul_of_nonneg_left u1 d2
  have d4 := Rat.mul_nonneg d2 (Rat.le_of_lt u0)
  have h3 := Rat.mul_le_mul_of_nonneg_left u1 h2
  have t3 := Rat.mul_le_mul_of_nonneg_left u1 t2
  refine ⟨k2, d2, h2, t2, by grind, by grind, by grind, by grind, by grind, by grind⟩

theorem partD_step (o : BinOp) (a c b d g x : Nat) (ha : Flo.Nm a) (hc : Flo.Nm c) (hb : Flo.Nm b) (hd : Flo.Nm d) (hg : Flo.Nm g) (hx : Flo.Nm x) (e D R H : Rat) (ho : (o = .sub ∧ e = Flo.W a * Flo.W c - Flo.W b * Flo.W d) ∨ (o = .add ∧ e = Flo.W a * Flo.W c + Flo.W b * Flo.W d))
    (h1 : Flo.Ab (Flo.W a * Flo.W c) (2 * R)) (h2 : Flo.Ab (Flo.W b * Flo.W d) (2 * R)) (he : Flo.Ab e D) (hH : Flo.Ab (Flo.W g * Flo.W x) H) (hRt : R ≤ Flo.pw 110) (hDt : D ≤ Flo.pw 112) (hHt : H ≤ Flo.pw 112) :
    Calm .mul .f64 a c ∧ Calm .mul .f64 b d ∧ Calm o .f64 (opB .mul .f64 a c) (opB .mul .f64 b d) ∧ Calm .mul .f64 g x ∧ Calm .add .f64 (opB o .f64 (opB .mul .f64 a c) (opB .mul .f64 b d)) (opB .mul .f64 g x) ∧
      Flo.Nm (opB .add .f64 (opB o .f64 (opB .mul .f64 a c) (opB .mul .f64 b d)) (opB .mul .f64 g x)) ∧
      Flo.Ab (Flo.W (opB .add .f64 (opB o .f64 (opB .mul .f64 a c) (opB .mul .f64 b d)) (opB .mul .f64 g x)) - (e + Flo.W g * Flo.W x)) ((2 * D + 2 * H) * Flo.v + (D + R + H) * Flo.v / 1024 + 6 * Flo.es) := by
  have hR0 : 0 ≤ R := by have := h1.nonneg; grind
  obtain ⟨s1, s2, s3, s4, s5, s6, s7, s8, s9, s10⟩ := stepD_sum D R H Flo.u Flo.v Flo.et Flo.es he.nonneg hR0 hH.nonneg Flo.u_pos uv Flo.v_eq Flo.et_pos small'.ee
  have l1 : Flo.pw 112 = 4 * Flo.pw 110 := by rw [show (112 : Int) = 2 + 110 from rfl, Flo.pw_add, show Flo.pw 2 = 4 from Flo.pw_nat 2]
  have l2 : Flo.pw 120 = 256 * Flo.pw 112 := by rw [show (120 : Int) = 8 + 112 from rfl, Flo.pw_add, show Flo.pw 8 = 256 from Flo.pw_nat 8]
  have l3 := Flo.pw_lt (a := 120) (b := 1023) (by omega)
  have l4 : 1 ≤ Flo.pw 110 := by rw [← Flo.pw_zero]; exact Flo.pw_le (by omega)
  have es1 := small'.es1
  have ee := small'.ee
  have et0 := Flo.et_pos
  obtain ⟨p, p1, p2, p3⟩ := Flo.d_mul a c ha hc (2 * R) h1 (by grind)
  obtain ⟨q, q1, q2, q3⟩ := Flo.d_mul b d hb hd (2 * R) h2 (by grind)
  obtain ⟨c1, b1⟩ := Calm.of p1
  obtain ⟨c2, b2⟩ := Calm.of q1
  obtain ⟨r, r1, r2, r3⟩ : ∃ r, floatBits o .f64 p q = some r ∧ Flo.Nm r ∧ Flo.Ab (Flo.W r - e) ((D + 2 * (2 * R * Flo.u + Flo.et)) * Flo.u + Flo.et + 2 * (2 * R * Flo.u + Flo.et)) := by
    rcases ho with ⟨rfl, rfl⟩ | ⟨rfl, rfl⟩
    · have hpq : Flo.Ab (Flo.W p - Flo.W q) (D + 2 * (2 * R * Flo.u + Flo.et)) := ((he.add (p3.sub q3)).eq (by grind)).mono (by grind)
      obtain ⟨r, r1, r2, r3⟩ := Flo.d_sub p q p2 q2 _ hpq (by grind)
      exact ⟨r, r1, r2, ((r3.add (p3.sub q3)).eq (by grind)).mono (by grind)⟩
    · have hpq : Flo.Ab (Flo.W p + Flo.W q) (D + 2 * (2 * R * Flo.u + Flo.et)) := ((he.add (p3.add q3)).eq (by grind)).mono (by grind)
      obtain ⟨r, r1, r2, r3⟩ := Flo.d_add p q p2 q2 _ hpq (by grind)
      exact ⟨r, r1, r2, ((r3.add (p3.add q3)).eq (by grind)).mono (by grind)⟩
  obtain ⟨c3, b3⟩ := Calm.of r1
  obtain ⟨y, y1, y2, y3⟩ := Flo.d_mul g x hg hx H hH (by grind)
  obtain ⟨c4, b4⟩ := Calm.of y1
  have hs : Flo.Ab (Flo.W r + Flo.W y) (D + ((D + 2 * (2 * R * Flo.u + Flo.et)) * Flo.u + Flo.et + 2 * (2 * R * Flo.u + Flo.et)) + (H + (H * Flo.u + Flo.et))) := ((he.add r3).add (hH.add y3)).eq (by grind)
  obtain ⟨z, z1, z2, z3⟩ := Flo.d_add r y r2 y2 _ hs (by grind)
  obtain ⟨c5, b5⟩ := Calm.of z1
  rw [← b1, ← b2] at c3 b3
  rw [← b3, ← b4] at c5 b5
  refine ⟨c1, c2, c3, c4, c5, by rw [b5]; exact z2, ?_⟩
  rw [b5]
  exact (((z3.add r3).add y3).eq (by grind)).mono s10

/-- ONE STEP OF A VALID MODE, in double precision. -/
theorem stepD_ok (m : M4) (hm : m.ok) (s : Nat × Nat) (x : Nat) (h1 : Flo.Nm s.1) (h2 : Flo.Nm s.2) (hx : Flo.Nm x) (R D H : Rat) (r1 : Flo.Ab (Flo.W s.1) R) (r2 : Flo.Ab (Flo.W s.2) R)
    (d1 : Flo.Ab (Flo.W s.1 * S m.pr - Flo.W s.2 * S m.pi) D) (d2 : Flo.Ab (Flo.W s.1 * S m.pi + Flo.W s.2 * S m.pr) D) (g1 : Flo.Ab (S m.gr * Flo.W x) H) (g2 : Flo.Ab (S m.gi * Flo.W x) H) (hRt : R ≤ Flo.pw 110) (hDt : D ≤ Flo.pw 112) (hHt : H ≤ Flo.pw 112) :
    StepDOk m s x ∧ Flo.Nm (stepD m s x).1 ∧ Flo.Nm (stepD m s x).2 ∧
      Flo.Ab (Flo.W (stepD m s x).1 - (Flo.W s.1 * S m.pr - Flo.W s.2 * S m.pi + S m.gr * Flo.W x)) ((2 * D + 2 * H) * Flo.v + (D + R + H) * Flo.v / 1024 + 6 * Flo.es) ∧
      Flo.Ab (Flo.W (stepD m s x).2 - (Flo.W s.1 * S m.pi + Flo.W s.2 * S m.pr + S m.gi * Flo.W x)) ((2 * D + 2 * H) * Flo.v + (D + R + H) * Flo.v / 1024 + 6 * Flo.es) := by
  obtain ⟨n1, n2, n3, n4⟩ := hm.nums
  obtain ⟨q1, q2⟩ := hm.pole
  obtain ⟨m1, v1⟩ := wid_num n1
  obtain ⟨m2, v2⟩ := wid_num n2
  obtain ⟨m3, v3⟩ := wid_num n3
  obtain ⟨m4, v4⟩ := wid_num n4
  rw [← v1] at d1 d2 q1 ⊢
  rw [← v2] at d1 d2 q2 ⊢
  rw [← v3] at g1 ⊢
  rw [← v4] at g2 ⊢
  have k1 : Flo.Ab (Flo.W s.1 * Flo.W (wid m.pr)) (2 * R) := (r1.mul q1).mono (by grind)
  have k2 : Flo.Ab (Flo.W s.2 * Flo.W (wid m.pi)) (2 * R) := (r2.mul q2).mono (by grind)
  have k3 : Flo.Ab (Flo.W s.1 * Flo.W (wid m.pi)) (2 * R) := (r1.mul q2).mono (by grind)
  have k4 : Flo.Ab (Flo.W s.2 * Flo.W (wid m.pr)) (2 * R) := (r2.mul q1).mono (by grind)
  obtain ⟨a1, a2, a3, a4, a5, a6, a7⟩ := partD_step .sub s.1 (wid m.pr) s.2 (wid m.pi) (wid m.gr) x h1 m1 h2 m2 m3 hx _ D R H (.inl ⟨rfl, rfl⟩) k1 k2 d1 g1 hRt hDt hHt
  obtain ⟨b1, b2, b3, b4, b5, b6, b7⟩ := partD_step .add s.1 (wid m.pi) s.2 (wid m.pr) (wid m.gi) x h1 m2 h2 m1 m4 hx _ D R H (.inr ⟨rfl, rfl⟩) k3 k4 d2 g2 hRt hDt hHt
  exact ⟨⟨a1, a2, a3, b1, b2, b3, a4, b4, a5, b5⟩, a6, b6, a7, b7⟩

/-! ### the walks -/
end Go.Proofs.YtnmjkjjmigiabaaGreatDoor
