/- The walk of impl.PowerDouble, where each product is told.
   Conditions: those that each statement names. -/
import Derived.Test.YtlhhcchncobmhaaFitW
import Derived.Shelf.Small.Bits
namespace Go.Proofs.Ytlhhcchncobmhaa
set_option linter.unusedSimpArgs false
set_option linter.unusedVariables false
open Go Go.RowKit

/-! ### the shelf's contract of bits.Len, laid at this program -/
def lenRen : Go.Shelf.Ren := ⟨fun | 125 => 100 | 128 => 120 | 129 => 121 | n => n, fun | 3 => 3 | 4 => 4 | 5 => 5 | 9 => 9 | 46 => 143 | 51 => 153 | 53 => 155 | n => n, fun n => n⟩
theorem lenLays : Lays.n125 Try.prog lenRen :=
  { mixed := by kernel_rfl
    f125 := Try.func100.trans (congrArg some (by kernel_rfl))
    f128 := Try.func120.trans (congrArg some (by kernel_rfl))
    f129 := Try.func121.trans (congrArg some (by kernel_rfl))
    t3 := Try.underlying3
    a3 := Try.isAgg3
    z3 := Try.sizeOf3
    v3 := Try.zeroValue3
    t4 := Try.underlying4
    a4 := Try.isAgg4
    z4 := Try.sizeOf4
    v4 := Try.zeroValue4
    t5 := Try.underlying5
    a5 := Try.isAgg5
    z5 := Try.sizeOf5
    v5 := Try.zeroValue5
    t9 := Try.underlying9
    a9 := Try.isAgg9
    z9 := Try.sizeOf9
    v9 := Try.zeroValue9
    t46 := Try.underlying143
    a46 := Try.isAgg143
    z46 := Try.sizeOf143
    v46 := Try.zeroValue143
    t51 := Try.underlying153
    a51 := Try.isAgg153
    z51 := Try.sizeOf153
    v51 := Try.zeroValue153
    t53 := Try.underlying155
    a53 := Try.isAgg155
    z53 := Try.sizeOf155
    v53 := Try.zeroValue155 }
theorem bitsLen (x : Nat) (w : World) (h : x < 2 ^ 64) : Calls Try.prog 100 #[.int .u64 (x : Int)] w fun e w' => e = .returned (.int .i64 (Lib.bitLen x)) ∧ w' = w := by
  exact Any.bits_Len lenLays (x : Int) w (by omega) (by omega)

/-- the products of a power by squares, told: P m is the power of m, Q m its square -/
def PowTold (z : Nat × Nat) (n : Nat) (P Q : Nat → Nat × Nat) : Prop :=
  P 0 = (4607182418800017408, 0) ∧ (∀ m, 2 * m ≤ n → mulC (fabC (P m)) (fabC (P m)) = (some (Q m).1, some (Q m).2)) ∧ (∀ m, 2 * m + 1 ≤ n → mulC (fabC (Q m)) (fabC z) = (some (P (2 * m + 1)).1, some (P (2 * m + 1)).2)) ∧ ∀ m, m ≠ 0 → P (2 * m) = Q m
def PowI (n : Nat) (P : Nat → Nat × Nat) (w : World) (p i : Value) (wr : World) : Prop := ∃ j : Nat, j ≤ Lib.bitLen n ∧ i = .int .i64 ((j : Int) - 1) ∧ p = .complex .f64 (P (n / 2 ^ j)).1 (P (n / 2 ^ j)).2 ∧ ∃ q, wr = w.drewN q
theorem bitLen_spec : ∀ (f x : Nat), x < 2 ^ f → f ≤ 64 → Lib.bitLen x ≤ f ∧ x < 2 ^ Lib.bitLen x
  | 0, x, h, _ => by
    obtain rfl : x = 0 := by simpa using h
    exact ⟨by decide, by decide⟩
  | f + 1, x, h, hf => by
    by_cases h0 : x = 0
    · subst h0
      exact ⟨by rw [show Lib.bitLen 0 = 0 by decide]; omega, by decide⟩
    · have h2 : x < 2 ^ 64 := Nat.lt_of_lt_of_le h (Nat.pow_le_pow_right (by omega) hf)
      obtain ⟨a, b⟩ := bitLen_spec f (x / 2) (by rw [Nat.pow_succ] at h; omega) (by omega)
      rw [Lib.bitLen_half x h0 h2]
      refine ⟨by omega, ?_⟩
      rw [Nat.add_comm, Nat.pow_succ]
      omega
theorem bits_one (n j : Nat) : bits .and .i64 ((n : Int) / 2 ^ j) 1 = ((n / 2 ^ j % 2 : Nat) : Int) := by
  have e : (n : Int) / 2 ^ j = ((n / 2 ^ j : Nat) : Int) := by push_cast; rfl
  rw [e]
  generalize n / 2 ^ j = a
  have e1 : (BitVec.ofInt 64 (a : Int) &&& BitVec.ofInt 64 1).toNat = a % 2 := by
    rw [BitVec.toNat_and, BitVec.ofInt_natCast, BitVec.toNat_ofNat, show (BitVec.ofInt 64 1).toNat = 1 by decide, Nat.and_one_is_mod]
    omega
  show IntKind.i64.wrap (((BitVec.ofInt 64 (a : Int) &&& BitVec.ofInt 64 1).toNat : Nat) : Int) = _
  rw [e1]
  rcases Nat.mod_two_eq_zero_or_one a with h | h <;> rw [h] <;> rfl
set_option maxRecDepth 100000 in
theorem powerOf_ok (z : Nat × Nat) (n : Nat) (hn : n ≤ 100000) (P Q : Nat → Nat × Nat) (h : PowTold z n P Q) (w : World) :
    Calls Try.prog 73 #[.complex .f64 z.1 z.2, .int .i64 (n : Int), .func (.func 22) #[] #[]] w fun e w' => e = .returned (.tuple #[.complex .f64 (P n).1 (P n).2, .bool true]) ∧ ∃ q, w' = w.drewN q := by
  have H := Lib.hid h
  obtain ⟨hb1, hb2⟩ := bitLen_spec 17 n (by omega) (by omega)
  have Hb2 := Lib.hid hb2
  clear h hb2
  have h1 : ¬ (n : Int) < 0 := by omega
  have h2 : ¬ (100000 : Int) < (n : Int) := by omega
  go_enter Try.func73, Try.ntmps73
  go_wp2_with (go_at_call 100; refine (bitsLen n _ (by omega)).mono ?_; rintro e w1 ⟨rfl, rfl⟩)
  go_loopw [8, 9] (fun p i wr => PowI n P w1 p i wr) (fun p i _ => (intOf i + 1).toNat)
  case atStart => exact ⟨Lib.bitLen n, Nat.le_refl _, rfl, by rw [Nat.div_eq_of_lt Hb2.out, H.out.1], 0, rfl⟩
  case round =>
    obtain ⟨j, hj, rfl, rfl, q, rfl⟩ := hrel
    rcases j with _ | j
    · rw [show n / 2 ^ 0 = n from by simp]
      go_wp2_with fail
      go_ret2
      exact ⟨rfl, _, rfl⟩
    · have em : n / 2 ^ j / 2 = n / 2 ^ (j + 1) := by rw [Nat.pow_succ, Nat.div_div_eq_div_mul]
      have hle : n / 2 ^ j ≤ n := Nat.div_le_self _ _
      have hsq := H.out.2.1 (n / 2 ^ (j + 1)) (by omega)
      obtain ⟨pm, hpm⟩ : ∃ pm, pm = P (n / 2 ^ (j + 1)) := ⟨_, rfl⟩
      obtain ⟨qm, hqm⟩ : ∃ qm, qm = Q (n / 2 ^ (j + 1)) := ⟨_, rfl⟩
      rw [← hpm, ← hqm] at hsq
      rw [← hpm]
      have Hsq := Lib.hid hsq
      have Hpm := Lib.hid (And.intro hpm hqm)
      clear hsq hpm hqm
      have ej : ((j + 1 : Nat) : Int) - 1 = (j : Int) := by omega
      have hj0 : (0 : Int) ≤ (j : Int) := by omega
      have hm0 : n / 2 ^ j ≠ 0 := by
        intro h0
        have h1 := (Nat.div_eq_zero_iff).1 h0
        have h2 := bitLen_spec j n (by rcases h1 with h | h; have := Nat.pos_of_ne_zero (show 2 ^ j ≠ 0 by simp); omega; exact h) (by omega)
        omega
      have hj1 : (j : Int) < 17 := by omega
      rw [ej]
      by_cases hbit : n / 2 ^ j % 2 = 1
      · have hb : bits .and .i64 ((n : Int) / 2 ^ j) 1 = 1 := by rw [bits_one, hbit]; rfl
        have hodd := H.out.2.2.1 (n / 2 ^ (j + 1)) (by omega)
        rw [← Hpm.out.2, show 2 * (n / 2 ^ (j + 1)) + 1 = n / 2 ^ j from by omega] at hodd
        obtain ⟨rm, hrm⟩ : ∃ rm, rm = P (n / 2 ^ j) := ⟨_, rfl⟩
        rw [← hrm] at hodd
        have Hodd := Lib.hid hodd
        have Hrm := Lib.hid hrm
        clear hodd hrm
        go_wp2_with (go_at_call 22; first
          | (with_reducible refine (implMul_some pm pm qm Hsq.out _).mono ?_; rintro e w2 ⟨rfl, n2, rfl⟩)
          | (with_reducible refine (implMul_some qm z rm Hodd.out _).mono ?_; rintro e w3 ⟨rfl, n3, rfl⟩))
        exact ⟨⟨j, by omega, rfl, by rw [← Hrm.out], _, rfl⟩, by simp only [intOf]; omega⟩
      · have hne : n / 2 ^ (j + 1) ≠ 0 := by omega
        have hb : bits .and .i64 ((n : Int) / 2 ^ j) 1 = 0 := by rw [bits_one, show n / 2 ^ j % 2 = 0 from by omega]; rfl
        go_wp2_with (go_at_call 22; with_reducible refine (implMul_some pm pm qm Hsq.out _).mono ?_; rintro e w2 ⟨rfl, n2, rfl⟩)
        exact ⟨⟨j, by omega, rfl, by rw [Hpm.out.2, ← H.out.2.2.2 _ hne, show 2 * (n / 2 ^ (j + 1)) = n / 2 ^ j from by omega], _, rfl⟩, by simp only [intOf]; omega⟩

theorem powerDouble_ok (z : Nat × Nat) (n : Nat) (hn : n ≤ 100000) (P Q : Nat → Nat × Nat) (h : PowTold z n P Q) (w : World) :
    Calls Try.prog 34 #[.complex .f64 z.1 z.2, .int .i64 (n : Int)] w (FitP (P n) w) := by
  have C := fun w => powerOf_ok z n hn P Q h w
  go_enter Try.func34, Try.ntmps34
  go_wp2_with (go_at_call 73; refine (C _).mono ?_; rintro e w1 ⟨rfl, q, rfl⟩)
  go_ret2
  exact ⟨rfl, (Nw.refl _).draw _⟩

end Go.Proofs.Ytlhhcchncobmhaa
