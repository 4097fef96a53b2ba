/- FormatDouble, the program's and the model's, of any number.
   Conditions: those that each statement names. -/
import Derived.Test.YtjmignhcfmdcaaaDoorOdd
namespace Go.Proofs.YtjmignhcfmdcaaaDoor
set_option linter.unusedSimpArgs false
set_option linter.unusedVariables false
open Go Go.RowKit

def sgn (sg : Bool) : List Int := if sg then [45] else []
/-- the text of a number that is not 0 -/
def FmtT (sg : Bool) (V : Rat) (w : World) (e : Ending) (w' : World) : Prop :=
  ∃ (a : Nat) (q : Int), a % 2 = 1 ∧ a < 9007199254740992 ∧ (a : Rat) * Flo.pw q = V ∧ -2000 ≤ q ∧ q ≤ 2000 ∧ e = .returned (.string (strOfNums (sgn sg ++ (dgs a ++ 112 :: numL q)))) ∧ Nw w w'

theorem add_str (xs ys : List Int) (hx : xs.length ≤ 100) (hy : ys.length ≤ 100) (w : World) : (Op.stringOp .add (strOfNums xs) (strOfNums ys)).run Tryd.prog w = .ok (.string (strOfNums (xs ++ ys))) w := by
  rw [run_string_add _ _ _ (by rw [strOfNums_size]; omega) (by rw [strOfNums_size]; omega), str_app]

theorem tabs_draw {w w' : World} (h : Nw w w') (t : Lib.TabIs Tryd.prog w "internal/strconv.uint64pow10" .u64 Lib.pow10Tab) : Lib.TabIs Tryd.prog w' "internal/strconv.uint64pow10" .u64 Lib.pow10Tab := tab_nw h t

theorem abs_rd (x m : Nat) (sg : Bool) (p : Int) (h : Ieee.double.read x = .number sg m p) : Ieee.double.read (x % signBit) = .number false m p := by
  show FloatKind.f64.decode (x % signBit) = _
  rw [mod_read, show FloatKind.f64.decode x = _ from h]
theorem sign_bit (x m : Nat) (sg : Bool) (p : Int) (hx : x < 18446744073709551616) (h : Ieee.double.read x = .number sg m p) : decide (2 ^ 63 ≤ x) = sg := by
  obtain ⟨s, hs, hsg, hc⟩ := word_cases x m sg p hx h
  rcases Nat.lt_or_ge s 1 with g | g
  · obtain rfl : s = 0 := by omega
    rw [hsg]
    rcases hc with ⟨hx1, hm2, hp⟩ | ⟨E, F, hx1, k1, k2, k3, k4, k5⟩
    · simp; omega
    · simp; omega
  · obtain rfl : s = 1 := by omega
    rw [hsg]
    rcases hc with ⟨hx1, hm2, hp⟩ | ⟨E, F, hx1, k1, k2, k3, k4, k5⟩
    · simp; omega
    · simp; omega

set_option maxRecDepth 100000 in
theorem implFormat_ok (x m : Nat) (sg : Bool) (p : Int) (hx : x < 18446744073709551616) (h : Ieee.double.read x = .number sg m p) (hm : m ≠ 0) (w : World) (hT : TabAt 1 Lib.deBruijn64tab w) (ht : Lib.TabIs Tryd.prog w "internal/strconv.uint64pow10" .u64 Lib.pow10Tab) :
    Calls Tryd.prog 10 #[.float .f64 x] w (FmtT sg ((m : Rat) * Flo.pw p) w) := by
  have hx' : x < 2 ^ 64 := hx
  have hf : fin .f64 x = true := fin_num ⟨_, _, _, h⟩
  have h0 := ne0_num x m sg p h hm
  have hs := sign_bit x m sg p hx h
  have ha := abs_rd x m sg p h
  have hxa : x % signBit < 18446744073709551616 := Nat.lt_of_le_of_lt (Nat.mod_le _ _) hx
  have H := Lib.hid (And.intro ha (And.intro hm hT))
  have T := Lib.hid ht
  clear h hm hT ht ha
  cases sg
  all_goals
    go_enter Tryd.func10, Tryd.ntmps10
    go_wp2_with (first
      | (go_at_call 20; refine (isFinitePart_any _ _ hx').mono ?_; rintro e w' ⟨rfl, rfl⟩; rw [hf])
      | (go_at_call 21; refine (signbit_any _ hx' _).mono ?_; rintro e w' ⟨rfl, rfl⟩; rw [hs])
      | (go_at_call 23; refine (abs_any _ _ hx').mono ?_; rintro e w' ⟨rfl, rfl⟩))
    go_at_call 22
    refine (oddPart_ok _ m p hxa H.out.1 H.out.2.1 _ H.out.2.2).mono ?_
    rintro e w1 ⟨a, q, rfl, g1, g2, g3, g4, g5, n, rfl⟩
    have hau : a < 18446744073709551616 := by omega
    have ha1 : 1 ≤ a := by omega
    have A := Lib.hid (And.intro g1 (And.intro g2 g3))
    have l1 := dgs_len 17 a (by omega)
    have l2 := numL_len q ⟨g4, g5⟩
    have s0 : (⟨#[]⟩ : ByteArray) = strOfNums [] := rfl
    have s1 : (⟨#[45]⟩ : ByteArray) = strOfNums [45] := rfl
    have s2 : (⟨#[112]⟩ : ByteArray) = strOfNums [112] := rfl
    have c1 : ∀ w, (Op.stringOp .add (⟨#[]⟩ : ByteArray) (strOfNums (dgs a))).run Tryd.prog w = .ok (.string (strOfNums (dgs a))) w := fun w => by rw [s0, add_str _ _ (by simp) (by omega)]; rfl
    have c1' : ∀ w, (Op.stringOp .add (⟨#[45]⟩ : ByteArray) (strOfNums (dgs a))).run Tryd.prog w = .ok (.string (strOfNums (45 :: dgs a))) w := fun w => by rw [s1, add_str _ _ (by simp) (by omega)]; rfl
    have c2 : ∀ w, (Op.stringOp .add (strOfNums (dgs a)) (⟨#[112]⟩ : ByteArray)).run Tryd.prog w = .ok (.string (strOfNums (dgs a ++ [112]))) w := fun w => by rw [s2, add_str _ _ (by omega) (by simp)]
    have c2' : ∀ w, (Op.stringOp .add (strOfNums (45 :: dgs a)) (⟨#[112]⟩ : ByteArray)).run Tryd.prog w = .ok (.string (strOfNums (45 :: (dgs a ++ [112])))) w := fun w => by rw [s2, add_str _ _ (by simp; omega) (by simp)]; rfl
    have c3 : ∀ w, (Op.stringOp .add (strOfNums (dgs a ++ [112])) (strOfNums (numL q))).run Tryd.prog w = .ok (.string (strOfNums (dgs a ++ 112 :: numL q))) w := fun w => by rw [add_str _ _ (by simp; omega) (by omega)]; simp
    have c3' : ∀ w, (Op.stringOp .add (strOfNums (45 :: (dgs a ++ [112]))) (strOfNums (numL q))).run Tryd.prog w = .ok (.string (strOfNums (45 :: (dgs a ++ 112 :: numL q)))) w := fun w => by rw [add_str _ _ (by simp; omega) (by omega)]; simp
    clear l1 l2 s0 s1 s2 g1 g2 g3
    go_wp2_with fail
    refine (fmtU_ok a ha1 hau _ (tab_nw ((Nw.refl w).draw _) T.out)).mono ?_
    rintro e w2 ⟨rfl, n2⟩
    have N2 := Lib.hid (((Nw.refl w).draw n).trans n2)
    clear n2
    go_wp2_with fail
    refine (itoa_ok q ⟨g4, g5⟩ _ (tab_nw N2.out T.out)).mono ?_
    rintro e w3 ⟨rfl, n3⟩
    have N3 := Lib.hid (N2.out.trans n3)
    clear n3
    go_wp2_with fail
    go_ret
    exact ⟨a, q, A.out.1, A.out.2.1, A.out.2.2, g4, g5, rfl, N3.out⟩

set_option maxRecDepth 100000 in
theorem specFormat_ok (x m : Nat) (sg : Bool) (p : Int) (hx : x < 18446744073709551616) (h : Ieee.double.read x = .number sg m p) (hm : m ≠ 0) (w : World) :
    Calls Tryd.prog 9 #[.float .f64 x] w (FmtT sg ((m : Rat) * Flo.pw p) w) := by
  have hx' : x < 2 ^ 64 := hx
  have hf : fin .f64 x = true := fin_num ⟨_, _, _, h⟩
  have e1 := ne0_num x m sg p h hm
  have hmp : 0 < (m : Rat) * Flo.pw p := by
    have h1 : (0 : Rat) < (m : Rat) := by exact_mod_cast Nat.pos_of_ne_zero hm
    exact Rat.mul_pos h1 (Flo.pw_pos p)
  have o := Flo.order_num Ieee.double x 0 ⟨_, _, _, h⟩ zero_num.1
  rw [show Flo.V Ieee.double 0 = 0 from zero_num.2] at o
  have hV := Flo.V_eq h
  have e2 : (FloatKind.f64.format.order x 0 == some .lt) = sg := by
    cases sg
    · have : FloatKind.f64.format.order x 0 = some .gt := o.2.2.2 (by rw [hV]; unfold Flo.val; simp; exact hmp)
      rw [this]; rfl
    · have : FloatKind.f64.format.order x 0 = some .lt := o.1.2 (by rw [hV]; unfold Flo.val; simp; grind)
      rw [this]; rfl
  have hl : ∃ m' p', Ieee.double.read (labs x) = .number false m' p' ∧ m' ≠ 0 ∧ (m' : Rat) * Flo.pw p' = (m : Rat) * Flo.pw p := by
    obtain ⟨⟨s', m', p', r⟩, v⟩ := labs_num x hx' ⟨_, _, _, h⟩
    have v1 : ra (Flo.W x) = (m : Rat) * Flo.pw p := by
      rw [show Flo.W x = _ from hV]
      unfold Flo.val ra
      cases sg
      · simp; grind
      · simp; grind
    rw [v1, show Flo.W (labs x) = _ from Flo.V_eq r] at v
    have nn := Flo.mag_nonneg m' p'
    cases s'
    · unfold Flo.val at v
      simp at v
      refine ⟨m', p', r, ?_, v⟩
      rintro rfl
      simp at v
      grind
    · exfalso
      unfold Flo.val at v
      simp at v
      grind
  obtain ⟨m', p', r, hm', hv⟩ := hl
  have H := Lib.hid (And.intro r (And.intro hm' hv))
  clear h hm o hV hmp r hm' hv
  cases sg
  all_goals
    go_enter Tryd.func9, Tryd.ntmps9
    go_wp2_with fail
    refine (l1Finite_any _ _).mono ?_
    rintro e w1 ⟨rfl, n1, rfl⟩
    rw [hf]
    go_wp2_with fail
    refine (l1Abs_any _ _).mono ?_
    rintro e w2 ⟨rfl, rfl⟩
    go_wp2_with fail
    refine (l1Parts_any _ m' p' H.out.1 H.out.2.1 _).mono ?_
    rw [H.out.2.2]
    rintro e w3 ⟨a, q, rfl, ha, ha53, hv, hq1, hq2, rfl⟩
    have A := Lib.hid (And.intro ha (And.intro ha53 hv))
    have l1 := dgs_len 17 a (by omega)
    have l2 := numL_len q ⟨hq1, hq2⟩
    have s0 : (⟨#[]⟩ : ByteArray) = strOfNums [] := rfl
    have s1 : (⟨#[45]⟩ : ByteArray) = strOfNums [45] := rfl
    have s2 : (⟨#[112]⟩ : ByteArray) = strOfNums [112] := rfl
    have c1 : ∀ w, (Op.stringOp .add (⟨#[]⟩ : ByteArray) (strOfNums (dgs a))).run Tryd.prog w = .ok (.string (strOfNums (dgs a))) w := fun w => by rw [s0, add_str _ _ (by simp) (by omega)]; rfl
    have c1' : ∀ w, (Op.stringOp .add (⟨#[45]⟩ : ByteArray) (strOfNums (dgs a))).run Tryd.prog w = .ok (.string (strOfNums (45 :: dgs a))) w := fun w => by rw [s1, add_str _ _ (by simp) (by omega)]; rfl
    have c2 : ∀ w, (Op.stringOp .add (strOfNums (dgs a)) (⟨#[112]⟩ : ByteArray)).run Tryd.prog w = .ok (.string (strOfNums (dgs a ++ [112]))) w := fun w => by rw [s2, add_str _ _ (by omega) (by simp)]
    have c2' : ∀ w, (Op.stringOp .add (strOfNums (45 :: dgs a)) (⟨#[112]⟩ : ByteArray)).run Tryd.prog w = .ok (.string (strOfNums (45 :: (dgs a ++ [112])))) w := fun w => by rw [s2, add_str _ _ (by simp; omega) (by simp)]; rfl
    have c3 : ∀ w, (Op.stringOp .add (strOfNums (dgs a ++ [112])) (strOfNums (numL q))).run Tryd.prog w = .ok (.string (strOfNums (dgs a ++ 112 :: numL q))) w := fun w => by rw [add_str _ _ (by simp; omega) (by omega)]; simp
    have c3' : ∀ w, (Op.stringOp .add (strOfNums (45 :: (dgs a ++ [112]))) (strOfNums (numL q))).run Tryd.prog w = .ok (.string (strOfNums (45 :: (dgs a ++ 112 :: numL q)))) w := fun w => by rw [add_str _ _ (by simp; omega) (by omega)]; simp
    clear ha ha53 hv l1 l2 s0 s1 s2
    go_wp2_with fail
    refine (l1Number_ok a (by have := A.out.2.1; omega) _).mono ?_
    rintro e w4 ⟨rfl, n4⟩
    have N4 := Lib.hid (((Nw.refl w).draw _).trans n4)
    clear n4
    go_wp2_with fail
    refine (l1Num_any q ⟨hq1, hq2⟩ _).mono ?_
    rintro e w5 ⟨rfl, n5⟩
    have N5 := Lib.hid (N4.out.trans n5)
    clear n5
    go_wp2_with fail
    go_ret
    exact ⟨a, q, A.out.1, A.out.2.1, A.out.2.2, hq1, hq2, rfl, N5.out⟩

end Go.Proofs.YtjmignhcfmdcaaaDoor
