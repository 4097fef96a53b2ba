/- Texts of a proof, put together: PdT, PdL.
   Conditions: those that each statement names. -/
import Derived.Test.YtjmignhcfmdcaaaDoorKParseDE4
/- The model's ParseDouble: where the string is the text of a finite double, that double and true; else 0 and false. The law FnExactParseDouble as a call.
   Conditions: those that each statement names. -/
namespace Go.Proofs.YtjmignhcfmdcaaaDoor
set_option linter.unusedSimpArgs false
set_option linter.unusedVariables false
open Go Go.RowKit

theorem minus_ok (w : World) : Calls Tryd.prog 26 #[] w fun e w' => e = .returned (.float .f64 9223372036854775808) ∧ w = w' := by
  have e : Op.negFloat .f64 0 = 9223372036854775808 := by decide
  go_enter Tryd.func26, Tryd.ntmps26
  go_wp2_with fail
  go_ret
  exact ⟨by first | rfl | (rw [e]; rfl), rfl⟩

theorem spec_zero (s : ByteArray) (y : Nat) (hs : (y = 0 ∧ s = ⟨#[48]⟩) ∨ (y = 9223372036854775808 ∧ s = ⟨#[45, 48]⟩)) (w : World) :
    Calls Tryd.prog 14 #[.string s] w fun e w' => e = .returned (.tuple #[.float .f64 y, .bool true]) ∧ Nw w w' := by
  rcases hs with ⟨rfl, rfl⟩ | ⟨rfl, rfl⟩
  · have g1 : ((⟨#[48]⟩ : ByteArray).toList == [48]) = true := by rw [ByteArray.toList_eq]; rfl
    go_enter Tryd.func14, Tryd.ntmps14
    go_wp2_with fail
    go_ret2
    exact ⟨rfl, Nw.refl _⟩
  · have g1 : ((⟨#[45, 48]⟩ : ByteArray).toList == [48]) = false := by rw [ByteArray.toList_eq]; rfl
    have g2 : ((⟨#[45, 48]⟩ : ByteArray).toList == [45, 48]) = true := by rw [ByteArray.toList_eq]; rfl
    go_enter Tryd.func14, Tryd.ntmps14
    go_wp2_with fail
    refine (minus_ok _).mono ?_
    rintro e w1 ⟨rfl, rfl⟩
    go_wp2_with fail
    go_ret2
    exact ⟨rfl, Nw.refl _⟩

theorem exp_bounds {y m a : Nat} {sg : Bool} {p q : Int} (ry : Ieee.double.read y = .number sg m p) (ha : a % 2 = 1) (hv : (a : Rat) * Flo.pw q = (m : Rat) * Flo.pw p) : -1074 ≤ q ∧ q ≤ 1023 ∧ (a : Rat) * Flo.pw q < Flo.pw 1024 := by
  obtain ⟨b1, b2, b3⟩ := Flo.read_bound Ieee.double (by decide) y sg m p ry
  rw [Flo.lp_double] at b2
  have hmax := num_le_max y sg m p ry
  have h24 : ((9007199254740991 : Nat) : Rat) * Flo.pw 971 < Flo.pw 1024 := by
    have e : Flo.pw 1024 = ((9007199254740992 : Nat) : Rat) * Flo.pw 971 := by
      rw [show (1024 : Int) = 971 + (53 : Nat) from by omega, Flo.pw_add, Flo.pw_nat, show ((2 ^ 53 : Nat) : Rat) = ((9007199254740992 : Nat) : Rat) from rfl]; grind
    rw [e]
    exact Rat.mul_lt_mul_of_pos_right (by decide) (Flo.pw_pos 971)
  have hlt : (a : Rat) * Flo.pw q < Flo.pw 1024 := by rw [hv]; grind
  refine ⟨?_, ?_, hlt⟩
  · rcases Int.lt_or_le q p with g | g
    · exfalso
      obtain ⟨d, hd⟩ := Int.eq_ofNat_of_zero_le (show 0 ≤ p - q - 1 by omega)
      have e : p = q + ((d + 1 : Nat) : Int) := by omega
      rw [e, Flo.pw_add, Flo.pw_nat] at hv
      have p0 := Flo.pw_pos q
      have h2 : (a : Rat) = (m : Rat) * ((2 ^ (d + 1) : Nat) : Rat) := by
        have := Rat.mul_inv_cancel (Flo.pw q) (by grind)
        have k : (a : Rat) * Flo.pw q * (Flo.pw q)⁻¹ = (m : Rat) * (Flo.pw q * ((2 ^ (d + 1) : Nat) : Rat)) * (Flo.pw q)⁻¹ := by rw [hv]
        grind
      have h3 : a = m * 2 ^ (d + 1) := by exact_mod_cast h2
      rw [Nat.pow_succ, ← Nat.mul_assoc] at h3
      omega
    · omega
  · have a1 : (1 : Rat) ≤ (a : Rat) := by exact_mod_cast (show 1 ≤ a by omega)
    have := Rat.mul_le_mul_of_nonneg_right a1 (Rat.le_of_lt (Flo.pw_pos q))
    have k : Flo.pw q < Flo.pw 1024 := by grind
    have := Flo.lt_of_pw_lt k
    omega

theorem not_zero_text (sg : Bool) (a : Nat) (q : Int) (ha : a < 10 ^ 17) (hq : -2000 ≤ q ∧ q ≤ 2000) :
    ((strOfNums (sgn sg ++ (dgs a ++ 112 :: numL q))).toList == [48]) = false ∧ ((strOfNums (sgn sg ++ (dgs a ++ 112 :: numL q))).toList == [45, 48]) = false ∧ (strOfNums (sgn sg ++ (dgs a ++ 112 :: numL q))).size ≤ 60 := by
  have tl := text_len sg a q ha hq
  have sz : (strOfNums (sgn sg ++ (dgs a ++ 112 :: numL q))).size = (sgn sg ++ (dgs a ++ 112 :: numL q)).length := strOfNums_size _
  refine ⟨str_ne (by
    intro h; rw [h] at sz; have : (⟨#[48]⟩ : ByteArray).size = 1 := rfl; rw [show ([48] : List UInt8).toArray = #[48] from rfl] at sz; omega), str_ne (by
    intro h; rw [h] at sz; have : (⟨#[45, 48]⟩ : ByteArray).size = 2 := rfl; rw [show ([45, 48] : List UInt8).toArray = #[45, 48] from rfl] at sz; omega), by omega⟩

/-- the two numbers of a text -/
theorem text_nums {sg : Bool} {a : Nat} {q : Int} (ha : a % 2 = 1) (ha16 : a < 10 ^ 16) (hq : q.natAbs < 10 ^ 16) {p r : List UInt8} {n1 n2 : Int} (h : byts (sgn sg ++ (dgs a ++ 112 :: numL q)) = p ++ 112 :: r) (hp : 112 ∉ p) (r1 : ReadN p n1) (r2 : ReadN r n2) :
    n1 = (if sg then -(a : Int) else (a : Int)) ∧ n2 = q := by
  obtain ⟨rfl, rfl⟩ := cut_unique (h.symm.trans form_cut) hp (fun hm => pre_no_p sg a (by omega) _ hm rfl)
  have k1 := r1 sg a ha16 (fun _ => by omega) rfl
  have k2 := r2 (decide (q < 0)) q.natAbs hq (fun h => (by have h' : q < 0 := (by simpa using h); omega)) (by rw [← num_sgn q])
  rw [num_val] at k2
  exact ⟨k1, k2⟩

theorem same_double {x y mx my : Nat} {sg : Bool} {px py : Int} (hx : x < 18446744073709551616) (hy : y < 18446744073709551616) (rx : Ieee.double.read x = .number sg mx px) (ry : Ieee.double.read y = .number sg my py) (h : (mx : Rat) * Flo.pw px = (my : Rat) * Flo.pw py) : x = y :=
  Flo.read_inj Ieee.double rx ry hx hy h

theorem word_lt (s E F : Nat) (hs : s < 2) (hE : E < 2047) (hF : F < 4503599627370496) : s * 9223372036854775808 + (E * 4503599627370496 + F) < 18446744073709551616 := by omega
theorem specParse_text (sg : Bool) (a : Nat) (q : Int) (ha : a % 2 = 1) (ha53 : a < 9007199254740992) (y my : Nat) (py : Int) (hy : y < 18446744073709551616) (ry : Ieee.double.read y = .number sg my py) (hmy : my ≠ 0) (hv : (a : Rat) * Flo.pw q = (my : Rat) * Flo.pw py) (hq : -2000 ≤ q ∧ q ≤ 2000) (w : World) :
    Calls Tryd.prog 14 #[.string (strOfNums (sgn sg ++ (dgs a ++ 112 :: numL q)))] w fun e w' => e = .returned (.tuple #[.float .f64 y, .bool true]) ∧ Nw w w' := by
  obtain ⟨b1, b2, b3⟩ := exp_bounds ry ha hv
  obtain ⟨z1, z2, z3⟩ := not_zero_text sg a q (by omega) hq
  have ht : TxtOf y (sgn sg ++ (dgs a ++ 112 :: numL q)) := .inr (.inr (.inr ⟨sg, my, py, a, q, ry, hmy, ha, ha53, hv, hq.1, hq.2, rfl⟩))
  obtain ⟨v, hv0⟩ : ∃ v : Int, v = if sg then -(a : Int) else (a : Int) := ⟨_, rfl⟩
  have vn : v.natAbs = a := by rw [hv0]; cases sg <;> simp
  have vs : decide (v < 0) = sg := by rw [hv0]; cases sg <;> simp <;> omega
  obtain ⟨mx, px, rf, vf⟩ := float_exact v (by omega)
  rw [vs] at rf
  rw [vn] at vf
  have key : ∃ Good : Int → Nat → Prop, (∀ e x, Good e x → x < 18446744073709551616) ∧
      (∀ e x w, Good e x → 0 < e → Good (e - 1) (fres w .mul .f64 x 4611686018427387904)) ∧
      (∀ e x w, Good e x → e < 0 → Good (e + 1) (fres w .quo .f64 x 4611686018427387904)) ∧ Good q (floatOfInt .f64 v) ∧ ∀ x, Good 0 x → x = y := by
    by_cases hq0 : q < 0
    · refine ⟨fun e x => q ≤ e ∧ e ≤ 0 ∧ x < 18446744073709551616 ∧ ∃ m' p', Ieee.double.read x = .number sg m' p' ∧ (m' : Rat) * Flo.pw p' = (a : Rat) * Flo.pw (q - e), fun e x h => h.2.2.1, fun e x w h hpos => absurd h.2.1 (by omega), ?_, ?_, ?_⟩
      · rintro e x w ⟨h1, h2, h3, m', p', h4, h5⟩ hneg
        obtain ⟨z, m2, p2, k1, k2, k3, k4⟩ := half_sg x m' a sg p' (q - e) h4 h5 (by omega) ha53 (by omega) (by omega)
        have e1 : fres w .quo .f64 x 4611686018427387904 = z := by unfold fres; rw [k1]
        rw [e1]
        exact ⟨by omega, by omega, k2, m2, p2, k3, by rw [k4]; congr 2; omega⟩
      · exact ⟨Int.le_refl _, by omega, float_int_lt v, mx, px, rf, by rw [vf, Int.sub_self, Flo.pw_zero]; grind⟩
      · rintro x ⟨h1, h2, h3, m', p', h4, h5⟩
        exact same_double h3 hy h4 ry (by rw [h5, ← hv]; congr 2; omega)
    · obtain ⟨s, hs, hsg, hc⟩ := word_cases _ mx sg px (float_int_lt v) rf
      have a1 : (1 : Rat) ≤ (a : Rat) := by exact_mod_cast (show 1 ≤ a by omega)
      rcases hc with ⟨hx1, hm2, hp⟩ | ⟨E0, F, hx1, k1, k2, k3, k4, k5⟩
      · exfalso
        rw [hp] at vf
        have h1 : (mx : Rat) < 4503599627370496 := by exact_mod_cast hm2
        have h2 := Rat.mul_lt_mul_of_pos_right h1 (Flo.pw_pos (-1074))
        have h4 : 4503599627370496 * Flo.pw (-1074) = Flo.pw (-1022) := by
          rw [show (-1022 : Int) = -1074 + (52 : Nat) from by omega, Flo.pw_add, Flo.pw_nat]
          rw [show ((2 ^ 52 : Nat) : Rat) = 4503599627370496 from rfl]; grind
        have h5 := Flo.pw_le (show (-1022 : Int) ≤ 0 by omega)
        rw [Flo.pw_zero] at h5
        grind
      · have HX := Lib.hid hx1
        clear hx1 z3
        rw [k4, k5] at vf
        clear k4
        have vq : ((4503599627370496 + F : Nat) : Rat) * Flo.pw ((E0 : Int) - 1075 + q) = (a : Rat) * Flo.pw q := by rw [Flo.pw_add, ← Rat.mul_assoc, vf]
        have hE : (E0 : Int) + q ≤ 2046 := by
          have f2 : (4503599627370496 : Rat) ≤ ((4503599627370496 + F : Nat) : Rat) := by exact_mod_cast Nat.le_add_right _ F
          have g2 := Rat.mul_le_mul_of_nonneg_right f2 (Rat.le_of_lt (Flo.pw_pos ((E0 : Int) - 1075 + q)))
          have p52 : (4503599627370496 : Rat) * Flo.pw ((E0 : Int) - 1075 + q) = Flo.pw ((E0 : Int) - 1075 + q + (52 : Nat)) := by rw [Flo.pw_add ((E0 : Int) - 1075 + q), Flo.pw_nat, show ((2 ^ 52 : Nat) : Rat) = 4503599627370496 from rfl]; grind
          rw [p52, vq] at g2
          have k : Flo.pw ((E0 : Int) - 1075 + q + (52 : Nat)) < Flo.pw 1024 := by grind
          have := Flo.lt_of_pw_lt k
          omega
        refine ⟨fun e x => 0 ≤ e ∧ e ≤ q ∧ ∃ E : Nat, x = s * 9223372036854775808 + (E * 4503599627370496 + F) ∧ (E : Int) = E0 + (q - e), ?_, ?_, fun e x w h hneg => absurd h.1 (by omega), ?_, ?_⟩
        · rintro e x ⟨h1, h2, E, rfl, h3⟩
          exact word_lt s E F hs (by omega) k3
        · rintro e x w ⟨h1, h2, E, hxe, h3⟩ hpos
          obtain ⟨Z, hZ⟩ : ∃ Z : Nat, Z = s * 9223372036854775808 + ((E + 1) * 4503599627370496 + F) := ⟨_, rfl⟩
          have t := two_mul_word s E F hs (by clear hxe hZ; omega) (by clear hxe hZ; omega) k3
          rw [← hxe, ← hZ] at t
          have e1 : fres w .mul .f64 x 4611686018427387904 = Z := by unfold fres; rw [t]
          rw [e1]
          exact ⟨by clear hxe hZ; omega, by clear hxe hZ; omega, E + 1, hZ, by clear hxe hZ; omega⟩
        · exact ⟨by omega, Int.le_refl _, E0, HX.out, by omega⟩
        · rintro x ⟨h1, h2, E, rfl, h3⟩
          have r := read_nor s E F hs (by omega) (by omega) k3
          rw [← hsg] at r
          exact same_double (word_lt s E F hs (by omega) k3) hy r ry (by rw [← hv, ← vq]; congr 2; omega)
  obtain ⟨Good, q1, q2, q3, q4, q5⟩ := key
  refine (specCore _ (by omega) z1 z2 Good q1 q2 q3 ?_ w).mono ?_
  · intro p r n1 n2 hsp hp hr hn1 r1 r2 _ _
    obtain ⟨rfl, rfl⟩ := text_nums ha (by omega) (by omega) hsp hp r1 r2
    rw [← hv0]
    exact q4
  · rintro e w' ⟨hn, ⟨x, xs, hg, hx, hne, hres⟩ | ⟨rfl, hbad⟩⟩
    · obtain rfl := q5 x hg
      obtain rfl := txt_unique hx ht
      rcases hres with ⟨-, rfl⟩ | ⟨h, -⟩
      · exact ⟨rfl, hn⟩
      · exact absurd rfl h
    · exact absurd ⟨sg, a, q, ha, ha53, by omega, by omega, rfl⟩ hbad

theorem specParse_yes (s : ByteArray) (y : Nat) (h : IsTxt s y) (w : World) :
    Calls Tryd.prog 14 #[.string s] w fun e w' => e = .returned (.tuple #[.float .f64 y, .bool true]) ∧ Nw w w' := by
  obtain ⟨hy, hf, xs, ht, rfl⟩ := h
  rcases ht with ⟨h, _⟩ | ⟨rfl, rfl⟩ | ⟨rfl, rfl⟩ | ⟨sg, m, p, a, q, b1, b2, b3, b4, b5, b6, b7, rfl⟩
  · rw [hf] at h; cases h
  · exact spec_zero _ _ (.inl ⟨rfl, rfl⟩) w
  · exact spec_zero _ _ (.inr ⟨rfl, rfl⟩) w
  · exact specParse_text sg a q b3 b4 y m p hy b1 b2 b5 ⟨b6, b7⟩ w

theorem specParse_no (s : ByteArray) (hs : s.size ≤ 1048576) (h : ∀ y, ¬ IsTxt s y) (w : World) :
    Calls Tryd.prog 14 #[.string s] w fun e w' => e = .returned (.tuple #[.float .f64 0, .bool false]) ∧ Nw w w' := by
  have h1 : s ≠ ⟨#[48]⟩ := by rintro rfl; exact h 0 ⟨by decide, by decide, [48], .inr (.inl ⟨rfl, rfl⟩), rfl⟩
  have h2 : s ≠ ⟨#[45, 48]⟩ := by rintro rfl; exact h 9223372036854775808 ⟨by decide, by decide, [45, 48], .inr (.inr (.inl ⟨rfl, rfl⟩)), rfl⟩
  refine (specCore s hs (str_ne h1) (str_ne h2) (fun _ x => x < 18446744073709551616) (fun _ _ h => h) (fun _ x w _ _ => fres_wf w .mul .f64 x _) (fun _ x w _ _ => fres_wf w .quo .f64 x _) (fun _ _ n1 _ _ _ _ _ _ _ _ _ => float_int_lt n1) w).mono ?_
  rintro e w' ⟨hn, ⟨x, xs, hg, hx, hne, hres⟩ | ⟨rfl, -⟩⟩
  · rcases hres with ⟨rfl, -⟩ | ⟨-, rfl⟩
    · exfalso
      rcases Bool.eq_false_or_eq_true (fin .f64 x) with hf | hf
      · exact h x ⟨hg, hf, xs, hx, rfl⟩
      · have : xs = [] := by
          rcases hx with ⟨_, rfl⟩ | ⟨rfl, _⟩ | ⟨rfl, _⟩ | ⟨sg, m, p, a, q, b1, _⟩
          · rfl
          · exact absurd hf (by decide)
          · exact absurd hf (by decide)
          · rw [fin_num ⟨_, _, _, b1⟩] at hf; cases hf
        subst this
        exact hne rfl
    · exact ⟨rfl, hn⟩
  · exact ⟨rfl, hn⟩
end Go.Proofs.YtjmignhcfmdcaaaDoor

/- The law FnExactParseDouble as a call.
   Conditions: those that each statement names. -/
namespace Go.Proofs.YtjmignhcfmdcaaaDoor
set_option linter.unusedSimpArgs false
set_option linter.unusedVariables false
open Go Go.RowKit

set_option maxRecDepth 100000 in
theorem law_parseDouble (s : ByteArray) (w : World) (hL : LibW w) :
    Calls Tryd.prog 6 #[.string s] w fun e w' => e = .returned (.bool true) ∧ Nw w w' := by
  by_cases hs : s.size ≤ 1048576
  · have key : ∃ y b, (∀ w, Calls Tryd.prog 14 #[.string s] w fun e w' => e = .returned (.tuple #[.float .f64 y, .bool b]) ∧ Nw w w') ∧
        (∀ w, LibW w → Calls Tryd.prog 15 #[.string s] w fun e w' => e = .returned (.tuple #[.float .f64 y, .bool b]) ∧ Nw w w') := by
      by_cases h : ∃ y, IsTxt s y
      · obtain ⟨y, hy⟩ := h
        exact ⟨y, true, specParse_yes s y hy, implParse_yes s y hy⟩
      · have h' : ∀ y, ¬ IsTxt s y := fun y hy => h ⟨y, hy⟩
        exact ⟨0, false, specParse_no s hs h', implParse_no s hs h'⟩
    obtain ⟨y, b, k1, k2⟩ := key
    have K := Lib.hid (And.intro k1 k2)
    have L := Lib.hid hL
    clear k1 k2 hL
    have sf := sameF_self y
    cases b
    all_goals
      go_enter Tryd.func6, Tryd.ntmps6
      go_wp2_with fail
      refine (K.out.1 _).mono ?_
      rintro e w1 ⟨rfl, n1⟩
      have N1 := Lib.hid n1
      clear n1
      go_wp2_with fail
      refine (K.out.2 _ (L.out.nw N1.out)).mono ?_
      rintro e w2 ⟨rfl, n2⟩
      have N2 := Lib.hid (N1.out.trans n2)
      clear n2
      go_wp2_with (go_at_call 13; refine (sameFloat_any _ _ _).mono ?_; rintro e w5 ⟨rfl, rfl⟩; rw [sf])
      all_goals
        go_ret
        exact ⟨rfl, N2.out⟩
  · have hs' : 1048576 < s.size := by omega
    clear hs hL
    go_enter Tryd.func6, Tryd.ntmps6
    go_wp2_with fail
    all_goals
      go_ret
      exact ⟨rfl, Nw.refl _⟩
end Go.Proofs.YtjmignhcfmdcaaaDoor
