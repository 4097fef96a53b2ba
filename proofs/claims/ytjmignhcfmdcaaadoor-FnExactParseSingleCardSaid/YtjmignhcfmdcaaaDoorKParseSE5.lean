/- Texts of a proof, put together: PdT, PdL, FmS, PsL.
   Conditions: those that each statement names. -/
import Derived.Test.YtjmignhcfmdcaaaDoorKParseSE4
/- The model's ParseDouble: where the string is the text of a finite double, that double and true; else 0 and false. The law FnExactParseDouble as a call.
   Conditions: those that each statement names. -/
namespace Go.Proofs.YtjmignhcfmdcaaaDoor
set_option linter.unusedSimpArgs false
set_option linter.unusedVariables false
open Go Go.RowKit

theorem minus_ok (w : World) : Calls Tryd.prog 26 #[] w fun e w' => e = .returned (.float .f64 9223372036854775808) ∧ w = w' := by
  have e : Op.negFloat .f64 0 = 9223372036854775808 := by decide
  go_enter Tryd.func26, Tryd.ntmps26
  go_wp2_with fail
  go_ret
  exact ⟨by first | rfl | (rw [e]; rfl), rfl⟩

theorem spec_zero (s : ByteArray) (y : Nat) (hs : (y = 0 ∧ s = ⟨#[48]⟩) ∨ (y = 9223372036854775808 ∧ s = ⟨#[45, 48]⟩)) (w : World) :
    Calls Tryd.prog 14 #[.string s] w fun e w' => e = .returned (.tuple #[.float .f64 y, .bool true]) ∧ Nw w w' := by
  rcases hs with ⟨rfl, rfl⟩ | ⟨rfl, rfl⟩
  · have g1 : ((⟨#[48]⟩ : ByteArray).toList == [48]) = true := by rw [ByteArray.toList_eq]; rfl
    go_enter Tryd.func14, Tryd.ntmps14
    go_wp2_with fail
    go_ret2
    exact ⟨rfl, Nw.refl _⟩
  · have g1 : ((⟨#[45, 48]⟩ : ByteArray).toList == [48]) = false := by rw [ByteArray.toList_eq]; rfl
    have g2 : ((⟨#[45, 48]⟩ : ByteArray).toList == [45, 48]) = true := by rw [ByteArray.toList_eq]; rfl
    go_enter Tryd.func14, Tryd.ntmps14
    go_wp2_with fail
    refine (minus_ok _).mono ?_
    rintro e w1 ⟨rfl, rfl⟩
    go_wp2_with fail
    go_ret2
    exact ⟨rfl, Nw.refl _⟩

theorem exp_bounds {y m a : Nat} {sg : Bool} {p q : Int} (ry : Ieee.double.read y = .number sg m p) (ha : a % 2 = 1) (hv : (a : Rat) * Flo.pw q = (m : Rat) * Flo.pw p) : -1074 ≤ q ∧ q ≤ 1023 ∧ (a : Rat) * Flo.pw q < Flo.pw 1024 := by
  obtain ⟨b1, b2, b3⟩ := Flo.read_bound Ieee.double (by decide) y sg m p ry
  rw [Flo.lp_double] at b2
  have hmax := num_le_max y sg m p ry
  have h24 : ((9007199254740991 : Nat) : Rat) * Flo.pw 971 < Flo.pw 1024 := by
    have e : Flo.pw 1024 = ((9007199254740992 : Nat) : Rat) * Flo.pw 971 := by
      rw [show (1024 : Int) = 971 + (53 : Nat) from by omega, Flo.pw_add, Flo.pw_nat, show ((2 ^ 53 : Nat) : Rat) = ((9007199254740992 : Nat) : Rat) from rfl]; grind
    rw [e]
    exact Rat.mul_lt_mul_of_pos_right (by decide) (Flo.pw_pos 971)
  have hlt : (a : Rat) * Flo.pw q < Flo.pw 1024 := by rw [hv]; grind
  refine ⟨?_, ?_, hlt⟩
  · rcases Int.lt_or_le q p with g | g
    · exfalso
      obtain ⟨d, hd⟩ := Int.eq_ofNat_of_zero_le (show 0 ≤ p - q - 1 by omega)
      have e : p = q + ((d + 1 : Nat) : Int) := by omega
      rw [e, Flo.pw_add, Flo.pw_nat] at hv
      have p0 := Flo.pw_pos q
      have h2 : (a : Rat) = (m : Rat) * ((2 ^ (d + 1) : Nat) : Rat) := by
        have := Rat.mul_inv_cancel (Flo.pw q) (by grind)
        have k : (a : Rat) * Flo.pw q * (Flo.pw q)⁻¹ = (m : Rat) * (Flo.pw q * ((2 ^ (d + 1) : Nat) : Rat)) * (Flo.pw q)⁻¹ := by rw [hv]
        grind
      have h3 : a = m * 2 ^ (d + 1) := by exact_mod_cast h2
      rw [Nat.pow_succ, ← Nat.mul_assoc] at h3
      omega
    · omega
  · have a1 : (1 : Rat) ≤ (a : Rat) := by exact_mod_cast (show 1 ≤ a by omega)
    have := Rat.mul_le_mul_of_nonneg_right a1 (Rat.le_of_lt (Flo.pw_pos q))
    have k : Flo.pw q < Flo.pw 1024 := by grind
    have := Flo.lt_of_pw_lt k
    omega

theorem not_zero_text (sg : Bool) (a : Nat) (q : Int) (ha : a < 10 ^ 17) (hq : -2000 ≤ q ∧ q ≤ 2000) :
    ((strOfNums (sgn sg ++ (dgs a ++ 112 :: numL q))).toList == [48]) = false ∧ ((strOfNums (sgn sg ++ (dgs a ++ 112 :: numL q))).toList == [45, 48]) = false ∧ (strOfNums (sgn sg ++ (dgs a ++ 112 :: numL q))).size ≤ 60 := by
  have tl := text_len sg a q ha hq
  have sz : (strOfNums (sgn sg ++ (dgs a ++ 112 :: numL q))).size = (sgn sg ++ (dgs a ++ 112 :: numL q)).length := strOfNums_size _
  refine ⟨str_ne (by
    intro h; rw [h] at sz; have : (⟨#[48]⟩ : ByteArray).size = 1 := rfl; rw [show ([48] : List UInt8).toArray = #[48] from rfl] at sz; omega), str_ne (by
    intro h; rw [h] at sz; have : (⟨#[45, 48]⟩ : ByteArray).size = 2 := rfl; rw [show ([45, 48] : List UInt8).toArray = #[45, 48] from rfl] at sz; omega), by omega⟩

/-- the two numbers of a text -/
theorem text_nums {sg : Bool} {a : Nat} {q : Int} (ha : a % 2 = 1) (ha16 : a < 10 ^ 16) (hq : q.natAbs < 10 ^ 16) {p r : List UInt8} {n1 n2 : Int} (h : byts (sgn sg ++ (dgs a ++ 112 :: numL q)) = p ++ 112 :: r) (hp : 112 ∉ p) (r1 : ReadN p n1) (r2 : ReadN r n2) :
    n1 = (if sg then -(a : Int) else (a : Int)) ∧ n2 = q := by
  obtain ⟨rfl, rfl⟩ := cut_unique (h.symm.trans form_cut) hp (fun hm => pre_no_p sg a (by omega) _ hm rfl)
  have k1 := r1 sg a ha16 (fun _ => by omega) rfl
  have k2 := r2 (decide (q < 0)) q.natAbs hq (fun h => (by have h' : q < 0 := (by simpa using h); omega)) (by rw [← num_sgn q])
  rw [num_val] at k2
  exact ⟨k1, k2⟩

theorem same_double {x y mx my : Nat} {sg : Bool} {px py : Int} (hx : x < 18446744073709551616) (hy : y < 18446744073709551616) (rx : Ieee.double.read x = .number sg mx px) (ry : Ieee.double.read y = .number sg my py) (h : (mx : Rat) * Flo.pw px = (my : Rat) * Flo.pw py) : x = y :=
  Flo.read_inj Ieee.double rx ry hx hy h

theorem word_lt (s E F : Nat) (hs : s < 2) (hE : E < 2047) (hF : F < 4503599627370496) : s * 9223372036854775808 + (E * 4503599627370496 + F) < 18446744073709551616 := by omega
theorem specParse_text (sg : Bool) (a : Nat) (q : Int) (ha : a % 2 = 1) (ha53 : a < 9007199254740992) (y my : Nat) (py : Int) (hy : y < 18446744073709551616) (ry : Ieee.double.read y = .number sg my py) (hmy : my ≠ 0) (hv : (a : Rat) * Flo.pw q = (my : Rat) * Flo.pw py) (hq : -2000 ≤ q ∧ q ≤ 2000) (w : World) :
    Calls Tryd.prog 14 #[.string (strOfNums (sgn sg ++ (dgs a ++ 112 :: numL q)))] w fun e w' => e = .returned (.tuple #[.float .f64 y, .bool true]) ∧ Nw w w' := by
  obtain ⟨b1, b2, b3⟩ := exp_bounds ry ha hv
  obtain ⟨z1, z2, z3⟩ := not_zero_text sg a q (by omega) hq
  have ht : TxtOf y (sgn sg ++ (dgs a ++ 112 :: numL q)) := .inr (.inr (.inr ⟨sg, my, py, a, q, ry, hmy, ha, ha53, hv, hq.1, hq.2, rfl⟩))
  obtain ⟨v, hv0⟩ : ∃ v : Int, v = if sg then -(a : Int) else (a : Int) := ⟨_, rfl⟩
  have vn : v.natAbs = a := by rw [hv0]; cases sg <;> simp
  have vs : decide (v < 0) = sg := by rw [hv0]; cases sg <;> simp <;> omega
  obtain ⟨mx, px, rf, vf⟩ := float_exact v (by omega)
  rw [vs] at rf
  rw [vn] at vf
  have key : ∃ Good : Int → Nat → Prop, (∀ e x, Good e x → x < 18446744073709551616) ∧
      (∀ e x w, Good e x → 0 < e → Good (e - 1) (fres w .mul .f64 x 4611686018427387904)) ∧
      (∀ e x w, Good e x → e < 0 → Good (e + 1) (fres w .quo .f64 x 4611686018427387904)) ∧ Good q (floatOfInt .f64 v) ∧ ∀ x, Good 0 x → x = y := by
    by_cases hq0 : q < 0
    · refine ⟨fun e x => q ≤ e ∧ e ≤ 0 ∧ x < 18446744073709551616 ∧ ∃ m' p', Ieee.double.read x = .number sg m' p' ∧ (m' : Rat) * Flo.pw p' = (a : Rat) * Flo.pw (q - e), fun e x h => h.2.2.1, fun e x w h hpos => absurd h.2.1 (by omega), ?_, ?_, ?_⟩
      · rintro e x w ⟨h1, h2, h3, m', p', h4, h5⟩ hneg
        obtain ⟨z, m2, p2, k1, k2, k3, k4⟩ := half_sg x m' a sg p' (q - e) h4 h5 (by omega) ha53 (by omega) (by omega)
        have e1 : fres w .quo .f64 x 4611686018427387904 = z := by unfold fres; rw [k1]
        rw [e1]
        exact ⟨by omega, by omega, k2, m2, p2, k3, by rw [k4]; congr 2; omega⟩
      · exact ⟨Int.le_refl _, by omega, float_int_lt v, mx, px, rf, by rw [vf, Int.sub_self, Flo.pw_zero]; grind⟩
      · rintro x ⟨h1, h2, h3, m', p', h4, h5⟩
        exact same_double h3 hy h4 ry (by rw [h5, ← hv]; congr 2; omega)
    · obtain ⟨s, hs, hsg, hc⟩ := word_cases _ mx sg px (float_int_lt v) rf
      have a1 : (1 : Rat) ≤ (a : Rat) := by exact_mod_cast (show 1 ≤ a by omega)
      rcases hc with ⟨hx1, hm2, hp⟩ | ⟨E0, F, hx1, k1, k2, k3, k4, k5⟩
      · exfalso
        rw [hp] at vf
        have h1 : (mx : Rat) < 4503599627370496 := by exact_mod_cast hm2
        have h2 := Rat.mul_lt_mul_of_pos_right h1 (Flo.pw_pos (-1074))
        have h4 : 4503599627370496 * Flo.pw (-1074) = Flo.pw (-1022) := by
          rw [show (-1022 : Int) = -1074 + (52 : Nat) from by omega, Flo.pw_add, Flo.pw_nat]
          rw [show ((2 ^ 52 : Nat) : Rat) = 4503599627370496 from rfl]; grind
        have h5 := Flo.pw_le (show (-1022 : Int) ≤ 0 by omega)
        rw [Flo.pw_zero] at h5
        grind
      · have HX := Lib.hid hx1
        clear hx1 z3
        rw [k4, k5] at vf
        clear k4
        have vq : ((4503599627370496 + F : Nat) : Rat) * Flo.pw ((E0 : Int) - 1075 + q) = (a : Rat) * Flo.pw q := by rw [Flo.pw_add, ← Rat.mul_assoc, vf]
        have hE : (E0 : Int) + q ≤ 2046 := by
          have f2 : (4503599627370496 : Rat) ≤ ((4503599627370496 + F : Nat) : Rat) := by exact_mod_cast Nat.le_add_right _ F
          have g2 := Rat.mul_le_mul_of_nonneg_right f2 (Rat.le_of_lt (Flo.pw_pos ((E0 : Int) - 1075 + q)))
          have p52 : (4503599627370496 : Rat) * Flo.pw ((E0 : Int) - 1075 + q) = Flo.pw ((E0 : Int) - 1075 + q + (52 : Nat)) := by rw [Flo.pw_add ((E0 : Int) - 1075 + q), Flo.pw_nat, show ((2 ^ 52 : Nat) : Rat) = 4503599627370496 from rfl]; grind
          rw [p52, vq] at g2
          have k : Flo.pw ((E0 : Int) - 1075 + q + (52 : Nat)) < Flo.pw 1024 := by grind
          have := Flo.lt_of_pw_lt k
          omega
        refine ⟨fun e x => 0 ≤ e ∧ e ≤ q ∧ ∃ E : Nat, x = s * 9223372036854775808 + (E * 4503599627370496 + F) ∧ (E : Int) = E0 + (q - e), ?_, ?_, fun e x w h hneg => absurd h.1 (by omega), ?_, ?_⟩
        · rintro e x ⟨h1, h2, E, rfl, h3⟩
          exact word_lt s E F hs (by omega) k3
        · rintro e x w ⟨h1, h2, E, hxe, h3⟩ hpos
          obtain ⟨Z, hZ⟩ : ∃ Z : Nat, Z = s * 9223372036854775808 + ((E + 1) * 4503599627370496 + F) := ⟨_, rfl⟩
          have t := two_mul_word s E F hs (by clear hxe hZ; omega) (by clear hxe hZ; omega) k3
          rw [← hxe, ← hZ] at t
          have e1 : fres w .mul .f64 x 4611686018427387904 = Z := by unfold fres; rw [t]
          rw [e1]
          exact ⟨by clear hxe hZ; omega, by clear hxe hZ; omega, E + 1, hZ, by clear hxe hZ; omega⟩
        · exact ⟨by omega, Int.le_refl _, E0, HX.out, by omega⟩
        · rintro x ⟨h1, h2, E, rfl, h3⟩
          have r := read_nor s E F hs (by omega) (by omega) k3
          rw [← hsg] at r
          exact same_double (word_lt s E F hs (by omega) k3) hy r ry (by rw [← hv, ← vq]; congr 2; omega)
  obtain ⟨Good, q1, q2, q3, q4, q5⟩ := key
  refine (specCore _ (by omega) z1 z2 Good q1 q2 q3 ?_ w).mono ?_
  · intro p r n1 n2 hsp hp hr hn1 r1 r2 _ _
    obtain ⟨rfl, rfl⟩ := text_nums ha (by omega) (by omega) hsp hp r1 r2
    rw [← hv0]
    exact q4
  · rintro e w' ⟨hn, ⟨x, xs, hg, hx, hne, hres⟩ | ⟨rfl, hbad⟩⟩
    · obtain rfl := q5 x hg
      obtain rfl := txt_unique hx ht
      rcases hres with ⟨-, rfl⟩ | ⟨h, -⟩
      · exact ⟨rfl, hn⟩
      · exact absurd rfl h
    · exact absurd ⟨sg, a, q, ha, ha53, by omega, by omega, rfl⟩ hbad

theorem specParse_yes (s : ByteArray) (y : Nat) (h : IsTxt s y) (w : World) :
    Calls Tryd.prog 14 #[.string s] w fun e w' => e = .returned (.tuple #[.float .f64 y, .bool true]) ∧ Nw w w' := by
  obtain ⟨hy, hf, xs, ht, rfl⟩ := h
  rcases ht with ⟨h, _⟩ | ⟨rfl, rfl⟩ | ⟨rfl, rfl⟩ | ⟨sg, m, p, a, q, b1, b2, b3, b4, b5, b6, b7, rfl⟩
  · rw [hf] at h; cases h
  · exact spec_zero _ _ (.inl ⟨rfl, rfl⟩) w
  · exact spec_zero _ _ (.inr ⟨rfl, rfl⟩) w
  · exact specParse_text sg a q b3 b4 y m p hy b1 b2 b5 ⟨b6, b7⟩ w

theorem specParse_no (s : ByteArray) (hs : s.size ≤ 1048576) (h : ∀ y, ¬ IsTxt s y) (w : World) :
    Calls Tryd.prog 14 #[.string s] w fun e w' => e = .returned (.tuple #[.float .f64 0, .bool false]) ∧ Nw w w' := by
  have h1 : s ≠ ⟨#[48]⟩ := by rintro rfl; exact h 0 ⟨by decide, by decide, [48], .inr (.inl ⟨rfl, rfl⟩), rfl⟩
  have h2 : s ≠ ⟨#[45, 48]⟩ := by rintro rfl; exact h 9223372036854775808 ⟨by decide, by decide, [45, 48], .inr (.inr (.inl ⟨rfl, rfl⟩)), rfl⟩
  refine (specCore s hs (str_ne h1) (str_ne h2) (fun _ x => x < 18446744073709551616) (fun _ _ h => h) (fun _ x w _ _ => fres_wf w .mul .f64 x _) (fun _ x w _ _ => fres_wf w .quo .f64 x _) (fun _ _ n1 _ _ _ _ _ _ _ _ _ => float_int_lt n1) w).mono ?_
  rintro e w' ⟨hn, ⟨x, xs, hg, hx, hne, hres⟩ | ⟨rfl, -⟩⟩
  · rcases hres with ⟨rfl, -⟩ | ⟨-, rfl⟩
    · exfalso
      rcases Bool.eq_false_or_eq_true (fin .f64 x) with hf | hf
      · exact h x ⟨hg, hf, xs, hx, rfl⟩
      · have : xs = [] := by
          rcases hx with ⟨_, rfl⟩ | ⟨rfl, _⟩ | ⟨rfl, _⟩ | ⟨sg, m, p, a, q, b1, _⟩
          · rfl
          · exact absurd hf (by decide)
          · exact absurd hf (by decide)
          · rw [fin_num ⟨_, _, _, b1⟩] at hf; cases hf
        subst this
        exact hne rfl
    · exact ⟨rfl, hn⟩
  · exact ⟨rfl, hn⟩
end Go.Proofs.YtjmignhcfmdcaaaDoor

/- The law FnExactParseDouble as a call.
   Conditions: those that each statement names. -/
namespace Go.Proofs.YtjmignhcfmdcaaaDoor
set_option linter.unusedSimpArgs false
set_option linter.unusedVariables false
open Go Go.RowKit

set_option maxRecDepth 100000 in
theorem law_parseDouble (s : ByteArray) (w : World) (hL : LibW w) :
    Calls Tryd.prog 6 #[.string s] w fun e w' => e = .returned (.bool true) ∧ Nw w w' := by
  by_cases hs : s.size ≤ 1048576
  · have key : ∃ y b, (∀ w, Calls Tryd.prog 14 #[.string s] w fun e w' => e = .returned (.tuple #[.float .f64 y, .bool b]) ∧ Nw w w') ∧
        (∀ w, LibW w → Calls Tryd.prog 15 #[.string s] w fun e w' => e = .returned (.tuple #[.float .f64 y, .bool b]) ∧ Nw w w') := by
      by_cases h : ∃ y, IsTxt s y
      · obtain ⟨y, hy⟩ := h
        exact ⟨y, true, specParse_yes s y hy, implParse_yes s y hy⟩
      · have h' : ∀ y, ¬ IsTxt s y := fun y hy => h ⟨y, hy⟩
        exact ⟨0, false, specParse_no s hs h', implParse_no s hs h'⟩
    obtain ⟨y, b, k1, k2⟩ := key
    have K := Lib.hid (And.intro k1 k2)
    have L := Lib.hid hL
    clear k1 k2 hL
    have sf := sameF_self y
    cases b
    all_goals
      go_enter Tryd.func6, Tryd.ntmps6
      go_wp2_with fail
      refine (K.out.1 _).mono ?_
      rintro e w1 ⟨rfl, n1⟩
      have N1 := Lib.hid n1
      clear n1
      go_wp2_with fail
      refine (K.out.2 _ (L.out.nw N1.out)).mono ?_
      rintro e w2 ⟨rfl, n2⟩
      have N2 := Lib.hid (N1.out.trans n2)
      clear n2
      go_wp2_with (go_at_call 13; refine (sameFloat_any _ _ _).mono ?_; rintro e w5 ⟨rfl, rfl⟩; rw [sf])
      all_goals
        go_ret
        exact ⟨rfl, N2.out⟩
  · have hs' : 1048576 < s.size := by omega
    clear hs hL
    go_enter Tryd.func6, Tryd.ntmps6
    go_wp2_with fail
    all_goals
      go_ret
      exact ⟨rfl, Nw.refl _⟩
end Go.Proofs.YtjmignhcfmdcaaaDoor

/- The law FnExactFormatSingle as a call.
   Conditions: those that each statement names. -/
namespace Go.Proofs.YtjmignhcfmdcaaaDoor
set_option linter.unusedSimpArgs false
set_option linter.unusedVariables false
open Go Go.RowKit

theorem nan_fin64 {y : Nat} (h : nan64 y = true) : fin .f64 y = false := by
  unfold nan64 at h
  unfold fin
  cases hd : FloatKind.f64.decode y <;> rw [hd] at h <;> simp_all [Ieee.Datum.isNaN]

/-- the texts of a number of single precision, however its NaN is widened -/
theorem txt_wide {x : Nat} {w1 w2 : World} {xs ys : List Int} (h1 : TxtOf (fcv w1 .f32 x .f64) xs) (h2 : TxtOf (fcv w2 .f32 x .f64) ys) : xs = ys := by
  cases hn : nan32 x with
  | false =>
    rw [fcv_wide hn] at h1 h2
    exact txt_unique h1 h2
  | true =>
    have g1 := nan_fin64 (nan_wide hn w1)
    have g2 := nan_fin64 (nan_wide hn w2)
    have key : ∀ {y : Nat} {zs : List Int}, fin .f64 y = false → TxtOf y zs → zs = [] := by
      intro y zs hf ht
      have f0 : fin .f64 0 = true := by decide
      have f1 : fin .f64 9223372036854775808 = true := by decide
      rcases ht with ⟨_, rfl⟩ | ⟨rfl, rfl⟩ | ⟨rfl, rfl⟩ | ⟨sg, m, p, a, q, b1, b2, _⟩
      · rfl
      · rw [f0] at hf; simp at hf
      · rw [f1] at hf; simp at hf
      · rw [fin_num ⟨_, _, _, b1⟩] at hf; simp at hf
    rw [key g1 h1, key g2 h2]

def TxtS (x : Nat) (w : World) (e : Ending) (w' : World) : Prop := ∃ xs w1, e = .returned (.string (strOfNums xs)) ∧ TxtOf (fcv w1 .f32 x .f64) xs ∧ Nw w w'

set_option maxRecDepth 100000 in
theorem specTextS (x : Nat) (hx : x < 4294967296) (w : World) : Calls Tryd.prog 7 #[.float .f32 x] w (TxtS x w) := by
  have hx2 : ∀ w, fcv w .f32 x .f64 < 18446744073709551616 := fun w => fcv_wf w .f32 x .f64 hx
  go_enter Tryd.func7, Tryd.ntmps7
  go_wp2_with fail
  refine (specText _ (hx2 _) _).mono ?_
  rintro e w1 ⟨xs, rfl, t1, n1⟩
  have N1 := Lib.hid (((Nw.refl w).draw _).trans n1)
  have T1 := Lib.hid t1
  clear n1 t1
  go_wp2_with fail
  go_ret
  exact ⟨xs, _, rfl, T1.out, N1.out⟩

set_option maxRecDepth 100000 in
theorem implTextS (x : Nat) (hx : x < 4294967296) (w : World) (hT : TabAt 1 Lib.deBruijn64tab w) (ht : Lib.TabIs Tryd.prog w "internal/strconv.uint64pow10" .u64 Lib.pow10Tab) : Calls Tryd.prog 8 #[.float .f32 x] w (TxtS x w) := by
  have hx2 : ∀ w, fcv w .f32 x .f64 < 18446744073709551616 := fun w => fcv_wf w .f32 x .f64 hx
  have T := Lib.hid (And.intro hT ht)
  clear hT ht
  go_enter Tryd.func8, Tryd.ntmps8
  go_wp2_with fail
  refine (implText _ (hx2 _) _ (tabAt_nw ((Nw.refl w).draw _) (tabAt_lt T.out.1) T.out.1) (tab_nw ((Nw.refl w).draw _) T.out.2)).mono ?_
  rintro e w1 ⟨xs, rfl, t1, n1⟩
  have N1 := Lib.hid (((Nw.refl w).draw _).trans n1)
  have T1 := Lib.hid t1
  clear n1 t1
  go_wp2_with fail
  go_ret
  exact ⟨xs, _, rfl, T1.out, N1.out⟩

set_option maxRecDepth 100000 in
theorem law_single (x : Nat) (hx : x < 4294967296) (w : World) (hT : TabAt 1 Lib.deBruijn64tab w) (ht : Lib.TabIs Tryd.prog w "internal/strconv.uint64pow10" .u64 Lib.pow10Tab) :
    Calls Tryd.prog 3 #[.float .f32 x] w fun e w' => e = .returned (.bool true) ∧ Nw w w' := by
  have T := Lib.hid (And.intro hT ht)
  clear hT ht
  go_enter Tryd.func3, Tryd.ntmps3
  go_wp2_with fail
  refine (specTextS x hx _).mono ?_
  rintro e w1 ⟨xs, u1, rfl, t1, n1⟩
  have N1 := Lib.hid n1
  have T1 := Lib.hid t1
  clear n1 t1
  go_wp2_with fail
  refine (implTextS x hx _ (tabAt_nw N1.out (tabAt_lt T.out.1) T.out.1) (tab_nw N1.out T.out.2)).mono ?_
  rintro e w2 ⟨ys, u2, rfl, t2, n2⟩
  obtain rfl := txt_wide T1.out t2
  have N2 := Lib.hid (N1.out.trans n2)
  clear n2 t2
  go_wp2_with fail
  go_ret
  exact ⟨rfl, N2.out⟩

end Go.Proofs.YtjmignhcfmdcaaaDoor

/- The law FnExactParseSingle as a call.
   Conditions: those that each statement names. -/
namespace Go.Proofs.YtjmignhcfmdcaaaDoor
set_option linter.unusedSimpArgs false
set_option linter.unusedVariables false
open Go Go.RowKit

/-- a number of single precision, widened and narrowed, is the same -/
theorem nar_back {r : Nat} (hr : r < 4294967296) (h : Sm r) : (∀ w, fcv w .f64 (wid r) .f32 = r) ∧ fcd .f64 (wid r) .f32 = 0 := by
  obtain ⟨s, m, i, hx⟩ := h
  obtain ⟨n, j, hz, he⟩ := wid_read hx
  obtain ⟨h1, h2, h3⟩ := single_bound hx
  have e1 : Ieee.single.leastPlace = -149 := by decide
  have e2 : (2 ^ Ieee.single.exponentBits : Nat) = 256 := by decide
  obtain ⟨m', p', w1, w4⟩ := Flo.write_exact_top Ieee.single (by decide) s n j m i he (Nat.lt_of_lt_of_le h1 (by decide)) (by omega) (by omega)
  have hd : FloatKind.f64.decode (wid r) = .number s n j := hz
  have hr2 : FloatKind.f32.decode (FloatKind.f32.encode (.number s n j)) = .number s m' p' := w1
  have eq : FloatKind.f32.encode (.number s n j) = r := Flo.read_inj Ieee.single w1 hx (Ieee.Format.write_lt _ _) hr (by rw [w4, he])
  constructor
  · intro w
    unfold fcv
    rw [if_neg (by decide), hd]
    simp only
    rw [hr2]
    simp only [Ieee.Datum.isInfinity, Bool.false_eq_true, if_false]
    exact eq
  · unfold fcd
    rw [if_neg (by decide), hd]
    simp only
    rw [hr2]
    simp [Ieee.Datum.isInfinity]

/-- a double that single precision has -/
def Rep (y : Nat) : Prop := ∃ r, r < 4294967296 ∧ Sm r ∧ wid r = y

theorem txt_form {x : Nat} {xs : List Int} (hf : fin .f64 x = true) (h : TxtOf x xs) : (x = 0 ∧ xs = [48]) ∨ (x = 9223372036854775808 ∧ xs = [45, 48]) ∨ ∃ (sg : Bool) (m : Nat) (p : Int) (a : Nat) (q : Int), Ieee.double.read x = .number sg m p ∧ m ≠ 0 ∧ a % 2 = 1 ∧ a < 9007199254740992 ∧ (a : Rat) * Flo.pw q = (m : Rat) * Flo.pw p ∧ -2000 ≤ q ∧ q ≤ 2000 ∧ xs = sgn sg ++ (dgs a ++ 112 :: numL q) := by
  rcases h with ⟨h, _⟩ | h | h | h
  · rw [hf] at h; cases h
  · exact .inl h
  · exact .inr (.inl h)
  · exact .inr (.inr h)

/-- a text belongs to one double -/
theorem txt_inj {x y : Nat} {xs ys : List Int} (hx : x < 18446744073709551616) (hy : y < 18446744073709551616) (fy : fin .f64 y = true) (tx : TxtOf x xs) (ty : TxtOf y ys) (h : strOfNums xs = strOfNums ys) : x = y := by
  have hb : byts xs = byts ys := by rw [← byts_str, ← byts_str, h]
  have hl : xs.length = ys.length := by have := congrArg List.length hb; unfold byts at this; simpa using this
  have fx : fin .f64 x = true := by
    rcases Bool.eq_false_or_eq_true (fin .f64 x) with hf | hf
    · exact hf
    · exfalso
      have e : xs = [] := by
        rcases tx with ⟨_, rfl⟩ | ⟨rfl, _⟩ | ⟨rfl, _⟩ | ⟨sg, m, p, a, q, b1, _⟩
        · rfl
        · exact absurd hf (by decide)
        · exact absurd hf (by decide)
        · rw [fin_num ⟨_, _, _, b1⟩] at hf; cases hf
      subst e
      rcases txt_form fy ty with ⟨_, rfl⟩ | ⟨_, rfl⟩ | ⟨sg, m, p, a, q, b1, b2, b3, b4, b5, b6, b7, rfl⟩
      · simp at hl
      · simp at hl
      · have := (text_len sg a q (by omega) ⟨b6, b7⟩).1
        rw [← hl] at this
        simp at this
  rcases txt_form fx tx with ⟨rfl, rfl⟩ | ⟨rfl, rfl⟩ | ⟨sg, m, p, a, q, b1, b2, b3, b4, b5, b6, b7, rfl⟩
  · rcases txt_form fy ty with ⟨rfl, rfl⟩ | ⟨rfl, rfl⟩ | ⟨sg, m, p, a, q, b1, b2, b3, b4, b5, b6, b7, rfl⟩
    · rfl
    · simp at hl
    · have := (text_len sg a q (by omega) ⟨b6, b7⟩).1
      rw [← hl] at this
      simp at this
  · rcases txt_form fy ty with ⟨rfl, rfl⟩ | ⟨rfl, rfl⟩ | ⟨sg, m, p, a, q, b1, b2, b3, b4, b5, b6, b7, rfl⟩
    · simp at hl
    · rfl
    · have := (text_len sg a q (by omega) ⟨b6, b7⟩).1
      rw [← hl] at this
      simp at this
  · rcases txt_form fy ty with ⟨rfl, rfl⟩ | ⟨rfl, rfl⟩ | ⟨sg', m', p', a', q', c1, c2, c3, c4, c5, c6, c7, rfl⟩
    · have := (text_len sg a q (by omega) ⟨b6, b7⟩).1
      rw [hl] at this
      simp at this
    · have := (text_len sg a q (by omega) ⟨b6, b7⟩).1
      rw [hl] at this
      simp at this
    · rw [form_cut, form_cut] at hb
      obtain ⟨e1, e2⟩ := cut_unique hb (fun hm => pre_no_p sg a (by omega) _ hm rfl) (fun hm => pre_no_p sg' a' (by omega) _ hm rfl)
      have k1 := parseInt_ok sg a (by omega)
      have k2 := parseInt_ok sg' a' (by omega)
      rw [e1, k2] at k1
      injection k1 with k1
      have k3 := atoi_ok q (by omega)
      have k4 := atoi_ok q' (by omega)
      rw [e2, k4] at k3
      injection k3 with k3
      subst k3
      have ea : a' = a ∧ sg' = sg := by
        cases sg <;> cases sg' <;> simp at k1 <;> first | exact ⟨by omega, rfl⟩ | (exfalso; omega)
      obtain ⟨rfl, rfl⟩ := ea
      exact Flo.read_inj Ieee.double b1 c1 hx hy (by rw [← b5, ← c5])

theorem rep_of {x w1} {y : Nat} (hx : x < 4294967296) (hy : fin .f64 y = true) (h : fcv w1 .f32 x .f64 = y) : Rep y := by
  cases hn : nan32 x with
  | true =>
    have := nan_wide hn w1
    rw [h] at this
    rw [nan_fin64 this] at hy
    cases hy
  | false =>
    rw [fcv_wide hn] at h
    refine ⟨x, hx, ?_, h⟩
    cases hd : Ieee.single.read x with
    | number s m p => exact ⟨s, m, p, hd⟩
    | nan s f =>
      unfold nan32 at hn
      rw [show FloatKind.f32.decode x = _ from hd] at hn
      cases hn
    | infinity s =>
      exfalso
      have e : FloatKind.f64.decode (wid x) = .infinity s := by
        unfold wid
        rw [show FloatKind.f32.decode x = _ from hd]
        cases s <;> decide
      rw [h] at e
      unfold fin at hy
      rw [e] at hy
      cases hy

theorem rep_zero : Rep 0 ∧ Rep 9223372036854775808 :=
  ⟨⟨0, by decide, ⟨false, 0, -149, by decide⟩, by decide⟩, ⟨2147483648, by decide, ⟨true, 0, -149, by decide⟩, by decide⟩⟩

/-- what is no number of single precision is not equal to one -/
theorem not_rep {x y : Nat} (hx : x < 4294967296) (hy : y < 18446744073709551616) (fy : fin .f64 y = true) (h : ¬ Rep y) (w1 : World) : (FloatKind.f64.format.order (fcv w1 .f32 x .f64) y == some .eq) = false := by
  cases hq : (FloatKind.f64.format.order (fcv w1 .f32 x .f64) y == some .eq) with
  | false => rfl
  | true =>
    exfalso
    have ho : FloatKind.f64.format.order (fcv w1 .f32 x .f64) y = some .eq := by simpa using hq
    have hz : fcv w1 .f32 x .f64 < 18446744073709551616 := fcv_wf w1 .f32 x .f64 hx
    rcases txt_cases y hy with hf | rfl | rfl | ⟨sg, m, p, ry, hm⟩
    · rw [hf] at fy; cases fy
    · exact h rep_zero.1
    · exact h rep_zero.2
    · apply h
      apply rep_of hx fy (w1 := w1)
      cases hd : Ieee.double.read (fcv w1 .f32 x .f64) with
      | nan s f => rw [show FloatKind.f64.format = Ieee.double from rfl] at ho; unfold Ieee.Format.order at ho; rw [hd, ry] at ho; cases ho
      | infinity s => rw [show FloatKind.f64.format = Ieee.double from rfl] at ho; unfold Ieee.Format.order at ho; rw [hd, ry] at ho; cases s <;> cases ho
      | number s n q =>
        have o := (Flo.order_num Ieee.double _ y ⟨_, _, _, hd⟩ ⟨_, _, _, ry⟩).2.1.1 ho
        rw [Flo.V_eq hd, Flo.V_eq ry] at o
        have h1 : (0 : Rat) < (m : Rat) := by exact_mod_cast Nat.pos_of_ne_zero hm
        have hV : 0 < (m : Rat) * Flo.pw p := Rat.mul_pos h1 (Flo.pw_pos p)
        obtain ⟨n', q', r', v'⟩ := sign_of (sg := sg) (V := (m : Rat) * Flo.pw p) ⟨_, _, _, hd⟩ hV (by
          rw [show Flo.W (fcv w1 .f32 x .f64) = _ from Flo.V_eq hd, o]
          unfold Flo.val
          cases sg
          · simp
          · simp; grind)
        exact Flo.read_inj Ieee.double r' ry hz hy v'
theorem eq_self {y : Nat} (fy : fin .f64 y = true) : (FloatKind.f64.format.order y y == some .eq) = true := by
  rw [order_self]
  unfold fin at fy
  cases hd : FloatKind.f64.decode y <;> rw [hd] at fy <;> simp_all [Ieee.Datum.isNaN]

/-- the answers: a number of single precision, or 0 and false -/
def PsP (s : ByteArray) (w : World) (e : Ending) (w' : World) : Prop :=
  Nw w w' ∧ ((∃ r, r < 4294967296 ∧ Sm r ∧ IsTxt s (wid r) ∧ e = .returned (.tuple #[.float .f32 r, .bool true])) ∨ ((∀ r, r < 4294967296 → Sm r → ¬ IsTxt s (wid r)) ∧ e = .returned (.tuple #[.float .f32 0, .bool false])))

theorem isTxt_unique {s : ByteArray} {x y : Nat} (h1 : IsTxt s x) (h2 : IsTxt s y) : x = y := by
  obtain ⟨hx, fx, xs, tx, rfl⟩ := h1
  obtain ⟨hy, fy, ys, ty, e⟩ := h2
  exact txt_inj hx hy fy tx ty e

set_option maxRecDepth 100000 in
theorem implSingle (s : ByteArray) (hs : s.size ≤ 1048576) (w : World) (hL : LibW w) :
    Calls Tryd.prog 12 #[.string s] w (PsP s w) := by
  by_cases hy : ∃ y, IsTxt s y
  · obtain ⟨y, hy⟩ := hy
    have P := Lib.hid (implParse_yes s y hy w hL)
    by_cases hrep : Rep y
    · obtain ⟨r, hr, hsm, rfl⟩ := hrep
      obtain ⟨c1, c2⟩ := nar_back hr hsm
      have c3 := fun w => fcv_up hsm w
      have c4 := fcd_up hsm
      have es := eq_self hy.2.1
      have e3 : (FloatKind.f64.format.order (wid r) (wid r) != some .eq) = false := by unfold bne; rw [es]; rfl
      have H := Lib.hid (And.intro hy (And.intro hr hsm))
      clear hy hr hsm es
      go_enter Tryd.func12, Tryd.ntmps12
      go_wp2_with fail
      refine P.out.mono ?_
      rintro e w1 ⟨rfl, n1⟩
      have N1 := Lib.hid n1
      clear n1
      go_wp2_with fail
      all_goals
        go_ret2
        exact ⟨N1.out, .inl ⟨r, H.out.2.1, H.out.2.2, H.out.1, rfl⟩⟩
    · have hw : ∀ w, fcv w .f64 y .f32 < 4294967296 := fun w => fcv_wf w .f64 y .f32 hy.1
      have ne : ∀ w1 w2, (FloatKind.f64.format.order (fcv w1 .f32 (fcv w2 .f64 y .f32) .f64) y != some .eq) = true := fun w1 w2 => by unfold bne; rw [not_rep (hw w2) hy.1 hy.2.1 hrep w1]; rfl
      have B := Lib.hid (show ∀ r, r < 4294967296 → Sm r → ¬ IsTxt s (wid r) from fun r hr hsm ht => hrep ⟨r, hr, hsm, isTxt_unique ht hy⟩)
      clear hy hrep hw
      go_enter Tryd.func12, Tryd.ntmps12
      go_wp2_with fail
      refine P.out.mono ?_
      rintro e w1 ⟨rfl, n1⟩
      have N1 := Lib.hid n1
      clear n1
      go_wp2_with fail
      all_goals
        go_ret2
        exact ⟨N1.out.draw _, .inr ⟨B.out, rfl⟩⟩
  · have hno : ∀ y, ¬ IsTxt s y := fun y h => hy ⟨y, h⟩
    have P := Lib.hid (implParse_no s hs hno w hL)
    have B := Lib.hid hno
    clear hy hno
    go_enter Tryd.func12, Tryd.ntmps12
    go_wp2_with fail
    refine P.out.mono ?_
    rintro e w1 ⟨rfl, n1⟩
    have N1 := Lib.hid n1
    clear n1
    go_wp2_with fail
    all_goals
      go_ret2
      exact ⟨by first | exact N1.out | exact N1.out.draw _, .inr ⟨fun r _ _ => B.out _, rfl⟩⟩

set_option maxRecDepth 100000 in
theorem specSingle (s : ByteArray) (hs : s.size ≤ 1048576) (w : World) :
    Calls Tryd.prog 11 #[.string s] w (PsP s w) := by
  by_cases hy : ∃ y, IsTxt s y
  · obtain ⟨y, hy⟩ := hy
    have P := Lib.hid (specParse_yes s y hy w)
    by_cases hrep : Rep y
    · obtain ⟨r, hr, hsm, rfl⟩ := hrep
      obtain ⟨c1, c2⟩ := nar_back hr hsm
      have T := Lib.hid (fun w => specTextS r hr w)
      have H := Lib.hid (And.intro hy (And.intro hr hsm))
      clear hy hr hsm
      go_enter Tryd.func11, Tryd.ntmps11
      go_wp2_with fail
      refine P.out.mono ?_
      rintro e w1 ⟨rfl, n1⟩
      have N1 := Lib.hid n1
      clear n1
      go_wp2_with fail
      refine (T.out _).mono ?_
      rintro e w2 ⟨xs, u, rfl, tx, n2⟩
      have N2 := Lib.hid (N1.out.trans n2)
      have es : strOfNums xs = s := by
        obtain ⟨-, -, ys, ty, rfl⟩ := H.out.1
        rw [fcv_up H.out.2.2] at tx
        rw [txt_unique tx ty]
      clear n2 tx
      subst es
      go_wp2_with fail
      all_goals
        go_ret2
        exact ⟨by first | exact N2.out | exact N2.out.draw _, .inl ⟨r, H.out.2.1, H.out.2.2, H.out.1, rfl⟩⟩
    · have hw : ∀ w, fcv w .f64 y .f32 < 4294967296 := fun w => fcv_wf w .f64 y .f32 hy.1
      have T := Lib.hid (fun w w2 => specTextS (fcv w2 .f64 y .f32) (hw w2) w)
      have B := Lib.hid (show ∀ r, r < 4294967296 → Sm r → ¬ IsTxt s (wid r) from fun r hr hsm ht => hrep ⟨r, hr, hsm, isTxt_unique ht hy⟩)
      have H := Lib.hid (And.intro hy (And.intro hrep hw))
      clear hy hrep hw
      go_enter Tryd.func11, Tryd.ntmps11
      go_wp2_with fail
      refine P.out.mono ?_
      rintro e w1 ⟨rfl, n1⟩
      have N1 := Lib.hid n1
      clear n1
      go_wp2_with fail
      refine (T.out _ _).mono ?_
      rintro e w2 ⟨xs, u, rfl, tx, n2⟩
      have N2 := Lib.hid ((N1.out.draw _).trans n2)
      have ne : strOfNums xs ≠ s := by
        intro h
        obtain ⟨hy, fy, ys, ty, e2⟩ := H.out.1
        have hz := fcv_wf u .f32 (fcv w1 .f64 y .f32) .f64 (H.out.2.2 w1)
        have := txt_inj hz hy fy tx ty (by rw [h, e2])
        exact H.out.2.1 (rep_of (H.out.2.2 w1) fy this)
      have g : ((strOfNums xs).toList == s.toList) = false := by
        cases hq : ((strOfNums xs).toList == s.toList) with
        | false => rfl
        | true =>
          exfalso
          apply ne
          have h2 : (strOfNums xs).toList = s.toList := by simpa using hq
          rw [ByteArray.toList_eq, ByteArray.toList_eq] at h2
          apply ByteArray.ext
          exact Array.toList_inj.1 h2
      clear n2 tx ne
      go_wp2_with fail
      all_goals
        go_ret2
        exact ⟨N2.out, .inr ⟨B.out, rfl⟩⟩
  · have hno : ∀ y, ¬ IsTxt s y := fun y h => hy ⟨y, h⟩
    have P := Lib.hid (specParse_no s hs hno w)
    have B := Lib.hid hno
    clear hy hno
    go_enter Tryd.func11, Tryd.ntmps11
    go_wp2_with fail
    refine P.out.mono ?_
    rintro e w1 ⟨rfl, n1⟩
    have N1 := Lib.hid n1
    clear n1
    go_wp2_with fail
    all_goals
      go_ret2
      exact ⟨by first | exact N1.out | exact N1.out.draw _, .inr ⟨fun r _ _ => B.out _, rfl⟩⟩

theorem psp_same {s : ByteArray} {w w1 w2 w3 : World} {e1 e2 : Ending} (h1 : PsP s w e1 w1) (h2 : PsP s w2 e2 w3) : ∃ r b, r < 4294967296 ∧ Sm r ∧ e1 = .returned (.tuple #[.float .f32 r, .bool b]) ∧ e2 = .returned (.tuple #[.float .f32 r, .bool b]) := by
  obtain ⟨-, ⟨r, hr, hsm, ht, rfl⟩ | ⟨hno, rfl⟩⟩ := h1
  · obtain ⟨-, ⟨r', hr', hsm', ht', rfl⟩ | ⟨hno', rfl⟩⟩ := h2
    · have e := isTxt_unique ht ht'
      have er : r = r' := by rw [← (nar_back hr hsm).1 default, ← (nar_back hr' hsm').1 default, e]
      subst er
      exact ⟨r, true, hr, hsm, rfl, rfl⟩
    · exact absurd ht (hno' r hr hsm)
  · obtain ⟨-, ⟨r', hr', hsm', ht', rfl⟩ | ⟨hno', rfl⟩⟩ := h2
    · exact absurd ht' (hno r' hr' hsm')
    · exact ⟨0, false, by decide, ⟨false, 0, -149, by decide⟩, rfl, rfl⟩

set_option maxRecDepth 100000 in
theorem law_parseSingle (s : ByteArray) (w : World) (hL : LibW w) :
    Calls Tryd.prog 5 #[.string s] w fun e w' => e = .returned (.bool true) ∧ Nw w w' := by
  by_cases hs : s.size ≤ 1048576
  · have K := Lib.hid (fun w => specSingle s hs w)
    have K2 := Lib.hid (fun w h => implSingle s hs w h)
    have L := Lib.hid hL
    clear hL
    go_enter Tryd.func5, Tryd.ntmps5
    go_wp2_with fail
    refine (K.out _).mono ?_
    intro e1 w1 h1
    have P1 := Lib.hid h1
    have N1 := Lib.hid h1.1
    have I := K2.out w1 (L.out.nw N1.out)
    have J : Calls Tryd.prog 12 #[.string s] w1 fun e2 w2 => Nw w1 w2 ∧ ∃ r b, r < 4294967296 ∧ Sm r ∧ e1 = .returned (.tuple #[.float .f32 r, .bool b]) ∧ e2 = .returned (.tuple #[.float .f32 r, .bool b]) :=
      I.mono fun e2 w2 h2 => ⟨h2.1, psp_same P1.out h2⟩
    obtain ⟨r, b, hr, hsm, he⟩ : ∃ r b, r < 4294967296 ∧ Sm r ∧ e1 = .returned (.tuple #[.float .f32 r, .bool b]) := by
      rcases h1.2 with ⟨r, hr, hsm, -, he⟩ | ⟨-, he⟩
      · exact ⟨r, true, hr, hsm, he⟩
      · exact ⟨0, false, by decide, ⟨false, 0, -149, by decide⟩, he⟩
    have J2 : Calls Tryd.prog 12 #[.string s] w1 fun e2 w2 => Nw w1 w2 ∧ e2 = .returned (.tuple #[.float .f32 r, .bool b]) :=
      J.mono fun e2 w2 ⟨hn, r', b', _, _, h3, h4⟩ => ⟨hn, by rw [h4, ← h3, he]⟩
    have JJ := Lib.hid J2
    have c3 := fun w => fcv_up hsm w
    have c4 := fcd_up hsm
    have sf := sameF_self (wid r)
    clear h1 P1 I J J2 hr hsm
    subst he
    cases b
    all_goals
      go_wp2_with fail
      refine JJ.out.mono ?_
      rintro e w2 ⟨n2, rfl⟩
      have N2 := Lib.hid (N1.out.trans n2)
      clear n2
      go_wp2_with (go_at_call 13; refine (sameFloat_any _ _ _).mono ?_; rintro e w5 ⟨rfl, rfl⟩; rw [sf])
      all_goals
        go_ret
        exact ⟨rfl, N2.out⟩
  · have hs' : 1048576 < s.size := by omega
    clear hs hL
    go_enter Tryd.func5, Tryd.ntmps5
    go_wp2_with fail
    all_goals
      go_ret
      exact ⟨rfl, Nw.refl _⟩
end Go.Proofs.YtjmignhcfmdcaaaDoor
