/- The walk of the program's FitReal.
   Conditions: those that each statement names. -/
import Derived.Test.YtcodiiajmffdoaaFitR
namespace Go.Proofs.Ytcodiiajmffdoaa
open Go Go.RowKit

set_option maxRecDepth 100000 in
set_option maxHeartbeats 4000000 in
theorem implFit_ok (zs : List Nat) (n b : Nat) (v : Value) (hl : zs.length = n) (hn : n ≤ 1048576) (w : World) (h : w.ownsRow b 25 1 v n (cellsS zs)) :
    Calls Try.prog 53 #[v] w (FitP zs n w) := by
  obtain ⟨va, vc, rfl⟩ := own_shape' h
  have H := Lib.hid h
  have Hl := Lib.hid hl
  clear h hl
  by_cases hbig : 2000 < n
  · have Hno := Lib.hid (show frOk zs n = false from by unfold frOk; rw [show decide (n ≤ 2000) = false from by simpa using hbig]; simp)
    go_enter Try.func53, Try.ntmps53
    go_wp2
    go_ret3
    exact ⟨_, _, _, rfl, by unfold frR1; rw [Hno.out]; rfl, by unfold frR2; rw [Hno.out]; rfl, Hno.out.symm, Nw.refl _⟩
  have Hs := Lib.hid hbig
  go_enter Try.func53, Try.ntmps53
  go_wp2_with fail
  go_loopw [5, 6, 7, 8, 9, 10] (fun x1 x2 x3 x4 x5 i wr => FrI zs n w x1 x2 x3 x4 x5 i wr) (fun _ _ _ _ _ i _ => n - (intOf i).toNat)
  case atStart => exact ⟨0, 0, 0, 0, 0, 0, .inr rfl, rfl, rfl, rfl, rfl, rfl, rfl, rfl, rfl, rfl, rfl, rfl, Nw.refl _⟩
  case round =>
    obtain ⟨k, s1, s2, s3, s4, s5, hk, rfl, rfl, rfl, rfl, rfl, rfl, h1, h2, h3, h4, h5, hN⟩ := hrel
    have Nr := Lib.hid hN
    have Hacc := Lib.hid (And.intro h1 (And.intro h2 (And.intro h3 (And.intro h4 h5))))
    clear hN h1 h2 h3 h4 h5
    by_cases hlt : k + 2 < n
    · obtain ⟨x, hxk⟩ : ∃ x, zs[k]? = some x := ⟨zs[k]'(by rw [Hl.out]; omega), List.getElem?_eq_getElem _⟩
      obtain ⟨y, hyk⟩ : ∃ y, zs[k + 1]? = some y := ⟨zs[k + 1]'(by rw [Hl.out]; omega), List.getElem?_eq_getElem _⟩
      obtain ⟨z, hzk⟩ : ∃ z, zs[k + 2]? = some z := ⟨zs[k + 2]'(by rw [Hl.out]; omega), List.getElem?_eq_getElem _⟩
      obtain ⟨g1, cap1, hv1, hcap1, hmax1, -, e1⟩ := own_sample (own_nw H.out Nr.out) hxk Hl.out.symm
      obtain ⟨g2, cap2, hv2, hcap2, hmax2, -, e2⟩ := own_sample (own_nw H.out Nr.out) hyk Hl.out.symm
      obtain ⟨g3, cap3, hv3, hcap3, hmax3, -, e3⟩ := own_sample (own_nw H.out Nr.out) hzk Hl.out.symm
      cases hv1
      cases hv2
      cases hv3
      unfold maxLen at hmax1
      have Hk := Lib.hid (And.intro (wv_at hxk) (And.intro (wv_at hyk) (wv_at hzk)))
      clear hxk hyk hzk hcap2 hcap3 hmax2 hmax3
      go_upto_region 7 with fail
      have wr1 : IntKind.i64.wrap ((k : Int) + 1) = (k : Int) + 1 := by rw [IntKind.wrap_i64]; omega
      have wr2 : IntKind.i64.wrap ((k : Int) + 2) = (k : Int) + 2 := by rw [IntKind.wrap_i64]; omega
      have b0 : (0 : Int) ≤ (k : Int) + 1 := by omega
      have b1' : (k : Int) + 1 < (n : Int) := by omega
      have b2' : (0 : Int) ≤ (k : Int) + 2 := by omega
      have b3 : (k : Int) + 2 < (n : Int) := by omega
      have b4 : k < n := by omega
      have t1 : ((k : Int) + 1).toNat = k + 1 := by omega
      have t2 : ((k : Int) + 2).toNat = k + 2 := by omega
      refine Noise.wp_region_noise (by kernel_rfl) (by kernel_rfl) (by kernel_rfl) ?_
      repeat (refine Noise.noise_step1 rfl (fun K hK => ?_); go_simp; refine hK _ ?_; clear hK K)
      refine Noise.noise_step0 rfl (fun K hK => ?_)
      go_simp
      refine ⟨fun v => ∃ b, v = .float .f64 b ∧ fab .f64 b = wA y, ⟨_, fcv wr .f32 y .f64, rfl, fab_wide y wr⟩, fun n => ⟨⟨_, rfl⟩, _, rfl, fab_wide y _⟩, ?_⟩
      rintro _ ⟨b1, rfl, hb1⟩
      refine hK _ ?_
      clear hK K
      repeat (refine Noise.noise_step1 rfl (fun K hK => ?_); go_simp; refine hK _ ?_; clear hK K)
      refine Noise.noise_step0 rfl (fun K hK => ?_)
      go_simp
      refine ⟨fun v => ∃ b, v = .float .f64 b ∧ fab .f64 b = wA x, ⟨_, fcv wr .f32 x .f64, rfl, fab_wide x wr⟩, fun n => ⟨⟨_, rfl⟩, _, rfl, fab_wide x _⟩, ?_⟩
      rintro _ ⟨b2, rfl, hb2⟩
      refine hK _ ?_
      clear hK K
      repeat (refine Noise.noise_step1 rfl (fun K hK => ?_); go_simp; refine hK _ ?_; clear hK K)
      refine Noise.noise_step0 rfl (fun K hK => ?_)
      go_simp
      refine ⟨fun v => ∃ b, v = .float .f64 b ∧ fab .f64 b = wA z, ⟨_, fcv wr .f32 z .f64, rfl, fab_wide z wr⟩, fun n => ⟨⟨_, rfl⟩, _, rfl, fab_wide z _⟩, ?_⟩
      rintro _ ⟨b3, rfl, hb3⟩
      refine hK _ ?_
      clear hK K
      repeat (refine Noise.noise_step1 rfl (fun K hK => ?_); go_simp; refine hK _ ?_; clear hK K)
      refine Noise.noise_nil ?_
      intro _ hw'
      obtain ⟨nq, hw''⟩ := hw'
      subst hw''
      have Hb := Lib.hid (And.intro hb1 (And.intro hb2 hb3))
      clear hb1 hb2 hb3
      go_wp2_with fail
      go_roundw
      case rel =>
        refine ⟨k + 1, _, _, _, _, _, .inl (by omega), rfl, rfl, rfl, rfl, rfl, by rw [show ((k + 1 : Nat) : Int) = (k : Int) + 1 from by omega], ?_, ?_, ?_, ?_, ?_, (Nr.out.draw nq).trans ⟨rfl, rfl, rfl, Nat.le_refl _, fun _ _ _ => rfl⟩⟩
        · rw [fab_fres, fab_fres, Hacc.out.1]; show fA .add .f64 _ _ = fA .add .f64 _ (fA .mul .f64 (wv zs (k + 1)) (wv zs (k + 1))); rw [Hk.out.2.1]; simp only [Hb.out.1, Hb.out.2.1, Hb.out.2.2]
        · rw [fab_fres, fab_fres, Hacc.out.2.1]; show fA .add .f64 _ _ = fA .add .f64 _ (fA .mul .f64 (wv zs (k + 1)) (wv zs k)); rw [Hk.out.2.1, Hk.out.1]; simp only [Hb.out.1, Hb.out.2.1, Hb.out.2.2]
        · rw [fab_fres, fab_fres, Hacc.out.2.2.1]; show fA .add .f64 _ _ = fA .add .f64 _ (fA .mul .f64 (wv zs k) (wv zs k)); rw [Hk.out.1]; simp only [Hb.out.1, Hb.out.2.1, Hb.out.2.2]
        · rw [fab_fres, fab_fres, Hacc.out.2.2.2.1]; show fA .add .f64 _ _ = fA .add .f64 _ (fA .mul .f64 (wv zs (k + 1)) (wv zs (k + 2))); rw [Hk.out.2.1, Hk.out.2.2]; simp only [Hb.out.1, Hb.out.2.1, Hb.out.2.2]
        · rw [fab_fres, fab_fres, Hacc.out.2.2.2.2]; show fA .add .f64 _ _ = fA .add .f64 _ (fA .mul .f64 (wv zs k) (wv zs (k + 2))); rw [Hk.out.1, Hk.out.2.2]; simp only [Hb.out.1, Hb.out.2.1, Hb.out.2.2]
      case measure => simp only [intOf]; omega
    · have hkn : k = n - 2 := by omega
      have h2i : ¬ ((k : Int) + 2 < (n : Int)) := by omega
      obtain ⟨h1, h2, h3, h4, h5⟩ := Hacc.out
      rw [hkn] at h1 h2 h3 h4 h5
      have Ed := Lib.hid (fun w1 w2 w3 => show (FloatKind.f64.format.order (fres w3 .sub .f64 (fres w1 .mul .f64 s1 s3) (fres w2 .mul .f64 s2 s2)) 0 == some .eq) = eqZ (frD zs n) from by rw [eqz_fab, fab_fres, fab_fres, fab_fres, h1, h2, h3]; rfl)
      have Fd := Lib.hid (fun w1 w2 w3 => show fin .f64 (fres w3 .sub .f64 (fres w1 .mul .f64 s1 s3) (fres w2 .mul .f64 s2 s2)) = finO .f64 (frD zs n) from by rw [← finO_fab, fab_fres, fab_fres, fab_fres, h1, h2, h3]; rfl)
      have Ga := Lib.hid (fun w1 w2 w3 w4 w5 w6 w7 => show fab .f64 (fres w7 .quo .f64 (fres w6 .sub .f64 (fres w4 .mul .f64 s4 s3) (fres w5 .mul .f64 s5 s2)) (fres w3 .sub .f64 (fres w1 .mul .f64 s1 s3) (fres w2 .mul .f64 s2 s2))) = frA zs n from by simp only [fab_fres, h1, h2, h3, h4, h5]; rfl)
      have Gb := Lib.hid (fun w1 w2 w3 w4 w5 w6 w7 => show fab .f64 (fres w7 .quo .f64 (fres w6 .sub .f64 (fres w4 .mul .f64 s4 s2) (fres w5 .mul .f64 s5 s1)) (fres w3 .sub .f64 (fres w1 .mul .f64 s1 s3) (fres w2 .mul .f64 s2 s2))) = frB zs n from by simp only [fab_fres, h1, h2, h3, h4, h5]; rfl)
      have Fa := Lib.hid (fun w1 w2 w3 w4 w5 w6 w7 => show fin .f64 (fres w7 .quo .f64 (fres w6 .sub .f64 (fres w4 .mul .f64 s4 s3) (fres w5 .mul .f64 s5 s2)) (fres w3 .sub .f64 (fres w1 .mul .f64 s1 s3) (fres w2 .mul .f64 s2 s2))) = finO .f64 (frA zs n) from by rw [← finO_fab, Ga.out])
      have Fb := Lib.hid (fun w1 w2 w3 w4 w5 w6 w7 => show fin .f64 (fres w7 .quo .f64 (fres w6 .sub .f64 (fres w4 .mul .f64 s4 s2) (fres w5 .mul .f64 s5 s1)) (fres w3 .sub .f64 (fres w1 .mul .f64 s1 s3) (fres w2 .mul .f64 s2 s2))) = finO .f64 (frB zs n) from by rw [← finO_fab, Gb.out])
      clear h1 h2 h3 h4 h5
      have hz0 := Ed.out
      cases hz : eqZ (frD zs n) with
      | true =>
        rw [hz] at hz0
        go_wp2_with fail
        all_goals
          go_ret3
          exact ⟨_, _, _, rfl, by unfold frR1; rw [no_hz hz]; rfl, by unfold frR2; rw [no_hz hz]; rfl, (no_hz hz).symm, Nr.out.trans ⟨rfl, rfl, rfl, Nat.le_refl _, fun _ _ _ => rfl⟩⟩
      | false =>
        rw [hz] at hz0
        cases hd : finO .f64 (frD zs n) with
        | false =>
          go_wp2_with (first | (go_at_call 85; refine (isFinitePart_any _ _ (fres_lt _ _ _ _)).mono ?_; rintro e w' ⟨rfl, rfl⟩; first | (rw [Fd.out, hd]) | (rw [Fa.out, ha]) | (rw [Fb.out, hb])))
          all_goals
            go_ret3
            exact ⟨_, _, _, rfl, by unfold frR1; rw [no_hd hd]; rfl, by unfold frR2; rw [no_hd hd]; rfl, (no_hd hd).symm, Nr.out.trans ⟨rfl, rfl, rfl, Nat.le_refl _, fun _ _ _ => rfl⟩⟩
        | true =>
          cases ha : finO .f64 (frA zs n) with
          | false =>
            go_wp2_with (first | (go_at_call 85; refine (isFinitePart_any _ _ (fres_lt _ _ _ _)).mono ?_; rintro e w' ⟨rfl, rfl⟩; first | (rw [Fd.out, hd]) | (rw [Fa.out, ha]) | (rw [Fb.out, hb])))
            all_goals
              go_ret3
              exact ⟨_, _, _, rfl, by unfold frR1; rw [no_ha ha]; rfl, by unfold frR2; rw [no_ha ha]; rfl, (no_ha ha).symm, Nr.out.trans ⟨rfl, rfl, rfl, Nat.le_refl _, fun _ _ _ => rfl⟩⟩
          | true =>
            cases hb : finO .f64 (frB zs n) with
            | false =>
              go_wp2_with (first | (go_at_call 85; refine (isFinitePart_any _ _ (fres_lt _ _ _ _)).mono ?_; rintro e w' ⟨rfl, rfl⟩; first | (rw [Fd.out, hd]) | (rw [Fa.out, ha]) | (rw [Fb.out, hb])))
              all_goals
                go_ret3
                exact ⟨_, _, _, rfl, by unfold frR1; rw [no_hb hb]; rfl, by unfold frR2; rw [no_hb hb]; rfl, (no_hb hb).symm, Nr.out.trans ⟨rfl, rfl, rfl, Nat.le_refl _, fun _ _ _ => rfl⟩⟩
            | true =>
              have ok : frOk zs n = true := by unfold frOk; rw [hz, hd, ha, hb, show decide (n ≤ 2000) = true from by have := Hs.out; simp; omega]; rfl
              go_wp2_with (first | (go_at_call 85; refine (isFinitePart_any _ _ (fres_lt _ _ _ _)).mono ?_; rintro e w' ⟨rfl, rfl⟩; first | (rw [Fd.out, hd]) | (rw [Fa.out, ha]) | (rw [Fb.out, hb])))
              all_goals
                go_ret3
                exact ⟨_, _, _, rfl, by unfold frR1; rw [ok, Ga.out]; rfl, by unfold frR2; rw [ok, Gb.out]; rfl, ok.symm, Nr.out.trans ⟨rfl, rfl, rfl, Nat.le_refl _, fun _ _ _ => rfl⟩⟩

end Go.Proofs.Ytcodiiajmffdoaa
