/- The walk of the model's FirstDifference.
   Conditions: those that each statement names. -/
import Derived.Test.YtcodiiajmffdoaaFirst
import Derived.Test.YtcodiiajmffdoaaNoise
namespace Go.Proofs.Ytcodiiajmffdoaa
open Go Go.RowKit

/-- what was widened, whatever the bits of NaN -/
theorem sameX_fab {x y b1 b2 : Nat} (lx : x < 2 ^ 32) (ly : y < 2 ^ 32) (h1 : fab .f64 b1 = wA x) (h2 : fab .f64 b2 = wA y) : sameF b1 b2 = sameX x y := by
  have nn : ∀ {b z : Nat}, fab .f64 b = wA z → nan64 b = nan32 z := by
    intro b z h
    unfold wA at h
    cases hz : nan32 z with
    | true =>
      rw [hz] at h
      cases hb : nan64 b with
      | true => rfl
      | false => rw [fab_some hb] at h; cases h
    | false =>
      rw [hz] at h
      cases hb : nan64 b with
      | false => rfl
      | true => rw [fab_none hb] at h; cases h
  have wd : ∀ {b z : Nat}, fab .f64 b = wA z → nan32 z = false → b = wid z := by
    intro b z h hz
    have hb := nn h
    rw [hz] at hb
    unfold wA at h
    rw [hz, fab_some hb] at h
    simpa using h
  cases hx : nan32 x with
  | true =>
    have e1 := nn h1
    have e2 := nn h2
    rw [hx] at e1
    unfold sameF sameX
    rw [e1, e2, hx]
    cases hy : nan32 y with
    | true => simp
    | false =>
      have : x ≠ y := by intro e; subst e; rw [hx] at hy; cases hy
      simp [this]
  | false =>
    cases hy : nan32 y with
    | true =>
      have e1 := nn h1
      have e2 := nn h2
      rw [hx] at e1
      rw [hy] at e2
      unfold sameF sameX
      rw [e1, e2, hx, hy]
      have : x ≠ y := by intro e; subst e; rw [hx] at hy; cases hy
      simp [this]
    | false => rw [wd h1 hx, wd h2 hy, sameX_wide hx hy lx ly]

set_option maxHeartbeats 4000000 in
set_option maxRecDepth 100000 in
theorem specFirst_ok (xs ys : List Nat) (n m bx cy : Nat) (v u : Value) (hx : xs.length = n) (hy : ys.length = m) (hn : n ≤ 1048576) (hm : m ≤ 1048576) (h32 : ∀ x ∈ xs, x < 2 ^ 32) (k32 : ∀ y ∈ ys, y < 2 ^ 32) (w : World)
    (ox : w.ownsRow bx 25 1 v n (cellsS xs)) (oy : w.ownsRow cy 25 1 u m (cellsS ys)) :
    Calls Try.prog 39 #[v, u] w (FdP xs ys w) := by
  obtain ⟨va, vc, rfl⟩ := own_shape' ox
  obtain ⟨ua, uc, rfl⟩ := own_shape' oy
  have Ox := Lib.hid ox
  have Oy := Lib.hid oy
  have Hx := Lib.hid hx
  have Hy := Lib.hid hy
  have Hl := Lib.hid (And.intro h32 k32)
  clear ox oy hx hy h32 k32
  go_enter Try.func39, Try.ntmps39
  go_wp2_with fail
  go_loopw [5] (fun i wr => FdI xs ys n m w i wr) (fun i _ => n + m - (intOf i).toNat)
  case atStart => exact ⟨0, .inl (by omega), rfl, rfl, Nw.refl _⟩
  case round =>
    obtain ⟨k, hk, rfl, hfd, hN⟩ := hrel
    have Nr := Lib.hid hN
    have Hf := Lib.hid hfd
    clear hN hfd
    by_cases hlt : k < n
    · obtain ⟨x, hxk⟩ : ∃ x, xs[k]? = some x := ⟨xs[k]'(by rw [Hx.out]; exact hlt), List.getElem?_eq_getElem _⟩
      obtain ⟨g1, cap1, hv1, hcap1, hmax1, -, e1⟩ := own_sample (own_nw Ox.out Nr.out) hxk Hx.out.symm
      cases hv1
      by_cases hlt2 : k < m
      · obtain ⟨y, hyk⟩ : ∃ y, ys[k]? = some y := ⟨ys[k]'(by rw [Hy.out]; exact hlt2), List.getElem?_eq_getElem _⟩
        obtain ⟨g2, cap2, hv2, hcap2, hmax2, -, e2⟩ := own_sample (own_nw Oy.out Nr.out) hyk Hy.out.symm
        cases hv2
        unfold maxLen at hmax1 hmax2
        have lx := Hl.out.1 x (List.mem_of_getElem? hxk)
        have ly := Hl.out.2 y (List.mem_of_getElem? hyk)
        have Hk := Lib.hid (And.intro hxk hyk)
        have Lxy := Lib.hid (And.intro lx ly)
        clear hxk hyk lx ly
        have d1 : decide (n ≤ k) = false := by simp; omega
        have d2 : decide (m ≤ k) = false := by simp; omega
        by_cases hnan : nan32 x = false ∧ nan32 y = false
        · obtain ⟨hnx, hny⟩ := hnan
          have a1 := fcv_wide hnx
          have a2 := fcd_wide hnx
          have b1 := fcv_wide hny
          have b2 := fcd_wide hny
          have hw := (sameB_sameF (wid x) (wid y)).trans (sameX_wide hnx hny Lxy.out.1 Lxy.out.2)
          cases hs : sameX x y with
          | true =>
            have Hs := Lib.hid (Hf.out.trans (fdL_same Hk.out.1 Hk.out.2 hs))
            rw [hs] at hw
            go_upto_region 4 with fail
            go_quiet (first | (go_at_call 78; with_reducible exact quiet_eq (l8Same_any _ _ _)))
            all_goals
              go_wp2_with fail
              go_roundw
              case rel => exact ⟨k + 1, .inl (by omega), by rw [show ((k + 1 : Nat) : Int) = (k : Int) + 1 from by omega], Hs.out, Nr.out.draw _⟩
              case measure => simp only [intOf]; omega
          | false =>
            have Hs := Lib.hid (Hf.out.trans (fdL_differ Hk.out.1 Hk.out.2 hs))
            rw [hs] at hw
            go_upto_region 4 with fail
            go_quiet (first | (go_at_call 78; with_reducible exact quiet_eq (l8Same_any _ _ _)))
            all_goals
              go_wp2_with fail
              go_ret
              exact ⟨by rw [Hs.out]; rfl, Nr.out.draw _⟩
        · clear hnan
          cases hs : sameX x y with
          | true =>
            have Hs := Lib.hid (Hf.out.trans (fdL_same Hk.out.1 Hk.out.2 hs))
            have Hs0 := Lib.hid hs
            clear hs
            go_upto_region 4 with fail
            refine Noise.wp_region_noise (by kernel_rfl) (by kernel_rfl) (by kernel_rfl) ?_
            repeat (refine Noise.noise_step1 rfl (fun K hK => ?_); go_simp; refine hK _ ?_; clear hK K)
            refine Noise.noise_step0 rfl (fun K hK => ?_)
            go_simp
            refine ⟨fun v => ∃ b, v = .float .f64 b ∧ fab .f64 b = wA x, ⟨_, fcv wr .f32 x .f64, rfl, fab_wide x wr⟩, fun n => ⟨⟨_, rfl⟩, _, rfl, fab_wide x _⟩, ?_⟩
            rintro _ ⟨b1, rfl, hb1⟩
            refine hK _ ?_
            clear hK K
            repeat (refine Noise.noise_step1 rfl (fun K hK => ?_); go_simp; refine hK _ ?_; clear hK K)
            refine Noise.noise_step0 rfl (fun K hK => ?_)
            go_simp
            refine ⟨fun v => ∃ b, v = .float .f64 b ∧ fab .f64 b = wA y, ⟨_, fcv wr .f32 y .f64, rfl, fab_wide y wr⟩, fun n => ⟨⟨_, rfl⟩, _, rfl, fab_wide y _⟩, ?_⟩
            rintro _ ⟨b2, rfl, hb2⟩
            refine hK _ ?_
            clear hK K
            have hsb := (sameB_sameF b1 b2).trans (sameX_fab Lxy.out.1 Lxy.out.2 hb1 hb2)
            rw [Hs0.out] at hsb
            refine Noise.noise_step2 rfl (fun K hK => ?_)
            go_simp
            apply Exists.intro
            refine ⟨fun _ => ?_, hK _ ?_⟩
            · go_at_call 78; with_reducible exact quiet_eq (l8Same_any _ _ _)
            clear hK K
            repeat (refine Noise.noise_step1 rfl (fun K hK => ?_); go_simp; refine hK _ ?_; clear hK K)
            refine Noise.noise_nil ?_
            intro _ hw'
            obtain ⟨nq, hw''⟩ := hw'
            subst hw''
            go_wp2_with fail
            go_roundw
            case rel => exact ⟨k + 1, .inl (by omega), by rw [show ((k + 1 : Nat) : Int) = (k : Int) + 1 from by omega], Hs.out, Nr.out.draw _⟩
            case measure => simp only [intOf]; omega
          | false =>
            have Hs := Lib.hid (Hf.out.trans (fdL_differ Hk.out.1 Hk.out.2 hs))
            have Hs0 := Lib.hid hs
            clear hs
            go_upto_region 4 with fail
            refine Noise.wp_region_noise (by kernel_rfl) (by kernel_rfl) (by kernel_rfl) ?_
            repeat (refine Noise.noise_step1 rfl (fun K hK => ?_); go_simp; refine hK _ ?_; clear hK K)
            refine Noise.noise_step0 rfl (fun K hK => ?_)
            go_simp
            refine ⟨fun v => ∃ b, v = .float .f64 b ∧ fab .f64 b = wA x, ⟨_, fcv wr .f32 x .f64, rfl, fab_wide x wr⟩, fun n => ⟨⟨_, rfl⟩, _, rfl, fab_wide x _⟩, ?_⟩
            rintro _ ⟨b1, rfl, hb1⟩
            refine hK _ ?_
            clear hK K
            repeat (refine Noise.noise_step1 rfl (fun K hK => ?_); go_simp; refine hK _ ?_; clear hK K)
            refine Noise.noise_step0 rfl (fun K hK => ?_)
            go_simp
            refine ⟨fun v => ∃ b, v = .float .f64 b ∧ fab .f64 b = wA y, ⟨_, fcv wr .f32 y .f64, rfl, fab_wide y wr⟩, fun n => ⟨⟨_, rfl⟩, _, rfl, fab_wide y _⟩, ?_⟩
            rintro _ ⟨b2, rfl, hb2⟩
            refine hK _ ?_
            clear hK K
            have hsb := (sameB_sameF b1 b2).trans (sameX_fab Lxy.out.1 Lxy.out.2 hb1 hb2)
            rw [Hs0.out] at hsb
            refine Noise.noise_step2 rfl (fun K hK => ?_)
            go_simp
            apply Exists.intro
            refine ⟨fun _ => ?_, hK _ ?_⟩
            · go_at_call 78; with_reducible exact quiet_eq (l8Same_any _ _ _)
            clear hK K
            repeat (refine Noise.noise_step1 rfl (fun K hK => ?_); go_simp; refine hK _ ?_; clear hK K)
            refine Noise.noise_nil ?_
            intro _ hw'
            obtain ⟨nq, hw''⟩ := hw'
            subst hw''
            go_wp2_with fail
            go_ret
            exact ⟨by rw [Hs.out]; rfl, Nr.out.draw _⟩
      · have Hs := Lib.hid (Hf.out.trans (fdL_left (by rw [Hx.out]; exact hlt) (by rw [Hy.out]; omega)))
        have d1 : decide (n ≤ k) = false := by simp; omega
        have d2 : decide (m ≤ k) = true := by simp; omega
        clear e1 hxk
        go_upto_region 4 with fail
        go_quiet (fail)
        all_goals go_wp2_with fail
        all_goals
          go_ret
          exact ⟨by rw [Hs.out]; rfl, Nr.out.draw _⟩
    · by_cases hlt2 : k < m
      · have d1 : decide (n ≤ k) = true := by simp; omega
        have Hs := Lib.hid (Hf.out.trans (fdL_right (by rw [Hx.out]; omega) (by rw [Hy.out]; exact hlt2)))
        go_upto_region 4 with fail
        go_quiet (fail)
        all_goals go_wp2_with fail
        all_goals
          go_ret
          exact ⟨by rw [Hs.out]; rfl, Nr.out.draw _⟩
      · have Hs := Lib.hid (Hf.out.trans (fdL_end (by rw [Hx.out]; omega) (by rw [Hy.out]; omega)))
        go_wp2_with fail
        all_goals
          go_ret
          exact ⟨by rw [Hs.out]; rfl, Nr.out⟩

end Go.Proofs.Ytcodiiajmffdoaa
