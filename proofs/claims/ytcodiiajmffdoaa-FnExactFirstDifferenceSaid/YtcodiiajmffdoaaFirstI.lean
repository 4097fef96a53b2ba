/- The walk of the program's FirstDifference.
   Conditions: those that each statement names. -/
import Derived.Test.YtcodiiajmffdoaaFirst
namespace Go.Proofs.Ytcodiiajmffdoaa
open Go Go.RowKit

set_option maxHeartbeats 4000000 in
set_option maxRecDepth 100000 in
theorem implFirst_ok (xs ys : List Nat) (n m bx cy : Nat) (v u : Value) (hx : xs.length = n) (hy : ys.length = m) (hn : n ≤ 1048576) (hm : m ≤ 1048576) (h32 : ∀ x ∈ xs, x < 2 ^ 32) (k32 : ∀ y ∈ ys, y < 2 ^ 32) (w : World)
    (ox : w.ownsRow bx 25 1 v n (cellsS xs)) (oy : w.ownsRow cy 25 1 u m (cellsS ys)) :
    Calls Try.prog 40 #[v, u] w (FdP xs ys w) := by
  obtain ⟨va, vc, rfl⟩ := own_shape' ox
  obtain ⟨ua, uc, rfl⟩ := own_shape' oy
  have Ox := Lib.hid ox
  have Oy := Lib.hid oy
  have Hx := Lib.hid hx
  have Hy := Lib.hid hy
  have Hl := Lib.hid (And.intro h32 k32)
  clear ox oy hx hy h32 k32
  rcases Nat.lt_or_ge n m with hnm | hnm
  all_goals
    go_enter Try.func40, Try.ntmps40
    go_wp2_with fail
    go_loopw [11] (fun i wr => FdI xs ys n m w i wr) (fun i _ => n + m - (intOf i).toNat)
    case atStart => exact ⟨0, .inl (by omega), rfl, rfl, Nw.refl _⟩
    case round =>
      obtain ⟨k, hk, rfl, hfd, hN⟩ := hrel
      have Nr := Lib.hid hN
      have Hf := Lib.hid hfd
      clear hN hfd
      by_cases hlt : k < n
      · obtain ⟨x, hxk⟩ : ∃ x, xs[k]? = some x := ⟨xs[k]'(by rw [Hx.out]; exact hlt), List.getElem?_eq_getElem _⟩
        obtain ⟨g1, cap1, hv1, hcap1, hmax1, -, e1⟩ := own_sample (own_nw Ox.out Nr.out) hxk Hx.out.symm
        cases hv1
        by_cases hlt2 : k < m
        · obtain ⟨y, hyk⟩ : ∃ y, ys[k]? = some y := ⟨ys[k]'(by rw [Hy.out]; exact hlt2), List.getElem?_eq_getElem _⟩
          obtain ⟨g2, cap2, hv2, hcap2, hmax2, -, e2⟩ := own_sample (own_nw Oy.out Nr.out) hyk Hy.out.symm
          cases hv2
          unfold maxLen at hmax1 hmax2
          have lx := Hl.out.1 x (List.mem_of_getElem? hxk)
          have ly := Hl.out.2 y (List.mem_of_getElem? hyk)
          have Hk := Lib.hid (And.intro hxk hyk)
          have Lxy := Lib.hid (And.intro lx ly)
          clear hxk hyk lx ly
          have d1 : decide (n ≤ k) = false := by simp; omega
          have d2 : decide (m ≤ k) = false := by simp; omega
          cases hs : sameX x y with
          | true =>
            have Hs := Lib.hid (Hf.out.trans (fdL_same Hk.out.1 Hk.out.2 hs))
            go_upto_region 4 with fail
            go_quiet (first | (go_at_call 79; with_reducible exact Calls.quiet_of (sameSingle_any _ _ _)))
            all_goals
              go_wp2_with fail
              go_roundw
              case rel => exact ⟨k + 1, .inl (by omega), by rw [show ((k + 1 : Nat) : Int) = (k : Int) + 1 from by omega], Hs.out, Nr.out.draw _⟩
              case measure => simp only [intOf]; omega
          | false =>
            have Hs := Lib.hid (Hf.out.trans (fdL_differ Hk.out.1 Hk.out.2 hs))
            go_upto_region 4 with fail
            go_quiet (first | (go_at_call 79; with_reducible exact Calls.quiet_of (sameSingle_any _ _ _)))
            all_goals
              go_wp2_with fail
              go_ret
              exact ⟨by rw [Hs.out]; rfl, Nr.out.draw _⟩
        · try (exfalso; omega)
          all_goals
            have Hs := Lib.hid (Hf.out.trans (fdL_left (by rw [Hx.out]; exact hlt) (by rw [Hy.out]; omega)))
            have d1 : decide (n ≤ k) = false := by simp; omega
            have d2 : decide (m ≤ k) = true := by simp; omega
            clear e1 hxk
            go_upto_region 4 with fail
            go_quiet (fail)
            all_goals go_wp2_with fail
            all_goals
              go_ret
              exact ⟨by rw [Hs.out]; rfl, Nr.out.draw _⟩
      · by_cases hlt2 : k < m
        · try (exfalso; omega)
          all_goals
            have d1 : decide (n ≤ k) = true := by simp; omega
            have Hs := Lib.hid (Hf.out.trans (fdL_right (by rw [Hx.out]; omega) (by rw [Hy.out]; exact hlt2)))
            go_upto_region 4 with fail
            go_quiet (fail)
            all_goals go_wp2_with fail
            all_goals
              go_ret
              exact ⟨by rw [Hs.out]; rfl, Nr.out.draw _⟩
        · have Hs := Lib.hid (Hf.out.trans (fdL_end (by rw [Hx.out]; omega) (by rw [Hy.out]; omega)))
          go_wp2_with fail
          all_goals
            go_ret
            exact ⟨by rw [Hs.out]; rfl, Nr.out⟩

end Go.Proofs.Ytcodiiajmffdoaa
