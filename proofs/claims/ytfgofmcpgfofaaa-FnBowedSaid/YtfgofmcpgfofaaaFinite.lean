/- The law's walk over samples that are to be finite.
   Conditions: those that each statement names. -/
import Derived.Test.YtfgofmcpgfofaaaBowI
import Derived.Test.YtfgofmcpgfofaaaRingB
namespace Go.Proofs.Ytfgofmcpgfofaaa
open Go Go.RowKit

theorem sub_self_nan (z : Nat) (h : ¬ Sm z) : floatBits .sub .f32 z z = none := by
  show Ieee.single.sub z z = none
  unfold Ieee.Format.sub
  cases hr : Ieee.single.read z with
  | nan s f => simp [Ieee.Datum.sum, Ieee.Datum.opposite]
  | infinity s => cases s <;> simp [Ieee.Datum.sum, Ieee.Datum.opposite]
  | number s m i => exact absurd ⟨_, _, _, hr⟩ h
theorem self_neq (z : Nat) (h : ¬ Sm z) (w : World) : (FloatKind.f32.format.order (fres w .sub .f32 z z) 0 != some .eq) = true := by
  unfold bne
  rw [nan_left (k := .f32) (sub_nan (sub_self_nan z h) w)]; rfl
def FinI (zs : List Nat) (n : Nat) (w : World) (i : Value) (wr : World) : Prop := ∃ k : Nat, k ≤ n ∧ i = .int .i64 (k : Int) ∧ (∀ (j : Nat) z, j < k → zs[j]? = some z → Sm z) ∧ Nw w wr
theorem finite_any (zs : List Nat) (n b : Nat) (v : Value) (hl : zs.length = n) (hn : n ≤ 1048576) (w : World) (h : w.ownsRow b 49 1 v n (cellsS zs)) :
    Calls Try.prog 45 #[v] w fun e w' => (∃ fb, e = .returned (.bool fb) ∧ (fb = true → ∀ z ∈ zs, Sm z)) ∧ Nw w w' := by
  obtain ⟨va, vc, rfl⟩ := own_shape' h
  have H := Lib.hid h
  have Hl := Lib.hid hl
  clear h hl
  go_enter Try.func45, Try.ntmps45
  go_wp2_with fail
  go_loopw [7] (fun i wr => FinI zs n w i wr) (fun i _ => n - (intOf i).toNat)
  case atStart => exact ⟨0, by omega, rfl, fun j z hj => by omega, Nw.refl _⟩
  case round =>
    obtain ⟨k, hk, rfl, hall, hN⟩ := hrel
    have Nr := Lib.hid hN
    have Ha := Lib.hid hall
    clear hN hall
    by_cases hlt : k < n
    · obtain ⟨z, hzk⟩ : ∃ z, zs[k]? = some z := ⟨zs[k]'(by rw [Hl.out]; exact hlt), List.getElem?_eq_getElem _⟩
      obtain ⟨g1, cap1, hv1, hcap1, hmax1, -, e1⟩ := own_sample (own_nw H.out Nr.out) hzk Hl.out.symm
      cases hv1
      unfold maxLen at hmax1
      have Hzk := Lib.hid hzk
      clear hzk
      by_cases hs : Sm z
      · have Hs := Lib.hid (show ∀ (j : Nat) y, j < k + 1 → zs[j]? = some y → Sm y from fun j y hj hy => by
          by_cases e : j = k
          · subst e; rw [Hzk.out] at hy; cases hy; exact hs
          · exact Ha.out j y (by omega) hy)
        cases hne : (FloatKind.f32.format.order (fres wr .sub .f32 z z) 0 != some .eq) with
        | true =>
          clear hs
          go_wp2_with fail
          go_ret
          exact ⟨⟨_, rfl, fun h => by cases h⟩, Nr.out.trans ((Nw.refl _).draw _)⟩
        | false =>
          clear hs
          go_wp2_with fail
          go_roundw
          case rel => exact ⟨k + 1, by omega, by rw [show ((k + 1 : Nat) : Int) = (k : Int) + 1 from by omega], Hs.out, Nr.out.trans ((Nw.refl _).draw _)⟩
          case measure => simp only [intOf]; omega
      · have hne := self_neq z hs
        clear hs
        go_wp2_with fail
        go_ret
        exact ⟨⟨_, rfl, fun h => by cases h⟩, Nr.out.trans ((Nw.refl _).draw _)⟩
    · obtain rfl : k = n := by omega
      go_wp2_with fail
      go_ret
      refine ⟨⟨_, rfl, fun _ z hz => ?_⟩, Nr.out⟩
      obtain ⟨j, hj⟩ := List.getElem?_of_mem hz
      exact Ha.out j z (by have := (List.getElem?_eq_some_iff.1 hj).1; rw [Hl.out] at this; exact this) hj

end Go.Proofs.Ytfgofmcpgfofaaa
