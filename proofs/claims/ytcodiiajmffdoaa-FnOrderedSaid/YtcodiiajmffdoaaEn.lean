/- The walks of EnergyOf, the program's and the model's: the sum of the squares, but for the bits of NaN; of finite samples it is a number.
   Conditions: those that each statement names. -/
import Derived.Test.YtcodiiajmffdoaaFls
namespace Go.Proofs.Ytcodiiajmffdoaa
open Go Go.RowKit

/-- the sum of the squares, but for the bits of NaN -/
def enA (zs : List Nat) : Option Nat := zs.foldl (fun s x => fA .add .f64 s (fA .mul .f64 (wA x) (wA x))) (fab .f64 0)
theorem enA_take (zs : List Nat) (k x : Nat) (h : zs[k]? = some x) : enA (zs.take (k + 1)) = fA .add .f64 (enA (zs.take k)) (fA .mul .f64 (wA x) (wA x)) := by
  obtain ⟨hk, he⟩ := List.getElem?_eq_some_iff.1 h
  unfold enA
  rw [List.take_succ_eq_append_getElem hk, List.foldl_append, he]; rfl

def EnI (zs : List Nat) (n : Nat) (w : World) (y i : Value) (wr : World) : Prop :=
  ∃ k s : Nat, k ≤ n ∧ i = .int .i64 (k : Int) ∧ y = .float .f64 s ∧ fab .f64 s = enA (zs.take k) ∧ Nw w wr
def EnP (zs : List Nat) (w : World) (e : Ending) (w' : World) : Prop := ∃ s, e = .returned (.float .f64 s) ∧ fab .f64 s = enA zs ∧ Nw w w'

theorem implEnergy_ok (zs : List Nat) (n b : Nat) (v : Value) (hl : zs.length = n) (hn : n ≤ 1048576) (w : World) (h : w.ownsRow b 25 1 v n (cellsS zs)) :
    Calls Try.prog 17 #[v] w (EnP zs w) := by
  obtain ⟨va, vc, rfl⟩ := own_shape' h
  have H := Lib.hid h
  have Hl := Lib.hid hl
  clear h hl
  go_enter Try.func17, Try.ntmps17
  go_wp2_with fail
  go_loopw [3, 8] (fun y i wr => EnI zs n w y i wr) (fun _ i _ => n - (intOf i).toNat)
  case atStart => exact ⟨0, 0, by omega, rfl, rfl, rfl, Nw.refl _⟩
  case round =>
    obtain ⟨k, s, hk, rfl, rfl, hs, hN⟩ := hrel
    have Hs := Lib.hid hs
    have Nr := Lib.hid hN
    clear hs hN
    by_cases hlt : k < n
    · obtain ⟨x, hxk⟩ : ∃ x, zs[k]? = some x := ⟨zs[k]'(by rw [Hl.out]; exact hlt), List.getElem?_eq_getElem _⟩
      obtain ⟨g1, cap1, hv1, hcap1, hmax1, -, e1⟩ := own_sample (own_nw H.out Nr.out) hxk Hl.out.symm
      cases hv1
      unfold maxLen at hmax1
      have Hxk := Lib.hid hxk
      clear hxk
      go_wp2_with fail
      go_roundw
      case rel => exact ⟨k + 1, _, by omega, by rw [show ((k + 1 : Nat) : Int) = (k : Int) + 1 from by omega], rfl, by rw [enA_take zs k x Hxk.out, ← Hs.out, fab_fres, fab_fres, fab_wide, fab_wide], Nr.out.trans ⟨rfl, rfl, rfl, Nat.le_refl _, fun _ _ _ => rfl⟩⟩
      case measure => simp only [intOf]; omega
    · obtain rfl : k = n := by omega
      go_wp2_with fail
      go_ret
      exact ⟨s, rfl, by have h := Hs.out; rwa [List.take_of_length_le (by rw [Hl.out]; exact Nat.le_refl _)] at h, Nr.out⟩

end Go.Proofs.Ytcodiiajmffdoaa
