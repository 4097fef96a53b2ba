/- The walks of CrossingsOf, the program's and the model's: how many samples but the first are at least 0 while the one before is less than 0.
   Conditions: those that each statement names. -/
import Derived.Test.YtcodiiajmffdoaaFls
namespace Go.Proofs.Ytcodiiajmffdoaa
open Go Go.RowKit

def below0 (x : Nat) : Bool := FloatKind.f32.format.order x 0 == some .lt
def from0 (x : Nat) : Bool := FloatKind.f32.format.order x 0 == some .gt || FloatKind.f32.format.order x 0 == some .eq
def crossAt (zs : List Nat) (k : Nat) : Bool := below0 (zs.getD k 0) && from0 (zs.getD (k + 1) 0)
def crN (zs : List Nat) : Nat → Nat
  | 0 => 0
  | k + 1 => crN zs k + if crossAt zs k then 1 else 0
theorem crN_le (zs : List Nat) : ∀ k, crN zs k ≤ k
  | 0 => Nat.le_refl _
  | k + 1 => by
    have := crN_le zs k
    unfold crN
    split <;> omega
def CrI (zs : List Nat) (n : Nat) (w : World) (c i : Value) (wr : World) : Prop :=
  ∃ k : Nat, (k + 1 ≤ n ∨ k = 0) ∧ i = .int .i64 ((k : Int) + 1) ∧ c = .int .i64 (crN zs k : Int) ∧ Nw w wr
def CrP (zs : List Nat) (n : Nat) (w : World) (e : Ending) (w' : World) : Prop := e = .returned (.int .i64 (crN zs (n - 1) : Int)) ∧ Nw w w'
theorem cr_up {zs : List Nat} {k x y : Nat} (hx : zs[k]? = some x) (hy : zs[k + 1]? = some y) (h : (below0 x && from0 y) = true) : crN zs (k + 1) = crN zs k + 1 := by
  have : crossAt zs k = true := by unfold crossAt; rw [List.getD_eq_getElem?_getD, List.getD_eq_getElem?_getD, hx, hy]; exact h
  show crN zs k + (if crossAt zs k then 1 else 0) = _
  rw [this]; rfl
theorem cr_stay {zs : List Nat} {k x y : Nat} (hx : zs[k]? = some x) (hy : zs[k + 1]? = some y) (h : (below0 x && from0 y) = false) : crN zs (k + 1) = crN zs k := by
  have : crossAt zs k = false := by unfold crossAt; rw [List.getD_eq_getElem?_getD, List.getD_eq_getElem?_getD, hx, hy]; exact h
  show crN zs k + (if crossAt zs k then 1 else 0) = _
  rw [this]; rfl

set_option maxRecDepth 100000 in
theorem implCross_ok (zs : List Nat) (n b : Nat) (v : Value) (hl : zs.length = n) (hn : n ≤ 1048576) (w : World) (h : w.ownsRow b 25 1 v n (cellsS zs)) :
    Calls Try.prog 18 #[v] w (CrP zs n w) := by
  obtain ⟨va, vc, rfl⟩ := own_shape' h
  have H := Lib.hid h
  have Hl := Lib.hid hl
  clear h hl
  go_enter Try.func18, Try.ntmps18
  go_wp2_with fail
  go_loopw [3, 4] (fun c i wr => CrI zs n w c i wr) (fun _ i _ => n + 1 - (intOf i).toNat)
  case atStart => exact ⟨0, .inr rfl, rfl, rfl, Nw.refl _⟩
  case round =>
    obtain ⟨k, hk, rfl, rfl, hN⟩ := hrel
    have Nr := Lib.hid hN
    have hle := crN_le zs k
    clear hN
    by_cases hlt : k + 1 < n
    · obtain ⟨x, hxk⟩ : ∃ x, zs[k]? = some x := ⟨zs[k]'(by rw [Hl.out]; omega), List.getElem?_eq_getElem _⟩
      obtain ⟨y, hyk⟩ : ∃ y, zs[k + 1]? = some y := ⟨zs[k + 1]'(by rw [Hl.out]; exact hlt), List.getElem?_eq_getElem _⟩
      obtain ⟨g1, cap1, hv1, hcap1, hmax1, -, e1⟩ := own_sample (own_nw H.out Nr.out) hxk Hl.out.symm
      obtain ⟨g2, cap2, hv2, hcap2, hmax2, -, e2⟩ := own_sample (own_nw H.out Nr.out) hyk Hl.out.symm
      cases hv1
      cases hv2
      unfold maxLen at hmax1
      have Hk := Lib.hid (And.intro hxk hyk)
      clear hxk hyk
      have i1 : ((k : Int) + 1 - 1) = (k : Int) := by omega
      cases hb : (below0 x && from0 y) with
      | true =>
        have Hb := Lib.hid (cr_up Hk.out.1 Hk.out.2 hb)
        simp only [below0, from0, Bool.and_eq_true] at hb
        obtain ⟨c1, c2⟩ := hb
        go_wp2_with fail
        all_goals
          go_roundw
          case rel => exact ⟨k + 1, .inl (by omega), by rw [show ((k + 1 : Nat) : Int) + 1 = (k : Int) + 1 + 1 from by omega], by rw [Hb.out]; rfl, Nr.out⟩
          case measure => simp only [intOf]; omega
      | false =>
        have Hb := Lib.hid (cr_stay Hk.out.1 Hk.out.2 hb)
        simp only [below0, from0] at hb
        cases c1 : (FloatKind.f32.format.order x 0 == some .lt) with
        | true =>
          rw [c1, Bool.true_and] at hb
          go_wp2_with fail
          all_goals
            go_roundw
            case rel => exact ⟨k + 1, .inl (by omega), by rw [show ((k + 1 : Nat) : Int) + 1 = (k : Int) + 1 + 1 from by omega], by rw [Hb.out], Nr.out⟩
            case measure => simp only [intOf]; omega
        | false =>
          clear hb
          go_wp2_with fail
          all_goals
            go_roundw
            case rel => exact ⟨k + 1, .inl (by omega), by rw [show ((k + 1 : Nat) : Int) + 1 = (k : Int) + 1 + 1 from by omega], by rw [Hb.out], Nr.out⟩
            case measure => simp only [intOf]; omega
    · have hkn : k = n - 1 := by omega
      have h2 : ¬ ((k : Int) + 1 < (n : Int)) := by omega
      go_wp2_with fail
      go_ret
      exact ⟨by rw [← hkn]; rfl, Nr.out⟩

set_option maxRecDepth 100000 in
theorem specCross_ok (zs : List Nat) (n b : Nat) (v : Value) (hl : zs.length = n) (hn : n ≤ 1048576) (w : World) (h : w.ownsRow b 25 1 v n (cellsS zs)) :
    Calls Try.prog 34 #[v] w (CrP zs n w) := by
  obtain ⟨va, vc, rfl⟩ := own_shape' h
  have H := Lib.hid h
  have Hl := Lib.hid hl
  clear h hl
  go_enter Try.func34, Try.ntmps34
  go_wp2_with fail
  go_loopw [3, 4] (fun c i wr => CrI zs n w c i wr) (fun _ i _ => n + 1 - (intOf i).toNat)
  case atStart => exact ⟨0, .inr rfl, rfl, rfl, Nw.refl _⟩
  case round =>
    obtain ⟨k, hk, rfl, rfl, hN⟩ := hrel
    have Nr := Lib.hid hN
    have hle := crN_le zs k
    clear hN
    by_cases hlt : k + 1 < n
    · obtain ⟨x, hxk⟩ : ∃ x, zs[k]? = some x := ⟨zs[k]'(by rw [Hl.out]; omega), List.getElem?_eq_getElem _⟩
      obtain ⟨y, hyk⟩ : ∃ y, zs[k + 1]? = some y := ⟨zs[k + 1]'(by rw [Hl.out]; exact hlt), List.getElem?_eq_getElem _⟩
      obtain ⟨g1, cap1, hv1, hcap1, hmax1, -, e1⟩ := own_sample (own_nw H.out Nr.out) hxk Hl.out.symm
      obtain ⟨g2, cap2, hv2, hcap2, hmax2, -, e2⟩ := own_sample (own_nw H.out Nr.out) hyk Hl.out.symm
      cases hv1
      cases hv2
      unfold maxLen at hmax1
      have Hk := Lib.hid (And.intro hxk hyk)
      clear hxk hyk
      have i1 : ((k : Int) + 1 - 1) = (k : Int) := by omega
      cases hb : (below0 x && from0 y) with
      | true =>
        have Hb := Lib.hid (cr_up Hk.out.1 Hk.out.2 hb)
        simp only [below0, from0, Bool.and_eq_true] at hb
        obtain ⟨c1, c2⟩ := hb
        go_wp2_with fail
        all_goals
          go_roundw
          case rel => exact ⟨k + 1, .inl (by omega), by rw [show ((k + 1 : Nat) : Int) + 1 = (k : Int) + 1 + 1 from by omega], by rw [Hb.out]; rfl, Nr.out⟩
          case measure => simp only [intOf]; omega
      | false =>
        have Hb := Lib.hid (cr_stay Hk.out.1 Hk.out.2 hb)
        simp only [below0, from0] at hb
        cases c1 : (FloatKind.f32.format.order x 0 == some .lt) with
        | true =>
          rw [c1, Bool.true_and] at hb
          go_wp2_with fail
          all_goals
            go_roundw
            case rel => exact ⟨k + 1, .inl (by omega), by rw [show ((k + 1 : Nat) : Int) + 1 = (k : Int) + 1 + 1 from by omega], by rw [Hb.out], Nr.out⟩
            case measure => simp only [intOf]; omega
        | false =>
          clear hb
          go_wp2_with fail
          all_goals
            go_roundw
            case rel => exact ⟨k + 1, .inl (by omega), by rw [show ((k + 1 : Nat) : Int) + 1 = (k : Int) + 1 + 1 from by omega], by rw [Hb.out], Nr.out⟩
            case measure => simp only [intOf]; omega
    · have hkn : k = n - 1 := by omega
      have h2 : ¬ ((k : Int) + 1 < (n : Int)) := by omega
      go_wp2_with fail
      go_ret
      exact ⟨by rw [← hkn]; rfl, Nr.out⟩

end Go.Proofs.Ytcodiiajmffdoaa
