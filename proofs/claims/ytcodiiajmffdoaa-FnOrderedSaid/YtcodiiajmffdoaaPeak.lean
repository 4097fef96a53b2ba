/- The law FnExactPeakOf, proved: for every slice of samples PeakOf answers as its model does, and leaves it as it was.
   Conditions: none beyond the statement's own. -/
import Derived.Test.YtcodiiajmffdoaaFls
import Derived.Test.YtcodiiajmffdoaaAbs
import Derived.Test.YtcodiiajmffdoaaRows
namespace Go.Proofs.Ytcodiiajmffdoaa
open Go Go.RowKit

/-- the greatest absolute value so far, as the model has it -/
def pk1 (b x : Nat) : Nat := if nan32 x then b else if FloatKind.f64.format.order (labs (wid x)) b == some .gt then labs (wid x) else b
def pkB (zs : List Nat) : Nat := zs.foldl pk1 0
theorem pkB_take (zs : List Nat) (k x : Nat) (h : zs[k]? = some x) : pkB (zs.take (k + 1)) = pk1 (pkB (zs.take k)) x := by
  obtain ⟨hk, he⟩ := List.getElem?_eq_some_iff.1 h
  unfold pkB
  rw [List.take_succ_eq_append_getElem hk, List.foldl_append, he]; rfl
theorem pk1_nan {b x : Nat} (h : nan32 x = true) : pk1 b x = b := by unfold pk1; rw [h]; rfl
theorem pk1_up {b x : Nat} (h : nan32 x = false) (g : (FloatKind.f64.format.order (labs (wid x)) b == some .gt) = true) : pk1 b x = labs (wid x) := by unfold pk1; rw [h, g]; rfl
theorem pk1_stay {b x : Nat} (h : nan32 x = false) (g : (FloatKind.f64.format.order (labs (wid x)) b == some .gt) = false) : pk1 b x = b := by unfold pk1; rw [h, g]; rfl

def PkS (zs : List Nat) (n : Nat) (w : World) (y i : Value) (wr : World) : Prop :=
  ∃ k p : Nat, k ≤ n ∧ i = .int .i64 (k : Int) ∧ y = .float .f64 (pkB (zs.take k)) ∧ Tw p (pkB (zs.take k)) ∧ Nw w wr
def PkI (zs : List Nat) (n : Nat) (w : World) (y i : Value) (wr : World) : Prop :=
  ∃ k p : Nat, k ≤ n ∧ i = .int .i64 (k : Int) ∧ y = .float .f32 p ∧ Tw p (pkB (zs.take k)) ∧ Nw w wr
def PkP (zs : List Nat) (w : World) (e : Ending) (w' : World) : Prop := ∃ p, e = .returned (.float .f32 p) ∧ Tw p (pkB zs) ∧ Nw w w'

theorem tw_again {p b : Nat} (h : Tw p b) (w : World) : Tw (fcv w .f64 b .f32) b ∧ fcd .f64 b .f32 = 0 := by
  rcases h with ⟨m, i, n, j, h1, h2, h3⟩ | ⟨h1, h2⟩
  · exact tw_narrow h1 h2 h3.symm w
  · exact tw_narrow_inf h2 w

theorem implPeak_ok (zs : List Nat) (n b : Nat) (v : Value) (hl : zs.length = n) (hn : n ≤ 1048576) (h32 : ∀ z ∈ zs, nan32 z = true → z < 2 ^ 32) (w : World) (h : w.ownsRow b 25 1 v n (cellsS zs)) :
    Calls Try.prog 16 #[v] w (PkP zs w) := by
  obtain ⟨va, vc, rfl⟩ := own_shape' h
  have H := Lib.hid h
  have Hl := Lib.hid hl
  clear h hl
  go_enter Try.func16, Try.ntmps16
  go_wp2_with fail
  go_loopw [3, 9] (fun y i wr => PkI zs n w y i wr) (fun _ i _ => n - (intOf i).toNat)
  case atStart => exact ⟨0, 0, by omega, rfl, rfl, tw_zero, Nw.refl _⟩
  case round =>
    obtain ⟨k, p, hk, rfl, rfl, hp, hN⟩ := hrel
    have Hp := Lib.hid hp
    have Nr := Lib.hid hN
    clear hp hN
    by_cases hlt : k < n
    · obtain ⟨x, hxk⟩ : ∃ x, zs[k]? = some x := ⟨zs[k]'(by rw [Hl.out]; exact hlt), List.getElem?_eq_getElem _⟩
      obtain ⟨g1, cap1, hv1, hcap1, hmax1, -, e1⟩ := own_sample (own_nw H.out Nr.out) hxk Hl.out.symm
      cases hv1
      unfold maxLen at hmax1
      have Hxk := Lib.hid (pkB_take zs k x hxk)
      have hx32' := h32 x (List.mem_of_getElem? hxk)
      clear hxk
      cases hx : nan32 x with
      | true =>
        have Hx := Lib.hid hx
        go_wp2_with fail
        refine (implAbs_nan x hx (hx32' Hx.out) _).mono ?_
        rintro e w1 ⟨⟨q, rfl, hq⟩, n1⟩
        have hno := nan_order (k := .f32) hq p
        have N1 := Lib.hid (Nr.out.trans n1)
        clear n1 hq hx
        go_wp2_with fail
        go_roundw
        case rel => exact ⟨k + 1, p, by omega, by rw [show ((k + 1 : Nat) : Int) = (k : Int) + 1 from by omega], rfl, by rw [Hxk.out, pk1_nan Hx.out]; exact Hp.out, N1.out⟩
        case measure => simp only [intOf]; omega
      | false =>
        have Hx := Lib.hid hx
        go_wp2_with fail
        refine (implAbs_wide x hx _).mono ?_
        rintro e w1 ⟨⟨q, rfl, hq⟩, rfl⟩
        have Hq := Lib.hid hq
        have ho : FloatKind.f64.format.order (labs (wid x)) (pkB (zs.take k)) = FloatKind.f32.format.order q p := hq.order Hp.out
        have Ho := Lib.hid ho
        cases hgt : (FloatKind.f32.format.order q p == some .gt) with
        | true =>
          have Hg := Lib.hid hgt
          clear hq hx ho
          go_wp2_with fail
          go_roundw
          case rel => exact ⟨k + 1, q, by omega, by rw [show ((k + 1 : Nat) : Int) = (k : Int) + 1 from by omega], rfl, by rw [Hxk.out, pk1_up Hx.out (by rw [Ho.out]; exact Hg.out)]; exact Hq.out, Nr.out⟩
          case measure => simp only [intOf]; omega
        | false =>
          have Hg := Lib.hid hgt
          clear hq hx ho
          go_wp2_with fail
          go_roundw
          case rel => exact ⟨k + 1, p, by omega, by rw [show ((k + 1 : Nat) : Int) = (k : Int) + 1 from by omega], rfl, by rw [Hxk.out, pk1_stay Hx.out (by rw [Ho.out]; exact Hg.out)]; exact Hp.out, Nr.out⟩
          case measure => simp only [intOf]; omega
    · obtain rfl : k = n := by omega
      go_wp2_with fail
      go_ret
      exact ⟨p, rfl, by have h := Hp.out; rwa [List.take_of_length_le (by rw [Hl.out]; exact Nat.le_refl _)] at h, Nr.out⟩

end Go.Proofs.Ytcodiiajmffdoaa
