/- The walks of the recordings' functions: RingMode of any numbers, modulo the bits of NaNs.
   Conditions: those that each statement names. -/
import Derived.Test.YtlhhcchncobmhaaSame
import Derived.StillTailTactics
namespace Go.Proofs.Ytlhhcchncobmhaa
set_option linter.unusedSimpArgs false
set_option linter.unusedVariables false
open Go Go.RowKit

def cellsZ (zs : List (Nat × Nat)) : List Value := zs.map fun z => .complex .f64 z.1 z.2
theorem cellsZ_len (zs : List (Nat × Nat)) : (cellsZ zs).length = zs.length := by simp [cellsZ]
theorem cellsZ_at {zs : List (Nat × Nat)} {k : Nat} {z : Nat × Nat} (h : zs[k]? = some z) : (cellsZ zs)[k]? = some (.complex .f64 z.1 z.2) := by
  simp [cellsZ, h]
theorem cellsZ_set (zs : List (Nat × Nat)) (k : Nat) (x y : Nat) : (cellsZ zs).set k (.complex .f64 x y) = cellsZ (zs.set k (x, y)) := by
  simp [cellsZ, List.map_set]
theorem cellsZ_snoc (zs : List (Nat × Nat)) (x y : Nat) : cellsZ (zs ++ [(x, y)]) = cellsZ zs ++ [.complex .f64 x y] := by simp [cellsZ]

abbrev FC := Option Nat × Option Nat
def fabC (z : Nat × Nat) : FC := (fab .f64 z.1, fab .f64 z.2)
def mulC (a b : FC) : FC := (mulRe a.1 a.2 b.1 b.2, mulIm a.1 a.2 b.1 b.2)
def addC (a b : FC) : FC := (fA .add .f64 a.1 b.1, fA .add .f64 a.2 b.2)
def ringC (p s : FC) : Nat → FC
  | 0 => s
  | i + 1 => mulC (ringC p s i) p
theorem ringC_on (p s : FC) (k : Nat) : ∀ i, ringC p (ringC p s k) i = ringC p s (k + i)
  | 0 => rfl
  | i + 1 => by rw [show k + (i + 1) = (k + i) + 1 from by omega]; simp only [ringC]; rw [ringC_on p s k i]
def Wz (z : Nat × Nat) : Prop := z.1 < 2 ^ 64 ∧ z.2 < 2 ^ 64
/-- the recording of a mode's own ringing -/
def Ringing (p s : FC) (zs : List (Nat × Nat)) : Prop := ∀ (i : Nat) z, zs[i]? = some z → fabC z = ringC p s i ∧ Wz z

theorem info_z128 : (Try.prog.info? 41).map (fun i => (i.zero, i.size, i.bytes)) = some (some (.complex .f64 0 0), 1, 16) := by kernel_rfl

def RecP (B n : Nat) (p s : FC) (w : World) (e : Ending) (w' : World) : Prop :=
  ∃ (v : Value) (zs : List (Nat × Nat)), e = .returned (.tuple #[v, .bool true]) ∧ zs.length = n ∧ w'.ownsRow B 41 1 v n (cellsZ zs) ∧ Ringing p s zs ∧ Nw w w'

/-- the head of a round of RingMode: k numbers are laid -/
def RecI (B g n : Nat) (p s : FC) (w : World) (number i : Value) (wr : World) : Prop :=
  ∃ (k x y : Nat) (zs : List (Nat × Nat)), k ≤ n ∧ i = .int .i64 (k : Int) ∧ number = .complex .f64 x y ∧ fabC (x, y) = ringC p s k ∧ Wz (x, y) ∧ zs.length = n ∧
    wr.ownsRow B 41 1 (.slice (some ⟨g, 0, none⟩) n n) n (cellsZ zs) ∧ Ringing p s (zs.take k) ∧ Nw w wr

theorem ringing_next {p s : FC} {zs : List (Nat × Nat)} {k x y : Nat} (h : Ringing p s (zs.take k)) (hx : fabC (x, y) = ringC p s k) (hw : Wz (x, y)) (hk : k < zs.length) :
    Ringing p s ((zs.set k (x, y)).take (k + 1)) := by
  intro i z hz
  by_cases hik : i < k
  · refine h i z ?_
    rw [List.getElem?_take] at hz ⊢
    rw [if_pos (by omega)] at hz
    rw [if_pos hik]
    rwa [List.getElem?_set_ne (by omega)] at hz
  · rw [List.getElem?_take] at hz
    split at hz
    · obtain rfl : i = k := by omega
      rw [List.getElem?_set_self hk] at hz
      cases hz
      exact ⟨hx, hw⟩
    · cases hz

set_option maxRecDepth 100000 in
theorem ringMode_any (a b c d n : Nat) (ha : Wz (a, b)) (hc : Wz (c, d)) (hn : n ≤ 2000) (w : World) :
    Calls Try.prog 19 #[.complex .f64 a b, .complex .f64 c d, .int .i64 (n : Int)] w (RecP w.heap.size n (fabC (a, b)) (fabC (c, d)) w) := by
  obtain ⟨j0, hj, hjz0, hjz1, hjz2⟩ := info_parts info_z128
  go_enter Try.func19, Try.ntmps19
  go_wp2_with fail
  refine (isSteps_ok n hn _).mono ?_
  rintro e w1 ⟨rfl, rfl⟩
  go_wp2_with (first
    | (at_make; refine wpList_make_full _ rfl _ _ 43 rfl w.heap.size 41 j0 (.complex .f64 0 0) 1 Try.underlying43 hj hjz0 hjz1 _ _ _ _ n rfl rfl rfl rfl (by rw [hjz2]; omega) (by unfold maxLen; omega) (Nat.le_refl _) ?_))
  intro w3 hown3 hgrow3
  have Hs3 := Lib.hid (show w3.ownsRow w.heap.size 41 1 (.slice (some ⟨w.heap.size, 0, none⟩) n n) n (cellsZ (List.replicate n (0, 0))) from by
    rw [toList_madeCells_one] at hown3
    simpa [cellsZ] using hown3)
  have Hn3 := Lib.hid (show Nw w w3 from hgrow3)
  clear hown3 hgrow3
  go_wp2_with fail
  go_loopw [9, 19] (fun number i wr => RecI w.heap.size w.heap.size n (fabC (a, b)) (fabC (c, d)) w number i wr) (fun _ i _ => n - (intOf i).toNat)
  case atStart => exact ⟨0, c, d, List.replicate n (0, 0), by omega, rfl, rfl, rfl, hc, by simp, Hs3.out, by intro i z hz; simp at hz, Hn3.out⟩
  case round =>
    obtain ⟨k, x, y, zs, hk, rfl, rfl, hxy, hwz, hzl, hown, hring, hnw⟩ := hrel
    have Hxy := Lib.hid hxy
    have Hwz := Lib.hid hwz
    have Hzl := Lib.hid hzl
    have Hown := Lib.hid hown
    have Hring := Lib.hid hring
    have Hnw := Lib.hid hnw
    clear hxy hwz hzl hown hring hnw
    by_cases hlt : k < n
    · obtain ⟨z, hzk⟩ : ∃ z, zs[k]? = some z := ⟨zs[k]'(by rw [Hzl.out]; exact hlt), List.getElem?_eq_getElem _⟩
      have e3 := Hown.out.cellAt k (by omega)
      rw [cellsZ_at hzk] at e3
      have e4 := Hown.out.frozenAt k
      have hset := Hown.out.stored k (.complex .f64 x y)
      rw [cellsZ_set] at hset
      have Hset := Lib.hid hset.1
      have Hnw2 := Lib.hid (Hnw.out.set (p := ⟨w.heap.size, k, none⟩) (by show w.heap.size ≤ w.heap.size; omega) (.complex .f64 x y))
      clear hset hzk
      go_wp2_with fail
      refine (implMul_any _ _ _ _ _).mono ?_
      rintro e w5 ⟨p, q, n5, rfl, rfl, hp, hq, hp64, hq64⟩
      have Hp := Lib.hid hp
      have Hq := Lib.hid hq
      clear hp hq e3 e4
      go_wp2_with fail
      go_roundw
      case rel =>
        refine ⟨k + 1, p, q, zs.set k (x, y), by omega, by rw [show ((k + 1 : Nat) : Int) = (k : Int) + 1 from by omega], rfl, ?_, ⟨hp64, hq64⟩, by rw [List.length_set]; exact Hzl.out, own_nw Hset.out ((Nw.refl _).draw _), ringing_next Hring.out Hxy.out Hwz.out (by rw [Hzl.out]; exact hlt), Hnw2.out.draw _⟩
        show fabC (p, q) = mulC (ringC (fabC (a, b)) (fabC (c, d)) k) (fabC (a, b))
        rw [← Hxy.out]
        unfold fabC mulC
        rw [Hp.out, Hq.out]
      case measure => simp only [intOf]; omega
    · obtain rfl : k = n := by omega
      go_wp2_with fail
      go_ret2
      refine ⟨_, zs, rfl, Hzl.out, Hown.out, ?_, Hnw.out⟩
      have h := Hring.out
      rwa [List.take_of_length_le (by rw [Hzl.out]; omega)] at h

/-! ### a row of complex numbers, wherever it begins -/
def RowZ (w : World) (v : Value) (zs : List (Nat × Nat)) : Prop :=
  ∃ a cap, v = .slice a zs.length cap ∧ zs.length ≤ cap ∧ cap ≤ maxLen ∧ (zs = [] ∨ ∃ g off, a = some ⟨g, off, none⟩ ∧ g < w.heap.size ∧ ∀ k z, zs[k]? = some z → w.cell? ⟨g, off + k, none⟩ = some (.complex .f64 z.1 z.2))
theorem RowZ.nw {w w' : World} {v : Value} {zs : List (Nat × Nat)} (h : RowZ w v zs) (n : Nw w w') : RowZ w' v zs := by
  obtain ⟨a, cap, h1, h2, h3, h4⟩ := h
  refine ⟨a, cap, h1, h2, h3, ?_⟩
  rcases h4 with h4 | ⟨g, off, h5, h6, h7⟩
  · exact .inl h4
  · exact .inr ⟨g, off, h5, by have := n.size; omega, fun k z hz => by rw [n.cell (p := ⟨g, off + k, none⟩) h6]; exact h7 k z hz⟩
theorem RowZ.of_own {w : World} {base n : Nat} {v : Value} {zs : List (Nat × Nat)} (h : w.ownsRow base 41 1 v n (cellsZ zs)) (hn : zs.length = n) : RowZ w v zs := by
  have h0 := h
  subst hn
  rcases h.2 with ⟨rfl, h2⟩ | ⟨g, cap, cur, rfl, hb, hg, hc, hm, hs, ht⟩
  · refine ⟨none, 0, by rw [h2], by omega, by unfold maxLen; omega, .inl ?_⟩
    exact List.length_eq_zero_iff.1 h2
  · refine ⟨_, cap, rfl, hc, hm, .inr ⟨g, 0, rfl, (h0.lt g rfl).2, fun k z hz => ?_⟩⟩
    have hk := (List.getElem?_eq_some_iff.1 hz).1
    have c1 := h0.cellAt k (by omega)
    rw [cellsZ_at hz] at c1
    simpa using c1

/-! ### spectra -/
def specC (w : FC) : List FC → FC
  | [] => (some 0, some 0)
  | z :: zs => addC (mulC (specC w zs) w) z
theorem specC_drop (w : FC) (zs : List (Nat × Nat)) (k : Nat) (z : Nat × Nat) (h : zs[k]? = some z) :
    specC w ((zs.drop k).map fabC) = addC (mulC (specC w ((zs.drop (k + 1)).map fabC)) w) (fabC z) := by
  obtain ⟨hk, he⟩ := List.getElem?_eq_some_iff.1 h
  rw [List.drop_eq_getElem_cons hk, he]; rfl

def SpecI (W : FC) (zs : List (Nat × Nat)) (w : World) (number i : Value) (wr : World) : Prop :=
  ∃ (j x y : Nat), j ≤ zs.length ∧ i = .int .i64 ((j : Int) - 1) ∧ number = .complex .f64 x y ∧ fabC (x, y) = specC W ((zs.drop j).map fabC) ∧ Wz (x, y) ∧ Nw w wr
def SpecP (W : FC) (zs : List (Nat × Nat)) (w : World) (e : Ending) (w' : World) : Prop :=
  ∃ x y : Nat, e = .returned (.complex .f64 x y) ∧ fabC (x, y) = specC W (zs.map fabC) ∧ Wz (x, y) ∧ Nw w w'

set_option maxRecDepth 100000 in
theorem spectrumAt_any (zs : List (Nat × Nat)) (v : Value) (a b : Nat) (hl : zs.length ≤ 1048576) (w : World) (h : RowZ w v zs) :
    Calls Try.prog 23 #[v, .complex .f64 a b] w (SpecP (fabC (a, b)) zs w) := by
  obtain ⟨va, cap, rfl, hcap, hmax, hcell⟩ := h
  have Hcell := Lib.hid hcell
  clear hcell
  unfold maxLen at hmax
  obtain ⟨n, hn⟩ : ∃ n, n = zs.length := ⟨_, rfl⟩
  rw [← hn] at hl hcap
  rw [← hn]
  have Hn := Lib.hid hn
  clear hn
  go_enter Try.func23, Try.ntmps23
  go_wp2_with fail
  go_loopw [5, 6] (fun number i wr => SpecI (fabC (a, b)) zs w number i wr) (fun _ i _ => (intOf i + 1).toNat)
  case atStart => exact ⟨n, 0, 0, by rw [Hn.out]; exact Nat.le_refl _, rfl, rfl, by rw [Hn.out, List.drop_length]; rfl, ⟨by decide, by decide⟩, Nw.refl _⟩
  case round =>
    obtain ⟨j, x, y, hj, rfl, rfl, hxy, hwz, hnw⟩ := hrel
    rw [← Hn.out] at hj
    have Hxy := Lib.hid hxy
    have Hnw := Lib.hid hnw
    by_cases hj0 : 0 < j
    · obtain ⟨k, rfl⟩ : ∃ k, j = k + 1 := ⟨j - 1, by omega⟩
      rw [show (((k + 1 : Nat) : Int) - 1) = (k : Int) from by omega]
      obtain ⟨z, hzk⟩ : ∃ z, zs[k]? = some z := ⟨zs[k]'(by rw [← Hn.out]; omega), List.getElem?_eq_getElem _⟩
      rcases Hcell.out with h0 | ⟨g, off, rfl, hg, hc⟩
      · rw [h0] at hzk; simp at hzk
      have e1 := (hnw.cell (p := ⟨g, off + k, none⟩) hg).trans (hc k z hzk)
      have Hs := Lib.hid (specC_drop (fabC (a, b)) zs k z hzk)
      clear hc hxy hwz hnw hzk
      go_upto_region 5 with fail
      go_region_with (first
        | (go_at_call 22; refine (implMul_any _ _ _ _ _).mono ?_; rintro e w5 ⟨p, q, n5, rfl, rfl, hp, hq, hp64, hq64⟩))
      all_goals
        have Hp := Lib.hid hp
        have Hq := Lib.hid hq
        clear hp hq e1
        go_wp2_with fail
        go_roundw
        case rel =>
          refine ⟨k, _, _, by have := Hn.out; omega, rfl, rfl, ?_, ⟨fres_wf _ _ _ _ _, fres_wf _ _ _ _ _⟩, ?_⟩
          · rw [Hs.out, ← Hxy.out]
            unfold fabC mulC addC
            simp only [fab_fres]
            rw [Hp.out, Hq.out]
          · first | exact Hnw.out.draw _ | exact (Hnw.out.draw _).draw _ | exact ((Hnw.out.draw _).draw _).draw _
        case measure => simp only [intOf]; omega
    · obtain rfl : j = 0 := by omega
      go_wp2_with fail
      go_ret
      exact ⟨x, y, rfl, by simpa using hxy, hwz, hnw⟩

end Go.Proofs.Ytlhhcchncobmhaa
