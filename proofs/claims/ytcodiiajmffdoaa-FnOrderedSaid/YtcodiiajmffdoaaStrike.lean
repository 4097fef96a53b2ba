/- The walks of StrikeShape, scaleSamples and StrikeBody.
   Conditions: those that each statement names. -/
import Derived.Test.YtcodiiajmffdoaaShape
import Derived.Test.YtcodiiajmffdoaaFill
namespace Go.Proofs.Ytcodiiajmffdoaa
open Go Go.RowKit

def FillI (B g n : Nat) (f : Nat → Nat) (w : World) (i : Value) (wr : World) : Prop :=
  ∃ k : Nat, k ≤ n ∧ i = .int .i64 (k : Int) ∧ wr.ownsRow B 25 1 (.slice (some ⟨g, 0, none⟩) n n) n (cellsS (fillL f n k)) ∧ Nw w wr
def ShapeP (n : Nat) (xs : List Nat) (w : World) (e : Ending) (w' : World) : Prop :=
  ∃ g : Nat, e = .returned (.tuple #[.slice (some ⟨g, 0, none⟩) n n, .bool true]) ∧ w'.ownsRow w.heap.size 25 1 (.slice (some ⟨g, 0, none⟩) n n) n (cellsS xs) ∧ Nw w w'

theorem shapeL_click (n : Nat) : shapeL 0 n = (List.range n).map clickAt := by
  have h : shapeAt 0 n = clickAt := by funext i; simp [shapeAt]
  unfold shapeL; rw [h]
theorem shapeL_ramp (n : Nat) : shapeL 1 n = (List.range n).map (rampAt n) := by
  have h : shapeAt 1 n = rampAt n := by funext i; simp [shapeAt]
  unfold shapeL; rw [h]
theorem shapeL_arch (n : Nat) : shapeL 2 n = (List.range n).map (archAt n) := by
  have h : shapeAt 2 n = archAt n := by funext i; simp [shapeAt]
  unfold shapeL; rw [h]
theorem click_set (n : Nat) (h : 1 ≤ n) : (cellsS (fillL clickAt n 0)).set 0 (.float .f32 1065353216) = cellsS ((List.range n).map clickAt) := by
  obtain ⟨m, rfl⟩ : ∃ m, n = m + 1 := ⟨n - 1, by omega⟩
  rw [fillL_zero, List.replicate_succ, List.range_succ_eq_map]
  simp only [cellsS, List.map_cons, List.map_map, List.set_cons_zero, List.map_replicate]
  congr 1
  apply List.ext_getElem?
  intro i
  simp only [List.getElem?_replicate, List.getElem?_map, List.getElem?_range']
  by_cases hi : i < m <;> simp [hi, clickAt]

set_option maxRecDepth 100000 in
theorem strikeShape_ok (kind n : Nat) (hk : kind ≤ 2) (h1 : 1 ≤ n) (hn : n ≤ 64) (w : World) :
    Calls Try.prog 122 #[.int .i64 (kind : Int), .int .i64 (n : Int)] w (ShapeP n (shapeL kind n) w) := by
  obtain ⟨f0, hf, hfz0, hfz1, hfz2⟩ := info_parts info_f32
  have hk3 : kind = 0 ∨ kind = 1 ∨ kind = 2 := by omega
  rcases hk3 with rfl | rfl | rfl
  all_goals
    go_enter Try.func122, Try.ntmps122
    go_wp2_with (first
      | (at_make; refine wpList_make_full _ rfl _ _ 23 rfl w.heap.size 25 f0 (.float .f32 0) 1 Try.underlying23 hf hfz0 hfz1 _ _ _ _ n rfl rfl rfl rfl (by rw [hfz2]; omega) (by unfold maxLen; omega) (Nat.le_refl _) ?_))
    intro w3 hown3 hgrow3
  · have O3 := Lib.hid (show w3.ownsRow w.heap.size 25 1 (.slice (some ⟨w.heap.size, 0, none⟩) n n) n (cellsS (fillL clickAt n 0)) from by
      rw [toList_madeCells_one] at hown3
      rw [fillL_zero]
      simpa [cellsS] using hown3)
    have e1 := O3.out.cellAt 0 (by omega)
    rw [fillL_cell clickAt n 0 (by omega)] at e1
    have e2 := O3.out.frozenAt 0
    have hset := O3.out.stored 0 (.float .f32 1065353216)
    have hlt := (O3.out.lt _ rfl)
    have N3 := Lib.hid (show Nw w (w3.setCell ⟨w.heap.size, 0, none⟩ (.float .f32 1065353216)) from Nw.set hgrow3 (by show w.heap.size ≤ w.heap.size; omega) _)
    rw [click_set n h1] at hset
    have F := Lib.hid hset.1
    clear hset hown3 hgrow3
    go_wp2_with fail
    go_ret2
    exact ⟨_, rfl, by rw [shapeL_click]; exact F.out, N3.out⟩
  · have O3 := Lib.hid (show w3.ownsRow w.heap.size 25 1 (.slice (some ⟨w.heap.size, 0, none⟩) n n) n (cellsS (fillL (rampAt n) n 0)) from by
      rw [toList_madeCells_one] at hown3
      rw [fillL_zero]
      simpa [cellsS] using hown3)
    have N3 := Lib.hid (show Nw w w3 from hgrow3)
    clear hown3 hgrow3
    go_wp2_with fail
    go_loopw [27] (fun i wr => FillI w.heap.size w.heap.size n (rampAt n) w i wr) (fun i _ => n - (intOf i).toNat)
    case atStart => exact ⟨0, by omega, rfl, O3.out, N3.out⟩
    case round =>
      obtain ⟨k, hk, rfl, how, hnw⟩ := hrel
      have Ow := Lib.hid how
      have Nr := Lib.hid hnw
      clear how hnw
      by_cases hlt : k < n
      · have hb := all_pairs ramp_all n k hn hlt
        rw [rampB_eq] at hb
        simp only [Bool.and_eq_true] at hb
        have hc := calm_of hb.1.1.1
        have r1 := hc.res
        have d1 := hc.fdr
        have e1 := Ow.out.cellAt k (by omega)
        rw [fillL_cell (rampAt n) n k hlt] at e1
        have e2 := Ow.out.frozenAt k
        have hset := Ow.out.stored k (.float .f32 (rampAt n k))
        rw [fillL_set (rampAt n) n k hlt] at hset
        have F := Lib.hid hset.1
        have N2 := Lib.hid (Nr.out.set (p := ⟨w.heap.size, k, none⟩) (by show w.heap.size ≤ w.heap.size; omega) (.float .f32 (rampAt n k)))
        clear hb hc hset
        unfold rampAt at F N2
        go_wp2_with fail
        go_roundw
        case rel => exact ⟨k + 1, by omega, by rw [show ((k + 1 : Nat) : Int) = (k : Int) + 1 from by omega], F.out, N2.out⟩
        case measure => simp only [intOf]; omega
      · obtain rfl : k = n := by omega
        go_wp2_with fail
        go_ret2
        exact ⟨_, rfl, by have h := Ow.out; rw [fillL_full] at h; rw [shapeL_ramp]; exact h, Nr.out⟩
  · have O3 := Lib.hid (show w3.ownsRow w.heap.size 25 1 (.slice (some ⟨w.heap.size, 0, none⟩) n n) n (cellsS (fillL (archAt n) n 0)) from by
      rw [toList_madeCells_one] at hown3
      rw [fillL_zero]
      simpa [cellsS] using hown3)
    have N3 := Lib.hid (show Nw w w3 from hgrow3)
    clear hown3 hgrow3
    go_wp2_with fail
    go_loopw [44] (fun i wr => FillI w.heap.size w.heap.size n (archAt n) w i wr) (fun i _ => n - (intOf i).toNat)
    case atStart => exact ⟨0, by omega, rfl, O3.out, N3.out⟩
    case round =>
      obtain ⟨k, hk, rfl, how, hnw⟩ := hrel
      have Ow := Lib.hid how
      have Nr := Lib.hid hnw
      clear how hnw
      by_cases hlt : k < n
      · have hb := all_pairs arch_all n k hn hlt
        rw [archB_eq] at hb
        simp only [Bool.and_eq_true] at hb
        have c1 := calm_of hb.1.1.1.1
        have c2 := calm_of hb.1.1.1.2
        have c3 := calm_of hb.1.1.2
        have c4 := calm_of hb.1.2
        have r1 := c1.res
        have d1 := c1.fdr
        have r2 := c2.res
        have d2 := c2.fdr
        have r3 := c3.res
        have d3 := c3.fdr
        have r4 := c4.res
        have d4 := c4.fdr
        have e1 := Ow.out.cellAt k (by omega)
        rw [fillL_cell (archAt n) n k hlt] at e1
        have e2 := Ow.out.frozenAt k
        have hset := Ow.out.stored k (.float .f32 (archAt n k))
        rw [fillL_set (archAt n) n k hlt] at hset
        have F := Lib.hid hset.1
        have N2 := Lib.hid (Nr.out.set (p := ⟨w.heap.size, k, none⟩) (by show w.heap.size ≤ w.heap.size; omega) (.float .f32 (archAt n k)))
        clear hb c1 c2 c3 c4 hset
        unfold archAt archP archM archT at F N2
        unfold archP archM archT at r4 d4
        unfold archT at r2 d2 r3 d3
        go_wp2_with fail
        go_roundw
        case rel => exact ⟨k + 1, by omega, by rw [show ((k + 1 : Nat) : Int) = (k : Int) + 1 from by omega], F.out, N2.out⟩
        case measure => simp only [intOf]; omega
      · obtain rfl : k = n := by omega
        go_wp2_with fail
        go_ret2
        exact ⟨_, rfl, by have h := Ow.out; rw [fillL_full] at h; rw [shapeL_arch]; exact h, Nr.out⟩

end Go.Proofs.Ytcodiiajmffdoaa
