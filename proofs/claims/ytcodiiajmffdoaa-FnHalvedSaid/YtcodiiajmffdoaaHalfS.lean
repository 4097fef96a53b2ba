/- The walk of the model's HalfLife, of a valid mode.
   Conditions: those that each statement names. -/
import Derived.Test.YtcodiiajmffdoaaHalfW
namespace Go.Proofs.Ytcodiiajmffdoaa
open Go Go.RowKit

theorem l1In_half (x a b : Int) (w : World) :
    Calls Try.prog 68 #[.int .i64 x, .int .i64 a, .int .i64 b] w fun e w' => e = .returned (.bool (decide (a ≤ x ∧ x ≤ b))) ∧ w = w' := by
  by_cases h1 : a ≤ x
  all_goals by_cases h2 : x ≤ b
  all_goals
    go_enter Try.func68, Try.ntmps68
    go_wp2
    go_ret
    exact ⟨by simp [h1, h2], rfl⟩
theorem run2 {P : Program} {x y : Nat} (h : Calm .mul .f64 x y) (t : TypeId) (w : World) : (binOp .mul t (.float .f64 x) (.float .f64 y)).run P w = .ok (.float .f64 (opB .mul .f64 x y)) w := by
  rw [run_fl_mul, h.res, h.fdr]; rfl

set_option maxRecDepth 100000 in
theorem specHalf_ok (m : M4) (hm : m.ok) (most : Nat) (h1 : 1 ≤ most) (h2 : most ≤ 2000) (w : World) :
    Calls Try.prog 28 #[.agg #[.complex .f32 m.pr m.pi, .complex .f32 m.gr m.gi], .int .i64 (most : Int)] w (HalfP m most w) := by
  obtain ⟨pr, pi, gr, gi⟩ := m
  simp only
  have Hm := Lib.hid hm
  obtain ⟨n1, n2, n3, n4⟩ := hm.nums
  clear hm
  go_enter Try.func28, Try.ntmps28
  go_wp2_with fail
  refine (specMode_any pr pi gr gi _).mono ?_
  rintro e w1 ⟨rfl, g1⟩
  rw [show modeB pr pi gr gi labs = true from Hm.out]
  have c0 : w1.cell? ⟨w.heap.size, 0, none⟩ = some (.complex .f32 pr pi) := by rw [g1.cell (by simp)]; simp
  have c1 : w1.cell? ⟨w.heap.size, 1, none⟩ = some (.complex .f32 gr gi) := by rw [g1.cell (by simp)]; simp
  have N1 := Lib.hid (show Nw w w1 from ((Nw.refl w).alloc _).trans g1)
  clear g1
  go_wp2_with fail
  refine (l1In_half (most : Int) 1 2000 _).mono ?_
  rintro e w2 ⟨rfl, rfl⟩
  rw [decide_eq_true (show (1 : Int) ≤ (most : Int) ∧ (most : Int) ≤ 2000 by omega)]
  go_wp2_with fail
  go_loopw [6, 7] (fun z n wr => HalfI ⟨pr, pi, gr, gi⟩ most w z n wr) (fun _ n _ => most + 2 - (intOf n).toNat)
  case atStart => exact ⟨0, by omega, rfl, rfl, fun j hj hk => by omega, N1.out, c0, c1⟩
  case round =>
    obtain ⟨k, hk, rfl, rfl, hno, hN, d0, d1⟩ := hrel
    have Hno := Lib.hid hno
    have Nr := Lib.hid hN
    clear hno hN c0 c1
    by_cases hlt : k < most
    · have P := Lib.hid (zH_part ⟨pr, pi, gr, gi⟩ Hm.out k (by omega))
      have Z := Lib.hid (zH_num ⟨pr, pi, gr, gi⟩ Hm.out k (by omega))
      have sz := sz_H P.out.n1 P.out.n2
      have sz2 := sz.2.2
      clear sz
      go_wp2_with fail
      refine (specMulSingle_ok _ _ pr pi _ Z.out.1 Z.out.2 n1 n2 P.out.p1 P.out.p2).mono ?_
      rintro e w5 ⟨rfl, rfl⟩
      have x1 := fcv_up P.out.n1
      have x2 := fcd_up P.out.n1
      have y1 := fcv_up P.out.n2
      have y2 := fcd_up P.out.n2
      have u1 := fcv_up n3
      have u2 := fcd_up n3
      have v1 := fcv_up n4
      have v2 := fcd_up n4
      go_upto_region 8 with fail
      have Cq := Lib.hid sz2
      clear sz2
      have cr := fun t w => run2 (P := Try.prog) Cq.out t w
      cases hh : hitH ⟨pr, pi, gr, gi⟩ (k + 1) with
      | true =>
        have hh' : (FloatKind.f64.format.order (opB .mul .f64 4611686018427387904 (szH (mulSre (zH ⟨pr, pi, gr, gi⟩ k).1 (zH ⟨pr, pi, gr, gi⟩ k).2 pr pi, mulSim (zH ⟨pr, pi, gr, gi⟩ k).1 (zH ⟨pr, pi, gr, gi⟩ k).2 pr pi))) (szH (gr, gi)) == some .lt || FloatKind.f64.format.order (opB .mul .f64 4611686018427387904 (szH (mulSre (zH ⟨pr, pi, gr, gi⟩ k).1 (zH ⟨pr, pi, gr, gi⟩ k).2 pr pi, mulSim (zH ⟨pr, pi, gr, gi⟩ k).1 (zH ⟨pr, pi, gr, gi⟩ k).2 pr pi))) (szH (gr, gi)) == some .eq) = true := hh
        go_quiet (first
          | (go_at_call 59; with_reducible exact quiet_eq (specSize_calm _ _ _ P.out.n1 P.out.n2))
          | (go_at_call 59; with_reducible exact quiet_eq (specSize_calm _ _ _ n3 n4)))
        go_wp2_with fail
        all_goals
          go_ret2
          exact ⟨_, _, rfl, .inl ⟨k + 1, rfl, by rw [show ((k + 1 : Nat) : Int) = (k : Int) + 1 from by omega], by omega, by omega, hh, fun j h1 h2 => Hno.out j h1 (by omega)⟩, Nr.out.draw _⟩
      | false =>
        have hh' : (FloatKind.f64.format.order (opB .mul .f64 4611686018427387904 (szH (mulSre (zH ⟨pr, pi, gr, gi⟩ k).1 (zH ⟨pr, pi, gr, gi⟩ k).2 pr pi, mulSim (zH ⟨pr, pi, gr, gi⟩ k).1 (zH ⟨pr, pi, gr, gi⟩ k).2 pr pi))) (szH (gr, gi)) == some .lt || FloatKind.f64.format.order (opB .mul .f64 4611686018427387904 (szH (mulSre (zH ⟨pr, pi, gr, gi⟩ k).1 (zH ⟨pr, pi, gr, gi⟩ k).2 pr pi, mulSim (zH ⟨pr, pi, gr, gi⟩ k).1 (zH ⟨pr, pi, gr, gi⟩ k).2 pr pi))) (szH (gr, gi)) == some .eq) = false := hh
        go_quiet (first
          | (go_at_call 59; with_reducible exact quiet_eq (specSize_calm _ _ _ P.out.n1 P.out.n2))
          | (go_at_call 59; with_reducible exact quiet_eq (specSize_calm _ _ _ n3 n4)))
        go_wp2_with fail
        all_goals
          go_roundw
          case rel =>
            refine ⟨k + 1, by omega, by rw [show ((k + 1 : Nat) : Int) + 1 = (k : Int) + 1 + 1 from by omega], rfl, fun j h1 h2 => ?_, Nr.out.draw _, d0, d1⟩
            by_cases he : j = k + 1
            · rw [he]; exact hh
            · exact Hno.out j h1 (by omega)
          case measure => simp only [intOf]; omega
    · obtain rfl : k = most := by omega
      go_wp2_with fail
      all_goals
        go_ret2
        exact ⟨_, _, rfl, half_no Hno.out, Nr.out⟩

end Go.Proofs.Ytcodiiajmffdoaa
