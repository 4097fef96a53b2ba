/- The walks of HalfLife, the program's and the model's, of a valid mode.
   Conditions: those that each statement names. -/
import Derived.Test.YtlhhcchncobmhaaHalf
import Derived.Test.YtlhhcchncobmhaaClone
namespace Go.Proofs.Ytlhhcchncobmhaa
set_option linter.unusedSimpArgs false
set_option linter.unusedVariables false
open Go Go.RowKit

theorem half_no {m : M4} {most : Nat} (h : ∀ j, 1 ≤ j → j ≤ most → hitH m j = false) : HalfR m most 0 false := .inr ⟨rfl, h, rfl⟩

set_option maxRecDepth 100000 in
theorem implHalf_ok (m : M4) (hm : m.ok) (most : Nat) (h1 : 1 ≤ most) (h2 : most ≤ 2000) (w : World) :
    Calls Try.prog 78 #[.agg #[.complex .f32 m.pr m.pi, .complex .f32 m.gr m.gi], .int .i64 (most : Int)] w (HalfP m most w) := by
  obtain ⟨pr, pi, gr, gi⟩ := m
  simp only
  have Hm := Lib.hid hm
  obtain ⟨n1, n2, n3, n4⟩ := hm.nums
  clear hm
  go_enter Try.func78, Try.ntmps78
  go_wp2_with fail
  refine (implIsMode_valid pr pi gr gi _ Hm.out).mono ?_
  rintro e w1 ⟨rfl, g1⟩
  have c0 : w1.cell? ⟨w.heap.size, 0, none⟩ = some (.complex .f32 pr pi) := by rw [g1.cell (by simp)]; simp
  have c1 : w1.cell? ⟨w.heap.size, 1, none⟩ = some (.complex .f32 gr gi) := by rw [g1.cell (by simp)]; simp
  have N1 := Lib.hid (show Nw w w1 from ((Nw.refl w).alloc _).trans g1)
  clear g1
  go_wp2_with fail
  refine (isSteps_ok most h2 _).mono ?_
  rintro e w2 ⟨rfl, rfl⟩
  go_wp2_with fail
  refine (implWiden_fin gr gi _ n3 n4).mono ?_
  rintro e w3 ⟨rfl, rfl⟩
  go_wp2_with fail
  refine (implSize_calm gr gi _ n3 n4).mono ?_
  rintro e w4 ⟨rfl, rfl⟩
  go_wp2_with fail
  go_loopw [7, 8] (fun z n wr => HalfI ⟨pr, pi, gr, gi⟩ most w z n wr) (fun _ n _ => most + 2 - (intOf n).toNat)
  case atStart => exact ⟨0, by omega, rfl, rfl, fun j hj hk => by omega, N1.out, c0, c1⟩
  case round =>
    obtain ⟨k, hk, rfl, rfl, hno, hN, d0, d1⟩ := hrel
    have Hno := Lib.hid hno
    have Nr := Lib.hid hN
    clear hno hN c0 c1
    by_cases hlt : k < most
    · have P := Lib.hid (zH_part ⟨pr, pi, gr, gi⟩ Hm.out k (by omega))
      have Z := Lib.hid (zH_num ⟨pr, pi, gr, gi⟩ Hm.out k (by omega))
      have sz := sz_H P.out.n1 P.out.n2
      have q1 := sz.2.2.res
      have q2 := sz.2.2.fdr
      clear sz
      go_wp2_with fail
      refine (implMulSingle_ok _ _ pr pi _ Z.out.1 Z.out.2 n1 n2 P.out.p1 P.out.p2).mono ?_
      rintro e w5 ⟨rfl, rfl⟩
      go_wp2_with fail
      refine (implWiden_fin _ _ _ P.out.n1 P.out.n2).mono ?_
      rintro e w6 ⟨rfl, rfl⟩
      go_wp2_with fail
      refine (implSize_calm _ _ _ P.out.n1 P.out.n2).mono ?_
      rintro e w7 ⟨rfl, rfl⟩
      cases hh : hitH ⟨pr, pi, gr, gi⟩ (k + 1) with
      | true =>
        have hh' : (FloatKind.f64.format.order (opB .mul .f64 4611686018427387904 (szH (mulSre (zH ⟨pr, pi, gr, gi⟩ k).1 (zH ⟨pr, pi, gr, gi⟩ k).2 pr pi, mulSim (zH ⟨pr, pi, gr, gi⟩ k).1 (zH ⟨pr, pi, gr, gi⟩ k).2 pr pi))) (szH (gr, gi)) == some .lt || FloatKind.f64.format.order (opB .mul .f64 4611686018427387904 (szH (mulSre (zH ⟨pr, pi, gr, gi⟩ k).1 (zH ⟨pr, pi, gr, gi⟩ k).2 pr pi, mulSim (zH ⟨pr, pi, gr, gi⟩ k).1 (zH ⟨pr, pi, gr, gi⟩ k).2 pr pi))) (szH (gr, gi)) == some .eq) = true := hh
        go_wp2_with fail
        all_goals
          go_ret2
          exact ⟨_, _, rfl, .inl ⟨k + 1, rfl, by rw [show ((k + 1 : Nat) : Int) = (k : Int) + 1 from by omega], by omega, by omega, hh, fun j h1 h2 => Hno.out j h1 (by omega)⟩, Nr.out⟩
      | false =>
        have hh' : (FloatKind.f64.format.order (opB .mul .f64 4611686018427387904 (szH (mulSre (zH ⟨pr, pi, gr, gi⟩ k).1 (zH ⟨pr, pi, gr, gi⟩ k).2 pr pi, mulSim (zH ⟨pr, pi, gr, gi⟩ k).1 (zH ⟨pr, pi, gr, gi⟩ k).2 pr pi))) (szH (gr, gi)) == some .lt || FloatKind.f64.format.order (opB .mul .f64 4611686018427387904 (szH (mulSre (zH ⟨pr, pi, gr, gi⟩ k).1 (zH ⟨pr, pi, gr, gi⟩ k).2 pr pi, mulSim (zH ⟨pr, pi, gr, gi⟩ k).1 (zH ⟨pr, pi, gr, gi⟩ k).2 pr pi))) (szH (gr, gi)) == some .eq) = false := hh
        go_wp2_with fail
        all_goals
          go_roundw
          case rel =>
            refine ⟨k + 1, by omega, by rw [show ((k + 1 : Nat) : Int) + 1 = (k : Int) + 1 + 1 from by omega], rfl, fun j h1 h2 => ?_, Nr.out, d0, d1⟩
            by_cases he : j = k + 1
            · rw [he]; exact hh
            · exact Hno.out j h1 (by omega)
          case measure => simp only [intOf]; omega
    · obtain rfl : k = most := by omega
      go_wp2_with fail
      all_goals
        go_ret2
        exact ⟨_, _, rfl, half_no Hno.out, Nr.out⟩

end Go.Proofs.Ytlhhcchncobmhaa
