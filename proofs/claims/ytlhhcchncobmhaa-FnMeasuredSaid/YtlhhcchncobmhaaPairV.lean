/- The walks of the model's MultiplyDouble and RingMode, of crossDifference and FitPair.
   Conditions: those that each statement names. -/
import Derived.Test.YtlhhcchncobmhaaPairW
import Derived.Test.YtlhhcchncobmhaaClone
namespace Go.Proofs.Ytlhhcchncobmhaa
set_option linter.unusedSimpArgs false
set_option linter.unusedVariables false
open Go Go.RowKit

theorem specMul_any (a b c d : Nat) (w : World) :
    Calls Try.prog 29 #[.complex .f64 a b, .complex .f64 c d] w fun e w' => ∃ p q n, e = .returned (.complex .f64 p q) ∧ w' = w.drewN n ∧
      fab .f64 p = mulRe (fab .f64 a) (fab .f64 b) (fab .f64 c) (fab .f64 d) ∧ fab .f64 q = mulIm (fab .f64 a) (fab .f64 b) (fab .f64 c) (fab .f64 d) ∧ p < 2 ^ 64 ∧ q < 2 ^ 64 := by
  go_enter Try.func29, Try.ntmps29
  go_wp2
  all_goals (go_ret; exact ⟨_, _, _, rfl, rfl, by simp only [fab_fres]; rfl, by simp only [fab_fres]; rfl, fres_wf _ _ _ _ _, fres_wf _ _ _ _ _⟩)
theorem specIn_ok (n : Nat) (hn : n ≤ 2000) (w : World) :
    Calls Try.prog 68 #[.int .i64 (n : Int), .int .i64 0, .int .i64 2000] w fun e w' => e = .returned (.bool true) ∧ w = w' := by
  go_enter Try.func68, Try.ntmps68
  go_wp2_with fail
  all_goals (go_ret; exact ⟨by first | rfl | (simp; omega), rfl⟩)

def SRecI (B n : Nat) (p s : FC) (w : World) (v number i : Value) (wr : World) : Prop :=
  ∃ (k x y : Nat) (zs : List (Nat × Nat)), k ≤ n ∧ i = .int .i64 (k : Int) ∧ number = .complex .f64 x y ∧ fabC (x, y) = ringC p s k ∧ Wz (x, y) ∧ zs.length = k ∧
    wr.ownsRow B 41 1 v k (cellsZ zs) ∧ Ringing p s zs ∧ Nw w wr
theorem ringing_snoc {p s : FC} {zs : List (Nat × Nat)} {k x y : Nat} (h : Ringing p s zs) (hl : zs.length = k) (hx : fabC (x, y) = ringC p s k) (hw : Wz (x, y)) : Ringing p s (zs ++ [(x, y)]) := by
  intro i z hz
  by_cases hik : i < k
  · rw [List.getElem?_append_left (by omega)] at hz
    exact h i z hz
  · have h2 := (List.getElem?_eq_some_iff.1 hz).1
    rw [List.length_append] at h2
    obtain rfl : i = zs.length := by simp at h2; omega
    rw [List.getElem?_append_right (Nat.le_refl _), Nat.sub_self] at hz
    simp at hz
    subst hz
    rw [hl]
    exact ⟨hx, hw⟩

set_option maxRecDepth 100000 in
theorem specRing_any (a b c d n : Nat) (hc : Wz (c, d)) (hn : n ≤ 2000) (w : World) :
    Calls Try.prog 25 #[.complex .f64 a b, .complex .f64 c d, .int .i64 (n : Int)] w (RecP w.heap.size n (fabC (a, b)) (fabC (c, d)) w) := by
  obtain ⟨j0, hj, hjz0, hjz1, hjz2⟩ := info_parts info_z128
  have L0 := Lib.hid (World.ownsRow_lit (base := w.heap.size) (e := 41) (size := 1) w #[] 0 (Nat.le_refl _) (by decide) rfl)
  have N0 := Lib.hid ((Nw.refl w).alloc (.cells #[] 41 (0, 0)))
  go_enter Try.func25, Try.ntmps25
  go_wp2_with fail
  refine (specIn_ok n hn _).mono ?_
  rintro e w1 ⟨rfl, rfl⟩
  go_wp2_with fail
  go_loopw [8, 9, 10] (fun v number i wr => SRecI w.heap.size n (fabC (a, b)) (fabC (c, d)) w v number i wr) (fun _ _ i _ => n - (intOf i).toNat)
  case atStart => exact ⟨0, c, d, [], by omega, rfl, rfl, rfl, hc, rfl, L0.out, by intro i z hz; simp at hz, N0.out⟩
  case round =>
    obtain ⟨k, x, y, zs, hk, rfl, rfl, hxy, hwz, hzl, hown, hring, hnw⟩ := hrel
    obtain ⟨va, vc, rfl⟩ := own_shape' hown
    have Hxy := Lib.hid (And.intro hxy hwz)
    have Hzl := Lib.hid hzl
    have Hown := Lib.hid hown
    have Hring := Lib.hid hring
    have Hnw := Lib.hid hnw
    have hsz := hnw.size
    clear hxy hwz hzl hown hring hnw
    by_cases hlt : k < n
    · go_wp2_with (at_builtin; refine wpList_append_own _ rfl _ _ 43 rfl w.heap.size 41 j0 (.complex .f64 0 0) 1 16 Try.underlying43 hj hjz0 hjz1 hjz2 rfl (by decide) _ _ _ rfl (Hown.out.alloc _) ⟨wr.heap.size, 0, none⟩ 1 1 [.complex .f64 x y] rfl rfl ?c1 ?c2 ?c3 ?c4 ?c5 ?_)
      case c1 =>
        intro j u hj
        match j, hj with
        | 0, hj => simp at hj; subst hj; simp [Addr.add]
      case c2 => intro u hu; simp at hu; subst hu; rfl
      case c3 => unfold maxLen; omega
      case c4 => omega
      case c5 => simp; omega
      · intro v' w5 hown5 hgrow _
        have N5 := Lib.hid ((Hnw.out.alloc (.cells #[.complex .f64 x y] 41 (0, 0))).grown hgrow (fun q' hq' => own_ge Hown.out q' hq'))
        rw [show cellsZ zs ++ [Value.complex .f64 x y] = cellsZ (zs ++ [(x, y)]) from (cellsZ_snoc zs x y).symm] at hown5
        obtain ⟨ta, tl, tc, rfl⟩ := own_shape hown5
        have O5 := Lib.hid hown5
        clear hown5 hgrow
        go_wp2_with fail
        refine (specMul_any _ _ _ _ _).mono ?_
        rintro e w6 ⟨p, q, n6, rfl, rfl, hp, hq, hp64, hq64⟩
        have Hp := Lib.hid (And.intro hp hq)
        clear hp hq
        go_wp2_with fail
        go_roundw
        case rel =>
          refine ⟨k + 1, p, q, zs ++ [(x, y)], by omega, by rw [show ((k + 1 : Nat) : Int) = (k : Int) + 1 from by omega], rfl, ?_, ⟨hp64, hq64⟩, by rw [List.length_append, Hzl.out]; rfl, own_nw O5.out ((Nw.refl _).draw _), ringing_snoc Hring.out Hzl.out Hxy.out.1 Hxy.out.2, N5.out.draw _⟩
          show fabC (p, q) = mulC (ringC (fabC (a, b)) (fabC (c, d)) k) (fabC (a, b))
          rw [← Hxy.out.1]
          unfold fabC mulC
          rw [Hp.out.1, Hp.out.2]
        case measure => simp only [intOf]; omega
    · obtain rfl : k = n := by omega
      go_wp2_with fail
      go_ret2
      exact ⟨_, zs, rfl, Hzl.out, Hown.out, Hring.out, Hnw.out⟩

/-- a b - c d, where all of it is exact -/
theorem crossD_ok (a b c d P Q R : Nat × Nat) (h1 : mulC (fabC a) (fabC b) = (some P.1, some P.2)) (h2 : mulC (fabC c) (fabC d) = (some Q.1, some Q.2)) (h3 : floatBits .sub .f64 P.1 Q.1 = some R.1) (h4 : floatBits .sub .f64 P.2 Q.2 = some R.2) (w : World) :
    Calls Try.prog 69 #[.complex .f64 a.1 a.2, .complex .f64 b.1 b.2, .complex .f64 c.1 c.2, .complex .f64 d.1 d.2] w fun e w' => e = .returned (.complex .f64 R.1 R.2) ∧ ∃ n, w' = w.drewN n := by
  have t1 : ∀ w, fres w .sub .f64 P.1 Q.1 = R.1 := fun w => by unfold fres; rw [h3]
  have t2 : ∀ w, fres w .sub .f64 P.2 Q.2 = R.2 := fun w => by unfold fres; rw [h4]
  have d1 : fdr .sub .f64 P.1 Q.1 = 0 := by unfold fdr; rw [h3]; rfl
  have d2 : fdr .sub .f64 P.2 Q.2 = 0 := by unfold fdr; rw [h4]; rfl
  have H := Lib.hid (And.intro h1 h2)
  clear h1 h2 h3 h4
  go_enter Try.func69, Try.ntmps69
  go_wp2_with fail
  refine (implMul_any _ _ _ _ _).mono ?_
  rintro e w1 ⟨p, q, n1, rfl, rfl, hp, hq, -, -⟩
  have e1 : p = P.1 := fab_some_eq (hp.trans (congrArg Prod.fst H.out.1))
  have e2 : q = P.2 := fab_some_eq (hq.trans (congrArg Prod.snd H.out.1))
  subst e1 e2
  clear hp hq
  go_wp2_with fail
  refine (implMul_any _ _ _ _ _).mono ?_
  rintro e w2 ⟨p, q, n2, rfl, rfl, hp, hq, -, -⟩
  have e1 : p = Q.1 := fab_some_eq (hp.trans (congrArg Prod.fst H.out.2))
  have e2 : q = Q.2 := fab_some_eq (hq.trans (congrArg Prod.snd H.out.2))
  subst e1 e2
  clear hp hq
  go_wp2_with fail
  go_ret
  exact ⟨rfl, n1 + n2, by first | rfl | rw [World.drewN_drewN]⟩

/-- what FitPair answers -/
def PairP (s t : Nat × Nat) (w : World) (e : Ending) (w' : World) : Prop := e = .returned (.tuple #[.complex .f64 s.1 s.2, .complex .f64 t.1 t.2, .bool true]) ∧ Nw w w'
set_option maxRecDepth 100000 in
theorem fitPair_ok (z0 z1 z2 z3 D S T s t : Nat × Nat) (g cap : Nat) (hD : ∀ w, Calls Try.prog 69 #[.complex .f64 z1.1 z1.2, .complex .f64 z1.1 z1.2, .complex .f64 z0.1 z0.2, .complex .f64 z2.1 z2.2] w fun e w' => e = .returned (.complex .f64 D.1 D.2) ∧ ∃ n, w' = w.drewN n)
    (hS : ∀ w, Calls Try.prog 69 #[.complex .f64 z1.1 z1.2, .complex .f64 z2.1 z2.2, .complex .f64 z0.1 z0.2, .complex .f64 z3.1 z3.2] w fun e w' => e = .returned (.complex .f64 S.1 S.2) ∧ ∃ n, w' = w.drewN n)
    (hT : ∀ w, Calls Try.prog 69 #[.complex .f64 z2.1 z2.2, .complex .f64 z2.1 z2.2, .complex .f64 z1.1 z1.2, .complex .f64 z3.1 z3.2] w fun e w' => e = .returned (.complex .f64 T.1 T.2) ∧ ∃ n, w' = w.drewN n)
    (wD : Wz D) (wS : Wz S) (wT : Wz T) (qs : divD S.1 S.2 D.1 D.2 = some (s.1, s.2)) (qt : divD T.1 T.2 D.1 D.2 = some (t.1, t.2)) (w : World)
    (c0 : w.cell? ⟨g, 0, none⟩ = some (.complex .f64 z0.1 z0.2)) (c1 : w.cell? ⟨g, 1, none⟩ = some (.complex .f64 z1.1 z1.2)) (c2 : w.cell? ⟨g, 2, none⟩ = some (.complex .f64 z2.1 z2.2)) (c3 : w.cell? ⟨g, 3, none⟩ = some (.complex .f64 z3.1 z3.2)) (hcap : 4 ≤ cap) (hcap2 : cap ≤ maxLen) :
    Calls Try.prog 26 #[.slice (some ⟨g, 0, none⟩) 4 cap] w (PairP s t w) := by
  have HD := Lib.hid hD
  have HS := Lib.hid hS
  have HT := Lib.hid hT
  have Q := Lib.hid (And.intro wD (And.intro wS (And.intro wT (And.intro qs qt))))
  unfold maxLen at hcap2
  clear hD hS hT wD wS wT qs qt
  go_enter Try.func26, Try.ntmps26
  go_wp2_with fail
  go_quiet (first | (go_at_call 69; exact Calls.quiet_of (HD.out _)))
  replace c0 : (w.drewN nq).cell? ⟨g, 0, none⟩ = some (.complex .f64 z0.1 z0.2) := c0
  replace c1 : (w.drewN nq).cell? ⟨g, 1, none⟩ = some (.complex .f64 z1.1 z1.2) := c1
  replace c2 : (w.drewN nq).cell? ⟨g, 2, none⟩ = some (.complex .f64 z2.1 z2.2) := c2
  replace c3 : (w.drewN nq).cell? ⟨g, 3, none⟩ = some (.complex .f64 z3.1 z3.2) := c3
  have NA := Lib.hid ((Nw.refl w).draw nq)
  generalize w.drewN nq = wA at *
  go_wp2_with fail
  go_quiet (first
    | (go_at_call 69; exact Calls.quiet_of (HS.out _))
    | (go_at_call 70; exact Calls.quiet_of (implDiv_some _ _ _ _ _ _ _ Q.out.2.1.1 Q.out.2.1.2 Q.out.1.1 Q.out.1.2 Q.out.2.2.2.1)))
  replace c0 : (wA.drewN nq).cell? ⟨g, 0, none⟩ = some (.complex .f64 z0.1 z0.2) := c0
  replace c1 : (wA.drewN nq).cell? ⟨g, 1, none⟩ = some (.complex .f64 z1.1 z1.2) := c1
  replace c2 : (wA.drewN nq).cell? ⟨g, 2, none⟩ = some (.complex .f64 z2.1 z2.2) := c2
  replace c3 : (wA.drewN nq).cell? ⟨g, 3, none⟩ = some (.complex .f64 z3.1 z3.2) := c3
  have NB := Lib.hid (NA.out.draw nq)
  generalize wA.drewN nq = wB at *
  go_wp2_with fail
  go_quiet (first
    | (go_at_call 69; exact Calls.quiet_of (HT.out _))
    | (go_at_call 70; exact Calls.quiet_of (implDiv_some _ _ _ _ _ _ _ Q.out.2.2.1.1 Q.out.2.2.1.2 Q.out.1.1 Q.out.1.2 Q.out.2.2.2.2)))
  have ND := Lib.hid (NB.out.draw nq)
  generalize wB.drewN nq = wD at *
  go_wp2_with fail
  go_ret3
  exact ⟨rfl, ND.out⟩

end Go.Proofs.Ytlhhcchncobmhaa
