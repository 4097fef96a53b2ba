/- The law FnPair, proved: of two modes that ring together, with different poles and starts other than 0 whose parts are sixteenths, the sum and the product of the poles are fitted within 2^-40.
   Conditions: none beyond the statement's own. -/
import Derived.Test.YtlhhcchncobmhaaPairX
import Derived.Test.YtlhhcchncobmhaaRow
import Derived.Test.YtlhhcchncobmhaaRows
import Derived.Deep.RegionHeld3
namespace Go.Proofs.Ytlhhcchncobmhaa
open Go Go.RowKit

/-- append of one complex number -/
theorem step_append_z {ops : Array Oper} {o : Oper} {a : Act} {w : World} {K : Act → World → Prop} {Q : Exit → Act → World → Prop} {E : Prop} (hg : o.guard = none) (s x : Operand)
    (hop : o.op = Op.call { callee := Callee.builtin Builtin.append, args := #[s, x], argTypes := #[43, 43] }) (base n h : Nat) (v : Value) (z : Nat × Nat) (zs : List (Nat × Nat)) (hs : a.eval s = v) (hx : a.eval x = .slice (some ⟨h, 0, none⟩) 1 1)
    (hv : w.ownsRow base 41 1 v n (cellsZ zs)) (hc : w.cell? ⟨h, 0, none⟩ = some (.complex .f64 z.1 z.2)) (hn : n ≤ 1048576) (hb : base ≤ w.heap.size)
    (hK : ∀ v' w', w'.ownsRow base 41 1 v' (n + 1) (cellsZ (zs ++ [z])) → w.grownBy w' v.ownBlock → K (a.put o.dst v') w') :
    if Region.wanted o (yielded ops a.tmps) = true then Oper.wp Try.prog o a w K Q else E := by
  have hw : Region.wanted o (yielded ops a.tmps) = true := by simp [Region.wanted, hg]
  rw [if_pos hw]
  obtain ⟨j0, hj, hy0, hy1, hy2⟩ := info_parts info_z128
  refine wp_append_own w s x 43 hop base 41 j0 (.complex .f64 0 0) 1 16 Try.underlying43 hj hy0 hy1 hy2 rfl (by decide) v n (cellsZ zs) hs hv ⟨h, 0, none⟩ 1 1 [.complex .f64 z.1 z.2] hx (by simp) ?_ ?_ (by unfold maxLen; omega) (by omega) hb ?_
  · intro j u hj
    match j, hj with
    | 0, hj => simp at hj; subst hj; simpa [Addr.add] using hc
  · intro u hu; simp at hu; subst hu; rfl
  · intro v' w' h1 h2 _
    exact hK v' w' (by rw [cellsZ_snoc]; exact h1) h2

end Go.Proofs.Ytlhhcchncobmhaa
namespace Go.Proofs.Ytlhhcchncobmhaa.fnPair
open Go Go.ChangeShapes Go.WideShapes Go.ChangeAt Go.RowKit

theorem nw_below {w w' : World} (hb : Nw w w') : Below w.heap.size w w' := ⟨hb.os, hb.tape, hb.output, hb.size, fun k hk => hb.block k hk (by simp)⟩
theorem bys_step {w w1 : World} {a : Option Addr} {len : Nat} (h : Bys w.heap.size a len w) (hb : Below w.heap.size w w1) : Bys w1.heap.size a len w1 := (h.below hb).mono hb.size
theorem nw_of {w w' : World} (h : Below w.heap.size w w') : Nw w w' := ⟨h.os, h.tape, h.output, h.size, fun k hk _ => h.block k hk⟩

theorem own_some {w : World} {base n : Nat} {E : TypeId} {size : Nat} {v : Value} {xs : List Value} (h : w.ownsRow base E size v n xs) (hn : 0 < n) : ∃ g cap, v = .slice (some ⟨g, 0, none⟩) n cap ∧ n ≤ cap ∧ cap ≤ maxLen ∧ g < w.heap.size := by
  rcases h.2 with ⟨_, h0⟩ | ⟨g, cap, cur, rfl, hb, hg, hc, hm, hs, ht⟩
  · omega
  · exact ⟨g, cap, rfl, hc, hm, (h.lt g rfl).2⟩
theorem nwz_drew {w0 w : World} (h : Nw w0 w) : Nw w0 w.drew := h.draw 1
theorem nwz_alloc {w0 w : World} (h : Nw w0 w) {o : Obj} : Nw w0 (w.alloc o) := h.alloc o
def SumI (xs ys zs : List (Nat × Nat)) (B : Nat) (w : World) (v i : Value) (wr : World) : Prop := ∃ k : Nat, k ≤ 4 ∧ i = .int .i64 (k : Int) ∧ wr.ownsRow B 41 1 v k (cellsZ (zs.take k)) ∧ Nw w wr

/-- what a quarter of a start is cut to: the run's own equations -/
structure CutP (z : Nat × Nat) (w : World) (e f r1 r2 : Nat) (i j : Int) (n : Nat) : Prop where
  run : (binOp .quo 41 (.complex .f64 z.1 z.2) (.complex .f64 4616189618054758400 0)).run Try.prog w = .ok (.complex .f64 e f) (w.drewN n)
  m1 : ∀ w, fres w .mul .f64 e 4625196817309499392 = r1
  m2 : ∀ w, fres w .mul .f64 f 4625196817309499392 = r2
  d1 : fdr .mul .f64 e 4625196817309499392 = 0
  d2 : fdr .mul .f64 f 4625196817309499392 = 0
  c1 : ∀ w, (convert 49 3 (.float .f64 r1)).run Try.prog w = .ok (.int .i64 i) w
  c2 : ∀ w, (convert 49 3 (.float .f64 r2)).run Try.prog w = .ok (.int .i64 j) w
  si : i.natAbs ≤ 16
  sj : j.natAbs ≤ 16
theorem cut_ok (m : Int × Int) (z : Nat × Nat) (h : DyC (-4) m z) (hz : Wz z) (hm : Small2 m 64) (w : World) : ∃ e f r1 r2 i j n, CutP z w e f r1 r2 i j n := by
  obtain ⟨e, f, hdiv, ne, nf, be, bf⟩ := quarter m z h hm
  have f1 : fin .f64 z.1 = true := fin_num h.1.1
  have f2 : fin .f64 z.2 = true := fin_num h.2.1
  have h4 : ((FloatKind.f64.format.order 4616189618054758400 0 == some .eq) && (FloatKind.f64.format.order 0 0 == some .eq)) = false := by decide
  obtain ⟨e', f', n, hrun, he, hf, -, -⟩ := run_cquot (P := Try.prog) 41 z.1 z.2 4616189618054758400 0 w f1 f2 (by decide) (by decide) h4
  have hv := divD_of z.1 z.2 4616189618054758400 0 e' f' (by rw [f1, f2, h4]; rfl) he hf
  have hef : e' = e ∧ f' = f := by
    rw [hdiv] at hv
    split at hv
    · simp only [Option.some.injEq, Prod.mk.injEq] at hv
      exact ⟨hv.1.symm, hv.2.symm⟩
    · cases hv
  obtain ⟨rfl, rfl⟩ := hef
  obtain ⟨r1, i, a1, a2, a3⟩ := part_cut e' ne be
  obtain ⟨r2, j, b1, b2, b3⟩ := part_cut f' nf bf
  have hs : (Try.prog.underlying 49).isSome = true := by rw [Try.underlying49]; rfl
  exact ⟨e', f', r1, r2, i, j, n, hrun, fun w => by unfold fres; rw [a1], fun w => by unfold fres; rw [b1], by unfold fdr; rw [a1]; rfl, by unfold fdr; rw [b1]; rfl,
    fun w => run_convert_float_int w _ _ _ _ _ _ hs Try.underlying3 a2, fun w => run_convert_float_int w _ _ _ _ _ _ hs Try.underlying3 b2, a3, b3⟩

set_option maxHeartbeats 3200000 in
set_option maxRecDepth 100000 in
theorem walk (a0 : Option Addr) (len0 cap0 : Nat) (z0 : List Int) (w : World) (w0 : IsRow .u8 w a0 len0 cap0 z0) :
    Calls Try.prog 5 #[.slice a0 len0 cap0] w fun e w' => e = .returned (.bool true) ∧ Below w.heap.size w w' := by
  by_cases hl : len0 ≤ 1048576
  · have Hb := Lib.hid (bys_of_row w0 (by omega))
    clear w0
    go_enter Try.func5, Try.ntmps5
    go_wp2_with fail
    refine (makeStart_any _ _ _ _ Hb.out).mono ?_
    rintro e w1 ⟨m1, P0, rfl, hP0, wP0, sP0, -, bel1⟩
    obtain ⟨pe, pf, pr1, pr2, p1, p2, pn, pcut⟩ := cut_ok m1 P0 hP0 wP0 sP0 w1
    have Pc := Lib.hid pcut
    have Bel1 := Lib.hid (below_drewN bel1 pn)
    have hr := pcut.run
    clear pcut hP0 wP0 sP0 bel1
    go_wp2_with fail
    clear hr
    have Hb1 := Lib.hid (bys_step Hb.out Bel1.out)
    generalize w1.drewN pn = w1' at *
    refine (fresh_any _ _ _ _ (by omega) (by omega) _ Hb1.out).mono ?_
    rintro e w2 ⟨g2, l2, c2, rfl, -, -, hf2, bel2⟩
    have Hf2 := Lib.hid hf2
    have Bel2 := Lib.hid (Bel1.out.trans (bel2.mono Bel1.out.size))
    clear hf2 bel2
    go_wp2_with fail
    refine (makeStart_any _ _ _ _ Hf2.out).mono ?_
    rintro e w3 ⟨m2, Q0, rfl, hQ0, wQ0, sQ0, -, bel3⟩
    obtain ⟨qe, qf, qr1, qr2, q1, q2, qn, qcut⟩ := cut_ok m2 Q0 hQ0 wQ0 sQ0 w3
    have Qc := Lib.hid qcut
    have Bel3 := Lib.hid (below_drewN (Bel2.out.trans (bel3.mono Bel2.out.size)) qn)
    have hr := qcut.run
    clear qcut hQ0 wQ0 sQ0 bel3
    go_wp2_with fail
    clear hr
    have Hb3 := Lib.hid (bys_step Hb.out Bel3.out)
    generalize w3.drewN qn = w3' at *
    refine (fresh_any _ _ _ _ (by omega) (by omega) _ Hb3.out).mono ?_
    rintro e w4 ⟨g4, l4, c4, rfl, -, -, hf4, bel4⟩
    have Hf4 := Lib.hid hf4
    have Bel4 := Lib.hid (Bel3.out.trans (bel4.mono Bel3.out.size))
    clear hf4 bel4
    go_wp2_with fail
    refine (makeStart_any _ _ _ _ Hf4.out).mono ?_
    rintro e w5 ⟨a, A, rfl, hA, wA, sA, nA, bel5⟩
    have HA := Lib.hid (And.intro hA (And.intro wA (And.intro sA nA)))
    have Bel5 := Lib.hid (Bel4.out.trans (bel5.mono Bel4.out.size))
    have Hb5 := Lib.hid (bys_step Hb.out Bel5.out)
    clear hA wA sA nA bel5
    go_wp2_with fail
    refine (fresh_any _ _ _ _ (by omega) (by omega) _ Hb5.out).mono ?_
    rintro e w6 ⟨g6, l6, c6, rfl, -, -, hf6, bel6⟩
    have Hf6 := Lib.hid hf6
    have Bel6 := Lib.hid (Bel5.out.trans (bel6.mono Bel5.out.size))
    clear hf6 bel6
    go_wp2_with fail
    refine (makeStart_any _ _ _ _ Hf6.out).mono ?_
    rintro e w7 ⟨b, B, rfl, hB, wB, sB, nB, bel7⟩
    have HB := Lib.hid (And.intro hB (And.intro wB (And.intro sB nB)))
    have Bel7 := Lib.hid (Bel6.out.trans (bel7.mono Bel6.out.size))
    clear hB wB sB nB bel7
    have x1 := Pc.out.m1
    have x2 := Pc.out.m2
    have x3 := Pc.out.d1
    have x4 := Pc.out.d2
    have x5 := Pc.out.c1
    have x6 := Pc.out.c2
    have y1 := Qc.out.m1
    have y2 := Qc.out.m2
    have y3 := Qc.out.d1
    have y4 := Qc.out.d2
    have y5 := Qc.out.c1
    have y6 := Qc.out.c2
    obtain ⟨u1, u2⟩ := six_run p1 (by have := Pc.out.si; omega)
    obtain ⟨u3, u4⟩ := six_run p2 (by have := Pc.out.sj; omega)
    obtain ⟨u5, u6⟩ := six_run q1 (by have := Qc.out.si; omega)
    obtain ⟨u7, u8⟩ := six_run q2 (by have := Qc.out.sj; omega)
    have v1 := six_eq p1 q1 (by have := Pc.out.si; omega) (by have := Qc.out.si; omega)
    have v2 := six_eq p2 q2 (by have := Pc.out.sj; omega) (by have := Qc.out.sj; omega)
    cases hpq : ((p1 == q1) && (p2 == q2)) with
    | true =>
      have hpq' : (p1 == q1) = true ∧ (p2 == q2) = true := by simpa using hpq
      rw [hpq'.1] at v1
      rw [hpq'.2] at v2
      go_wp2_with fail
      go_ret
      exact ⟨rfl, Bel7.out⟩
    | false =>
      have hne : ((p1, p2) : Int × Int) ≠ (q1, q2) := by
        intro e
        simp only [Prod.mk.injEq] at e
        rw [e.1, e.2] at hpq
        simp at hpq
      have hcmp : ((FloatKind.f64.format.order (sixB p1) (sixB q1) == some .eq) && (FloatKind.f64.format.order (sixB p2) (sixB q2) == some .eq)) = false := by rw [v1, v2]; exact hpq
      have dP := six_dy (p1, p2) ⟨by have := Pc.out.si; show p1.natAbs ≤ 1000; omega, by have := Pc.out.sj; show p2.natAbs ≤ 1000; omega⟩
      have dQ := six_dy (q1, q2) ⟨by have := Qc.out.si; show q1.natAbs ≤ 1000; omega, by have := Qc.out.sj; show q2.natAbs ≤ 1000; omega⟩
      have hsp : Small2 (p1, p2) 16 := ⟨Pc.out.si, Pc.out.sj⟩
      have hsq : Small2 (q1, q2) 16 := ⟨Qc.out.si, Qc.out.sj⟩
      have Hpq := Lib.hid (And.intro hne (And.intro dP (And.intro dQ (And.intro hsp hsq))))
      clear v1 v2 hpq hne dP dQ hsp hsq
      go_wp2_with fail
      clear x1 x2 x3 x4 x5 x6 y1 y2 y3 y4 y5 y6 u1 u2 u3 u4 u5 u6 u7 u8 hcmp
      have k1 := specRing_any (sixB p1) (sixB p2) A.1 A.2 4 HA.out.2.1 (by omega) w7
      rw [show ((4 : Nat) : Int) = 4 from rfl] at k1
      refine k1.mono ?_
      clear k1
      rintro e w8 ⟨v8, xs, rfl, hxl, own8, ring8, n8⟩
      obtain ⟨X1, X2, X3, hxs, dx1, dx2, dx3⟩ := ring4 a (p1, p2) A (six (p1, p2)) HA.out.1 Hpq.out.2.1 HA.out.2.2.1 Hpq.out.2.2.2.1 xs hxl ring8
      obtain ⟨va, vc, rfl⟩ := own_shape' own8
      have Own8 := Lib.hid own8
      have N8 := Lib.hid n8
      clear own8 n8 ring8
      go_wp2_with fail
      have k1 := specRing_any (sixB q1) (sixB q2) B.1 B.2 4 HB.out.2.1 (by omega) w8
      rw [show ((4 : Nat) : Int) = 4 from rfl] at k1
      refine k1.mono ?_
      clear k1
      rintro e w9 ⟨v9, ys, rfl, hyl, own9, ring9, n9⟩
      obtain ⟨Y1, Y2, Y3, hys, dy1, dy2, dy3⟩ := ring4 b (q1, q2) B (six (q1, q2)) HB.out.1 Hpq.out.2.2.1 HB.out.2.2.1 Hpq.out.2.2.2.2 ys hyl ring9
      obtain ⟨ua, uc, rfl⟩ := own_shape' own9
      obtain ⟨Z0, Z1, Z2, Z3, D, S, T, s, t, a0', a1', a2', a3', pok⟩ := pair_exact a b (p1, p2) (q1, q2) A B X1 X2 X3 Y1 Y2 Y3 HA.out.1 HB.out.1 dx1 dx2 dx3 dy1 dy2 dy3 HA.out.2.2.1 HB.out.2.2.1 Hpq.out.2.2.2.1 Hpq.out.2.2.2.2 HA.out.2.2.2 HB.out.2.2.2 Hpq.out.1
      have Pok := Lib.hid pok
      obtain ⟨zs, hzs⟩ : ∃ zs, zs = [Z0, Z1, Z2, Z3] := ⟨_, rfl⟩
      have hall : ∀ k : Nat, k < 4 → ∃ x y z, xs[k]? = some x ∧ ys[k]? = some y ∧ zs[k]? = some z ∧ AddOk x y z := by
        intro k hk
        subst hxs hys hzs
        match k, hk with
        | 0, _ => exact ⟨_, _, _, rfl, rfl, rfl, a0'⟩
        | 1, _ => exact ⟨_, _, _, rfl, rfl, rfl, a1'⟩
        | 2, _ => exact ⟨_, _, _, rfl, rfl, rfl, a2'⟩
        | 3, _ => exact ⟨_, _, _, rfl, rfl, rfl, a3'⟩
      have All := Lib.hid hall
      have Hzs := Lib.hid hzs
      have Xr := Lib.hid (own_nw Own8.out n9)
      have Yr := Lib.hid own9
      have N9 := Lib.hid (N8.out.trans n9)
      clear hall hzs hxs hys a0' a1' a2' a3' pok own9 n9 ring9 dx1 dx2 dx3 dy1 dy2 dy3 hxl hyl
      have L9 := Lib.hid (World.ownsRow_lit (base := w9.heap.size) (e := 41) (size := 1) w9 #[] 0 (Nat.le_refl _) (by decide) rfl)
      go_wp2_with fail
      go_loopw [11, 76] (fun v i wr => SumI xs ys zs w9.heap.size w9 v i wr) (fun _ i _ => 4 - (intOf i).toNat)
      case atStart => exact ⟨0, by omega, rfl, L9.out, (Nw.refl w9).alloc _⟩
      case round =>
        obtain ⟨k, hk, rfl, hown, hnw⟩ := hrel
        obtain ⟨ta, tc, rfl⟩ := own_shape' hown
        have Ho := Lib.hid hown
        have Nr := Lib.hid hnw
        have hsz := hnw.size
        clear hown hnw
        by_cases hlt : k < 4
        · obtain ⟨x, y, z, hx, hy, hz, hadd⟩ := All.out k hlt
          obtain ⟨g1, cap1, hv1, hcap1, hmax1, hg1⟩ := own_some Xr.out (by omega)
          obtain ⟨g2', cap2, hv2, hcap2, hmax2, hg2⟩ := own_some Yr.out (by omega)
          cases hv1
          cases hv2
          have e1 := Xr.out.cellAt k (by omega)
          have e2 := Yr.out.cellAt k (by omega)
          rw [cellsZ_at hx] at e1
          rw [cellsZ_at hy] at e2
          have t1 : ∀ w, fres w .add .f64 x.1 y.1 = z.1 := fun w => by unfold fres; rw [hadd.1]
          have t2 : ∀ w, fres w .add .f64 x.2 y.2 = z.2 := fun w => by unfold fres; rw [hadd.2]
          have d1 : fdr .add .f64 x.1 y.1 = 0 := by unfold fdr; rw [hadd.1]; rfl
          have d2 : fdr .add .f64 x.2 y.2 = 0 := by unfold fdr; rw [hadd.2]; rfl
          have r1 : ∀ w, (binOp .add 49 (.float .f64 x.1) (.float .f64 y.1)).run Try.prog w = .ok (.float .f64 z.1) w := fun w => run_float_arith w _ _ _ _ _ _ hadd.1
          have r2 : ∀ w, (binOp .add 49 (.float .f64 x.2) (.float .f64 y.2)).run Try.prog w = .ok (.float .f64 z.2) w := fun w => run_float_arith w _ _ _ _ _ _ hadd.2
          have Hz := Lib.hid hz
          unfold maxLen at hmax1 hmax2
          clear hx hy hz hadd
          have hki : (k : Int) < 4 := by omega
          have hk0i : (0 : Int) ≤ (k : Int) := by omega
          have hkn : k < 4 := hlt
          have hki' : (k : Int) < ((4 : Nat) : Int) := by omega
          go_upto_region 17 with fail
          have Keep := Lib.hid (show ∀ W, Nw w9 W → W.cell? ⟨g1, k, none⟩ = some (.complex .f64 x.1 x.2) ∧ W.cell? ⟨g2', k, none⟩ = some (.complex .f64 y.1 y.2) from fun W hW => ⟨(hW.cell (p := ⟨g1, k, none⟩) hg1).trans e1, (hW.cell (p := ⟨g2', k, none⟩) hg2).trans e2⟩)
          refine wp_region_held_drew (S := fun w' => w'.cell? ⟨g1, k, none⟩ = some (.complex .f64 x.1 x.2) ∧ w'.cell? ⟨g2', k, none⟩ = some (.complex .f64 y.1 y.2)) (by kernel_rfl) ?_ (fun hHeld => ?_)
          · ((try dsimp only) ; refine Keep.out _ ?_ ; (repeat (first | with_reducible exact Nr.out | with_reducible exact N7.out | with_reducible apply nwz_drew | with_reducible apply nwz_alloc)) ; done)
          refine wpAnyH_take (i := 0) (oi := _) (v := ?_) rfl (by kernel_rfl) (by kernel_rfl) (by kernel_rfl) (fun _ _ _ h => h) (Or.inl ⟨by rfl, ?_⟩) (by assumption) ?_
          rotate_left
          · intro w hSw
            (try dsimp only at hSw)
            go_simp
            all_goals with_reducible rfl
          try simp only [Act.put, List.setIfInBounds_toArray, List.set_cons_zero, List.set_cons_succ]
          refine wpAnyH_take (i := 1) (oi := _) (v := ?_) rfl (by kernel_rfl) (by kernel_rfl) (by kernel_rfl) (fun _ _ _ h => h) (Or.inl ⟨by rfl, ?_⟩) (by assumption) ?_
          rotate_left
          · intro w hSw
            (try dsimp only at hSw)
            go_simp
            all_goals with_reducible rfl
          try simp only [Act.put, List.setIfInBounds_toArray, List.set_cons_zero, List.set_cons_succ]
          refine wpAnyH_take (i := 2) (oi := _) (v := ?_) rfl (by kernel_rfl) (by kernel_rfl) (by kernel_rfl) (fun _ _ _ h => h) (Or.inl ⟨by rfl, ?_⟩) (by assumption) ?_
          rotate_left
          · intro w hSw
            (try dsimp only at hSw)
            go_simp
            all_goals with_reducible rfl
          try simp only [Act.put, List.setIfInBounds_toArray, List.set_cons_zero, List.set_cons_succ]
          refine wpAnyH_take (i := 3) (oi := _) (v := ?_) rfl (by kernel_rfl) (by kernel_rfl) (by kernel_rfl) (fun _ _ _ h => h) (Or.inl ⟨by rfl, ?_⟩) (by assumption) ?_
          rotate_left
          · intro w hSw
            (try dsimp only at hSw)
            go_simp
            all_goals with_reducible rfl
          try simp only [Act.put, List.setIfInBounds_toArray, List.set_cons_zero, List.set_cons_succ]
          refine wpAnyH_take (i := 4) (oi := _) (v := ?_) rfl (by kernel_rfl) (by kernel_rfl) (by kernel_rfl) (fun _ _ _ h => h) (Or.inl ⟨by rfl, ?_⟩) (by assumption) ?_
          rotate_left
          · intro w hSw
            (try dsimp only at hSw)
            go_simp
            all_goals with_reducible rfl
          try simp only [Act.put, List.setIfInBounds_toArray, List.set_cons_zero, List.set_cons_succ]
          refine wpAnyH_take (i := 5) (oi := _) (v := ?_) rfl (by kernel_rfl) (by kernel_rfl) (by kernel_rfl) (fun _ _ _ h => h) (Or.inl ⟨by rfl, ?_⟩) (by assumption) ?_
          rotate_left
          · intro w hSw
            (try dsimp only at hSw)
            go_simp
            all_goals with_reducible rfl
          try simp only [Act.put, List.setIfInBounds_toArray, List.set_cons_zero, List.set_cons_succ]
          refine wpAnyH_take (i := 6) (oi := _) (v := ?_) rfl (by kernel_rfl) (by kernel_rfl) (by kernel_rfl) (fun _ _ _ h => h) (Or.inl ⟨by rfl, ?_⟩) (by assumption) ?_
          rotate_left
          · intro w hSw
            (try dsimp only at hSw)
            go_simp
            all_goals with_reducible rfl
          try simp only [Act.put, List.setIfInBounds_toArray, List.set_cons_zero, List.set_cons_succ]
          refine wpAnyH_take (i := 7) (oi := _) (v := ?_) rfl (by kernel_rfl) (by kernel_rfl) (by kernel_rfl) (fun _ _ _ h => h) (Or.inl ⟨by rfl, ?_⟩) (by assumption) ?_
          rotate_left
          · intro w hSw
            (try dsimp only at hSw)
            go_simp
            all_goals with_reducible rfl
          try simp only [Act.put, List.setIfInBounds_toArray, List.set_cons_zero, List.set_cons_succ]
          refine wpAnyH_take (i := 8) (oi := _) (v := ?_) rfl (by kernel_rfl) (by kernel_rfl) (by kernel_rfl) (fun _ _ _ h => h) (Or.inl ⟨by rfl, ?_⟩) (by assumption) ?_
          rotate_left
          · intro w hSw
            (try dsimp only at hSw)
            go_simp
            all_goals with_reducible rfl
          try simp only [Act.put, List.setIfInBounds_toArray, List.set_cons_zero, List.set_cons_succ]
          refine wpAnyH_take (i := 9) (oi := _) (v := ?_) rfl (by kernel_rfl) (by kernel_rfl) (by kernel_rfl) (fun _ _ _ h => h) (Or.inl ⟨by rfl, ?_⟩) (by assumption) ?_
          rotate_left
          · intro w hSw
            (try dsimp only at hSw)
            go_simp
            all_goals with_reducible rfl
          try simp only [Act.put, List.setIfInBounds_toArray, List.set_cons_zero, List.set_cons_succ]
          refine wpAnyH_take (i := 10) (oi := _) (v := ?_) rfl (by kernel_rfl) (by kernel_rfl) (by kernel_rfl) (fun _ _ _ h => h) (Or.inl ⟨by rfl, ?_⟩) (by assumption) ?_
          rotate_left
          · intro w hSw
            (try dsimp only at hSw)
            go_simp
            all_goals with_reducible rfl
          try simp only [Act.put, List.setIfInBounds_toArray, List.set_cons_zero, List.set_cons_succ]
          refine wpAnyH_take (i := 11) (oi := _) (v := ?_) rfl (by kernel_rfl) (by kernel_rfl) (by kernel_rfl) (fun _ _ _ h => h) (Or.inl ⟨by rfl, ?_⟩) (by assumption) ?_
          rotate_left
          · intro w hSw
            (try dsimp only at hSw)
            go_simp
            all_goals with_reducible rfl
          try simp only [Act.put, List.setIfInBounds_toArray, List.set_cons_zero, List.set_cons_succ]
          refine wpAnyH_take (i := 12) (oi := _) (v := ?_) rfl (by kernel_rfl) (by kernel_rfl) (by kernel_rfl) (fun _ _ _ h => h) (Or.inl ⟨by rfl, ?_⟩) (by assumption) ?_
          rotate_left
          · intro w hSw
            (try dsimp only at hSw)
            go_simp
            all_goals with_reducible rfl
          try simp only [Act.put, List.setIfInBounds_toArray, List.set_cons_zero, List.set_cons_succ]
          refine wpAnyH_take (i := 13) (oi := _) (v := ?_) rfl (by kernel_rfl) (by kernel_rfl) (by kernel_rfl) (fun _ _ _ h => h) (Or.inl ⟨by rfl, ?_⟩) (by assumption) ?_
          rotate_left
          · intro w hSw
            (try dsimp only at hSw)
            go_simp
            all_goals with_reducible rfl
          try simp only [Act.put, List.setIfInBounds_toArray, List.set_cons_zero, List.set_cons_succ]
          refine wpAnyH_take (i := 14) (oi := _) (v := ?_) rfl (by kernel_rfl) (by kernel_rfl) (by kernel_rfl) (fun _ _ _ h => h) (Or.inl ⟨by rfl, ?_⟩) (by assumption) ?_
          rotate_left
          · intro w hSw
            (try dsimp only at hSw)
            go_simp
            all_goals with_reducible rfl
          try simp only [Act.put, List.setIfInBounds_toArray, List.set_cons_zero, List.set_cons_succ]
          refine wpAnyH_take (i := 15) (oi := _) (v := ?_) rfl (by kernel_rfl) (by kernel_rfl) (by kernel_rfl) (fun _ _ _ h => h) (Or.inl ⟨by rfl, ?_⟩) (by assumption) ?_
          rotate_left
          · intro w hSw
            (try dsimp only at hSw)
            go_simp
            all_goals with_reducible rfl
          try simp only [Act.put, List.setIfInBounds_toArray, List.set_cons_zero, List.set_cons_succ]
          refine wpAnyH_take (i := 16) (oi := _) (v := ?_) rfl (by kernel_rfl) (by kernel_rfl) (by kernel_rfl) (fun _ _ _ h => h) (Or.inl ⟨by rfl, ?_⟩) (by assumption) ?_
          rotate_left
          · intro w hSw
            (try dsimp only at hSw)
            go_simp
            all_goals with_reducible rfl
          try simp only [Act.put, List.setIfInBounds_toArray, List.set_cons_zero, List.set_cons_succ]
          refine wpAnyH_take (i := 17) (oi := _) (v := ?_) rfl (by kernel_rfl) (by kernel_rfl) (by kernel_rfl) (fun _ _ _ h => h) (Or.inl ⟨by rfl, ?_⟩) (by assumption) ?_
          rotate_left
          · intro w hSw
            (try dsimp only at hSw)
            go_simp
            all_goals with_reducible rfl
          try simp only [Act.put, List.setIfInBounds_toArray, List.set_cons_zero, List.set_cons_succ]
          refine wpAnyH_take (i := 18) (oi := _) (v := ?_) rfl (by kernel_rfl) (by kernel_rfl) (by kernel_rfl) (fun _ _ _ h => h) (Or.inl ⟨by rfl, ?_⟩) (by assumption) ?_
          rotate_left
          · intro w hSw
            (try dsimp only at hSw)
            go_simp
            all_goals with_reducible rfl
          try simp only [Act.put, List.setIfInBounds_toArray, List.set_cons_zero, List.set_cons_succ]
          refine wpAnyH_take (i := 19) (oi := _) (v := ?_) rfl (by kernel_rfl) (by kernel_rfl) (by kernel_rfl) (fun _ _ _ h => h) (Or.inl ⟨by rfl, ?_⟩) (by assumption) ?_
          rotate_left
          · intro w hSw
            (try dsimp only at hSw)
            go_simp
            all_goals with_reducible rfl
          try simp only [Act.put, List.setIfInBounds_toArray, List.set_cons_zero, List.set_cons_succ]
          refine wpAnyH_take (i := 20) (oi := _) (v := ?_) rfl (by kernel_rfl) (by kernel_rfl) (by kernel_rfl) (fun _ _ _ h => h) (Or.inl ⟨by rfl, ?_⟩) (by assumption) ?_
          rotate_left
          · intro w hSw
            (try dsimp only at hSw)
            go_simp
            all_goals with_reducible rfl
          try simp only [Act.put, List.setIfInBounds_toArray, List.set_cons_zero, List.set_cons_succ]
          refine wpAnyH_take (i := 21) (oi := _) (v := ?_) rfl (by kernel_rfl) (by kernel_rfl) (by kernel_rfl) (fun _ _ _ h => h) (Or.inl ⟨by rfl, ?_⟩) (by assumption) ?_
          rotate_left
          · intro w hSw
            (try dsimp only at hSw)
            go_simp
            all_goals with_reducible rfl
          try simp only [Act.put, List.setIfInBounds_toArray, List.set_cons_zero, List.set_cons_succ]
          refine wpAnyH_take (i := 22) (oi := _) (v := ?_) rfl (by kernel_rfl) (by kernel_rfl) (by kernel_rfl) (fun _ _ _ h => h) (Or.inl ⟨by rfl, ?_⟩) (by assumption) ?_
          rotate_left
          · intro w hSw
            (try dsimp only at hSw)
            go_simp
            all_goals with_reducible rfl
          try simp only [Act.put, List.setIfInBounds_toArray, List.set_cons_zero, List.set_cons_succ]
          refine wpAnyH_take (i := 23) (oi := _) (v := ?_) rfl (by kernel_rfl) (by kernel_rfl) (by kernel_rfl) (fun _ _ _ h => h) (Or.inl ⟨by rfl, ?_⟩) (by assumption) ?_
          rotate_left
          · intro w hSw
            (try dsimp only at hSw)
            go_simp
            all_goals with_reducible rfl
          try simp only [Act.put, List.setIfInBounds_toArray, List.set_cons_zero, List.set_cons_succ]
          refine wpAnyH_ready (rs := [24]) (by kernel_rfl) (by simp) ?_
          refine AllReadyH.cons (o := _) rfl (fun K hK => ?_) AllReadyH.nil
          go_simp
          refine hK.out _ _ ?_ (fun hHeld => ?_)
          · ((try dsimp only) ; refine Keep.out _ ?_ ; (repeat (first | with_reducible exact Nr.out | with_reducible exact N7.out | with_reducible apply nwz_drew | with_reducible apply nwz_alloc)) ; done)
          clear hK K
          try simp only [Act.put, List.setIfInBounds_toArray, List.set_cons_zero, List.set_cons_succ]
          refine wpAnyH_ready (rs := [25]) (by kernel_rfl) (by simp) ?_
          refine AllReadyH.cons (o := _) rfl (fun K hK => ?_) AllReadyH.nil
          refine step_append_z (by rfl) (.tmp 79) (.tmp 103) (by rfl) w9.heap.size k wr.heap.size (.slice ta k tc) z (zs.take k) (by rfl) (by rfl) (Ho.out.drew.alloc _) (by go_simp) (by omega) (by simp; omega) ?_
          intro v7 w7' own7 gr7
          have N7 := Lib.hid (((Nr.out.draw 1).alloc (.cells #[.complex .f64 z.1 z.2] 41 (0, 0))).grown gr7 (fun q' hq' => own_ge Ho.out q' hq'))
          rw [show zs.take k ++ [z] = zs.take (k + 1) from by
            obtain ⟨hk', he⟩ := List.getElem?_eq_some_iff.1 Hz.out
            rw [List.take_succ_eq_append_getElem hk', he]] at own7
          obtain ⟨qa, qn, qc, rfl⟩ := own_shape own7
          have O7 := Lib.hid own7
          clear own7 gr7
          refine hK.out _ _ ?_ (fun hHeld => ?_)
          · ((try dsimp only) ; refine Keep.out _ ?_ ; (repeat (first | with_reducible exact Nr.out | with_reducible exact N7.out | with_reducible apply nwz_drew | with_reducible apply nwz_alloc)) ; done)
          clear hK K
          try simp only [Act.put, List.setIfInBounds_toArray, List.set_cons_zero, List.set_cons_succ]
          refine wpAnyH_take (i := 26) (oi := _) (v := ?_) rfl (by kernel_rfl) (by kernel_rfl) (by kernel_rfl) (fun _ _ _ h => h) (Or.inl ⟨by rfl, ?_⟩) (by assumption) ?_
          rotate_left
          · intro w hSw
            (try dsimp only at hSw)
            go_simp
            all_goals with_reducible rfl
          try simp only [Act.put, List.setIfInBounds_toArray, List.set_cons_zero, List.set_cons_succ]
          refine wpAnyH_done (by kernel_rfl) ?_ _
          all_goals
            go_wp2_with fail
            go_roundw
            case rel => exact ⟨k + 1, by omega, by rw [show ((k + 1 : Nat) : Int) = (k : Int) + 1 from by omega], O7.out, N7.out⟩
            case measure => simp only [intOf]; omega
        · obtain rfl : k = 4 := by omega
          have hz4 : zs.take 4 = zs := by rw [Hzs.out]; rfl
          obtain ⟨g, cap, hv, hcap, hmax, hg⟩ := own_some Ho.out (by omega)
          cases hv
          have c0 := Ho.out.cellAt 0 (by omega)
          have c1 := Ho.out.cellAt 1 (by omega)
          have c2 := Ho.out.cellAt 2 (by omega)
          have c3 := Ho.out.cellAt 3 (by omega)
          rw [hz4, Hzs.out] at c0 c1 c2 c3
          have k1 := fun w => (show ∃ P Q : Nat × Nat, _ from Pok.out.cd).elim fun P h => h.elim fun Q h => crossD_ok Z1 Z1 Z0 Z2 P Q D h.1 h.2.1 h.2.2.1 h.2.2.2 w
          have k2 := fun w => (show ∃ P Q : Nat × Nat, _ from Pok.out.cs).elim fun P h => h.elim fun Q h => crossD_ok Z1 Z2 Z0 Z3 P Q S h.1 h.2.1 h.2.2.1 h.2.2.2 w
          have k3 := fun w => (show ∃ P Q : Nat × Nat, _ from Pok.out.ct).elim fun P h => h.elim fun Q h => crossD_ok Z2 Z2 Z1 Z3 P Q T h.1 h.2.1 h.2.2.1 h.2.2.2 w
          have Hf := Lib.hid (fitPair_ok Z0 Z1 Z2 Z3 D S T s t g tc k1 k2 k3 Pok.out.wd Pok.out.ws Pok.out.wt Pok.out.qs Pok.out.qt wr c0 c1 c2 c3 hcap hmax)
          obtain ⟨G, g1, g2, gd⟩ := dyC_add Hpq.out.2.1 Hpq.out.2.2.1 32 (ga_small Hpq.out.2.2.2.1 Hpq.out.2.2.2.2) (by omega) (by omega) (by omega)
          obtain ⟨M, m3, md⟩ := dyC_mul Hpq.out.2.1 Hpq.out.2.2.1 16 16 Hpq.out.2.2.2.1 Hpq.out.2.2.2.2 (by omega) (by omega) (by omega)
          have t1 : ∀ w, fres w .add .f64 (sixB p1) (sixB q1) = G.1 := fun w => by unfold fres; rw [show floatBits .add .f64 (sixB p1) (sixB q1) = some G.1 from g1]
          have t2 : ∀ w, fres w .add .f64 (sixB p2) (sixB q2) = G.2 := fun w => by unfold fres; rw [show floatBits .add .f64 (sixB p2) (sixB q2) = some G.2 from g2]
          have d1 : fdr .add .f64 (sixB p1) (sixB q1) = 0 := by unfold fdr; rw [show floatBits .add .f64 (sixB p1) (sixB q1) = some G.1 from g1]; rfl
          have d2 : fdr .add .f64 (sixB p2) (sixB q2) = 0 := by unfold fdr; rw [show floatBits .add .f64 (sixB p2) (sixB q2) = some G.2 from g2]; rfl
          have u0 := Flo.u_pos
          have Hs := Lib.hid (fun w1 w2 w3 => small_near s.1 s.2 G.1 G.2 _ _ Pok.out.ns.1 Pok.out.ns.2 gd.1.1 gd.2.1 gd.1.2 gd.2.2 (Pok.out.as1.mono (by grind)) (Pok.out.as2.mono (by grind)) w1 w2 w3)
          have Ht := Lib.hid (fun w1 w2 w3 => small_near t.1 t.2 M.1 M.2 _ _ Pok.out.nt.1 Pok.out.nt.2 md.1.1 md.2.1 md.1.2 md.2.2 (Pok.out.at1.mono (by grind)) (Pok.out.at2.mono (by grind)) w1 w2 w3)
          have P40 := Lib.hid (power_bits 40 (by omega))
          have M3 := Lib.hid m3
          clear c0 c1 c2 c3 k1 k2 k3 g1 g2 gd m3 md u0 hz4 hmax
          go_wp2_with fail
          refine Hf.out.mono ?_
          rintro e w10 ⟨rfl, n10⟩
          have N10 := Lib.hid (N9.out.trans (Nr.out.trans n10))
          clear n10
          go_wp2_with fail
          have p40 := P40.out w10
          rw [show (-((40 : Nat) : Int)) = -40 from rfl] at p40
          refine p40.mono ?_
          rintro e w11 ⟨rfl, rfl⟩
          go_wp2_with fail
          refine (small_any _ _ _ _ _ _).mono ?_
          rintro e w12 ⟨wa, wb, wc', n12, rfl, rfl⟩
          rw [Hs.out]
          clear p40
          go_wp2_with fail
          refine (specMul_any _ _ _ _ _).mono ?_
          rintro e w13 ⟨mp, mq, n13, rfl, rfl, hmp, hmq, -, -⟩
          obtain rfl : mp = M.1 := fab_some_eq (hmp.trans (congrArg Prod.fst M3.out))
          obtain rfl : mq = M.2 := fab_some_eq (hmq.trans (congrArg Prod.snd M3.out))
          clear hmp hmq
          go_wp2_with fail
          have p40 := P40.out (w10.drewN (n12 + n13))
          rw [show (-((40 : Nat) : Int)) = -40 from rfl] at p40
          refine p40.mono ?_
          rintro e w14 ⟨rfl, rfl⟩
          go_wp2_with fail
          refine (small_any _ _ _ _ _ _).mono ?_
          rintro e w15 ⟨wa, wb, wc', n15, rfl, rfl⟩
          rw [Ht.out]
          go_wp2_with fail
          go_ret
          refine ⟨rfl, ?_⟩
          exact (Bel7.out.trans ((nw_below (N10.out.draw _)).mono Bel7.out.size))
  · clear w0
    go_enter Try.func5, Try.ntmps5
    go_wp2
    go_ret
    exact ⟨rfl, Below.refl _ _⟩

/-! ### THE ROW's STEP: WRITTEN OUT: LEAVE IT -/
set_option maxRecDepth 100000 in
theorem lifted (os : Os) (started : os.Started) (H : Type) (enc : TypeId × Value → H) :
    ReturnsInHanded {} Try.checked os 5 .any (Rows.fnPairSpec.pre6 enc Try.prog Try.f5 Rows.fnPairRow.domain false) (Rows.fnPairSpec.post enc Try.prog Try.f5 false true false false) := by
  refine returnsInHanded_of_change (C := Try.checked) own started (by kernel_rfl) Try.func5
    (ChangeSpec.witness6 (enc := enc) (C := Try.checked) false ⟨#[], #[.slice none 0 0], []⟩ 8 (by kernel_rfl) (by kernel_rfl) (by kernel_rfl) (by kernel_rfl)) ?_
  intro W base args ds gs before hval0 hW hcnd _
  have hval : ∀ (j : Nat) t v, Try.f5.params[j]? = some t → args[j]? = some v → Value.okWide Try.prog W .any base t v := hval0
  have hW' := hW
  obtain ⟨p, q, hA0, hV, rfl, hfz, hnd⟩ := hW
  have hA : DataW.TrodAll enc Try.prog W 0 (fun _ => true) true Try.f5.params.toList args.toList ds p := hA0
  rw [Try.params5] at hA hval
  obtain ⟨v0, vs0, d0, ds0, p0, q0, hargs, rfl, rfl, h0, r0⟩ := trodAll_cons hA
  obtain ⟨rfl, rfl, rfl⟩ := trodAll_nil r0
  obtain rfl : args = #[v0] := by cases args; simp_all
  obtain ⟨rfl, rfl⟩ := trodVars_none hV
  obtain ⟨a0, len0, cap0, rfl⟩ := okWide_slice Try.underlying22 (hval 0 22 v0 rfl rfl)
  have k0 := h0
  have lt0 : ∀ x ∈ p0, x.block < W.heap.size := by obtain ⟨m, hm⟩ := k0; exact DataW.trod_lt m _ _ _ hm
  obtain ⟨z0, w0⟩ : ∃ zs, IsRow .u8 W a0 len0 cap0 zs := by
    obtain ⟨fuel, hf⟩ := h0
    rcases open_ints Try.underlying22 Try.underlying5 (by kernel_rfl) hf with ⟨hcs, _⟩ | ⟨x, l, c, zs, hcs, _, hl, hm, hz, _, hcell, hwz⟩
    · simp [Value.cells] at hcs
      obtain ⟨rfl, rfl, rfl⟩ := hcs
      exact ⟨[], .inl ⟨rfl, rfl, rfl, rfl⟩⟩
    · simp [Value.cells] at hcs
      obtain ⟨rfl, rfl, rfl⟩ := hcs
      exact ⟨zs, .inr ⟨_, rfl, hl, hm, by simpa using hz, hcell, hwz⟩⟩
  clear hA0 hval0
  refine (walk a0 len0 cap0 z0 W w0).mono fun e W' ⟨he, bel⟩ => ?_
  subst he
  exact ⟨_, rfl, _, _, _, [], _, [], hW', trodAll_mk1 (shut_bool Try.underlying4 _), (trodAll_cons_mk (Below.trod laidOut (by kernel_rfl) (of_decide_eq_true (by kernel_rfl)) k0 bel lt0) trodAll_mk0), rfl, bel.frame _, fun h => by cases h⟩

theorem over : Rows.fnPairRow.holds Try.pinned (OpenSpec.ofChange Rows.fnPairSpec) :=
  OpenClaim.holds_of_wide 5 Try.f5 rfl rfl rfl rfl rfl rfl rfl ⟨rfl, rfl, rfl, rfl, rfl⟩ rfl rfl rfl rfl rfl (by kernel_rfl) Try.func5 (by kernel_rfl)
    (of_decide_eq_true (by kernel_rfl)) (by unfold Func.isWrapper; first | (rw [if_pos (by decide +kernel)]; kernel_rfl) | (rw [if_neg (by decide +kernel)]; exact ⟨rfl, rfl⟩))
    (fun os started H enc _ => lifted os started H enc)

/-- ████ THE STATEMENT ████ -/
theorem proved : Rows.FnPairSaid := over
#print axioms proved
end Go.Proofs.Ytlhhcchncobmhaa.fnPair

