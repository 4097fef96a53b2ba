/- The law FnBowed, proved: the force of a bow turns its sign with bow and velocity, and is the difference exactly where it sticks; a bow with the greatest grip sticks in all steps of finite ringing.
   Conditions: none beyond the statement's own. -/
import Derived.Test.YtfgofmcpgfofaaaStuck
import Derived.Test.YtfgofmcpgfofaaaFinite
import Derived.Test.YtfgofmcpgfofaaaNegS
import Derived.Test.YtfgofmcpgfofaaaRow
import Derived.Test.YtfgofmcpgfofaaaRows
namespace Go.Proofs.Ytfgofmcpgfofaaa.fnBowed
open Go.ChangeShapes Go.WideShapes Go.ChangeAt Go.RowKit
open Go.ChangeMaps (open_string shut_string)
set_option linter.unusedVariables false

theorem bys_step {w w1 : World} {a : Option Addr} {len : Nat} (h : Bys w.heap.size a len w) (hb : Nw w w1) : Bys w1.heap.size a len w1 :=
  (h.below ⟨hb.os, hb.tape, hb.output, hb.size, fun k hk => hb.block k hk (by simp)⟩).mono hb.size
theorem nw_of_below {w w1 : World} (h : Below w.heap.size w w1) : Nw w w1 := ⟨h.os, h.tape, h.output, h.size, fun k hk _ => h.block k hk⟩
theorem nw_below {w w' : World} (hb : Nw w w') : Below w.heap.size w w' := ⟨hb.os, hb.tape, hb.output, hb.size, fun k hk => hb.block k hk (by simp)⟩

theorem num_of (b k : Nat) (e : Nat) (h : Ieee.single.read b = .number false k (-(e : Int))) (c : Rat) (hc : (k : Rat) = c * ((2 ^ e : Nat) : Rat)) : Sm b ∧ S b = c := by
  refine ⟨⟨_, _, _, h⟩, ?_⟩
  rw [show S b = _ from Flo.V_eq h]
  unfold Flo.val
  have h1 := Flo.pw_neg_mul e
  rw [Flo.pw_nat e] at h1
  simp only [Bool.false_eq_true, if_false]
  rw [hc]
  grind
theorem num_8 : Sm 1090519040 ∧ S 1090519040 = 8 := num_of _ 8388608 20 (by decide) 8 (by rw [show (2 ^ 20 : Nat) = 1048576 from rfl]; have : ((8388608 : Nat) : Rat) = 8388608 := rfl; have e2 : ((1048576 : Nat) : Rat) = 1048576 := rfl; rw [this, e2]; grind)
theorem eight_60 : (8 : Rat) ≤ Flo.pw 60 := by
  have h1 : Flo.pw 3 ≤ Flo.pw 60 := Flo.pw_le (by omega)
  rw [show Flo.pw 3 = 8 from Flo.pw_nat 3] at h1
  exact h1
theorem samp_9 {x : Nat} (h : Samp 8 x) : Sm x ∧ Flo.Ab (S x) 9 := ⟨h.1, h.2.mono (by grind)⟩

/-! ### the grips -/
def gripB (z : Nat) : Nat := opB .quo .f32 (floatOfInt .f32 (z : Int)) 1107296256
def gripOk (z : Nat) : Bool := (floatBits .quo .f32 (floatOfInt .f32 (z : Int)) 1107296256).isSome && fin .f32 (gripB z) &&
  (FloatKind.f32.format.order 0 (gripB z) == some .lt || FloatKind.f32.format.order 0 (gripB z) == some .eq) && (FloatKind.f32.format.order (gripB z) 1090519040 == some .lt || FloatKind.f32.format.order (gripB z) 1090519040 == some .eq)
set_option maxRecDepth 100000 in
theorem grip_all : ((List.range 256).all gripOk) = true := by decide +kernel
theorem grip_ok (z : Nat) (hz : z ≤ 255) : Calm .quo .f32 (floatOfInt .f32 (z : Int)) 1107296256 ∧ Sm (gripB z) ∧ 0 ≤ S (gripB z) ∧ Flo.Ab (S (gripB z)) 9 := by
  have h := grip_all
  rw [List.all_eq_true] at h
  have h := h z (List.mem_range.2 (by omega))
  unfold gripOk at h
  rw [Bool.and_eq_true, Bool.and_eq_true, Bool.and_eq_true] at h
  obtain ⟨⟨⟨h1, h2⟩, h3⟩, h4⟩ := h
  obtain ⟨r, hr⟩ := Option.isSome_iff_exists.1 h1
  have sm := Sm_of h2
  have l0 := (le32_iff zero_single.1 sm).1 h3
  have l8 := (le32_iff sm num_8.1).1 h4
  rw [zero_single.2] at l0
  rw [num_8.2] at l8
  exact ⟨(Calm.of hr).1, sm, l0, by grind, by grind⟩

def BowCut (ms : List M4) (x0 : Nat) (w : World) (l ok : Value) (wx : World) : Prop :=
  ∃ (g : Nat) (ys : List Nat), l = .slice (some ⟨g, 0, none⟩) 12 12 ∧ ok = .bool true ∧ wx.ownsRow w.heap.size 49 1 (.slice (some ⟨g, 0, none⟩) 12 12) 12 (cellsS ys) ∧ BowY ms x0 12 ys ∧ Nw w wx
def CountCut (ms : List M4) (x0 : Nat) (w : World) (c ok : Value) (wx : World) : Prop :=
  ∃ n : Nat, c = .int .i64 (n : Int) ∧ ok = .bool true ∧ (Good ms x0 → n = 12) ∧ Nw w wx

set_option maxRecDepth 100000 in
set_option maxHeartbeats 12800000 in
theorem walk (a0 : Option Addr) (len0 cap0 : Nat) (z0 : List Int) (w : World) (w0 : IsRow .u8 w a0 len0 cap0 z0) :
    Calls Try.prog 8 #[.slice a0 len0 cap0] w fun e w' => e = .returned (.bool true) ∧ Below w.heap.size w w' := by
  by_cases hl : len0 ≤ 1048576
  · have Hb := Lib.hid (bys_of_row w0 (by omega))
    clear w0
    go_enter Try.func8, Try.ntmps8
    go_wp2_with fail
    refine (makeSmall_any _ _ _ 1090519040 8 num_8.1 (by rw [num_8.2]; exact ⟨by grind, by grind⟩) eight_60 _ Hb.out).mono ?_
    rintro e w1 ⟨xs, iv, rfl, hxs, hsam, own1, n1⟩
    obtain ⟨ia, ic, rfl⟩ := own_shape' own1
    by_cases h2 : xs.length < 2
    · have N1 := Lib.hid n1
      clear own1 n1
      go_wp2_with fail
      go_ret
      exact ⟨rfl, nw_below N1.out⟩
    · obtain ⟨x0, hx0⟩ : ∃ x, xs[0]? = some x := ⟨xs[0]'(by omega), List.getElem?_eq_getElem _⟩
      obtain ⟨x1, hx1⟩ : ∃ x, xs[1]? = some x := ⟨xs[1]'(by omega), List.getElem?_eq_getElem _⟩
      have S0 := Lib.hid (samp_9 (hsam x0 (List.mem_of_getElem? hx0)))
      have S1 := Lib.hid (samp_9 (hsam x1 (List.mem_of_getElem? hx1)))
      obtain ⟨p, hp⟩ : ∃ p, p = xs.length := ⟨_, rfl⟩
      rw [← hp] at own1 h2 hxs ⊢
      have Hp := Lib.hid hp
      obtain ⟨g1, cap1, hv1, hcap1, hmax1, -, -⟩ := own_sample own1 hx0 hp
      cases hv1
      unfold maxLen at hmax1
      have X1 := Lib.hid own1
      have N1 := Lib.hid n1
      have Hx0 := Lib.hid hx0
      have Hx1 := Lib.hid hx1
      have key := fun wz (h : Nw w1 wz) => (show wz.cell? ⟨g1, 0, none⟩ = some (.float .f32 x0) ∧ wz.cell? ⟨g1, 1, none⟩ = some (.float .f32 x1) from by
        obtain ⟨g, c, hv, -, -, -, e1⟩ := own_sample (own_nw X1.out h) Hx0.out Hp.out
        cases hv
        obtain ⟨g, c, hv, -, -, -, e2⟩ := own_sample (own_nw X1.out h) Hx1.out Hp.out
        cases hv
        exact ⟨e1, e2⟩)
      have Key := Lib.hid key
      clear own1 n1 hsam hp hx0 hx1 key
      go_wp2_with fail
      refine (at_any _ _ _ 1 hl (by omega) _ (bys_step Hb.out N1.out)).mono ?_
      rintro e w5 ⟨z1, hz1, rfl, rfl⟩
      obtain ⟨fc, hg, hg0, hg9⟩ := grip_ok z1 hz1
      have r1 := fc.res
      have q1 := fc.fdr
      rw [show opB .quo .f32 (floatOfInt .f32 (z1 : Int)) 1107296256 = gripB z1 from rfl] at r1
      obtain ⟨D, f1, f2, hD, hDs, hf1, hf2, heq, hcase⟩ := force_two x0 x1 (gripB z1) S0.out.1 S1.out.1 S0.out.2 hg hg0 hg9
      generalize gripB z1 = gp at *
      have Hf1 := Lib.hid hf1
      have Hf2 := Lib.hid hf2
      have Hcase := Lib.hid hcase
      have Heq := Lib.hid heq
      have HD := Lib.hid (show opB .sub .f32 x0 x1 = D from by unfold opB; rw [hD]; rfl)
      have Hrun := Lib.hid ((show Calm .sub .f32 x0 x1 from by unfold Calm opB; rw [hD]; rfl).runs (P := Try.prog) (.inr (.inl rfl)) 49)
      clear fc hg hg0 hg9 hf1 hf2 hcase heq hD
      go_upto_region 7 with fail
      go_cut [5] (fun r wx => r = .float .f32 f1 ∧ Nw w1 wx)
      case first =>
        obtain ⟨k0, k1⟩ := Key.out w1 (Nw.refl _)
        go_region_with (first | (go_at_call 42; refine (implBow_ok _ _ _ _).mono ?_; rintro e w6 ⟨r, rfl, hr, n6⟩))
        all_goals
          go_wp2_with fail
          go_meet
          exact ⟨by rw [fab_inj (hr.trans Hf1.out)], (show Nw w1 w6 from ⟨n6.os, n6.tape, n6.output, n6.size, n6.block⟩)⟩
      case rest =>
        obtain ⟨rfl, nc⟩ := hcut
        have N2 := Lib.hid nc
        clear nc
        go_upto_region 8 with fail
        go_cut [6] (fun r wx => r = .float .f32 f2 ∧ Nw w1 wx)
        case first =>
          obtain ⟨k0, k1⟩ := Key.out wc N2.out
          go_region_with (first | (go_at_call 42; refine (implBow_ok _ _ _ _).mono ?_; rintro e w6 ⟨r, rfl, hr, n6⟩))
          all_goals
            go_wp2_with fail
            go_meet
            exact ⟨by rw [fab_inj (hr.trans Hf2.out)], N2.out.trans (show Nw wc w6 from ⟨n6.os, n6.tape, n6.output, n6.size, n6.block⟩)⟩
        case rest =>
          obtain ⟨rfl, nc⟩ := hcut
          have N3 := Lib.hid nc
          clear nc
          obtain ⟨k0, k1⟩ := Key.out wc N3.out
          have hrun := Hrun.out
          rw [HD.out] at hrun
          go_upto_region 9 with fail
          go_quiet (fail)
          have N4 := Lib.hid (N3.out.draw nq)
          clear k0 k1 hrun
          obtain ⟨Bv, hBv⟩ : ∃ Bv, Bv = ((FloatKind.f32.format.order D gp == some .lt || FloatKind.f32.format.order D gp == some .eq) && (FloatKind.f32.format.order (Op.negFloat .f32 D) gp == some .lt || FloatKind.f32.format.order (Op.negFloat .f32 D) gp == some .eq)) := ⟨_, rfl⟩
          have HBv := Lib.hid hBv
          clear hBv
          go_upto_region 10 with fail
          go_cut [8] (fun t wx => t = .bool Bv ∧ Nw w1 wx)
          case first =>
            cases hA : (FloatKind.f32.format.order D gp == some .lt || FloatKind.f32.format.order D gp == some .eq)
            all_goals cases hC : (FloatKind.f32.format.order (Op.negFloat .f32 D) gp == some .lt || FloatKind.f32.format.order (Op.negFloat .f32 D) gp == some .eq)
            all_goals
              go_wp2_with fail
              go_meet
              exact ⟨by rw [HBv.out, hA, hC]; rfl, N4.out⟩
          case rest =>
            obtain ⟨rfl, nc⟩ := hcut
            have N5 := Lib.hid nc
            clear nc
            go_upto_region 11 with fail
            go_cut [81] (fun t wx => t = .bool false ∧ Nw w1 wx)
            case first =>
              have e1 : (FloatKind.f32.format.order f1 (Op.negFloat .f32 f2) != some .eq) = false := by
                have h := Heq.out
                unfold bne
                rw [show (FloatKind.f32.format.order f1 (Op.negFloat .f32 f2) == some .eq) = true from h]; rfl
              rcases Hcase.out with ⟨hB, hd⟩ | ⟨hB, P, hP, hlt⟩
              · have e2 : (FloatKind.f32.format.order f1 D != some .eq) = false := by
                  unfold bne; rw [hd]; rfl
                obtain rfl : Bv = true := HBv.out.trans hB
                clear hB hd
                go_wp2_with fail
                go_meet
                exact ⟨rfl, N5.out⟩
              · obtain ⟨c, ec⟩ := Calm.of hP
                have rr := c.res
                have qq := c.fdr
                rw [ec] at rr
                obtain rfl : Bv = false := HBv.out.trans hB
                clear hB hP c ec
                go_wp2_with fail
                go_meet
                exact ⟨rfl, N5.out⟩
            case rest =>
              obtain ⟨rfl, nc⟩ := hcut
              have N6 := Lib.hid nc
              clear nc
              go_wp2_with fail
              refine (fresh_any _ _ _ _ (by omega) (by omega) _ (bys_step Hb.out (N1.out.trans N6.out))).mono ?_
              rintro e w7 ⟨g2, l2, c2, rfl, -, -, hf, bel⟩
              have N7 := Lib.hid (N6.out.trans (nw_of_below bel))
              have Hf := Lib.hid hf
              clear hf bel
              go_wp2_with fail
              refine (makeBody_any _ _ _ 3 (by omega) (by omega) _ Hf.out).mono ?_
              rintro e w8 ⟨b, v, rfl, hlen, hok, hown, n8⟩
              obtain ⟨va, vc, rfl⟩ := own_shape' hown
              obtain ⟨q, hq⟩ : ∃ q, q = b.length := ⟨_, rfl⟩
              rw [← hq] at hown hlen ⊢
              have Hq := Lib.hid hq.symm
              have Hok := Lib.hid hok
              have N8 := Lib.hid ((N7.out.trans n8).alloc (.cells #[.slice va q vc] 45 (0, 0)))
              have B8 := Lib.hid (Has1.new w8 45 (.slice va q vc))
              have M8 := Lib.hid (hown.alloc (.cells #[.slice va q vc] 45 (0, 0)))
              clear hown hok hq n8
              go_upto_region 14 with fail
              generalize w8.alloc (.cells #[.slice va q vc] 45 (0, 0)) = w9 at *
              go_cut [10, 11] (fun l ok wx => BowCut b x0 w9 l ok wx)
              case first =>
                obtain ⟨k0, k1⟩ := Key.out w9 N8.out
                obtain ⟨b0, b1, b2⟩ := B8.out
                go_region_with (first | (go_at_call 43; refine (bowBody_ok b Hok.out x0 S0.out.1 S0.out.2 q _ _ Hq.out hlen _ M8.out.drew).mono ?_; rintro e w10 ⟨g, ys, rfl, own10, hy, n10⟩))
                all_goals
                  go_wp2_with fail
                  go_meet
                  exact ⟨g, ys, rfl, rfl, own10, hy, ⟨n10.os, n10.tape, n10.output, n10.size, n10.block⟩⟩
              case rest =>
                obtain ⟨g, ys, rfl, rfl, own10, hy, n10⟩ := hcut
                have O10 := Lib.hid own10
                have Hy := Lib.hid hy
                have N10 := Lib.hid (N8.out.trans n10)
                have B10 := Lib.hid (B8.out.nw n10)
                have M10 := Lib.hid (own_nw M8.out n10)
                clear own10 hy n10
                go_upto_region 15 with fail
                go_cut [12, 13] (fun c ok wx => CountCut b x0 wc c ok wx)
                case first =>
                  obtain ⟨k0, k1⟩ := Key.out wc N10.out
                  obtain ⟨b0, b1, b2⟩ := B10.out
                  go_region_with (first | (go_at_call 44; refine (countStuck_ok b Hok.out x0 S0.out.1 S0.out.2 q _ _ Hq.out hlen _ M10.out.drew).mono ?_; rintro e w11 ⟨⟨n, rfl, hn⟩, n11⟩))
                  all_goals
                    go_wp2_with fail
                    go_meet
                    exact ⟨n, rfl, rfl, hn, ⟨n11.os, n11.tape, n11.output, n11.size, n11.block⟩⟩
                case rest =>
                  obtain ⟨n, rfl, rfl, hn, n11⟩ := hcut
                  have O11 := Lib.hid (own_nw O10.out n11)
                  have N11 := Lib.hid (N10.out.trans n11)
                  have Hn := Lib.hid hn
                  clear hn n11
                  go_wp2_with fail
                  refine (finite_any ys 12 _ _ Hy.out.1 (by omega) _ O11.out).mono ?_
                  rintro e w12 ⟨⟨fb, rfl, hfb⟩, n12⟩
                  have N12 := Lib.hid ((N1.out.trans N11.out).trans n12)
                  have hfin : fb = false ∨ n = 12 := by
                    by_cases hG : Good b x0
                    · exact .inr (Hn.out hG)
                    · left
                      cases fb
                      · rfl
                      · exact absurd (hfb rfl) (bad_fin Hy.out hG)
                  clear hfb n12
                  rcases hfin with rfl | rfl
                  · go_wp2_with fail
                    all_goals
                      go_ret
                      exact ⟨rfl, nw_below N12.out⟩
                  · cases fb
                    all_goals
                      go_wp2_with fail
                      go_ret
                      exact ⟨rfl, nw_below N12.out⟩
  · go_enter Try.func8, Try.ntmps8
    go_wp2
    go_ret
    exact ⟨rfl, Below.refl _ _⟩

/-! ### THE ROW's STEP: WRITTEN OUT: LEAVE IT -/
set_option maxRecDepth 100000 in
theorem lifted (os : Os) (started : os.Started) (H : Type) (enc : TypeId × Value → H) :
    ReturnsInHanded {} Try.checked os 8 .any (Rows.fnBowedSpec.pre6 enc Try.prog Try.f8 Rows.fnBowedRow.domain false) (Rows.fnBowedSpec.post enc Try.prog Try.f8 false true false false) := by
  refine returnsInHanded_of_change (C := Try.checked) own started (by kernel_rfl) Try.func8
    (ChangeSpec.witness6 (enc := enc) (C := Try.checked) false ⟨#[], #[.slice none 0 0], []⟩ 8 (by kernel_rfl) (by kernel_rfl) (by kernel_rfl) (by kernel_rfl)) ?_
  intro W base args ds gs before hval0 hW hcnd _
  have hval : ∀ (j : Nat) t v, Try.f8.params[j]? = some t → args[j]? = some v → Value.okWide Try.prog W .any base t v := hval0
  have hW' := hW
  obtain ⟨p, q, hA0, hV, rfl, hfz, hnd⟩ := hW
  have hA : DataW.TrodAll enc Try.prog W 0 (fun _ => true) true Try.f8.params.toList args.toList ds p := hA0
  rw [Try.params8] at hA hval
  obtain ⟨v0, vs0, d0, ds0, p0, q0, hargs, rfl, rfl, h0, r0⟩ := trodAll_cons hA
  obtain ⟨rfl, rfl, rfl⟩ := trodAll_nil r0
  obtain rfl : args = #[v0] := by cases args; simp_all
  obtain ⟨rfl, rfl⟩ := trodVars_none hV
  obtain ⟨a0, len0, cap0, rfl⟩ := okWide_slice Try.underlying22 (hval 0 22 v0 rfl rfl)
  have k0 := h0
  have lt0 : ∀ x ∈ p0, x.block < W.heap.size := by obtain ⟨m, hm⟩ := k0; exact DataW.trod_lt m _ _ _ hm
  obtain ⟨z0, w0⟩ : ∃ zs, IsRow .u8 W a0 len0 cap0 zs := by
    obtain ⟨fuel, hf⟩ := h0
    rcases open_ints Try.underlying22 Try.underlying5 (by kernel_rfl) hf with ⟨hcs, _⟩ | ⟨x, l, c, zs, hcs, _, hl, hm, hz, _, hcell, hwz⟩
    · simp [Value.cells] at hcs
      obtain ⟨rfl, rfl, rfl⟩ := hcs
      exact ⟨[], .inl ⟨rfl, rfl, rfl, rfl⟩⟩
    · simp [Value.cells] at hcs
      obtain ⟨rfl, rfl, rfl⟩ := hcs
      exact ⟨zs, .inr ⟨_, rfl, hl, hm, by simpa using hz, hcell, hwz⟩⟩
  clear hA0 hval0
  refine (walk a0 len0 cap0 z0 W w0).mono fun e W' ⟨he, bel⟩ => ?_
  subst he
  exact ⟨_, rfl, _, _, _, [], _, [], hW', trodAll_mk1 (shut_bool Try.underlying4 _), (trodAll_cons_mk (Below.trod laidOut (by kernel_rfl) (of_decide_eq_true (by kernel_rfl)) k0 bel lt0) trodAll_mk0), rfl, bel.frame _, fun h => by cases h⟩

theorem over : Rows.fnBowedRow.holds Try.pinned (OpenSpec.ofChange Rows.fnBowedSpec) :=
  OpenClaim.holds_of_wide 8 Try.f8 rfl rfl rfl rfl rfl rfl rfl ⟨rfl, rfl, rfl, rfl, rfl⟩ rfl rfl rfl rfl rfl (by kernel_rfl) Try.func8 (by kernel_rfl)
    (of_decide_eq_true (by kernel_rfl)) (by unfold Func.isWrapper; first | (rw [if_pos (by decide +kernel)]; kernel_rfl) | (rw [if_neg (by decide +kernel)]; exact ⟨rfl, rfl⟩))
    (fun os started H enc _ => lifted os started H enc)

/-- ████ THE STATEMENT ████ -/
theorem proved : Rows.FnBowedSaid := over
#print axioms proved
end Go.Proofs.Ytfgofmcpgfofaaa.fnBowed

