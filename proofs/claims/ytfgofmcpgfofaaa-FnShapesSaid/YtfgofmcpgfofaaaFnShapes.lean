/- The law FnShapes, proved: shapes are from 0 to 1, ramps rise to 1, arches are the same from both ends but for rounding, and a strike with the force 1 rings as its shape does.
   Conditions: none beyond the statement's own. -/
import Derived.Test.YtfgofmcpgfofaaaStrikeB
import Derived.Test.YtfgofmcpgfofaaaSame
import Derived.Test.YtfgofmcpgfofaaaTest
import Derived.Test.YtfgofmcpgfofaaaFix
import Derived.Test.YtfgofmcpgfofaaaRow
import Derived.Test.YtfgofmcpgfofaaaRows
namespace Go.Proofs.Ytfgofmcpgfofaaa.fnShapes
open Go.ChangeShapes Go.WideShapes Go.ChangeAt Go.RowKit
open Go.ChangeMaps (open_string shut_string)
set_option linter.unusedVariables false

theorem bys_step {w w1 : World} {a : Option Addr} {len : Nat} (h : Bys w.heap.size a len w) (hb : Nw w w1) : Bys w1.heap.size a len w1 :=
  (h.below ⟨hb.os, hb.tape, hb.output, hb.size, fun k hk => hb.block k hk (by simp)⟩).mono hb.size
theorem nw_of_below {w w1 : World} (h : Below w.heap.size w w1) : Nw w w1 := ⟨h.os, h.tape, h.output, h.size, fun k hk _ => h.block k hk⟩
theorem nw_below {w w' : World} (hb : Nw w w') : Below w.heap.size w w' := ⟨hb.os, hb.tape, hb.output, hb.size, fun k hk => hb.block k hk (by simp)⟩

/-- what a place of a shape is -/
structure UnitOk (v : Nat) : Prop where
  sm : Sm v
  ge : (FloatKind.f32.format.order v 0 == some .gt || FloatKind.f32.format.order v 0 == some .eq) = true
  le : (FloatKind.f32.format.order v 1065353216 == some .lt || FloatKind.f32.format.order v 1065353216 == some .eq) = true
  calm : Calm .mul .f32 v 1065353216
  self : opB .mul .f32 v 1065353216 = v
theorem unit_ok {v : Nat} (h : unitB v = true) : UnitOk v := by
  unfold unitB at h
  simp only [Bool.and_eq_true, beq_iff_eq] at h
  obtain ⟨⟨⟨h1, h2⟩, h3⟩, h4⟩ := h
  obtain ⟨h5, h6⟩ := Calm.of h4
  exact ⟨Sm_of h1, h2, h3, h5, h6⟩
theorem UnitOk.ab {v : Nat} (h : UnitOk v) : Flo.Ab (S v) 1 := by
  have o0 := Flo.order_num Ieee.single v 0 h.sm zero_single.1
  have o1 := Flo.order_num Ieee.single v 1065353216 h.sm one_s.1
  have z : Flo.V Ieee.single 0 = 0 := zero_single.2
  have z1 : Flo.V Ieee.single 1065353216 = 1 := one_s.2
  have k0 := h.ge
  have k1 := h.le
  rw [show FloatKind.f32.format = Ieee.single from rfl, Bool.or_eq_true, beq_iff_eq, beq_iff_eq, o0.2.2, o0.2.1, z] at k0
  rw [show FloatKind.f32.format = Ieee.single from rfl, Bool.or_eq_true, beq_iff_eq, beq_iff_eq, o1.1, o1.2.1, z1] at k1
  unfold Flo.Ab
  show -1 ≤ S v ∧ S v ≤ 1
  have k0' : 0 < S v ∨ S v = 0 := k0
  have k1' : S v < 1 ∨ S v = 1 := k1
  constructor <;> grind

theorem shapeL_len (kind n : Nat) : (shapeL kind n).length = n := by simp [shapeL]
theorem shapeL_get (kind n k : Nat) (h : k < n) : (shapeL kind n)[k]? = some (shapeAt kind n k) := by simp [shapeL, h]
theorem shapeL_mem (kind n : Nat) (hk : kind ≤ 2) (hn : n ≤ 64) : ∀ x ∈ shapeL kind n, UnitOk x := by
  intro x hx
  obtain ⟨i, hi, rfl⟩ := List.mem_map.1 hx
  exact unit_ok (shape_unit kind n i hk hn (List.mem_range.1 hi))
theorem shapeL_one (kind n : Nat) (hk : kind ≤ 2) (hn : n ≤ 64) : ((shapeL kind n).map fun x => opB .mul .f32 x 1065353216) = shapeL kind n := by
  have h : ∀ x ∈ shapeL kind n, opB .mul .f32 x 1065353216 = id x := fun x hx => (shapeL_mem kind n hk hn x hx).self
  rw [List.map_congr_left h, List.map_id]

theorem ring_ok (ms : List M4) (hms : ∀ m ∈ ms, m.ok) (q kind n : Nat) (hq : ms.length = q) (hq3 : q ≤ 3) (hk : kind ≤ 2) (hn : n ≤ 64) : RingOk ms (inputOf (shapeL kind n)) 30 ∧ ∀ x ∈ ringS ms (inputOf (shapeL kind n)) 30, Sm x := by
  have hG : rs gm ms ≤ 6144 ∧ 0 ≤ rs gm ms := by
    have h1 := rs_max gm 2048 ms (fun m hm => (gain_ok m (hms m hm)).2.2)
    have h2 : (ms.length : Rat) ≤ 3 := by
      have : ((ms.length : Nat) : Rat) ≤ ((3 : Nat) : Rat) := by exact_mod_cast (by omega : ms.length ≤ 3)
      exact this
    exact ⟨by grind, rs_nonneg gm _ (fun m _ => gm_nonneg m)⟩
  have hX : xsum (shapeL kind n) ≤ 64 := by
    have h1 := xsum_le (shapeL kind n) 1 (fun x hx => ra_le (shapeL_mem kind n hk hn x hx).ab)
    rw [shapeL_len] at h1
    have h2 : ((n : Nat) : Rat) ≤ ((64 : Nat) : Rat) := by exact_mod_cast hn
    have h3 : ((64 : Nat) : Rat) = 64 := rfl
    grind
  have hgx : rs gm ms * xsum (shapeL kind n) ≤ 393216 := by
    have h1 := Rat.mul_le_mul_of_nonneg_right hG.1 (xsum_nonneg (shapeL kind n))
    grind
  have hP100 : (393216 : Rat) ≤ Flo.pw 100 := by
    have h1 : Flo.pw 40 ≤ Flo.pw 100 := Flo.pw_le (by omega)
    rw [show Flo.pw 40 = 1099511627776 from Flo.pw_nat 40] at h1
    grind
  have hD := drift_ok ms hms (inputOf (shapeL kind n)) 30 q hq (by omega) (by omega) (by
      intro i _
      by_cases hi : i < (shapeL kind n).length
      · have e : (shapeL kind n)[i]? = some (shapeL kind n)[i] := List.getElem?_eq_getElem hi
        rw [show inputOf (shapeL kind n) i = (shapeL kind n)[i] from by unfold inputOf; rw [List.getD_eq_getElem?_getD, e]; rfl]
        exact (shapeL_mem kind n hk hn _ (List.getElem_mem hi)).sm
      · rw [show inputOf (shapeL kind n) i = 0 from by unfold inputOf; rw [List.getD_eq_getElem?_getD, List.getElem?_eq_none (by omega)]; rfl]
        exact zero_single.1) (xsum (shapeL kind n)) (fun i _ => by rw [psum_xsum]; exact xsum_take_le _ i) (xsum_nonneg _) (by grind)
  refine ⟨hD.1, fun x hx => ?_⟩
  obtain ⟨i, hi, rfl⟩ := List.mem_map.1 hx
  exact (hD.2.2.1 i (List.mem_range.1 hi)).1

/-- the three tests of one place -/
structure PlaceOk (kind n k : Nat) : Prop where
  u : UnitOk (shapeAt kind n k)
  up : kind = 1 → 0 < k → (FloatKind.f32.format.order (shapeAt kind n (k - 1)) (shapeAt kind n k) == some .gt || FloatKind.f32.format.order (shapeAt kind n (k - 1)) (shapeAt kind n k) == some .eq) = false
  c : kind = 2 → Calm .sub .f64 (wid (shapeAt kind n k)) (wid (shapeAt kind n (n - 1 - k)))
  n1 : kind = 2 → Flo.Nm (opB .sub .f64 (wid (shapeAt kind n k)) (wid (shapeAt kind n (n - 1 - k))))
  near : kind = 2 → leB (szd (opB .sub .f64 (wid (shapeAt kind n k)) (wid (shapeAt kind n (n - 1 - k)))) 0) (powB 20) = true
  last : kind = 1 → k + 1 = n → (FloatKind.f32.format.order (shapeAt kind n k) 1065353216 == some .eq) = true

theorem place_ok (kind n k : Nat) (hk : kind ≤ 2) (hn : n ≤ 64) (hlt : k < n) : PlaceOk kind n k := by
  have hr := all_pairs ramp_all n k hn hlt
  have hna := all_pairs near_all n k hn hlt
  rw [rampB_eq] at hr
  rw [nearB_eq] at hna
  simp only [Bool.and_eq_true] at hr hna
  refine ⟨unit_ok (shape_unit kind n k hk hn hlt), ?_, ?_, ?_, ?_, ?_⟩
  · rintro rfl h0
    have h := hr.1.2
    rw [Bool.or_eq_true] at h
    rcases h with h | h
    · simp at h; omega
    · unfold upB at h
      simpa [shapeAt] using h
  · rintro rfl
    obtain ⟨r, hr⟩ := Option.isSome_iff_exists.1 hna.1.1
    exact (Calm.of hr).1
  · rintro rfl
    exact (fin_iff .f64 _).1 hna.1.2
  · rintro rfl
    exact hna.2
  · rintro rfl h1
    have h := hr.2
    rw [Bool.or_eq_true] at h
    rcases h with h | h
    · simp at h; omega
    · simpa [shapeAt] using h

theorem zero_sub : Calm .sub .f64 0 0 ∧ opB .sub .f64 0 0 = 0 := Calm.of (show floatBits .sub .f64 0 0 = some 0 by decide)

theorem small_quiet {a c k n : Nat} {w : World} (h1 : Calm .sub .f64 a c) (h2 : Flo.Nm (opB .sub .f64 a c)) :
    Calls Try.prog 18 #[.complex .f64 a 0, .complex .f64 c 0, .float .f64 k] (w.drewN n) fun e w'' => e = .returned (.bool (leB (szd (opB .sub .f64 a c) 0) k)) ∧ ∃ m, w'' = w.drewN m := by
  have h := small_calm a 0 c 0 k (w.drewN n) h1 zero_sub.1 h2 (by rw [zero_sub.2]; exact zero_num.1)
  rw [zero_sub.2] at h
  refine h.mono fun _ _ ⟨he, m, hm⟩ => ⟨he, n + m, ?_⟩
  rw [hm, World.drewN_drewN]

def KindI (w : World) (i : Value) (wr : World) : Prop := ∃ k : Nat, k ≤ 3 ∧ i = .int .i64 (k : Int) ∧ Nw w wr

set_option maxRecDepth 100000 in
set_option maxHeartbeats 12800000 in
theorem walk (a0 : Option Addr) (len0 cap0 : Nat) (z0 : List Int) (w : World) (w0 : IsRow .u8 w a0 len0 cap0 z0) :
    Calls Try.prog 9 #[.slice a0 len0 cap0] w fun e w' => e = .returned (.bool true) ∧ Below w.heap.size w w' := by
  by_cases hl : len0 ≤ 1048576
  · have Hb := Lib.hid (bys_of_row w0 (by omega))
    clear w0
    have p20 := power_bits 20 (by omega)
    rw [show (-((20 : Nat) : Int)) = -20 from rfl] at p20
    have P20 := Lib.hid p20
    clear p20
    go_enter Try.func9, Try.ntmps9
    go_wp2_with fail
    refine (at_any _ _ _ 1 hl (by omega) _ Hb.out).mono ?_
    rintro e w3 ⟨z, hz, rfl, rfl⟩
    obtain ⟨n, hn⟩ : ∃ n, n = 1 + z % 64 := ⟨_, rfl⟩
    have hn1 : 1 ≤ n := by omega
    have hn64 : n ≤ 64 := by omega
    have Hn := Lib.hid (show (1 : Int) + (z : Int) % 64 = (n : Int) from by omega)
    clear hn
    go_wp2_with fail
    rw [Hn.out]
    go_loopw [4] (fun i wr => KindI w i wr) (fun i _ => 3 - (intOf i).toNat)
    case atStart => exact ⟨0, by omega, rfl, Nw.refl _⟩
    case round =>
      obtain ⟨kd, hkd, rfl, hN⟩ := hrel
      have Nr := Lib.hid hN
      clear hN
      by_cases hlt : kd < 3
      · go_wp2_with fail
        refine (strikeShape_ok kd n (by omega) hn1 hn64 _).mono ?_
        rintro e w4 ⟨g, rfl, own4, n4⟩
        have X4 := Lib.hid own4
        have N4 := Lib.hid (Nr.out.trans n4)
        clear own4 n4
        go_wp2_with fail
        go_loopw [41] (fun i wx => SameI n w4 i wx) (fun i _ => n - (intOf i).toNat)
        case atStart => exact ⟨0, by omega, rfl, Nw.refl _⟩
        case round =>
          obtain ⟨j, hj, rfl, hN⟩ := hrel
          have Nx := Lib.hid hN
          clear hN
          by_cases hlt2 : j < n
          · have Hp := Lib.hid (place_ok kd n j (by omega) hn64 hlt2)
            have Xj := Lib.hid (own_nw X4.out Nx.out)
            obtain ⟨g1, cap1, hv1, hcap1, hmax1, -, e1⟩ := own_sample Xj.out (shapeL_get kd n j hlt2) (by rw [shapeL_len])
            cases hv1
            have e2 := fun h : 0 < j => own_sample Xj.out (shapeL_get kd n (j - 1) (by omega)) (by rw [shapeL_len])
            obtain ⟨g3, cap3, hv3, -, -, -, e3⟩ := own_sample Xj.out (shapeL_get kd n (n - 1 - j) (by omega)) (by rw [shapeL_len])
            cases hv3
            have u1 := Hp.out.u.ge
            have u2 := Hp.out.u.le
            have hk3 : kd = 0 ∨ kd = 1 ∨ kd = 2 := by omega
            rcases hk3 with rfl | rfl | rfl
            · go_wp2_with fail
              go_quiet (fail)
              have N2 := Lib.hid (Nx.out.draw nq)
              go_wp2_with fail
              go_roundw
              case rel => exact ⟨j + 1, by omega, by rw [show ((j + 1 : Nat) : Int) = (j : Int) + 1 from by omega], N2.out⟩
              case measure => simp only [intOf]; omega
            · have up := Hp.out.up rfl
              by_cases hj0 : 0 < j
              · obtain ⟨g2, cap2, hv2, -, -, -, e2⟩ := e2 hj0
                cases hv2
                have up := up hj0
                go_wp2_with fail
                go_quiet (fail)
                have N2 := Lib.hid (Nx.out.draw nq)
                go_wp2_with fail
                go_roundw
                case rel => exact ⟨j + 1, by omega, by rw [show ((j + 1 : Nat) : Int) = (j : Int) + 1 from by omega], N2.out⟩
                case measure => simp only [intOf]; omega
              · clear e2 up
                obtain rfl : j = 0 := by omega
                go_wp2_with fail
                go_quiet (fail)
                have N2 := Lib.hid (Nx.out.draw nq)
                go_wp2_with fail
                go_roundw
                case rel => exact ⟨1, by omega, rfl, N2.out⟩
                case measure => simp only [intOf]; omega
            · clear e2
              have s1 := (unit_ok (shape_unit 2 n j (by omega) hn64 hlt2)).sm
              have s2 := (unit_ok (shape_unit 2 n (n - 1 - j) (by omega) hn64 (by omega))).sm
              have a1 := fcv_up s1
              have a2 := fcd_up s1
              have a3 := fcv_up s2
              have a4 := fcd_up s2
              have hnear := Hp.out.near rfl
              clear s1 s2
              go_wp2_with fail
              go_quiet (first
                | (go_at_call 21; with_reducible exact quiet_eq (P20.out _))
                | (go_at_call 18; with_reducible exact small_quiet (Hp.out.c rfl) (Hp.out.n1 rfl)))
              have N2 := Lib.hid (Nx.out.draw nq)
              go_wp2_with fail
              go_roundw
              case rel => exact ⟨j + 1, by omega, by rw [show ((j + 1 : Nat) : Int) = (j : Int) + 1 from by omega], N2.out⟩
              case measure => simp only [intOf]; omega
          · obtain rfl : j = n := by omega
            have Hb5 := Lib.hid (bys_step Hb.out (N4.out.trans Nx.out))
            go_wp2_with fail
            refine (makeBody_any a0 len0 cap0 3 (by omega) (by omega) _ Hb5.out).mono ?_
            rintro e w5 ⟨ms, v, rfl, hlen, hok, hown, n5⟩
            obtain ⟨va, vc, rfl⟩ := own_shape' hown
            obtain ⟨q, hq⟩ : ∃ q, q = ms.length := ⟨_, rfl⟩
            rw [← hq] at hown hlen ⊢
            have Hq := Lib.hid hq.symm
            have Hr := Lib.hid (ring_ok ms hok q kd j hq.symm hlen (by omega) hn64)
            have Hok := Lib.hid hok
            have N5 := Lib.hid (((N4.out.trans Nx.out).trans n5).alloc (.cells #[.slice va q vc] 45 (0, 0)))
            have B5 := Lib.hid (Has1.new w5 45 (.slice va q vc))
            have M5 := Lib.hid (hown.alloc (.cells #[.slice va q vc] 45 (0, 0)))
            have X5 := Lib.hid ((own_nw X4.out (Nx.out.trans n5)).alloc (.cells #[.slice va q vc] 45 (0, 0)))
            clear n5 hown hok hq
            obtain ⟨b0, b1, b2⟩ := B5.out
            go_wp2_with fail
            refine (strikeBody_ok ms Hok.out (shapeL kd j) (shapeL kd j) j 30 q _ _ 1065353216 _ _ Hq.out (by omega) (shapeL_len kd j) (by omega) (by omega) _ M5.out X5.out (fun x hx => (shapeL_mem kd j (by omega) hn64 x hx).calm) (shapeL_one kd j (by omega) hn64) Hr.out.1).mono ?_
            rintro e w6 ⟨v6, rfl, own6, n6⟩
            obtain ⟨va6, vc6, rfl⟩ := own_shape' own6
            rw [show (ringS ms (inputOf (shapeL kd j)) 30).length = 30 from by simp [ringS]] at own6 ⊢
            have Y6 := Lib.hid own6
            have N6 := Lib.hid (N5.out.trans n6)
            have B6 := Lib.hid (B5.out.nw n6)
            have M6 := Lib.hid (own_nw M5.out n6)
            have X6 := Lib.hid (own_nw X5.out n6)
            clear own6 n6 b0 b1 b2
            obtain ⟨b0, b1, b2⟩ := B6.out
            go_wp2_with fail
            refine (ringBody_ok' ms Hok.out (shapeL kd j) 30 q j _ _ _ _ Hq.out (by omega) (shapeL_len kd j) (by omega) (by omega) _ M6.out X6.out Hr.out.1).mono ?_
            rintro e w7 ⟨v7, rfl, own7, n7⟩
            obtain ⟨va7, vc7, rfl⟩ := own_shape' own7
            rw [show (ringS ms (inputOf (shapeL kd j)) 30).length = 30 from by simp [ringS]] at own7 ⊢
            have Z7 := Lib.hid own7
            have Y7 := Lib.hid (own_nw Y6.out n7)
            have N7 := Lib.hid (N6.out.trans n7)
            have X7 := Lib.hid (own_nw X6.out n7)
            clear own7 n7 b0 b1 b2
            go_wp2_with fail
            refine (same_eq (ringS ms (inputOf (shapeL kd j)) 30) (ringS ms (inputOf (shapeL kd j)) 30) 30 _ _ _ _ (by simp [ringS]) (by simp [ringS]) (by omega) _ Y7.out Z7.out Hr.out.2 Hr.out.2 (fun k x y h1 h2 => by rw [h1] at h2; cases h2; exact sameB_self _)).mono ?_
            rintro e w8 ⟨rfl, n8⟩
            have N8 := Lib.hid (N7.out.trans n8)
            have X8 := Lib.hid (own_nw X7.out n8)
            clear n8
            obtain ⟨g3, cap3, hv3, hcap3, hmax3, -, e3⟩ := own_sample X8.out (shapeL_get kd j (j - 1) (by omega)) (by rw [shapeL_len])
            cases hv3
            have hk3 : kd = 0 ∨ kd = 1 ∨ kd = 2 := by omega
            have hlast := (place_ok kd j (j - 1) (by omega) hn64 (by omega)).last
            unfold maxLen at hmax3
            rcases hk3 with rfl | rfl | rfl
            · clear hlast
              go_wp2_with fail
              go_roundw
              case rel => exact ⟨1, by omega, rfl, N8.out⟩
              case measure => simp only [intOf]; omega
            · replace hlast := hlast rfl (by omega)
              have hlast2 : (FloatKind.f32.format.order (shapeAt 1 j (j - 1)) 1065353216 != some .eq) = false := by unfold bne; rw [hlast]; rfl
              go_wp2_with fail
              go_roundw
              case rel => exact ⟨2, by omega, rfl, N8.out⟩
              case measure => simp only [intOf]; omega
            · clear hlast
              go_wp2_with fail
              go_roundw
              case rel => exact ⟨3, by omega, rfl, N8.out⟩
              case measure => simp only [intOf]; omega
      · obtain rfl : kd = 3 := by omega
        go_wp2_with fail
        go_ret
        exact ⟨rfl, nw_below Nr.out⟩
  · go_enter Try.func9, Try.ntmps9
    go_wp2
    go_ret
    exact ⟨rfl, Below.refl _ _⟩

/-! ### THE ROW's STEP: WRITTEN OUT: LEAVE IT -/
set_option maxRecDepth 100000 in
theorem lifted (os : Os) (started : os.Started) (H : Type) (enc : TypeId × Value → H) :
    ReturnsInHanded {} Try.checked os 9 .any (Rows.fnShapesSpec.pre6 enc Try.prog Try.f9 Rows.fnShapesRow.domain false) (Rows.fnShapesSpec.post enc Try.prog Try.f9 false true false false) := by
  refine returnsInHanded_of_change (C := Try.checked) own started (by kernel_rfl) Try.func9
    (ChangeSpec.witness6 (enc := enc) (C := Try.checked) false ⟨#[], #[.slice none 0 0], []⟩ 8 (by kernel_rfl) (by kernel_rfl) (by kernel_rfl) (by kernel_rfl)) ?_
  intro W base args ds gs before hval0 hW hcnd _
  have hval : ∀ (j : Nat) t v, Try.f9.params[j]? = some t → args[j]? = some v → Value.okWide Try.prog W .any base t v := hval0
  have hW' := hW
  obtain ⟨p, q, hA0, hV, rfl, hfz, hnd⟩ := hW
  have hA : DataW.TrodAll enc Try.prog W 0 (fun _ => true) true Try.f9.params.toList args.toList ds p := hA0
  rw [Try.params9] at hA hval
  obtain ⟨v0, vs0, d0, ds0, p0, q0, hargs, rfl, rfl, h0, r0⟩ := trodAll_cons hA
  obtain ⟨rfl, rfl, rfl⟩ := trodAll_nil r0
  obtain rfl : args = #[v0] := by cases args; simp_all
  obtain ⟨rfl, rfl⟩ := trodVars_none hV
  obtain ⟨a0, len0, cap0, rfl⟩ := okWide_slice Try.underlying22 (hval 0 22 v0 rfl rfl)
  have k0 := h0
  have lt0 : ∀ x ∈ p0, x.block < W.heap.size := by obtain ⟨m, hm⟩ := k0; exact DataW.trod_lt m _ _ _ hm
  obtain ⟨z0, w0⟩ : ∃ zs, IsRow .u8 W a0 len0 cap0 zs := by
    obtain ⟨fuel, hf⟩ := h0
    rcases open_ints Try.underlying22 Try.underlying5 (by kernel_rfl) hf with ⟨hcs, _⟩ | ⟨x, l, c, zs, hcs, _, hl, hm, hz, _, hcell, hwz⟩
    · simp [Value.cells] at hcs
      obtain ⟨rfl, rfl, rfl⟩ := hcs
      exact ⟨[], .inl ⟨rfl, rfl, rfl, rfl⟩⟩
    · simp [Value.cells] at hcs
      obtain ⟨rfl, rfl, rfl⟩ := hcs
      exact ⟨zs, .inr ⟨_, rfl, hl, hm, by simpa using hz, hcell, hwz⟩⟩
  clear hA0 hval0
  refine (walk a0 len0 cap0 z0 W w0).mono fun e W' ⟨he, bel⟩ => ?_
  subst he
  exact ⟨_, rfl, _, _, _, [], _, [], hW', trodAll_mk1 (shut_bool Try.underlying4 _), (trodAll_cons_mk (Below.trod laidOut (by kernel_rfl) (of_decide_eq_true (by kernel_rfl)) k0 bel lt0) trodAll_mk0), rfl, bel.frame _, fun h => by cases h⟩

theorem over : Rows.fnShapesRow.holds Try.pinned (OpenSpec.ofChange Rows.fnShapesSpec) :=
  OpenClaim.holds_of_wide 9 Try.f9 rfl rfl rfl rfl rfl rfl rfl ⟨rfl, rfl, rfl, rfl, rfl⟩ rfl rfl rfl rfl rfl (by kernel_rfl) Try.func9 (by kernel_rfl)
    (of_decide_eq_true (by kernel_rfl)) (by unfold Func.isWrapper; first | (rw [if_pos (by decide +kernel)]; kernel_rfl) | (rw [if_neg (by decide +kernel)]; exact ⟨rfl, rfl⟩))
    (fun os started H enc _ => lifted os started H enc)

/-- ████ THE STATEMENT ████ -/
theorem proved : Rows.FnShapesSaid := over
#print axioms proved
end Go.Proofs.Ytfgofmcpgfofaaa.fnShapes

