/- The law FnDrift, proved: of any body and any input that the law makes, ringing in single precision stays within the told bound of ringing in double precision.
   Conditions: none beyond the statement's own. -/
import Derived.Test.YtfgofmcpgfofaaaTest
import Derived.Test.YtfgofmcpgfofaaaRow
import Derived.Test.YtfgofmcpgfofaaaRows
namespace Go.Proofs.Ytfgofmcpgfofaaa.fnDrift
open Go.ChangeShapes Go.WideShapes Go.ChangeAt Go.RowKit
open Go.ChangeMaps (open_string shut_string)
set_option linter.unusedVariables false

theorem bys_step {w w1 : World} {a : Option Addr} {len : Nat} (h : Bys w.heap.size a len w) (hb : Nw w w1) : Bys w1.heap.size a len w1 :=
  (h.below ⟨hb.os, hb.tape, hb.output, hb.size, fun k hk => hb.block k hk (by simp)⟩).mono hb.size
theorem nw_of_below {w w1 : World} (h : Below w.heap.size w w1) : Nw w w1 := ⟨h.os, h.tape, h.output, h.size, fun k hk _ => h.block k hk⟩

theorem _root_.Go.Proofs.Ytfgofmcpgfofaaa.Nw.below {w w1 : World} (hb : Nw w w1) : Below w.heap.size w w1 := ⟨hb.os, hb.tape, hb.output, hb.size, fun k hk => hb.block k hk (by simp)⟩


theorem num_one_s : Sm 1065353216 ∧ S 1065353216 = 1 := by
  have h : Ieee.single.read 1065353216 = .number false 8388608 (-23) := by decide
  refine ⟨⟨_, _, _, h⟩, ?_⟩
  rw [show S 1065353216 = _ from Flo.V_eq h]
  unfold Flo.val
  have := Flo.pw_neg_mul 23
  rw [show Flo.pw 23 = 8388608 from Flo.pw_nat 23] at this
  simp only [Bool.false_eq_true, if_false]
  have e2 : ((8388608 : Nat) : Rat) = 8388608 := rfl
  rw [e2]; grind
theorem num_100_s : Sm 1120403456 ∧ S 1120403456 = 100 := by
  have h : Ieee.single.read 1120403456 = .number false 13107200 (-17) := by decide
  refine ⟨⟨_, _, _, h⟩, ?_⟩
  rw [show S 1120403456 = _ from Flo.V_eq h]
  unfold Flo.val
  have := Flo.pw_neg_mul 17
  rw [show Flo.pw 17 = 131072 from Flo.pw_nat 17] at this
  simp only [Bool.false_eq_true, if_false]
  have e2 : ((13107200 : Nat) : Rat) = 13107200 := rfl
  rw [e2]; grind
theorem num_milli : Sm 981668463 ∧ Flo.Ab (S 981668463) 1 := by
  have h : Ieee.single.read 981668463 = .number false 8589935 (-33) := by decide
  refine ⟨⟨_, _, _, h⟩, ?_⟩
  rw [show S 981668463 = _ from Flo.V_eq h]
  unfold Flo.val
  have := Flo.pw_neg_mul 33
  rw [show Flo.pw 33 = 8589934592 from Flo.pw_nat 33] at this
  simp only [Bool.false_eq_true, if_false]
  have e2 : ((8589935 : Nat) : Rat) = 8589935 := rfl
  rw [e2]; unfold Flo.Ab; grind

/-- the greatest sample that the law takes -/
theorem pick_ok (w : World) (T : TypeId) (z : Nat) : ∃ mb, (w.alloc (.cells #[.float .f32 1065353216, .float .f32 1120403456, .float .f32 981668463] T (0, 0))).cell? ⟨w.heap.size, z % 3, none⟩ = some (.float .f32 mb) ∧ Sm mb ∧ Flo.Ab (S mb) 100 := by
  have h : z % 3 = 0 ∨ z % 3 = 1 ∨ z % 3 = 2 := by omega
  rcases h with h | h | h <;> rw [h]
  · exact ⟨_, by go_simp, num_one_s.1, by rw [num_one_s.2]; exact ⟨by grind, by grind⟩⟩
  · exact ⟨_, by go_simp, num_100_s.1, by rw [num_100_s.2]; exact ⟨by grind, by grind⟩⟩
  · exact ⟨_, by go_simp, num_milli.1, num_milli.2.mono (by grind)⟩

def GainI (ms : List M4) (q : Nat) (w : World) (y i : Value) (wr : World) : Prop :=
  ∃ k g : Nat, k ≤ q ∧ i = .int .i64 (k : Int) ∧ y = .float .f64 g ∧ Flo.Nm g ∧ Flo.Ab (Flo.W g - rs gm (ms.take k)) (rs gm (ms.take k) * (k : Rat) / 1000000 + (k : Rat) * Flo.es) ∧ Nw w wr
def SumI (xs : List Nat) (p : Nat) (w : World) (y i : Value) (wr : World) : Prop :=
  ∃ k g : Nat, k ≤ p ∧ i = .int .i64 (k : Int) ∧ y = .float .f64 g ∧ Flo.Nm g ∧ Flo.Ab (Flo.W g - xsum (xs.take k)) (xsum (xs.take k) * (k : Rat) / 1000000 + (k : Rat) * Flo.es) ∧ Nw w wr

set_option maxRecDepth 100000 in
set_option maxHeartbeats 12800000 in
theorem walk (a0 : Option Addr) (len0 cap0 : Nat) (z0 : List Int) (w : World) (w0 : IsRow .u8 w a0 len0 cap0 z0) :
    Calls Try.prog 5 #[.slice a0 len0 cap0] w fun e w' => e = .returned (.bool true) ∧ Below w.heap.size w w' := by
  by_cases hl : len0 ≤ 1048576
  · have Hb := Lib.hid (bys_of_row w0 (by omega))
    clear w0
    have p20 := power_bits 20 (by omega)
    rw [show (-((20 : Nat) : Int)) = -20 from rfl] at p20
    have P20 := Lib.hid p20
    have p100 := power_bits 100 (by omega)
    rw [show (-((100 : Nat) : Int)) = -100 from rfl] at p100
    have P100 := Lib.hid p100
    clear p20 p100
    go_enter Try.func5, Try.ntmps5
    go_wp2_with fail
    refine (makeBody_any a0 len0 cap0 5 (by omega) (by omega) _ Hb.out).mono ?_
    rintro e w1 ⟨ms, v, rfl, hlen, hok, hown, n1⟩
    obtain ⟨va, vc, rfl⟩ := own_shape' hown
    obtain ⟨q, hq⟩ : ∃ q, q = ms.length := ⟨_, rfl⟩
    rw [← hq] at hown hlen ⊢
    have Hq := Lib.hid hq.symm
    have N1 := Lib.hid (n1.alloc (.cells #[.slice va q vc] 45 (0, 0)))
    have B1 := Lib.hid (Has1.new w1 45 (.slice va q vc))
    have M1 := Lib.hid (hown.alloc (.cells #[.slice va q vc] 45 (0, 0)))
    have Hok := Lib.hid hok
    clear n1 hown hok hq
    go_wp2_with fail
    refine (fresh_any _ _ _ _ (by omega) (by omega) _ (bys_step Hb.out N1.out)).mono ?_
    rintro e w2 ⟨g2, l2, c2, rfl, -, -, hf2, bel2⟩
    have N2 := Lib.hid (N1.out.trans (nw_of_below bel2))
    have B2 := Lib.hid (B1.out.nw (nw_of_below bel2))
    have M2 := Lib.hid (own_nw M1.out (nw_of_below bel2))
    have Hf2 := Lib.hid hf2
    clear hf2 bel2
    have N3 := Lib.hid (N2.out.alloc (.cells #[.float .f32 1065353216, .float .f32 1120403456, .float .f32 981668463] 49 (0, 0)))
    go_wp2_with fail
    refine (at_any _ _ _ 1 hl (by omega) _ (bys_step Hb.out N3.out)).mono ?_
    rintro e w3 ⟨z, hz, rfl, rfl⟩
    obtain ⟨mb, hmb, smb, amb⟩ := pick_ok w2 49 z
    have B3 := Lib.hid (B2.out.alloc (.cells #[.float .f32 1065353216, .float .f32 1120403456, .float .f32 981668463] 49 (0, 0)))
    have M3 := Lib.hid (M2.out.alloc (.cells #[.float .f32 1065353216, .float .f32 1120403456, .float .f32 981668463] 49 (0, 0)))
    have Hf3 := Lib.hid ((Hf2.out.below ((Below.refl _ _).alloc (Nat.le_refl _) (.cells #[.float .f32 1065353216, .float .f32 1120403456, .float .f32 981668463] 49 (0, 0)))).mono (by simp) : Bys (w2.alloc (.cells #[.float .f32 1065353216, .float .f32 1120403456, .float .f32 981668463] 49 (0, 0))).heap.size _ _ _)
    have h60 : (100 : Rat) ≤ Flo.pw 60 := by
      have h1 : Flo.pw 7 ≤ Flo.pw 60 := Flo.pw_le (by omega)
      rw [show Flo.pw 7 = 128 from Flo.pw_nat 7] at h1
      grind
    have H60 := Lib.hid h60
    have Amb := Lib.hid amb
    clear h60 amb
    go_wp2_with fail
    refine (makeSmall_any _ _ _ mb 100 smb Amb.out H60.out _ Hf3.out).mono ?_
    rintro e w4 ⟨xs, iv, rfl, hxs, hsam, own4, n4⟩
    obtain ⟨ia, ic, rfl⟩ := own_shape' own4
    obtain ⟨p, hp⟩ : ∃ p, p = xs.length := ⟨_, rfl⟩
    rw [← hp] at own4 hxs ⊢
    have Hp := Lib.hid hp.symm
    have X4 := Lib.hid own4
    have Hsam := Lib.hid hsam
    have N4 := Lib.hid (N3.out.trans n4)
    have B4 := Lib.hid (B3.out.nw n4)
    have M4' := Lib.hid (own_nw M3.out n4)
    clear own4 hsam n4 hp hmb
    go_wp2_with fail
    refine (at_any _ _ _ 2 hl (by omega) _ (bys_step Hb.out N4.out)).mono ?_
    rintro e w5 ⟨n, hn, rfl, rfl⟩
    obtain ⟨b0, b1, b2⟩ := B4.out
    have hG : ∀ k, rs gm (ms.take k) ≤ 10240 ∧ 0 ≤ rs gm (ms.take k) := by
      intro k
      have h1 := rs_max gm 2048 (ms.take k) (fun m hm => (gain_ok m (Hok.out m (List.mem_of_mem_take hm))).2.2)
      have h2 : ((ms.take k).length : Rat) ≤ 5 := by
        have : (((ms.take k).length : Nat) : Rat) ≤ ((5 : Nat) : Rat) := by exact_mod_cast (by have := Hq.out; simp; omega)
        exact this
      exact ⟨by grind, rs_nonneg gm _ (fun m _ => gm_nonneg m)⟩
    have hX : ∀ k, xsum (xs.take k) ≤ 1200 ∧ 0 ≤ xsum (xs.take k) := by
      intro k
      have h1 := xsum_le (xs.take k) 101 (fun x hx => by
        have h := ra_le (Hsam.out x (List.mem_of_mem_take hx)).2
        grind)
      have h2 : ((xs.take k).length : Rat) ≤ 11 := by
        have : (((xs.take k).length : Nat) : Rat) ≤ ((11 : Nat) : Rat) := by exact_mod_cast (by have := Hp.out; simp; omega)
        exact this
      exact ⟨by grind, xsum_nonneg _⟩
    have HG := Lib.hid hG
    have HX := Lib.hid hX
    clear hG hX
    go_wp2_with fail
    go_loopw [6, 33] (fun y i wr => GainI ms q w4 y i wr) (fun _ i _ => q - (intOf i).toNat)
    case atStart => exact ⟨0, 0, by omega, rfl, rfl, zero_num.1, by rw [zero_num.2]; simp [rs, Flo.Ab]; grind, Nw.refl _⟩
    case round =>
      obtain ⟨k, g, hk, rfl, rfl, ng, ag, nr⟩ := hrel
      have Ng := Lib.hid ng
      have Ag := Lib.hid ag
      have Nr := Lib.hid nr
      clear ng ag nr b1 b2
      by_cases hlt : k < q
      · obtain ⟨m, hmk⟩ : ∃ m, ms[k]? = some m := ⟨ms[k]'(by rw [Hq.out]; exact hlt), List.getElem?_eq_getElem _⟩
        have Hmr := Lib.hid (own_nw M4'.out Nr.out)
        obtain ⟨g1, cap, hv, hcap, hmax, hgs, e1, e2⟩ := own_mode Hmr.out hmk Hq.out.symm
        cases hv
        have Hmo := Lib.hid (Hok.out m (List.mem_of_getElem? hmk))
        obtain ⟨s1, s2, s3, s4⟩ := Hmo.out.nums
        have a3 := fcv_up s3
        have a4 := fcv_up s4
        have d3 := fcd_up s3
        have d4 := fcd_up s4
        unfold maxLen at hmax
        have Hg := Lib.hid (gain_ok m Hmo.out)
        have Hr := Lib.hid (rs_take gm ms k m hmk)
        have Hac := Lib.hid (acc_add g (szd (wid m.gr) (wid m.gi)) k (rs gm (ms.take k)) (gm m) (by omega) (HG.out k).2 (gm_nonneg m) (by have := (HG.out k).1; have := Hg.out.2.2; grind) Ng.out Hg.out.1 Ag.out Hg.out.2.1)
        have hrun := Hac.out.1.runs (P := Try.prog) (.inl rfl) 30
        have N5 := Lib.hid (Nr.out.alloc (.cells #[.complex .f32 m.pr m.pi, .complex .f32 m.gr m.gi] 38 (0, 0)))
        have n3 := Lib.hid (wid_num s3).1
        have n4 := Lib.hid (wid_num s4).1
        clear hmk
        go_wp2_with fail
        refine (sizeDouble_fin _ _ _ (wid_lt _) (wid_lt _) n3.out n4.out).mono ?_
        rintro e w6 ⟨rfl, m6, rfl⟩
        go_wp2_with fail
        go_roundw
        case rel => exact ⟨k + 1, _, by omega, by rw [show ((k + 1 : Nat) : Int) = (k : Int) + 1 from by omega], rfl, Hac.out.2.1, by rw [Hr.out]; exact Hac.out.2.2, N5.out.draw _⟩
        case measure => simp only [intOf]; omega
      · obtain rfl : k = q := by omega
        go_wp2_with fail
        go_loopw [9, 46] (fun y i wr2 => SumI xs p w4 y i wr2) (fun _ i _ => p - (intOf i).toNat)
        case atStart => exact ⟨0, 0, by omega, rfl, rfl, zero_num.1, by rw [zero_num.2]; simp [xsum, Flo.Ab]; grind, Nr.out⟩
        case round =>
          obtain ⟨j, s, hj, rfl, rfl, ns, aS, nr2⟩ := hrel
          have Ns := Lib.hid ns
          have As := Lib.hid aS
          have Nr2 := Lib.hid nr2
          clear ns aS nr2
          by_cases hlt2 : j < p
          · obtain ⟨x, hxk⟩ : ∃ x, xs[j]? = some x := ⟨xs[j]'(by rw [Hp.out]; exact hlt2), List.getElem?_eq_getElem _⟩
            have Hxr := Lib.hid (own_nw X4.out Nr2.out)
            obtain ⟨g1, cap, hv, hcap, hmax, hgs, e1⟩ := own_sample Hxr.out hxk Hp.out.symm
            cases hv
            have Hxo := Lib.hid (Hsam.out x (List.mem_of_getElem? hxk))
            have a1 := fcv_up Hxo.out.1
            have d1 := fcd_up Hxo.out.1
            unfold maxLen at hmax
            have Hr := Lib.hid (xsum_take xs j x hxk)
            have Hw := Lib.hid (wid_num Hxo.out.1)
            have Hsg := Lib.hid (neg32_iff Hxo.out.1)
            have Hlt := Lib.hid (show xsum (xs.take j) + ra (S x) ≤ 100000 by have := (HX.out j).1; have := ra_le Hxo.out.2; grind)
            clear hxk
            cases hneg : neg32 x with
            | true =>
              have Hac := Lib.hid (acc_subt s (wid x) j (xsum (xs.take j)) (ra (S x)) (by omega) (HX.out j).2 (ra_nonneg _) Hlt.out Ns.out Hw.out.1 As.out (by
                rw [Hw.out.2, Hsg.out.1 hneg]
                have h1 := ra_nonneg (S x)
                rw [Hsg.out.1 hneg] at h1
                have := Rat.mul_nonneg h1 (Rat.le_of_lt Flo.u_pos)
                have := Flo.et_pos
                exact ⟨by grind, by grind⟩))
              have hrun := Hac.out.1.runs (P := Try.prog) (.inr (.inl rfl)) 30
              have hn0 := hneg
              unfold neg32 at hn0
              go_wp2_with fail
              go_roundw
              case rel => exact ⟨j + 1, _, by omega, by rw [show ((j + 1 : Nat) : Int) = (j : Int) + 1 from by omega], rfl, Hac.out.2.1, by rw [Hr.out]; exact Hac.out.2.2, Nr2.out⟩
              case measure => simp only [intOf]; omega
            | false =>
              have Hac := Lib.hid (acc_add s (wid x) j (xsum (xs.take j)) (ra (S x)) (by omega) (HX.out j).2 (ra_nonneg _) Hlt.out Ns.out Hw.out.1 As.out (by
                rw [Hw.out.2, Hsg.out.2 hneg]
                have h1 := ra_nonneg (S x)
                rw [Hsg.out.2 hneg] at h1
                have := Rat.mul_nonneg h1 (Rat.le_of_lt Flo.u_pos)
                have := Flo.et_pos
                exact ⟨by grind, by grind⟩))
              have hrun := Hac.out.1.runs (P := Try.prog) (.inl rfl) 30
              have hn0 := hneg
              unfold neg32 at hn0
              go_wp2_with fail
              go_roundw
              case rel => exact ⟨j + 1, _, by omega, by rw [show ((j + 1 : Nat) : Int) = (j : Int) + 1 from by omega], rfl, Hac.out.2.1, by rw [Hr.out]; exact Hac.out.2.2, Nr2.out⟩
              case measure => simp only [intOf]; omega
          · obtain rfl : j = p := by omega
            obtain ⟨b0', b1', b2'⟩ := B4.out.nw Nr2.out
            have hP100 : (12288000 : Rat) ≤ Flo.pw 100 := by
              have h1 : Flo.pw 40 ≤ Flo.pw 100 := Flo.pw_le (by omega)
              rw [show Flo.pw 40 = 1099511627776 from Flo.pw_nat 40] at h1
              grind
            have hg := HG.out k
            have hx := HX.out j
            rw [List.take_of_length_le (by rw [Hq.out]; exact Nat.le_refl _)] at hg
            rw [List.take_of_length_le (by rw [Hp.out]; exact Nat.le_refl _)] at hx
            have Hg := Lib.hid hg
            have Hx := Lib.hid hx
            have hgx : rs gm ms * xsum xs ≤ 12288000 := by
              have h1 := Rat.mul_le_mul_of_nonneg_right hg.1 hx.2
              grind
            have Hd := Lib.hid (drift_ok ms Hok.out (inputOf xs) n k Hq.out (by omega) (by omega) (by
                intro i _
                by_cases hi : i < xs.length
                · have e : xs[i]? = some xs[i] := List.getElem?_eq_getElem hi
                  rw [show inputOf xs i = xs[i] from by unfold inputOf; rw [List.getD_eq_getElem?_getD, e]; rfl]
                  exact (Hsam.out _ (List.getElem_mem hi)).1
                · rw [show inputOf xs i = 0 from by unfold inputOf; rw [List.getD_eq_getElem?_getD, List.getElem?_eq_none (by omega)]; rfl]
                  exact zero_single.1) (xsum xs) (fun i _ => by rw [psum_xsum]; exact xsum_take_le xs i) (xsum_nonneg xs) (by grind))
            clear hP100 hg hx hgx
            go_wp2_with fail
            refine (driftOf_ok ms Hok.out xs n k _ _ _ _ Hq.out (by omega) (by rw [Hp.out]; omega) (by omega) _ Hd.out.2.2.2 _ (own_nw M4'.out Nr2.out) (by rw [Hp.out]; exact own_nw X4.out Nr2.out) Hd.out.1 Hd.out.2.1 Hd.out.2.2.1).mono ?_
            rintro e w7 ⟨d, rfl, nd, wd, n7⟩
            have Nd := Lib.hid nd
            have Wd := Lib.hid wd
            obtain ⟨c0, c1, c2⟩ := (B4.out.nw Nr2.out).nw n7
            have N7 := Lib.hid (N4.out.trans (Nr2.out.trans n7))
            clear nd wd n7 b0' b1' b2'
            go_wp2_with fail
            have es0 := pows.es0
            have hAg : Flo.Ab (Flo.W g - rs gm ms) (rs gm ms * 5 / 1000000 + 5 * Flo.es) := by
              have h := Ag.out
              rw [List.take_of_length_le (by rw [Hq.out]; exact Nat.le_refl _)] at h
              have hk5 : (k : Rat) ≤ 5 := by
                have : ((k : Nat) : Rat) ≤ ((5 : Nat) : Rat) := by exact_mod_cast hlen
                exact this
              have h1 := Rat.mul_le_mul_of_nonneg_left hk5 Hg.out.2
              have h2 := Rat.mul_le_mul_of_nonneg_right hk5 (Rat.le_of_lt es0)
              exact h.mono (by grind)
            have hAs : Flo.Ab (Flo.W s - xsum xs) (xsum xs * 12 / 1000000 + 12 * Flo.es) := by
              have h := As.out
              rw [List.take_of_length_le (by rw [Hp.out]; exact Nat.le_refl _)] at h
              have hk5 : (j : Rat) ≤ 12 := by
                have : ((j : Nat) : Rat) ≤ ((12 : Nat) : Rat) := by exact_mod_cast (by omega : j ≤ 12)
                exact this
              have h1 := Rat.mul_le_mul_of_nonneg_left hk5 Hx.out.2
              have h2 := Rat.mul_le_mul_of_nonneg_right hk5 (Rat.le_of_lt es0)
              exact h.mono (by grind)
            obtain ⟨nA, vA⟩ := Flo.int_double ((n : Int) + (k : Int) + 1) (by omega)
            have hNr : (((n : Int) + (k : Int) + 1 : Int) : Rat) = (n : Rat) + (k : Rat) + 1 := by push_cast; rfl
            rw [hNr] at vA
            have hn0 : (0 : Rat) ≤ (n : Rat) := by exact_mod_cast Nat.zero_le n
            have hk0 : (0 : Rat) ≤ (k : Rat) := by exact_mod_cast Nat.zero_le k
            have hnk : ((n : Rat) + (k : Rat)) ≤ 260 := by
              have : ((n + k : Nat) : Rat) ≤ ((260 : Nat) : Rat) := by exact_mod_cast (by omega : n + k ≤ 260)
              push_cast at this
              exact this
            obtain ⟨t1, t2, t3, t4, t5⟩ := test_ok (floatOfInt .f64 ((n : Int) + (k : Int) + 1)) g s d ((n : Rat) + (k : Rat) + 1) (rs gm ms) (xsum xs) nA vA (by grind) (by grind) Ng.out hAg Hg.out.2 (by have := Hg.out.1; grind) Ns.out hAs Hx.out.2 (by have := Hx.out.1; grind) Nd.out Wd.out
            have r1 := t1.runs (P := Try.prog) (.inr (.inr rfl)) 30
            have r2 := t2.runs (P := Try.prog) (.inr (.inr rfl)) 30
            have r3 := t3.runs (P := Try.prog) (.inr (.inr rfl)) 30
            have r4 := t4.runs (P := Try.prog) (.inl rfl) 30
            unfold leB at t5
            clear t1 t2 t3 t4 es0 hAg hAs nA vA hNr hn0 hk0 hnk
            go_quiet (first
              | (go_at_call 21; with_reducible exact quiet_eq (P20.out _))
              | (go_at_call 21; with_reducible exact quiet_eq (P100.out _)))
            go_wp2
            go_ret
            exact ⟨rfl, (N7.out.draw _).below⟩
  · go_enter Try.func5, Try.ntmps5
    go_wp2
    go_ret
    exact ⟨rfl, Below.refl _ _⟩

/-! ### THE ROW's STEP: WRITTEN OUT: LEAVE IT -/
set_option maxRecDepth 100000 in
theorem lifted (os : Os) (started : os.Started) (H : Type) (enc : TypeId × Value → H) :
    ReturnsInHanded {} Try.checked os 5 .any (Rows.fnDriftSpec.pre6 enc Try.prog Try.f5 Rows.fnDriftRow.domain false) (Rows.fnDriftSpec.post enc Try.prog Try.f5 false true false false) := by
  refine returnsInHanded_of_change (C := Try.checked) own started (by kernel_rfl) Try.func5
    (ChangeSpec.witness6 (enc := enc) (C := Try.checked) false ⟨#[], #[.slice none 0 0], []⟩ 8 (by kernel_rfl) (by kernel_rfl) (by kernel_rfl) (by kernel_rfl)) ?_
  intro W base args ds gs before hval0 hW hcnd _
  have hval : ∀ (j : Nat) t v, Try.f5.params[j]? = some t → args[j]? = some v → Value.okWide Try.prog W .any base t v := hval0
  have hW' := hW
  obtain ⟨p, q, hA0, hV, rfl, hfz, hnd⟩ := hW
  have hA : DataW.TrodAll enc Try.prog W 0 (fun _ => true) true Try.f5.params.toList args.toList ds p := hA0
  rw [Try.params5] at hA hval
  obtain ⟨v0, vs0, d0, ds0, p0, q0, hargs, rfl, rfl, h0, r0⟩ := trodAll_cons hA
  obtain ⟨rfl, rfl, rfl⟩ := trodAll_nil r0
  obtain rfl : args = #[v0] := by cases args; simp_all
  obtain ⟨rfl, rfl⟩ := trodVars_none hV
  obtain ⟨a0, len0, cap0, rfl⟩ := okWide_slice Try.underlying22 (hval 0 22 v0 rfl rfl)
  have k0 := h0
  have lt0 : ∀ x ∈ p0, x.block < W.heap.size := by obtain ⟨m, hm⟩ := k0; exact DataW.trod_lt m _ _ _ hm
  obtain ⟨z0, w0⟩ : ∃ zs, IsRow .u8 W a0 len0 cap0 zs := by
    obtain ⟨fuel, hf⟩ := h0
    rcases open_ints Try.underlying22 Try.underlying5 (by kernel_rfl) hf with ⟨hcs, _⟩ | ⟨x, l, c, zs, hcs, _, hl, hm, hz, _, hcell, hwz⟩
    · simp [Value.cells] at hcs
      obtain ⟨rfl, rfl, rfl⟩ := hcs
      exact ⟨[], .inl ⟨rfl, rfl, rfl, rfl⟩⟩
    · simp [Value.cells] at hcs
      obtain ⟨rfl, rfl, rfl⟩ := hcs
      exact ⟨zs, .inr ⟨_, rfl, hl, hm, by simpa using hz, hcell, hwz⟩⟩
  clear hA0 hval0
  refine (walk a0 len0 cap0 z0 W w0).mono fun e W' ⟨he, bel⟩ => ?_
  subst he
  exact ⟨_, rfl, _, _, _, [], _, [], hW', trodAll_mk1 (shut_bool Try.underlying4 _), (trodAll_cons_mk (Below.trod laidOut (by kernel_rfl) (of_decide_eq_true (by kernel_rfl)) k0 bel lt0) trodAll_mk0), rfl, bel.frame _, fun h => by cases h⟩

theorem over : Rows.fnDriftRow.holds Try.pinned (OpenSpec.ofChange Rows.fnDriftSpec) :=
  OpenClaim.holds_of_wide 5 Try.f5 rfl rfl rfl rfl rfl rfl rfl ⟨rfl, rfl, rfl, rfl, rfl⟩ rfl rfl rfl rfl rfl (by kernel_rfl) Try.func5 (by kernel_rfl)
    (of_decide_eq_true (by kernel_rfl)) (by unfold Func.isWrapper; first | (rw [if_pos (by decide +kernel)]; kernel_rfl) | (rw [if_neg (by decide +kernel)]; exact ⟨rfl, rfl⟩))
    (fun os started H enc _ => lifted os started H enc)

/-- ████ THE STATEMENT ████ -/
theorem proved : Rows.FnDriftSaid := over
#print axioms proved
end Go.Proofs.Ytfgofmcpgfofaaa.fnDrift
