/- The law FnSpectrum, proved: of the recordings that the law makes, RingMode rings on from any element as it rang, and SpectrumAt of all is that of the rest, multiplied, plus the first, NaN for NaN.
   Conditions: none beyond the statement's own. -/
import Derived.Test.YtlhhcchncobmhaaPole
import Derived.Deep.RegionHeld3
import Derived.Test.YtlhhcchncobmhaaRow
import Derived.Test.YtlhhcchncobmhaaRows
namespace Go.Proofs.Ytlhhcchncobmhaa.fnSpectrum
set_option linter.unusedSimpArgs false
set_option linter.unusedVariables false
open Go.ChangeShapes Go.WideShapes Go.ChangeAt Go.RowKit
open Go.ChangeMaps (open_string shut_string)
set_option linter.unusedVariables false

theorem bys_step {w w1 : World} {a : Option Addr} {len : Nat} (h : Bys w.heap.size a len w) (hb : Below w.heap.size w w1) : Bys w1.heap.size a len w1 := (h.below hb).mono hb.size
theorem bel_nw {B : Nat} {w w1 w2 : World} (h : Below B w w1) (n : Nw w1 w2) (hB : B ≤ w1.heap.size) : Below B w w2 :=
  h.trans ⟨n.os, n.tape, n.output, n.size, fun k hk => n.block k (by omega) (by simp)⟩

theorem nw_of_below {w w' : World} (h : Below w.heap.size w w') : Nw w w' := ⟨h.os, h.tape, h.output, h.size, fun k hk _ => h.block k hk⟩
theorem own_some {w : World} {base n : Nat} {E : TypeId} {size : Nat} {v : Value} {xs : List Value} (h : w.ownsRow base E size v n xs) (hn : 0 < n) : ∃ g cap, v = .slice (some ⟨g, 0, none⟩) n cap ∧ n ≤ cap ∧ cap ≤ maxLen ∧ g < w.heap.size := by
  rcases h.2 with ⟨_, h0⟩ | ⟨g, cap, cur, rfl, hb, hg, hc, hm, hs, ht⟩
  · omega
  · exact ⟨g, cap, rfl, hc, hm, (h.lt g rfl).2⟩

theorem nwz_drew {w0 w : World} (h : Nw w0 w) : Nw w0 w.drew := h.draw 1
theorem nwz_drewN {w0 w : World} (h : Nw w0 w) {n : Nat} : Nw w0 (w.drewN n) := h.draw n
theorem rowz_tail {w : World} {base n g cap : Nat} {zs : List (Nat × Nat)} (h : w.ownsRow base 41 1 (.slice (some ⟨g, 0, none⟩) n cap) n (cellsZ zs)) (hn : zs.length = n) (h1 : 1 ≤ n) : RowZ w (.slice (some ⟨g, 1, none⟩) (n - 1) (cap - 1)) (zs.drop 1) := by
  have hr := RowZ.of_own h hn
  obtain ⟨a, c, e, hc, hm, hz⟩ := hr
  cases e
  refine ⟨some ⟨g, 1, none⟩, cap - 1, by rw [List.length_drop, hn], by rw [List.length_drop]; omega, Nat.le_trans (Nat.sub_le _ _) hm, .inr ⟨g, 1, rfl, ?_⟩⟩
  rcases hz with hz | ⟨g', off, ha, hg, hcell⟩
  · subst hz; simp at h1
  · cases ha
    refine ⟨hg, fun k z hk => ?_⟩
    rw [List.getElem?_drop] at hk
    have := hcell (1 + k) z hk
    simpa using this

theorem rowz_tail1 (w : World) (a : Option Addr) {n : Nat} {zs : List (Nat × Nat)} (hn : zs.length = n) (h1 : n = 1) : RowZ w (.slice a (n - 1) 0) (zs.drop 1) := by
  have e : zs.drop 1 = [] := by rw [List.drop_eq_nil_iff]; omega
  rw [e]
  exact ⟨a, 0, by rw [h1]; rfl, by simp, by unfold maxLen; omega, .inl rfl⟩

set_option maxRecDepth 100000 in
set_option maxHeartbeats 6400000 in
theorem walk (a0 : Option Addr) (len0 cap0 : Nat) (z0 : List Int) (w : World) (w0 : IsRow .u8 w a0 len0 cap0 z0) :
    Calls Try.prog 4 #[.slice a0 len0 cap0] w fun e w' => e = .returned (.bool true) ∧ Below w.heap.size w w' := by
  by_cases hl : len0 ≤ 1048576
  · have Hb := Lib.hid (bys_of_row w0 (by omega))
    clear w0
    go_enter Try.func4, Try.ntmps4
    go_wp2_with fail
    refine (makePole_any _ _ _ _ Hb.out).mono ?_
    rintro e w1 ⟨pa, pb, rfl, hp, bel1⟩
    have Hp := Lib.hid hp.wz
    have Bel1 := Lib.hid bel1
    have Hb1 := Lib.hid (bys_step Hb.out bel1)
    clear hp bel1
    go_wp2_with fail
    refine (fresh_any _ _ _ _ (by omega) (by omega) _ Hb1.out).mono ?_
    rintro e w2 ⟨g2, l2, c2, rfl, -, -, hf2, bel2⟩
    have Hf2 := Lib.hid hf2
    have Bel2 := Lib.hid (Bel1.out.trans (bel2.mono Bel1.out.size))
    clear hf2 bel2
    go_wp2_with fail
    refine (makeDouble_any _ _ _ _ Hf2.out).mono ?_
    rintro e w3 ⟨sa, sb, rfl, hsa, hsb, bel3⟩
    have Hs := Lib.hid (show Wz (sa, sb) from ⟨hsa, hsb⟩)
    have Bel3 := Lib.hid (Bel2.out.trans (bel3.mono Bel2.out.size))
    clear hsa hsb bel3
    have Hb3 := Lib.hid (bys_step Hb.out Bel3.out)
    go_wp2_with fail
    refine (at_any _ _ _ 1 hl (by omega) _ Hb3.out).mono ?_
    rintro e w4 ⟨z1, hz1, rfl, rfl⟩
    go_wp2_with fail
    obtain ⟨n, hn⟩ : ∃ n : Nat, n = 1 + z1 % 30 := ⟨_, rfl⟩
    rw [show (1 + (z1 : Int) % 30) = (n : Int) from by omega]
    have hn1 : 1 ≤ n := by omega
    have hn30 : n ≤ 30 := by omega
    clear hn
    refine (ringMode_any pa pb sa sb n Hp.out Hs.out (by omega) _).mono ?_
    rintro e w5 ⟨v, zs, rfl, hzl, hown, hring, hnw⟩
    obtain ⟨g, cap, rfl, hcap, hmax, hg⟩ := own_some hown (by omega)
    have Hzl := Lib.hid hzl
    have Hown := Lib.hid hown
    have Hring := Lib.hid hring
    have Bel5 := Lib.hid (bel_nw Bel3.out hnw Bel3.out.size)
    have Hb5 := Lib.hid (bys_step Hb.out Bel5.out)
    unfold maxLen at hmax
    clear hzl hown hring hnw
    go_wp2_with fail
    refine (fresh_any _ _ _ _ (by omega) (by omega) _ Hb5.out).mono ?_
    rintro e w6 ⟨g6, l6, c6, rfl, -, -, hf6, bel6⟩
    have Hf6 := Lib.hid hf6
    have Bel6 := Lib.hid bel6
    clear hf6 bel6
    go_wp2_with fail
    refine (makePole_any _ _ _ _ Hf6.out).mono ?_
    rintro e w7 ⟨qa, qb, rfl, hq, bel7⟩
    have Hq := Lib.hid hq.wz
    have Bel57 := Lib.hid (Bel6.out.trans (bel7.mono Bel6.out.size))
    have Bel7 := Lib.hid (Bel5.out.trans (Bel57.out.mono Bel5.out.size))
    have Hb7 := Lib.hid (bys_step Hb.out Bel7.out)
    clear hq bel7
    go_wp2_with fail
    refine (at_any _ _ _ 2 hl (by omega) _ Hb7.out).mono ?_
    rintro e w8 ⟨z2, hz2, rfl, rfl⟩
    obtain ⟨k, hk⟩ : ∃ k : Nat, k = z2 % n := ⟨_, rfl⟩
    have hkn : k < n := by rw [hk]; exact Nat.mod_lt _ (by omega)
    have hkz : (z2 : Int) % (n : Int) = (k : Int) := by rw [hk]; omega
    clear hk
    obtain ⟨z, hzk⟩ : ∃ z, zs[k]? = some z := ⟨zs[k]'(by rw [Hzl.out]; exact hkn), List.getElem?_eq_getElem _⟩
    have Own7 := Lib.hid (own_nw Hown.out (nw_of_below Bel57.out))
    have e1 := Own7.out.cellAt k (by omega)
    rw [cellsZ_at hzk] at e1
    have Hz := Lib.hid (Hring.out k z hzk)
    have Hzk := Lib.hid hzk
    clear hzk
    go_wp2_with (fail)
    obtain ⟨m, hm⟩ : ∃ m : Nat, m = n - k := ⟨_, rfl⟩
    have hmi : (n : Int) - (k : Int) = (m : Int) := by omega
    rw [hmi]
    clear e1
    refine (ringMode_any pa pb z.1 z.2 m Hp.out Hz.out.2 (by omega) _).mono ?_
    rintro e w9 ⟨v, ys, rfl, hyl, hown9, hring9, hnw9⟩
    obtain ⟨g9, cap9, rfl, hcap9, hmax9, hg9⟩ := own_some hown9 (by omega)
    have Hyl := Lib.hid hyl
    have Own9 := Lib.hid hown9
    have Hring9 := Lib.hid hring9
    have Own7' := Lib.hid (own_nw Own7.out hnw9)
    have Bel9 := Lib.hid (bel_nw Bel7.out hnw9 Bel7.out.size)
    unfold maxLen at hmax9
    clear hyl hown9 hring9 hnw9
    go_wp2_with fail
    go_loopw [71] (fun i wr => ∃ q : Nat, q ≤ m ∧ i = .int .i64 (q : Int) ∧ Nw w9 wr) (fun i _ => m - (intOf i).toNat)
    case atStart => exact ⟨0, by omega, rfl, Nw.refl _⟩
    case round =>
      obtain ⟨q, hqn, rfl, hnw⟩ := hrel
      have Hnw := Lib.hid hnw
      have Own7r := Lib.hid (own_nw Own7'.out hnw)
      clear hnw
      by_cases hlt : q < m
      · obtain ⟨y, hyq⟩ : ∃ y, ys[q]? = some y := ⟨ys[q]'(by rw [Hyl.out]; exact hlt), List.getElem?_eq_getElem _⟩
        obtain ⟨z', hzq⟩ : ∃ z', zs[k + q]? = some z' := ⟨zs[k + q]'(by rw [Hzl.out]; omega), List.getElem?_eq_getElem _⟩
        have Own9r := Lib.hid (own_nw Own9.out Hnw.out)
        have e1 := Own9r.out.cellAt q (by omega)
        have e2 := Own7r.out.cellAt (k + q) (by omega)
        rw [cellsZ_at hyq] at e1
        rw [cellsZ_at hzq] at e2
        have hf : fabC y = fabC z' := by
          rw [(Hring9.out q y hyq).1, (Hring.out (k + q) z' hzq).1, show (z.1, z.2) = z from rfl, Hz.out.1, ringC_on]
        have hf1 : fab .f64 y.1 = fab .f64 z'.1 := congrArg Prod.fst hf
        have hf2 : fab .f64 y.2 = fab .f64 z'.2 := congrArg Prod.snd hf
        have Hsame := Lib.hid (show (sameB y.1 z'.1 && sameB y.2 z'.2) = true from by rw [sameB_fab hf1, sameB_fab hf2]; rfl)
        clear hf hf1 hf2 hyq hzq
        go_wp2_with fail
        refine (makeSameComplex_any _ _ _ _ _).mono ?_
        rintro e w10 ⟨rfl, rfl⟩
        rw [Hsame.out]
        go_wp2_with fail
        go_roundw
        case rel => exact ⟨q + 1, by omega, by rw [show ((q + 1 : Nat) : Int) = (q : Int) + 1 from by omega], Hnw.out⟩
        case measure => simp only [intOf]; omega
      · obtain rfl : q = m := by omega
        obtain ⟨z0', hz0⟩ : ∃ z0', zs[0]? = some z0' := ⟨zs[0]'(by rw [Hzl.out]; omega), List.getElem?_eq_getElem _⟩
        have e1 := Own7r.out.cellAt 0 (by omega)
        rw [cellsZ_at hz0] at e1
        have Rz := Lib.hid (RowZ.of_own Own7r.out Hzl.out)
        have Rt := Lib.hid (rowz_tail Own7r.out Hzl.out hn1)
        have Rt1 := Lib.hid (fun h : n = 1 => rowz_tail1 wr (some ⟨g, 0, none⟩) Hzl.out h)
        have Hl30z := Lib.hid (show zs.length ≤ 1048576 from by rw [Hzl.out]; omega)
        have Hl30 := Lib.hid (show (zs.drop 1).length ≤ 1048576 from by rw [List.length_drop, Hzl.out]; omega)
        have Hspec := Lib.hid (specC_drop (fabC (qa, qb)) zs 0 z0' hz0)
        have Belr := Lib.hid (bel_nw Bel9.out Hnw.out Bel9.out.size)
        clear hz0
        go_wp2_with fail
        all_goals
          first
            | (have hc1 : cap = 1 := by assumption
               subst hc1)
            | skip
          refine (spectrumAt_any (zs.drop 1) _ qa qb Hl30.out _ (by first | exact Rt.out | exact Rt1.out (by omega))).mono ?_
          rintro e w11 ⟨x1, y1, rfl, hs1, hw1, n11⟩
          have Hs1 := Lib.hid hs1
          have e1' := (n11.cell (p := ⟨g, 0, none⟩) (by have := (Own7r.out.lt g rfl).2; exact this)).trans e1
          have Rz11 := Lib.hid (Rz.out.nw n11)
          have Bel11 := Lib.hid (bel_nw Belr.out n11 Belr.out.size)
          have N11 := Lib.hid n11
          clear hs1 e1 n11
          go_wp2_with fail
          refine (implMul_any _ _ _ _ _).mono ?_
          rintro e w12 ⟨mx, my, n12, rfl, rfl, hmx, hmy, hmx64, hmy64⟩
          have Hmx := Lib.hid hmx
          have Hmy := Lib.hid hmy
          clear hmx hmy
          go_wp2_with fail
          have Bel12 := Lib.hid (below_drewN Bel11.out n12)
          have Rz12 := Lib.hid (Rz11.out.nw ((Nw.refl w11).draw n12))
          have e12 : (w11.drewN n12).cell? ⟨g, 0, none⟩ = some (.complex .f64 z0'.1 z0'.2) := e1'
          have hg12 : g < (w11.drewN n12).heap.size := by have := (own_nw Own7r.out N11.out).lt g rfl; exact this.2
          clear e1'
          generalize w11.drewN n12 = w12 at *
          have hn0i : (0 : Int) < (n : Int) := by omega
          have hn0 : 0 < n := by omega
          have Keep := Lib.hid (show ∀ W, Nw w12 W → W.cell? ⟨g, 0, none⟩ = some (.complex .f64 z0'.1 z0'.2) from fun W h => (h.cell (p := ⟨g, 0, none⟩) hg12).trans e12)
          refine wp_region_held_drew (S := fun w' => w'.cell? ⟨g, 0, none⟩ = some (.complex .f64 z0'.1 z0'.2)) (by kernel_rfl) ?_ (fun hHeld => ?_)
          · ((try dsimp only) ; refine Keep.out _ ?_ ; (repeat (first | with_reducible exact Nw.refl _ | with_reducible exact N13.out | with_reducible apply nwz_drew | with_reducible apply nwz_drewN)) ; done)
          refine wpAnyH_take (i := 0) (oi := _) (v := ?_) rfl (by kernel_rfl) (by kernel_rfl) (by kernel_rfl) (fun _ _ _ h => h) (_root_.Or.inl ⟨by rfl, ?_⟩) (by assumption) ?_
          rotate_left
          · intro w hSw
            (try dsimp only at hSw)
            go_simp
            all_goals with_reducible rfl
          try simp only [Act.put, List.setIfInBounds_toArray, List.set_cons_zero, List.set_cons_succ]
          refine wpAnyH_take (i := 1) (oi := _) (v := ?_) rfl (by kernel_rfl) (by kernel_rfl) (by kernel_rfl) (fun _ _ _ h => h) (_root_.Or.inl ⟨by rfl, ?_⟩) (by assumption) ?_
          rotate_left
          · intro w hSw
            (try dsimp only at hSw)
            go_simp
            all_goals with_reducible rfl
          try simp only [Act.put, List.setIfInBounds_toArray, List.set_cons_zero, List.set_cons_succ]
          refine wpAnyH_take (i := 3) (oi := _) (v := ?_) rfl (by kernel_rfl) (by kernel_rfl) (by kernel_rfl) (fun _ _ _ h => h) (_root_.Or.inl ⟨by rfl, ?_⟩) (by assumption) ?_
          rotate_left
          · intro w hSw
            (try dsimp only at hSw)
            go_simp
            all_goals with_reducible rfl
          try simp only [Act.put, List.setIfInBounds_toArray, List.set_cons_zero, List.set_cons_succ]
          refine wpAnyH_take (i := 4) (oi := _) (v := ?_) rfl (by kernel_rfl) (by kernel_rfl) (by kernel_rfl) (fun _ _ _ h => h) (_root_.Or.inl ⟨by rfl, ?_⟩) (by assumption) ?_
          rotate_left
          · intro w hSw
            (try dsimp only at hSw)
            go_simp
            all_goals with_reducible rfl
          try simp only [Act.put, List.setIfInBounds_toArray, List.set_cons_zero, List.set_cons_succ]
          refine wpAnyH_take (i := 5) (oi := _) (v := ?_) rfl (by kernel_rfl) (by kernel_rfl) (by kernel_rfl) (fun _ _ _ h => h) (_root_.Or.inl ⟨by rfl, ?_⟩) (by assumption) ?_
          rotate_left
          · intro w hSw
            (try dsimp only at hSw)
            go_simp
            all_goals with_reducible rfl
          try simp only [Act.put, List.setIfInBounds_toArray, List.set_cons_zero, List.set_cons_succ]
          refine wpAnyH_take (i := 6) (oi := _) (v := ?_) rfl (by kernel_rfl) (by kernel_rfl) (by kernel_rfl) (fun _ _ _ h => h) (_root_.Or.inl ⟨by rfl, ?_⟩) (by assumption) ?_
          rotate_left
          · intro w hSw
            (try dsimp only at hSw)
            go_simp
            all_goals with_reducible rfl
          try simp only [Act.put, List.setIfInBounds_toArray, List.set_cons_zero, List.set_cons_succ]
          refine wpAnyH_take (i := 7) (oi := _) (v := ?_) rfl (by kernel_rfl) (by kernel_rfl) (by kernel_rfl) (fun _ _ _ h => h) (_root_.Or.inl ⟨by rfl, ?_⟩) (by assumption) ?_
          rotate_left
          · intro w hSw
            (try dsimp only at hSw)
            go_simp
            all_goals with_reducible rfl
          try simp only [Act.put, List.setIfInBounds_toArray, List.set_cons_zero, List.set_cons_succ]
          refine wpAnyH_take (i := 8) (oi := _) (v := ?_) rfl (by kernel_rfl) (by kernel_rfl) (by kernel_rfl) (fun _ _ _ h => h) (_root_.Or.inl ⟨by rfl, ?_⟩) (by assumption) ?_
          rotate_left
          · intro w hSw
            (try dsimp only at hSw)
            go_simp
            all_goals with_reducible rfl
          try simp only [Act.put, List.setIfInBounds_toArray, List.set_cons_zero, List.set_cons_succ]
          refine wpAnyH_take (i := 10) (oi := _) (v := ?_) rfl (by kernel_rfl) (by kernel_rfl) (by kernel_rfl) (fun _ _ _ h => h) (_root_.Or.inl ⟨by rfl, ?_⟩) (by assumption) ?_
          rotate_left
          · intro w hSw
            (try dsimp only at hSw)
            go_simp
            all_goals with_reducible rfl
          try simp only [Act.put, List.setIfInBounds_toArray, List.set_cons_zero, List.set_cons_succ]
          refine wpAnyH_take (i := 11) (oi := _) (v := ?_) rfl (by kernel_rfl) (by kernel_rfl) (by kernel_rfl) (fun _ _ _ h => h) (_root_.Or.inl ⟨by rfl, ?_⟩) (by assumption) ?_
          rotate_left
          · intro w hSw
            (try dsimp only at hSw)
            go_simp
            all_goals with_reducible rfl
          try simp only [Act.put, List.setIfInBounds_toArray, List.set_cons_zero, List.set_cons_succ]
          refine wpAnyH_take (i := 12) (oi := _) (v := ?_) rfl (by kernel_rfl) (by kernel_rfl) (by kernel_rfl) (fun _ _ _ h => h) (_root_.Or.inl ⟨by rfl, ?_⟩) (by assumption) ?_
          rotate_left
          · intro w hSw
            (try dsimp only at hSw)
            go_simp
            all_goals with_reducible rfl
          try simp only [Act.put, List.setIfInBounds_toArray, List.set_cons_zero, List.set_cons_succ]
          refine wpAnyH_take (i := 13) (oi := _) (v := ?_) rfl (by kernel_rfl) (by kernel_rfl) (by kernel_rfl) (fun _ _ _ h => h) (_root_.Or.inl ⟨by rfl, ?_⟩) (by assumption) ?_
          rotate_left
          · intro w hSw
            (try dsimp only at hSw)
            go_simp
            all_goals with_reducible rfl
          try simp only [Act.put, List.setIfInBounds_toArray, List.set_cons_zero, List.set_cons_succ]
          refine wpAnyH_take (i := 14) (oi := _) (v := ?_) rfl (by kernel_rfl) (by kernel_rfl) (by kernel_rfl) (fun _ _ _ h => h) (_root_.Or.inl ⟨by rfl, ?_⟩) (by assumption) ?_
          rotate_left
          · intro w hSw
            (try dsimp only at hSw)
            go_simp
            all_goals with_reducible rfl
          try simp only [Act.put, List.setIfInBounds_toArray, List.set_cons_zero, List.set_cons_succ]
          refine wpAnyH_take (i := 15) (oi := _) (v := ?_) rfl (by kernel_rfl) (by kernel_rfl) (by kernel_rfl) (fun _ _ _ h => h) (_root_.Or.inl ⟨by rfl, ?_⟩) (by assumption) ?_
          rotate_left
          · intro w hSw
            (try dsimp only at hSw)
            go_simp
            all_goals with_reducible rfl
          try simp only [Act.put, List.setIfInBounds_toArray, List.set_cons_zero, List.set_cons_succ]
          refine wpAnyH_ready (rs := [2, 9, 16]) (by kernel_rfl) (by simp) ?_
          refine AllReadyH.cons (o := _) rfl (fun K hK => ?_) ?_
          · go_simp
            go_at_call 23
            refine (spectrumAt_any zs _ qa qb Hl30z.out _ (Rz12.out.nw ?nwq)).mono ?_
            case nwq => ((repeat (first | with_reducible exact Nw.refl _ | with_reducible exact N13.out | with_reducible apply nwz_drew | with_reducible apply nwz_drewN)) ; done)
            rintro e w13 ⟨x2, y2, rfl, hs2, hw2, n13⟩
            have N13 := Lib.hid (Nw.trans (show Nw w12 _ from by ((repeat (first | with_reducible exact Nw.refl _ | with_reducible exact N13.out | with_reducible apply nwz_drew | with_reducible apply nwz_drewN)) ; done)) n13)
            have Hs2 := Lib.hid hs2
            clear n13 hs2 hw2
            go_wp2_with fail
            refine hK.out _ _ ?_ (fun hHeld => ?_)
            · ((try dsimp only) ; refine Keep.out _ ?_ ; (repeat (first | with_reducible exact Nw.refl _ | with_reducible exact N13.out | with_reducible apply nwz_drew | with_reducible apply nwz_drewN)) ; done)
            clear hK K
            try simp only [Act.put, List.setIfInBounds_toArray, List.set_cons_zero, List.set_cons_succ]
            refine wpAnyH_ready (rs := [9, 16]) (by kernel_rfl) (by simp) ?_
            refine AllReadyH.cons (o := _) rfl (fun K hK => ?_) ?_
            · go_simp
              refine hK.out _ _ ?_ (fun hHeld => ?_)
              · ((try dsimp only) ; refine Keep.out _ ?_ ; (repeat (first | with_reducible exact Nw.refl _ | with_reducible exact N13.out | with_reducible apply nwz_drew | with_reducible apply nwz_drewN)) ; done)
              clear hK K
              try simp only [Act.put, List.setIfInBounds_toArray, List.set_cons_zero, List.set_cons_succ]
              refine wpAnyH_ready (rs := [16]) (by kernel_rfl) (by simp) ?_
              refine AllReadyH.cons (o := _) rfl (fun K hK => ?_) ?_
              · go_simp
                refine hK.out _ _ ?_ (fun hHeld => ?_)
                · ((try dsimp only) ; refine Keep.out _ ?_ ; (repeat (first | with_reducible exact Nw.refl _ | with_reducible exact N13.out | with_reducible apply nwz_drew | with_reducible apply nwz_drewN)) ; done)
                clear hK K
                try simp only [Act.put, List.setIfInBounds_toArray, List.set_cons_zero, List.set_cons_succ]
                refine wpAnyH_take (i := 17) (oi := _) (v := ?_) rfl (by kernel_rfl) (by kernel_rfl) (by kernel_rfl) (fun _ _ _ h => h) (_root_.Or.inl ⟨by rfl, ?_⟩) (by assumption) ?_
                rotate_left
                · intro w hSw
                  (try dsimp only at hSw)
                  go_simp
                  all_goals with_reducible rfl
                try simp only [Act.put, List.setIfInBounds_toArray, List.set_cons_zero, List.set_cons_succ]
                refine wpAnyH_ready (rs := [18]) (by kernel_rfl) (by simp) ?_
                refine AllReadyH.cons (o := { dst := some 110, op := _, type := _, pos := _, after := _, guard := none }) rfl (fun K hK => ?_) AllReadyH.nil
                have hA : fabC (x2, y2) = addC (fabC (mx, my)) (fabC z0') := by
                  have h5 := Hspec.out
                  rw [List.drop_zero, ← Hs1.out] at h5
                  rw [Hs2.out, h5]
                  unfold mulC fabC
                  rw [Hmx.out, Hmy.out]
                have hA1 : fab .f64 x2 = fA .add .f64 (fab .f64 mx) (fab .f64 z0'.1) := congrArg Prod.fst hA
                have hA2 : fab .f64 y2 = fA .add .f64 (fab .f64 my) (fab .f64 z0'.2) := congrArg Prod.snd hA
                have Hv := Lib.hid (show ∀ Wa Wb, (sameB x2 (fres Wa .add .f64 mx z0'.1) && sameB y2 (fres Wb .add .f64 my z0'.2)) = true from fun Wa Wb => by
                  rw [Bool.and_eq_true]
                  exact ⟨sameB_fab (by rw [hA1, fab_fres]), sameB_fab (by rw [hA2, fab_fres])⟩)
                clear hA hA1 hA2
                go_simp
                go_at_call 21
                refine (makeSameComplex_any _ _ _ _ _).mono ?_
                rintro e w14 ⟨rfl, rfl⟩
                rw [Hv.out]
                go_wp2_with fail
                refine hK.out _ _ ?_ (fun hHeld => ?_)
                · ((try dsimp only) ; refine Keep.out _ ?_ ; (repeat (first | with_reducible exact Nw.refl _ | with_reducible exact N13.out | with_reducible apply nwz_drew | with_reducible apply nwz_drewN)) ; done)
                clear hK K
                try simp only [Act.put, List.setIfInBounds_toArray, List.set_cons_zero, List.set_cons_succ]
                refine wpAnyH_take (i := 19) (oi := { dst := some 2, op := _, type := _, pos := _, after := _, guard := none }) (v := ?_) rfl (by kernel_rfl) (by kernel_rfl) (by kernel_rfl) (fun _ _ _ h => h) (_root_.Or.inl ⟨by rfl, ?_⟩) (by assumption) ?_
                rotate_left
                · intro w hSw
                  (try dsimp only at hSw)
                  go_simp
                  all_goals with_reducible rfl
                try simp only [Act.put, List.setIfInBounds_toArray, List.set_cons_zero, List.set_cons_succ]
                refine wpAnyH_done (by kernel_rfl) ?_ _
                go_wp2_with fail
                go_ret
                refine ⟨rfl, ?_⟩
                refine bel_nw Bel12.out ?_ (by have := Bel12.out.size; exact this)
                (repeat (first | with_reducible exact Nw.refl _ | with_reducible exact N13.out | with_reducible apply nwz_drew | with_reducible apply nwz_drewN))
              exact AllReadyH.nil
            refine AllReadyH.cons (o := _) rfl (fun K hK => ?_) ?_
            · go_simp
              refine hK.out _ _ ?_ (fun hHeld => ?_)
              · ((try dsimp only) ; refine Keep.out _ ?_ ; (repeat (first | with_reducible exact Nw.refl _ | with_reducible exact N13.out | with_reducible apply nwz_drew | with_reducible apply nwz_drewN)) ; done)
              clear hK K
              try simp only [Act.put, List.setIfInBounds_toArray, List.set_cons_zero, List.set_cons_succ]
              refine wpAnyH_ready (rs := [9]) (by kernel_rfl) (by simp) ?_
              refine AllReadyH.cons (o := _) rfl (fun K hK => ?_) ?_
              · go_simp
                refine hK.out _ _ ?_ (fun hHeld => ?_)
                · ((try dsimp only) ; refine Keep.out _ ?_ ; (repeat (first | with_reducible exact Nw.refl _ | with_reducible exact N13.out | with_reducible apply nwz_drew | with_reducible apply nwz_drewN)) ; done)
                clear hK K
                try simp only [Act.put, List.setIfInBounds_toArray, List.set_cons_zero, List.set_cons_succ]
                refine wpAnyH_take (i := 17) (oi := _) (v := ?_) rfl (by kernel_rfl) (by kernel_rfl) (by kernel_rfl) (fun _ _ _ h => h) (_root_.Or.inl ⟨by rfl, ?_⟩) (by assumption) ?_
                rotate_left
                · intro w hSw
                  (try dsimp only at hSw)
                  go_simp
                  all_goals with_reducible rfl
                try simp only [Act.put, List.setIfInBounds_toArray, List.set_cons_zero, List.set_cons_succ]
                refine wpAnyH_ready (rs := [18]) (by kernel_rfl) (by simp) ?_
                refine AllReadyH.cons (o := { dst := some 110, op := _, type := _, pos := _, after := _, guard := none }) rfl (fun K hK => ?_) AllReadyH.nil
                have hA : fabC (x2, y2) = addC (fabC (mx, my)) (fabC z0') := by
                  have h5 := Hspec.out
                  rw [List.drop_zero, ← Hs1.out] at h5
                  rw [Hs2.out, h5]
                  unfold mulC fabC
                  rw [Hmx.out, Hmy.out]
                have hA1 : fab .f64 x2 = fA .add .f64 (fab .f64 mx) (fab .f64 z0'.1) := congrArg Prod.fst hA
                have hA2 : fab .f64 y2 = fA .add .f64 (fab .f64 my) (fab .f64 z0'.2) := congrArg Prod.snd hA
                have Hv := Lib.hid (show ∀ Wa Wb, (sameB x2 (fres Wa .add .f64 mx z0'.1) && sameB y2 (fres Wb .add .f64 my z0'.2)) = true from fun Wa Wb => by
                  rw [Bool.and_eq_true]
                  exact ⟨sameB_fab (by rw [hA1, fab_fres]), sameB_fab (by rw [hA2, fab_fres])⟩)
                clear hA hA1 hA2
                go_simp
                go_at_call 21
                refine (makeSameComplex_any _ _ _ _ _).mono ?_
                rintro e w14 ⟨rfl, rfl⟩
                rw [Hv.out]
                go_wp2_with fail
                refine hK.out _ _ ?_ (fun hHeld => ?_)
                · ((try dsimp only) ; refine Keep.out _ ?_ ; (repeat (first | with_reducible exact Nw.refl _ | with_reducible exact N13.out | with_reducible apply nwz_drew | with_reducible apply nwz_drewN)) ; done)
                clear hK K
                try simp only [Act.put, List.setIfInBounds_toArray, List.set_cons_zero, List.set_cons_succ]
                refine wpAnyH_take (i := 19) (oi := { dst := some 2, op := _, type := _, pos := _, after := _, guard := none }) (v := ?_) rfl (by kernel_rfl) (by kernel_rfl) (by kernel_rfl) (fun _ _ _ h => h) (_root_.Or.inl ⟨by rfl, ?_⟩) (by assumption) ?_
                rotate_left
                · intro w hSw
                  (try dsimp only at hSw)
                  go_simp
                  all_goals with_reducible rfl
                try simp only [Act.put, List.setIfInBounds_toArray, List.set_cons_zero, List.set_cons_succ]
                refine wpAnyH_done (by kernel_rfl) ?_ _
                go_wp2_with fail
                go_ret
                refine ⟨rfl, ?_⟩
                refine bel_nw Bel12.out ?_ (by have := Bel12.out.size; exact this)
                (repeat (first | with_reducible exact Nw.refl _ | with_reducible exact N13.out | with_reducible apply nwz_drew | with_reducible apply nwz_drewN))
              exact AllReadyH.nil
            exact AllReadyH.nil
          refine AllReadyH.cons (o := _) rfl (fun K hK => ?_) ?_
          · go_simp
            refine hK.out _ _ ?_ (fun hHeld => ?_)
            · ((try dsimp only) ; refine Keep.out _ ?_ ; (repeat (first | with_reducible exact Nw.refl _ | with_reducible exact N13.out | with_reducible apply nwz_drew | with_reducible apply nwz_drewN)) ; done)
            clear hK K
            try simp only [Act.put, List.setIfInBounds_toArray, List.set_cons_zero, List.set_cons_succ]
            refine wpAnyH_ready (rs := [2, 16]) (by kernel_rfl) (by simp) ?_
            refine AllReadyH.cons (o := _) rfl (fun K hK => ?_) ?_
            · go_simp
              go_at_call 23
              refine (spectrumAt_any zs _ qa qb Hl30z.out _ (Rz12.out.nw ?nwq)).mono ?_
              case nwq => ((repeat (first | with_reducible exact Nw.refl _ | with_reducible exact N13.out | with_reducible apply nwz_drew | with_reducible apply nwz_drewN)) ; done)
              rintro e w13 ⟨x2, y2, rfl, hs2, hw2, n13⟩
              have N13 := Lib.hid (Nw.trans (show Nw w12 _ from by ((repeat (first | with_reducible exact Nw.refl _ | with_reducible exact N13.out | with_reducible apply nwz_drew | with_reducible apply nwz_drewN)) ; done)) n13)
              have Hs2 := Lib.hid hs2
              clear n13 hs2 hw2
              go_wp2_with fail
              refine hK.out _ _ ?_ (fun hHeld => ?_)
              · ((try dsimp only) ; refine Keep.out _ ?_ ; (repeat (first | with_reducible exact Nw.refl _ | with_reducible exact N13.out | with_reducible apply nwz_drew | with_reducible apply nwz_drewN)) ; done)
              clear hK K
              try simp only [Act.put, List.setIfInBounds_toArray, List.set_cons_zero, List.set_cons_succ]
              refine wpAnyH_ready (rs := [16]) (by kernel_rfl) (by simp) ?_
              refine AllReadyH.cons (o := _) rfl (fun K hK => ?_) ?_
              · go_simp
                refine hK.out _ _ ?_ (fun hHeld => ?_)
                · ((try dsimp only) ; refine Keep.out _ ?_ ; (repeat (first | with_reducible exact Nw.refl _ | with_reducible exact N13.out | with_reducible apply nwz_drew | with_reducible apply nwz_drewN)) ; done)
                clear hK K
                try simp only [Act.put, List.setIfInBounds_toArray, List.set_cons_zero, List.set_cons_succ]
                refine wpAnyH_take (i := 17) (oi := _) (v := ?_) rfl (by kernel_rfl) (by kernel_rfl) (by kernel_rfl) (fun _ _ _ h => h) (_root_.Or.inl ⟨by rfl, ?_⟩) (by assumption) ?_
                rotate_left
                · intro w hSw
                  (try dsimp only at hSw)
                  go_simp
                  all_goals with_reducible rfl
                try simp only [Act.put, List.setIfInBounds_toArray, List.set_cons_zero, List.set_cons_succ]
                refine wpAnyH_ready (rs := [18]) (by kernel_rfl) (by simp) ?_
                refine AllReadyH.cons (o := { dst := some 110, op := _, type := _, pos := _, after := _, guard := none }) rfl (fun K hK => ?_) AllReadyH.nil
                have hA : fabC (x2, y2) = addC (fabC (mx, my)) (fabC z0') := by
                  have h5 := Hspec.out
                  rw [List.drop_zero, ← Hs1.out] at h5
                  rw [Hs2.out, h5]
                  unfold mulC fabC
                  rw [Hmx.out, Hmy.out]
                have hA1 : fab .f64 x2 = fA .add .f64 (fab .f64 mx) (fab .f64 z0'.1) := congrArg Prod.fst hA
                have hA2 : fab .f64 y2 = fA .add .f64 (fab .f64 my) (fab .f64 z0'.2) := congrArg Prod.snd hA
                have Hv := Lib.hid (show ∀ Wa Wb, (sameB x2 (fres Wa .add .f64 mx z0'.1) && sameB y2 (fres Wb .add .f64 my z0'.2)) = true from fun Wa Wb => by
                  rw [Bool.and_eq_true]
                  exact ⟨sameB_fab (by rw [hA1, fab_fres]), sameB_fab (by rw [hA2, fab_fres])⟩)
                clear hA hA1 hA2
                go_simp
                go_at_call 21
                refine (makeSameComplex_any _ _ _ _ _).mono ?_
                rintro e w14 ⟨rfl, rfl⟩
                rw [Hv.out]
                go_wp2_with fail
                refine hK.out _ _ ?_ (fun hHeld => ?_)
                · ((try dsimp only) ; refine Keep.out _ ?_ ; (repeat (first | with_reducible exact Nw.refl _ | with_reducible exact N13.out | with_reducible apply nwz_drew | with_reducible apply nwz_drewN)) ; done)
                clear hK K
                try simp only [Act.put, List.setIfInBounds_toArray, List.set_cons_zero, List.set_cons_succ]
                refine wpAnyH_take (i := 19) (oi := { dst := some 2, op := _, type := _, pos := _, after := _, guard := none }) (v := ?_) rfl (by kernel_rfl) (by kernel_rfl) (by kernel_rfl) (fun _ _ _ h => h) (_root_.Or.inl ⟨by rfl, ?_⟩) (by assumption) ?_
                rotate_left
                · intro w hSw
                  (try dsimp only at hSw)
                  go_simp
                  all_goals with_reducible rfl
                try simp only [Act.put, List.setIfInBounds_toArray, List.set_cons_zero, List.set_cons_succ]
                refine wpAnyH_done (by kernel_rfl) ?_ _
                go_wp2_with fail
                go_ret
                refine ⟨rfl, ?_⟩
                refine bel_nw Bel12.out ?_ (by have := Bel12.out.size; exact this)
                (repeat (first | with_reducible exact Nw.refl _ | with_reducible exact N13.out | with_reducible apply nwz_drew | with_reducible apply nwz_drewN))
              exact AllReadyH.nil
            refine AllReadyH.cons (o := _) rfl (fun K hK => ?_) ?_
            · go_simp
              refine hK.out _ _ ?_ (fun hHeld => ?_)
              · ((try dsimp only) ; refine Keep.out _ ?_ ; (repeat (first | with_reducible exact Nw.refl _ | with_reducible exact N13.out | with_reducible apply nwz_drew | with_reducible apply nwz_drewN)) ; done)
              clear hK K
              try simp only [Act.put, List.setIfInBounds_toArray, List.set_cons_zero, List.set_cons_succ]
              refine wpAnyH_take (i := 17) (oi := _) (v := ?_) rfl (by kernel_rfl) (by kernel_rfl) (by kernel_rfl) (fun _ _ _ h => h) (_root_.Or.inl ⟨by rfl, ?_⟩) (by assumption) ?_
              rotate_left
              · intro w hSw
                (try dsimp only at hSw)
                go_simp
                all_goals with_reducible rfl
              try simp only [Act.put, List.setIfInBounds_toArray, List.set_cons_zero, List.set_cons_succ]
              refine wpAnyH_ready (rs := [2]) (by kernel_rfl) (by simp) ?_
              refine AllReadyH.cons (o := _) rfl (fun K hK => ?_) ?_
              · go_simp
                go_at_call 23
                refine (spectrumAt_any zs _ qa qb Hl30z.out _ (Rz12.out.nw ?nwq)).mono ?_
                case nwq => ((repeat (first | with_reducible exact Nw.refl _ | with_reducible exact N13.out | with_reducible apply nwz_drew | with_reducible apply nwz_drewN)) ; done)
                rintro e w13 ⟨x2, y2, rfl, hs2, hw2, n13⟩
                have N13 := Lib.hid (Nw.trans (show Nw w12 _ from by ((repeat (first | with_reducible exact Nw.refl _ | with_reducible exact N13.out | with_reducible apply nwz_drew | with_reducible apply nwz_drewN)) ; done)) n13)
                have Hs2 := Lib.hid hs2
                clear n13 hs2 hw2
                go_wp2_with fail
                refine hK.out _ _ ?_ (fun hHeld => ?_)
                · ((try dsimp only) ; refine Keep.out _ ?_ ; (repeat (first | with_reducible exact Nw.refl _ | with_reducible exact N13.out | with_reducible apply nwz_drew | with_reducible apply nwz_drewN)) ; done)
                clear hK K
                try simp only [Act.put, List.setIfInBounds_toArray, List.set_cons_zero, List.set_cons_succ]
                refine wpAnyH_ready (rs := [18]) (by kernel_rfl) (by simp) ?_
                refine AllReadyH.cons (o := { dst := some 110, op := _, type := _, pos := _, after := _, guard := none }) rfl (fun K hK => ?_) AllReadyH.nil
                have hA : fabC (x2, y2) = addC (fabC (mx, my)) (fabC z0') := by
                  have h5 := Hspec.out
                  rw [List.drop_zero, ← Hs1.out] at h5
                  rw [Hs2.out, h5]
                  unfold mulC fabC
                  rw [Hmx.out, Hmy.out]
                have hA1 : fab .f64 x2 = fA .add .f64 (fab .f64 mx) (fab .f64 z0'.1) := congrArg Prod.fst hA
                have hA2 : fab .f64 y2 = fA .add .f64 (fab .f64 my) (fab .f64 z0'.2) := congrArg Prod.snd hA
                have Hv := Lib.hid (show ∀ Wa Wb, (sameB x2 (fres Wa .add .f64 mx z0'.1) && sameB y2 (fres Wb .add .f64 my z0'.2)) = true from fun Wa Wb => by
                  rw [Bool.and_eq_true]
                  exact ⟨sameB_fab (by rw [hA1, fab_fres]), sameB_fab (by rw [hA2, fab_fres])⟩)
                clear hA hA1 hA2
                go_simp
                go_at_call 21
                refine (makeSameComplex_any _ _ _ _ _).mono ?_
                rintro e w14 ⟨rfl, rfl⟩
                rw [Hv.out]
                go_wp2_with fail
                refine hK.out _ _ ?_ (fun hHeld => ?_)
                · ((try dsimp only) ; refine Keep.out _ ?_ ; (repeat (first | with_reducible exact Nw.refl _ | with_reducible exact N13.out | with_reducible apply nwz_drew | with_reducible apply nwz_drewN)) ; done)
                clear hK K
                try simp only [Act.put, List.setIfInBounds_toArray, List.set_cons_zero, List.set_cons_succ]
                refine wpAnyH_take (i := 19) (oi := { dst := some 2, op := _, type := _, pos := _, after := _, guard := none }) (v := ?_) rfl (by kernel_rfl) (by kernel_rfl) (by kernel_rfl) (fun _ _ _ h => h) (_root_.Or.inl ⟨by rfl, ?_⟩) (by assumption) ?_
                rotate_left
                · intro w hSw
                  (try dsimp only at hSw)
                  go_simp
                  all_goals with_reducible rfl
                try simp only [Act.put, List.setIfInBounds_toArray, List.set_cons_zero, List.set_cons_succ]
                refine wpAnyH_done (by kernel_rfl) ?_ _
                go_wp2_with fail
                go_ret
                refine ⟨rfl, ?_⟩
                refine bel_nw Bel12.out ?_ (by have := Bel12.out.size; exact this)
                (repeat (first | with_reducible exact Nw.refl _ | with_reducible exact N13.out | with_reducible apply nwz_drew | with_reducible apply nwz_drewN))
              exact AllReadyH.nil
            exact AllReadyH.nil
          refine AllReadyH.cons (o := _) rfl (fun K hK => ?_) ?_
          · go_simp
            refine hK.out _ _ ?_ (fun hHeld => ?_)
            · ((try dsimp only) ; refine Keep.out _ ?_ ; (repeat (first | with_reducible exact Nw.refl _ | with_reducible exact N13.out | with_reducible apply nwz_drew | with_reducible apply nwz_drewN)) ; done)
            clear hK K
            try simp only [Act.put, List.setIfInBounds_toArray, List.set_cons_zero, List.set_cons_succ]
            refine wpAnyH_ready (rs := [2, 9]) (by kernel_rfl) (by simp) ?_
            refine AllReadyH.cons (o := _) rfl (fun K hK => ?_) ?_
            · go_simp
              go_at_call 23
              refine (spectrumAt_any zs _ qa qb Hl30z.out _ (Rz12.out.nw ?nwq)).mono ?_
              case nwq => ((repeat (first | with_reducible exact Nw.refl _ | with_reducible exact N13.out | with_reducible apply nwz_drew | with_reducible apply nwz_drewN)) ; done)
              rintro e w13 ⟨x2, y2, rfl, hs2, hw2, n13⟩
              have N13 := Lib.hid (Nw.trans (show Nw w12 _ from by ((repeat (first | with_reducible exact Nw.refl _ | with_reducible exact N13.out | with_reducible apply nwz_drew | with_reducible apply nwz_drewN)) ; done)) n13)
              have Hs2 := Lib.hid hs2
              clear n13 hs2 hw2
              go_wp2_with fail
              refine hK.out _ _ ?_ (fun hHeld => ?_)
              · ((try dsimp only) ; refine Keep.out _ ?_ ; (repeat (first | with_reducible exact Nw.refl _ | with_reducible exact N13.out | with_reducible apply nwz_drew | with_reducible apply nwz_drewN)) ; done)
              clear hK K
              try simp only [Act.put, List.setIfInBounds_toArray, List.set_cons_zero, List.set_cons_succ]
              refine wpAnyH_ready (rs := [9]) (by kernel_rfl) (by simp) ?_
              refine AllReadyH.cons (o := _) rfl (fun K hK => ?_) ?_
              · go_simp
                refine hK.out _ _ ?_ (fun hHeld => ?_)
                · ((try dsimp only) ; refine Keep.out _ ?_ ; (repeat (first | with_reducible exact Nw.refl _ | with_reducible exact N13.out | with_reducible apply nwz_drew | with_reducible apply nwz_drewN)) ; done)
                clear hK K
                try simp only [Act.put, List.setIfInBounds_toArray, List.set_cons_zero, List.set_cons_succ]
                refine wpAnyH_take (i := 17) (oi := _) (v := ?_) rfl (by kernel_rfl) (by kernel_rfl) (by kernel_rfl) (fun _ _ _ h => h) (_root_.Or.inl ⟨by rfl, ?_⟩) (by assumption) ?_
                rotate_left
                · intro w hSw
                  (try dsimp only at hSw)
                  go_simp
                  all_goals with_reducible rfl
                try simp only [Act.put, List.setIfInBounds_toArray, List.set_cons_zero, List.set_cons_succ]
                refine wpAnyH_ready (rs := [18]) (by kernel_rfl) (by simp) ?_
                refine AllReadyH.cons (o := { dst := some 110, op := _, type := _, pos := _, after := _, guard := none }) rfl (fun K hK => ?_) AllReadyH.nil
                have hA : fabC (x2, y2) = addC (fabC (mx, my)) (fabC z0') := by
                  have h5 := Hspec.out
                  rw [List.drop_zero, ← Hs1.out] at h5
                  rw [Hs2.out, h5]
                  unfold mulC fabC
                  rw [Hmx.out, Hmy.out]
                have hA1 : fab .f64 x2 = fA .add .f64 (fab .f64 mx) (fab .f64 z0'.1) := congrArg Prod.fst hA
                have hA2 : fab .f64 y2 = fA .add .f64 (fab .f64 my) (fab .f64 z0'.2) := congrArg Prod.snd hA
                have Hv := Lib.hid (show ∀ Wa Wb, (sameB x2 (fres Wa .add .f64 mx z0'.1) && sameB y2 (fres Wb .add .f64 my z0'.2)) = true from fun Wa Wb => by
                  rw [Bool.and_eq_true]
                  exact ⟨sameB_fab (by rw [hA1, fab_fres]), sameB_fab (by rw [hA2, fab_fres])⟩)
                clear hA hA1 hA2
                go_simp
                go_at_call 21
                refine (makeSameComplex_any _ _ _ _ _).mono ?_
                rintro e w14 ⟨rfl, rfl⟩
                rw [Hv.out]
                go_wp2_with fail
                refine hK.out _ _ ?_ (fun hHeld => ?_)
                · ((try dsimp only) ; refine Keep.out _ ?_ ; (repeat (first | with_reducible exact Nw.refl _ | with_reducible exact N13.out | with_reducible apply nwz_drew | with_reducible apply nwz_drewN)) ; done)
                clear hK K
                try simp only [Act.put, List.setIfInBounds_toArray, List.set_cons_zero, List.set_cons_succ]
                refine wpAnyH_take (i := 19) (oi := { dst := some 2, op := _, type := _, pos := _, after := _, guard := none }) (v := ?_) rfl (by kernel_rfl) (by kernel_rfl) (by kernel_rfl) (fun _ _ _ h => h) (_root_.Or.inl ⟨by rfl, ?_⟩) (by assumption) ?_
                rotate_left
                · intro w hSw
                  (try dsimp only at hSw)
                  go_simp
                  all_goals with_reducible rfl
                try simp only [Act.put, List.setIfInBounds_toArray, List.set_cons_zero, List.set_cons_succ]
                refine wpAnyH_done (by kernel_rfl) ?_ _
                go_wp2_with fail
                go_ret
                refine ⟨rfl, ?_⟩
                refine bel_nw Bel12.out ?_ (by have := Bel12.out.size; exact this)
                (repeat (first | with_reducible exact Nw.refl _ | with_reducible exact N13.out | with_reducible apply nwz_drew | with_reducible apply nwz_drewN))
              exact AllReadyH.nil
            refine AllReadyH.cons (o := _) rfl (fun K hK => ?_) ?_
            · go_simp
              refine hK.out _ _ ?_ (fun hHeld => ?_)
              · ((try dsimp only) ; refine Keep.out _ ?_ ; (repeat (first | with_reducible exact Nw.refl _ | with_reducible exact N13.out | with_reducible apply nwz_drew | with_reducible apply nwz_drewN)) ; done)
              clear hK K
              try simp only [Act.put, List.setIfInBounds_toArray, List.set_cons_zero, List.set_cons_succ]
              refine wpAnyH_take (i := 17) (oi := _) (v := ?_) rfl (by kernel_rfl) (by kernel_rfl) (by kernel_rfl) (fun _ _ _ h => h) (_root_.Or.inl ⟨by rfl, ?_⟩) (by assumption) ?_
              rotate_left
              · intro w hSw
                (try dsimp only at hSw)
                go_simp
                all_goals with_reducible rfl
              try simp only [Act.put, List.setIfInBounds_toArray, List.set_cons_zero, List.set_cons_succ]
              refine wpAnyH_ready (rs := [2]) (by kernel_rfl) (by simp) ?_
              refine AllReadyH.cons (o := _) rfl (fun K hK => ?_) ?_
              · go_simp
                go_at_call 23
                refine (spectrumAt_any zs _ qa qb Hl30z.out _ (Rz12.out.nw ?nwq)).mono ?_
                case nwq => ((repeat (first | with_reducible exact Nw.refl _ | with_reducible exact N13.out | with_reducible apply nwz_drew | with_reducible apply nwz_drewN)) ; done)
                rintro e w13 ⟨x2, y2, rfl, hs2, hw2, n13⟩
                have N13 := Lib.hid (Nw.trans (show Nw w12 _ from by ((repeat (first | with_reducible exact Nw.refl _ | with_reducible exact N13.out | with_reducible apply nwz_drew | with_reducible apply nwz_drewN)) ; done)) n13)
                have Hs2 := Lib.hid hs2
                clear n13 hs2 hw2
                go_wp2_with fail
                refine hK.out _ _ ?_ (fun hHeld => ?_)
                · ((try dsimp only) ; refine Keep.out _ ?_ ; (repeat (first | with_reducible exact Nw.refl _ | with_reducible exact N13.out | with_reducible apply nwz_drew | with_reducible apply nwz_drewN)) ; done)
                clear hK K
                try simp only [Act.put, List.setIfInBounds_toArray, List.set_cons_zero, List.set_cons_succ]
                refine wpAnyH_ready (rs := [18]) (by kernel_rfl) (by simp) ?_
                refine AllReadyH.cons (o := { dst := some 110, op := _, type := _, pos := _, after := _, guard := none }) rfl (fun K hK => ?_) AllReadyH.nil
                have hA : fabC (x2, y2) = addC (fabC (mx, my)) (fabC z0') := by
                  have h5 := Hspec.out
                  rw [List.drop_zero, ← Hs1.out] at h5
                  rw [Hs2.out, h5]
                  unfold mulC fabC
                  rw [Hmx.out, Hmy.out]
                have hA1 : fab .f64 x2 = fA .add .f64 (fab .f64 mx) (fab .f64 z0'.1) := congrArg Prod.fst hA
                have hA2 : fab .f64 y2 = fA .add .f64 (fab .f64 my) (fab .f64 z0'.2) := congrArg Prod.snd hA
                have Hv := Lib.hid (show ∀ Wa Wb, (sameB x2 (fres Wa .add .f64 mx z0'.1) && sameB y2 (fres Wb .add .f64 my z0'.2)) = true from fun Wa Wb => by
                  rw [Bool.and_eq_true]
                  exact ⟨sameB_fab (by rw [hA1, fab_fres]), sameB_fab (by rw [hA2, fab_fres])⟩)
                clear hA hA1 hA2
                go_simp
                go_at_call 21
                refine (makeSameComplex_any _ _ _ _ _).mono ?_
                rintro e w14 ⟨rfl, rfl⟩
                rw [Hv.out]
                go_wp2_with fail
                refine hK.out _ _ ?_ (fun hHeld => ?_)
                · ((try dsimp only) ; refine Keep.out _ ?_ ; (repeat (first | with_reducible exact Nw.refl _ | with_reducible exact N13.out | with_reducible apply nwz_drew | with_reducible apply nwz_drewN)) ; done)
                clear hK K
                try simp only [Act.put, List.setIfInBounds_toArray, List.set_cons_zero, List.set_cons_succ]
                refine wpAnyH_take (i := 19) (oi := { dst := some 2, op := _, type := _, pos := _, after := _, guard := none }) (v := ?_) rfl (by kernel_rfl) (by kernel_rfl) (by kernel_rfl) (fun _ _ _ h => h) (_root_.Or.inl ⟨by rfl, ?_⟩) (by assumption) ?_
                rotate_left
                · intro w hSw
                  (try dsimp only at hSw)
                  go_simp
                  all_goals with_reducible rfl
                try simp only [Act.put, List.setIfInBounds_toArray, List.set_cons_zero, List.set_cons_succ]
                refine wpAnyH_done (by kernel_rfl) ?_ _
                go_wp2_with fail
                go_ret
                refine ⟨rfl, ?_⟩
                refine bel_nw Bel12.out ?_ (by have := Bel12.out.size; exact this)
                (repeat (first | with_reducible exact Nw.refl _ | with_reducible exact N13.out | with_reducible apply nwz_drew | with_reducible apply nwz_drewN))
              exact AllReadyH.nil
            exact AllReadyH.nil
          exact AllReadyH.nil
  · go_enter Try.func4, Try.ntmps4
    go_wp2
    go_ret
    exact ⟨rfl, Below.refl _ _⟩

/-! ### THE ROW's STEP: WRITTEN OUT: LEAVE IT -/
set_option maxRecDepth 100000 in
theorem lifted (os : Os) (started : os.Started) (H : Type) (enc : TypeId × Value → H) :
    ReturnsInHanded {} Try.checked os 4 .any (Rows.fnSpectrumSpec.pre6 enc Try.prog Try.f4 Rows.fnSpectrumRow.domain false) (Rows.fnSpectrumSpec.post enc Try.prog Try.f4 false true false false) := by
  refine returnsInHanded_of_change (C := Try.checked) own started (by kernel_rfl) Try.func4
    (ChangeSpec.witness6 (enc := enc) (C := Try.checked) false ⟨#[], #[.slice none 0 0], []⟩ 8 (by kernel_rfl) (by kernel_rfl) (by kernel_rfl) (by kernel_rfl)) ?_
  intro W base args ds gs before hval0 hW hcnd _
  have hval : ∀ (j : Nat) t v, Try.f4.params[j]? = some t → args[j]? = some v → Value.okWide Try.prog W .any base t v := hval0
  have hW' := hW
  obtain ⟨p, q, hA0, hV, rfl, hfz, hnd⟩ := hW
  have hA : DataW.TrodAll enc Try.prog W 0 (fun _ => true) true Try.f4.params.toList args.toList ds p := hA0
  rw [Try.params4] at hA hval
  obtain ⟨v0, vs0, d0, ds0, p0, q0, hargs, rfl, rfl, h0, r0⟩ := trodAll_cons hA
  obtain ⟨rfl, rfl, rfl⟩ := trodAll_nil r0
  obtain rfl : args = #[v0] := by cases args; simp_all
  obtain ⟨rfl, rfl⟩ := trodVars_none hV
  obtain ⟨a0, len0, cap0, rfl⟩ := okWide_slice Try.underlying22 (hval 0 22 v0 rfl rfl)
  have k0 := h0
  have lt0 : ∀ x ∈ p0, x.block < W.heap.size := by obtain ⟨m, hm⟩ := k0; exact DataW.trod_lt m _ _ _ hm
  obtain ⟨z0, w0⟩ : ∃ zs, IsRow .u8 W a0 len0 cap0 zs := by
    obtain ⟨fuel, hf⟩ := h0
    rcases open_ints Try.underlying22 Try.underlying5 (by kernel_rfl) hf with ⟨hcs, _⟩ | ⟨x, l, c, zs, hcs, _, hl, hm, hz, _, hcell, hwz⟩
    · simp [Value.cells] at hcs
      obtain ⟨rfl, rfl, rfl⟩ := hcs
      exact ⟨[], .inl ⟨rfl, rfl, rfl, rfl⟩⟩
    · simp [Value.cells] at hcs
      obtain ⟨rfl, rfl, rfl⟩ := hcs
      exact ⟨zs, .inr ⟨_, rfl, hl, hm, by simpa using hz, hcell, hwz⟩⟩
  clear hA0 hval0
  refine (walk a0 len0 cap0 z0 W w0).mono fun e W' ⟨he, bel⟩ => ?_
  subst he
  exact ⟨_, rfl, _, _, _, [], _, [], hW', trodAll_mk1 (shut_bool Try.underlying4 _), (trodAll_cons_mk (Below.trod laidOut (by kernel_rfl) (of_decide_eq_true (by kernel_rfl)) k0 bel lt0) trodAll_mk0), rfl, bel.frame _, fun h => by cases h⟩

theorem over : Rows.fnSpectrumRow.holds Try.pinned (OpenSpec.ofChange Rows.fnSpectrumSpec) :=
  OpenClaim.holds_of_wide 4 Try.f4 rfl rfl rfl rfl rfl rfl rfl ⟨rfl, rfl, rfl, rfl, rfl⟩ rfl rfl rfl rfl rfl (by kernel_rfl) Try.func4 (by kernel_rfl)
    (of_decide_eq_true (by kernel_rfl)) (by unfold Func.isWrapper; first | (rw [if_pos (by decide +kernel)]; kernel_rfl) | (rw [if_neg (by decide +kernel)]; exact ⟨rfl, rfl⟩))
    (fun os started H enc _ => lifted os started H enc)

/-- ████ THE STATEMENT ████ -/
theorem proved : Rows.FnSpectrumSaid := over
#print axioms proved
end Go.Proofs.Ytlhhcchncobmhaa.fnSpectrum
