/- The law FnLevels, proved: the peak of samples is as great as each and as one of them, the energy is at least its square and adds up, and crossings and pitch are as told.
   Conditions: none beyond the statement's own. -/
import Derived.Test.YtcodiiajmffdoaaLev
import Derived.Test.YtcodiiajmffdoaaPitch
import Derived.Test.YtcodiiajmffdoaaClone
import Derived.Test.YtcodiiajmffdoaaSmallN
import Derived.Test.YtcodiiajmffdoaaRow
import Derived.Test.YtcodiiajmffdoaaRows
namespace Go.Proofs.Ytcodiiajmffdoaa
open Go Go.RowKit
theorem pitch_num (xs : List Nat) (n : Nat) (hn : n ≤ 11) (h0 : n ≠ 0) : ∃ p r, floatBits .mul .f64 (floatOfInt .f64 (crN xs (n - 1) : Int)) 4652007308841189376 = some p ∧ floatBits .quo .f64 p (floatOfInt .f64 (n : Int)) = some r ∧ Flo.Nm r ∧ pitchA xs n 1000 = some r := by
  have hc := crN_le xs (n - 1)
  obtain ⟨a1, a2⟩ := Flo.int_double (crN xs (n - 1) : Int) (by omega)
  obtain ⟨b1, b2⟩ := Flo.int_double (n : Int) (by omega)
  obtain ⟨c1, c2⟩ := Flo.int_double 1000 (by omega)
  have e1000 : floatOfInt .f64 1000 = 4652007308841189376 := by decide
  rw [e1000] at c1 c2
  have k1 : (((crN xs (n - 1) : Nat) : Int) : Rat) ≤ 11 := Rat.intCast_le_intCast.2 (show ((crN xs (n - 1) : Nat) : Int) ≤ 11 by omega)
  have k0 : (0 : Rat) ≤ (((crN xs (n - 1) : Nat) : Int) : Rat) := Rat.intCast_le_intCast.2 (show (0 : Int) ≤ ((crN xs (n - 1) : Nat) : Int) by omega)
  have n1 : (1 : Rat) ≤ ((n : Int) : Rat) := Rat.intCast_le_intCast.2 (show (1 : Int) ≤ (n : Int) by omega)
  have p1023 : Flo.pw 20 < Flo.pw 1022 := Flo.pw_lt (by omega)
  have p22 : Flo.pw 1022 < Flo.pw 1023 := Flo.pw_lt (by omega)
  have p20 : Flo.pw 20 = 1048576 := Flo.pw_nat 20
  have u1 := Flo.u_le
  have u0 := Flo.u_pos
  have eu : Flo.et ≤ Flo.u := Flo.pw_le (by omega)
  have c3 : Flo.W 4652007308841189376 = 1000 := c2
  have hm : Flo.Ab (Flo.W (floatOfInt .f64 (crN xs (n - 1) : Int)) * Flo.W 4652007308841189376) 11000 := by
    rw [a2, c3]; unfold Flo.Ab; constructor <;> grind
  obtain ⟨p, q1, q2, q3⟩ := Flo.d_mul _ _ a1 c1 11000 hm (by grind)
  have hp : Flo.Ab (Flo.W p) 12000 := ((q3.add hm).eq (show Flo.W p - Flo.W (floatOfInt .f64 (crN xs (n - 1) : Int)) * Flo.W 4652007308841189376 + Flo.W (floatOfInt .f64 (crN xs (n - 1) : Int)) * Flo.W 4652007308841189376 = Flo.W p by grind)).mono (by grind)
  have hb : Flo.W (floatOfInt .f64 (n : Int)) ≠ 0 := by rw [b2]; grind
  have hq : Flo.W p / Flo.W (floatOfInt .f64 (n : Int)) * Flo.W (floatOfInt .f64 (n : Int)) = Flo.W p := by grind
  have hqa : Flo.Ab (Flo.W p / Flo.W (floatOfInt .f64 (n : Int))) 12000 := by
    refine Flo.Ab.div (y := Flo.W (floatOfInt .f64 (n : Int))) (D := 1) ?_ (by grind) (by rw [b2]; exact n1)
    rw [hq]; exact hp.mono (by grind)
  obtain ⟨r, r1, r2, r3⟩ := Flo.d_div p _ q2 b1 hb _ 12000 hq hqa (by grind)
  refine ⟨p, r, q1, r1, r2, ?_⟩
  unfold pitchA
  rw [if_neg h0, e1000, fab_num a1, fab_num c1, fab_num b1, fA_some, q1, fA_some, r1]
theorem num_100 : Sm 1120403456 ∧ S 1120403456 = 100 := by
  have h := Flo.int_single 100 (by omega)
  rw [show floatOfInt .f32 100 = 1120403456 from by decide] at h
  exact h
theorem own_cellS {w : World} {base n g cap : Nat} {xs : List Nat} (h : w.ownsRow base 25 1 (.slice (some ⟨g, 0, none⟩) n cap) n (cellsS xs)) (hn : xs.length = n) {j : Nat} {u : Value} (hj : (cellsS xs)[j]? = some u) :
    w.cell? ((⟨g, 0, none⟩ : Addr).add j) = some u := by
  have hj' : j < n := by
    have := (List.getElem?_eq_some_iff.1 hj).1
    simpa [cellsS, hn] using this
  have c1 := h.cellAt j (by omega)
  rw [hj] at c1
  rw [show (⟨g, 0, none⟩ : Addr).add j = ⟨g, j, none⟩ from by simp [Addr.add]; first | done | (intro h; omega)]
  exact c1
theorem cellsS_one (xs : List Nat) : ∀ u ∈ cellsS xs, u.oneCell' = true := by
  intro u hu
  obtain ⟨m, _, rfl⟩ := List.mem_map.1 hu
  rfl
theorem hundred_60 : (100 : Rat) ≤ Flo.pw 60 := by
  have e : Flo.pw 7 = 128 := Flo.pw_nat 7
  have l : Flo.pw 7 ≤ Flo.pw 60 := Flo.pw_le (by omega)
  grind
def LevI (xs : List Nat) (p n : Nat) (w : World) (m i : Value) (wr : World) : Prop :=
  ∃ k : Nat, k ≤ n ∧ i = .int .i64 (k : Int) ∧ m = .bool (metB xs p k) ∧ w = wr
theorem ge_of_W {a b : Nat} (ha : Flo.Nm a) (hb : Flo.Nm b) (h : Flo.W b ≤ Flo.W a) : (FloatKind.f64.format.order a b == some .gt || FloatKind.f64.format.order a b == some .eq) = true := by
  have o := Flo.order_num Ieee.double a b ha hb
  rw [show FloatKind.f64.format = Ieee.double from rfl, Bool.or_eq_true, beq_iff_eq, beq_iff_eq, o.2.2, o.2.1]
  show Flo.W b < Flo.W a ∨ Flo.W a = Flo.W b
  grind
theorem lev_below {w w' : World} (hb : Nw w w') : Below w.heap.size w w' := ⟨hb.os, hb.tape, hb.output, hb.size, fun k hk => hb.block k hk (by simp)⟩
theorem nw_grow2' {a w w1 : World} {row : Option Nat} (h : Nw a w) (hg : w.grownBy w1 row) (hr : ∀ q, row = some q → a.heap.size ≤ q) : Nw a w1 := h.grown hg hr
end Go.Proofs.Ytcodiiajmffdoaa
namespace Go.Proofs.Ytcodiiajmffdoaa.fnLevels
open Go.ChangeShapes Go.WideShapes Go.ChangeAt Go.RowKit
open Go.ChangeMaps (open_string shut_string)
set_option linter.unusedVariables false

set_option maxHeartbeats 4000000 in
set_option maxRecDepth 100000 in
theorem walk (a0 : Option Addr) (len0 cap0 : Nat) (z0 : List Int) (w : World) (w0 : IsRow .u8 w a0 len0 cap0 z0) :
    Calls Try.prog 3 #[.slice a0 len0 cap0] w fun e w' => e = .returned (.bool true) ∧ Below w.heap.size w w' := by
  by_cases hl : len0 ≤ 1048576
  · have Hb := Lib.hid (bys_of_row w0 (by omega))
    clear w0
    obtain ⟨f0, hf0, hfz0, hfz1, hfz2⟩ := info_parts info_f32
    go_enter Try.func3, Try.ntmps3
    go_wp2_with fail
    refine (makeSmall_ptr _ _ _ 1120403456 100 num_100.1 (by rw [num_100.2]; exact ⟨by grind, by grind⟩) hundred_60 _ Hb.out).mono ?_
    rintro e w1 ⟨xs, v, rfl, hx11, hxs, own1, n1, hptr⟩
    obtain ⟨n, hn⟩ : ∃ n, n = xs.length := ⟨_, rfl⟩
    rw [← hn] at hx11 own1
    obtain ⟨va, vc, rfl⟩ := own_shape' own1
    have Hn := Lib.hid hn.symm
    have Hx := Lib.hid (show ∀ x ∈ xs, Sm x from fun x hx => (hxs x hx).1)
    have Own1 := Lib.hid own1
    have N1 := Lib.hid n1
    clear hn hxs own1 n1
    go_wp2_with fail
    refine (implPeak_ok xs n _ _ Hn.out (by omega) (fun z hz hnan => by rw [sm_nn (Hx.out z hz)] at hnan; cases hnan) _ Own1.out).mono ?_
    rintro e w2 ⟨p, rfl, hp, n2⟩
    have Hp := Lib.hid hp
    have Own2 := Lib.hid (own_nw Own1.out n2)
    have N2 := Lib.hid (N1.out.trans n2)
    clear n2
    go_wp2_with fail
    refine (implEnergy_num xs n _ _ Hn.out (by omega) Hx.out _ Own2.out).mono ?_
    rintro e w3 ⟨rfl, n3⟩
    have Own3 := Lib.hid (own_nw Own2.out n3)
    have N3 := Lib.hid (N2.out.trans n3)
    clear n3
    obtain ⟨l1, l2, l3⟩ := peak_law xs p Hx.out hp
    have a1 := fcv_wide hp.nan.1
    have a2 := fcd_wide hp.nan.1
    have L := Lib.hid (And.intro l1 (And.intro l2 l3))
    clear hp l1 l2
    clear l3
    rcases Own3.out.2 with ⟨g1, g2⟩ | ⟨g, cap, cur, g1, hb, hg, hc, hmx, hs, ht⟩
    · exact absurd g1 hptr
    · cases g1
      clear hb hg hc hmx hs ht
      obtain ⟨B, hq⟩ : ∃ B, ((n : Int) == 0) = B := ⟨_, rfl⟩
      rcases Bool.eq_false_or_eq_true B with hB | hB
      all_goals
        go_wp2_with fail
        go_loopw [6, 30] (fun m i wr => LevI xs p n w3 m i wr) (fun _ i _ => n - (intOf i).toNat)
        case atStart =>
          refine ⟨0, by omega, rfl, ?_, rfl⟩
          unfold metB; rw [Hn.out]
          have hd : decide (n = 0) = B := by rw [← hq]; by_cases hz : n = 0 <;> simp [hz]
          first
            | (have h0 : n = 0 := by simpa using hd.trans hB
               rw [hd, hB, L.out.2.2 (by rw [Hn.out]; exact h0)]; rfl)
            | (rw [hd, hB]; rfl)
        case round =>
          obtain ⟨k, hk, rfl, rfl, rfl⟩ := hrel
          by_cases hlt : k < n
          · obtain ⟨x, hxk⟩ : ∃ x, xs[k]? = some x := ⟨xs[k]'(by rw [Hn.out]; exact hlt), List.getElem?_eq_getElem _⟩
            obtain ⟨g1, cap1, hv1, hcap1, hmax1, -, e1⟩ := own_sample Own3.out hxk Hn.out.symm
            cases hv1
            unfold maxLen at hmax1
            obtain ⟨c1, c2⟩ := L.out.1 x (List.mem_of_getElem? hxk)
            have hst := metB_step xs p k x hxk
            have Hst := Lib.hid hst
            clear hst hxk
            cases hm : metB xs p k with
            | true =>
              go_wp2_with fail
              all_goals
                go_roundw
                case rel => exact ⟨k + 1, by omega, by rw [show ((k + 1 : Nat) : Int) = (k : Int) + 1 from by omega], by rw [Hst.out, hm]; rfl, rfl⟩
                case measure => simp only [intOf]; omega
            | false =>
              cases hh1 : (FloatKind.f32.format.order x p == some .eq) with
              | true =>
                have hh : hitB p x = true := by unfold hitB; rw [hh1]; rfl
                have Hh := Lib.hid hh
                clear hh
                go_wp2_with fail
                all_goals
                  go_roundw
                  case rel => exact ⟨k + 1, by omega, by rw [show ((k + 1 : Nat) : Int) = (k : Int) + 1 from by omega], by rw [Hst.out, hm, Hh.out]; rfl, rfl⟩
                  case measure => simp only [intOf]; omega
              | false =>
                have hh : hitB p x = (FloatKind.f32.format.order (Op.negFloat .f32 x) p == some .eq) := by unfold hitB; rw [hh1]; rfl
                have Hh := Lib.hid hh
                clear hh
                go_wp2_with fail
                all_goals
                  go_roundw
                  case rel => exact ⟨k + 1, by omega, by rw [show ((k + 1 : Nat) : Int) = (k : Int) + 1 from by omega], by rw [Hst.out, hm, Hh.out]; rfl, rfl⟩
                  case measure => simp only [intOf]; omega
          · obtain rfl : k = n := by omega
            have hmet : metB xs p k = true := by have h := L.out.2.1; rwa [Hn.out] at h
            have Lit := Lib.hid (World.ownsRow_lit (base := w3.heap.size) (e := 25) (size := 1) w3 #[] 0 (Nat.le_refl _) (by decide) rfl)
            have Src := Lib.hid (own_nw Own3.out ((Nw.refl w3).alloc (.cells #[] 25 (0, 0))))
            go_wp2_with (at_builtin; refine wpList_append_own _ rfl _ _ 23 rfl w3.heap.size 25 f0 (.float .f32 0) 1 4 Try.underlying23 hf0 hfz0 hfz1 hfz2 rfl (by decide) _ _ _ rfl Lit.out ⟨g, 0, none⟩ k vc (cellsS xs) rfl (by simp [cellsS, Hn.out]) (fun j u hj => own_cellS Src.out Hn.out hj) (cellsS_one xs) (by unfold maxLen; omega) (by omega) (by simp) ?_)
            intro v4 w4 hown4 hgrow4 _
            have Row4 := Lib.hid (show w4.ownsRow w3.heap.size 25 1 v4 k (cellsS xs) from by simpa using hown4)
            have Gr4 := Lib.hid (nw_grow2' ((Nw.refl w3).alloc (.cells #[] 25 (0, 0))) hgrow4 (fun q hq => own_ge Lit.out q hq))
            obtain ⟨v4a, v4c, rfl⟩ := own_shape' Row4.out
            clear hown4 hgrow4
            go_wp2_with (at_builtin; refine wpList_append_own _ rfl _ _ 23 rfl w3.heap.size 25 f0 (.float .f32 0) 1 4 Try.underlying23 hf0 hfz0 hfz1 hfz2 rfl (by decide) _ _ _ rfl (Row4.out.alloc _) ⟨w4.heap.size, 0, none⟩ 1 1 [.float .f32 1077936128] rfl rfl ?c1 ?c2 ?c3 ?c4 ?c5 ?_)
            case c1 =>
              intro j u hj
              match j, hj with
              | 0, hj => simp at hj; subst hj; simp [Addr.add]
            case c2 => intro u hu; simp at hu; subst hu; rfl
            case c3 => unfold maxLen; omega
            case c4 => omega
            case c5 => have := Gr4.out.size; simp; omega
            intro v5 w5 hown5 hgrow5 _
            rw [show cellsS xs ++ [Value.float .f32 1077936128] = cellsS (xs ++ [1077936128]) from by simp [cellsS]] at hown5
            have Own5 := Lib.hid hown5
            have Gr5 := Lib.hid (nw_grow2' (Gr4.out.alloc (.cells #[.float .f32 1077936128] 25 (0, 0))) hgrow5 (fun q hq => own_ge Row4.out q hq))
            have Src5 := Lib.hid (own_nw Own3.out Gr5.out)
            have N5 := Lib.hid (N3.out.trans Gr5.out)
            clear hown5 hgrow5
            have hl1 : (xs ++ [1077936128]).length = k + 1 := by rw [List.length_append, Hn.out]; rfl
            go_wp2_with fail
            refine (implCross_ok xs k _ _ Hn.out (by omega) _ Src5.out).mono ?_
            rintro e w6 ⟨rfl, n6⟩
            have Src6 := Lib.hid (own_nw Src5.out n6)
            have Own6 := Lib.hid (own_nw Own5.out n6)
            have N6 := Lib.hid (N5.out.trans n6)
            clear n6
            go_wp2_with fail
            refine (implPitch_ok xs k _ _ 1000 Hn.out (by omega) _ Src6.out).mono ?_
            rintro e w7 ⟨s, rfl, hs, n7⟩
            have Own7 := Lib.hid (own_nw Own6.out n7)
            have N7 := Lib.hid (N6.out.trans n7)
            clear n7
            obtain ⟨r, q1, q2, q3⟩ := peak_sq xs p (by rw [Hn.out]; omega) Hx.out Hp.out
            have m1 : ∀ w, fres w .mul .f64 (wid p) (wid p) = r := fun w => by unfold fres; rw [q1]
            have m2 : fdr .mul .f64 (wid p) (wid p) = 0 := by unfold fdr; rw [q1]; rfl
            have m3 : (FloatKind.f64.format.order (enN xs) r == some .gt || FloatKind.f64.format.order (enN xs) r == some .eq) = true := ge_of_W (en_num xs (by rw [Hn.out]; omega) Hx.out).2 q2 q3
            obtain ⟨t1, t2⟩ := en_more xs (by rw [Hn.out]; omega) Hx.out
            have m4 : ∀ w, fres w .add .f64 (enN xs) 4621256167635550208 = enN (xs ++ [1077936128]) := fun w => by unfold fres; rw [t1]
            have m5 : fdr .add .f64 (enN xs) 4621256167635550208 = 0 := by unfold fdr; rw [t1]; rfl
            have T2 := Lib.hid t2
            clear q1 q2 q3 t1 t2
            have hx3 : ∀ x ∈ xs ++ [1077936128], Sm x := fun x h => by
              rcases List.mem_append.1 h with h | h
              · exact Hx.out x h
              · simp at h; subst h; exact ⟨false, 12582912, -22, by decide⟩
            have Hx3 := Lib.hid hx3
            clear hx3
            by_cases hBt : B = true
            · try (exfalso; rw [hB] at hBt; cases hBt; done)
              all_goals
                have hs0 : s = 0 := fab_eq (k := .f64) (hs.trans (by
                  have h0 : k = 0 := by
                    have := hq.trans hBt
                    simp at this
                    omega
                  unfold pitchA; rw [if_pos h0]; exact fab_some (by decide)))
                subst hs0
                have o0 : (FloatKind.f64.format.order 0 0 == some .eq) = true := by decide
                have cr0 : crN xs (k - 1) = 0 := by
                  have h0 : k = 0 := by
                    have := hq.trans hBt
                    simp at this
                    omega
                  rw [h0]; rfl
                clear hs
                go_wp2_with (go_at_call 17; refine (implEnergy_num (xs ++ [1077936128]) _ _ _ hl1 (by omega) Hx3.out _ Own7.out).mono ?_; rintro e w8 ⟨rfl, n8⟩; have t2 := T2.out; have N8 := Lib.hid (N7.out.trans n8); clear n8)
                all_goals
                  go_ret
                  exact ⟨by simp_all, lev_below N8.out⟩
            · try (exact absurd hB hBt)
              all_goals
                have hk0 : k ≠ 0 := by
                  have := hq.trans (by simpa using hBt : B = false)
                  simp at this
                  omega
                obtain ⟨pp, rr, u1, u2, u3, u4⟩ := pitch_num xs k (by omega) hk0
                have hs0 : s = rr := fab_eq (k := .f64) (hs.trans u4)
                subst hs0
                have v1 : ∀ w, fres w .mul .f64 (floatOfInt .f64 (crN xs (k - 1) : Int)) 4652007308841189376 = pp := fun w => by unfold fres; rw [u1]
                have v2 : fdr .mul .f64 (floatOfInt .f64 (crN xs (k - 1) : Int)) 4652007308841189376 = 0 := by unfold fdr; rw [u1]; rfl
                have v3 : ∀ w, fres w .quo .f64 pp (floatOfInt .f64 (k : Int)) = s := fun w => by unfold fres; rw [u2]
                have v4 : fdr .quo .f64 pp (floatOfInt .f64 (k : Int)) = 0 := by unfold fdr; rw [u2]; rfl
                have v5 : (FloatKind.f64.format.order s s == some .eq) = true := by rw [order_self]; obtain ⟨sg, m, pl, h⟩ := u3; rw [show FloatKind.f64.decode _ = _ from h]; rfl
                have hcr := crN_le xs (k - 1)
                have hkp : 0 < k := by omega
                have hc2 : crN xs (k - 1) < k := by omega
                clear u1 u2 u3 u4 hs hk0
                generalize crN xs (k - 1) = C at *
                rcases Nat.eq_zero_or_pos C with hC | hC
                all_goals
                  have w1 : C = 0 → ∀ w, fres w .mul .f64 (floatOfInt .f64 0) 4652007308841189376 = pp := fun h => by subst h; exact v1
                  have w2 : C = 0 → fdr .mul .f64 (floatOfInt .f64 0) 4652007308841189376 = 0 := fun h => by subst h; exact v2
                all_goals first | (have w1 := w1 hC; have w2 := w2 hC) | (clear w1 w2; have hCz : ((C : Int) == 0) = false := by simp; omega)
                all_goals
                  go_wp2_with (go_at_call 17; refine (implEnergy_num (xs ++ [1077936128]) _ _ _ hl1 (by omega) Hx3.out _ Own7.out).mono ?_; rintro e w8 ⟨rfl, n8⟩; have t2 := T2.out; have N8 := Lib.hid (N7.out.trans n8); clear n8)
                  all_goals
                    go_ret
                    exact ⟨by simp_all, lev_below N8.out⟩
  · clear w0
    go_enter Try.func3, Try.ntmps3
    go_wp2
    go_ret
    exact ⟨rfl, Below.refl _ _⟩

/-! ### THE ROW's STEP: WRITTEN OUT: LEAVE IT -/
set_option maxRecDepth 100000 in
theorem lifted (os : Os) (started : os.Started) (H : Type) (enc : TypeId × Value → H) :
    ReturnsInHanded {} Try.checked os 3 .any (Rows.fnLevelsSpec.pre6 enc Try.prog Try.f3 Rows.fnLevelsRow.domain false) (Rows.fnLevelsSpec.post enc Try.prog Try.f3 false true false false) := by
  refine returnsInHanded_of_change (C := Try.checked) own started (by kernel_rfl) Try.func3
    (ChangeSpec.witness6 (enc := enc) (C := Try.checked) false ⟨#[], #[.slice none 0 0], []⟩ 8 (by kernel_rfl) (by kernel_rfl) (by kernel_rfl) (by kernel_rfl)) ?_
  intro W base args ds gs before hval0 hW hcnd _
  have hval : ∀ (j : Nat) t v, Try.f3.params[j]? = some t → args[j]? = some v → Value.okWide Try.prog W .any base t v := hval0
  have hW' := hW
  obtain ⟨p, q, hA0, hV, rfl, hfz, hnd⟩ := hW
  have hA : DataW.TrodAll enc Try.prog W 0 (fun _ => true) true Try.f3.params.toList args.toList ds p := hA0
  rw [Try.params3] at hA hval
  obtain ⟨v0, vs0, d0, ds0, p0, q0, hargs, rfl, rfl, h0, r0⟩ := trodAll_cons hA
  obtain ⟨rfl, rfl, rfl⟩ := trodAll_nil r0
  obtain rfl : args = #[v0] := by cases args; simp_all
  obtain ⟨rfl, rfl⟩ := trodVars_none hV
  obtain ⟨a0, len0, cap0, rfl⟩ := okWide_slice Try.underlying22 (hval 0 22 v0 rfl rfl)
  have k0 := h0
  have lt0 : ∀ x ∈ p0, x.block < W.heap.size := by obtain ⟨m, hm⟩ := k0; exact DataW.trod_lt m _ _ _ hm
  obtain ⟨z0, w0⟩ : ∃ zs, IsRow .u8 W a0 len0 cap0 zs := by
    obtain ⟨fuel, hf⟩ := h0
    rcases open_ints Try.underlying22 Try.underlying5 (by kernel_rfl) hf with ⟨hcs, _⟩ | ⟨x, l, c, zs, hcs, _, hl, hm, hz, _, hcell, hwz⟩
    · simp [Value.cells] at hcs
      obtain ⟨rfl, rfl, rfl⟩ := hcs
      exact ⟨[], .inl ⟨rfl, rfl, rfl, rfl⟩⟩
    · simp [Value.cells] at hcs
      obtain ⟨rfl, rfl, rfl⟩ := hcs
      exact ⟨zs, .inr ⟨_, rfl, hl, hm, by simpa using hz, hcell, hwz⟩⟩
  clear hA0 hval0
  refine (walk a0 len0 cap0 z0 W w0).mono fun e W' ⟨he, bel⟩ => ?_
  subst he
  exact ⟨_, rfl, _, _, _, [], _, [], hW', trodAll_mk1 (shut_bool Try.underlying4 _), (trodAll_cons_mk (Below.trod laidOut (by kernel_rfl) (of_decide_eq_true (by kernel_rfl)) k0 bel lt0) trodAll_mk0), rfl, bel.frame _, fun h => by cases h⟩

theorem over : Rows.fnLevelsRow.holds Try.pinned (OpenSpec.ofChange Rows.fnLevelsSpec) :=
  OpenClaim.holds_of_wide 3 Try.f3 rfl rfl rfl rfl rfl rfl rfl ⟨rfl, rfl, rfl, rfl, rfl⟩ rfl rfl rfl rfl rfl (by kernel_rfl) Try.func3 (by kernel_rfl)
    (of_decide_eq_true (by kernel_rfl)) (by unfold Func.isWrapper; first | (rw [if_pos (by decide +kernel)]; kernel_rfl) | (rw [if_neg (by decide +kernel)]; exact ⟨rfl, rfl⟩))
    (fun os started H enc _ => lifted os started H enc)

/-- ████ THE STATEMENT ████ -/
theorem proved : Rows.FnLevelsSaid := over
#print axioms proved
end Go.Proofs.Ytcodiiajmffdoaa.fnLevels

