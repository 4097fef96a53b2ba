/- The law FnLoudest, proved: no ear is louder than the loudest one, and none before it as loud.
   Conditions: none beyond the statement's own. -/
import Derived.Test.YtfgofmcpgfofaaaKFnLoudest5
import Derived.Test.YtfgofmcpgfofaaaRows
namespace Go.Proofs.Ytfgofmcpgfofaaa.fnLoudest
open Go.ChangeShapes Go.WideShapes Go.ChangeAt Go.RowKit
open Go.ChangeMaps (open_string shut_string)
set_option linter.unusedVariables false

theorem bys_step {w w1 : World} {a : Option Addr} {len : Nat} (h : Bys w.heap.size a len w) (hb : Nw w w1) : Bys w1.heap.size a len w1 :=
  (h.below ⟨hb.os, hb.tape, hb.output, hb.size, fun k hk => hb.block k hk (by simp)⟩).mono hb.size
theorem nw_of_below {w w1 : World} (h : Below w.heap.size w w1) : Nw w w1 := ⟨h.os, h.tape, h.output, h.size, fun k hk _ => h.block k hk⟩
theorem nw_below {w w' : World} (hb : Nw w w') : Below w.heap.size w w' := ⟨hb.os, hb.tape, hb.output, hb.size, fun k hk => hb.block k hk (by simp)⟩

theorem num_2 : Sm 1073741824 ∧ S 1073741824 = 2 := by
  have h : Ieee.single.read 1073741824 = .number false 8388608 (-22) := by decide
  refine ⟨⟨_, _, _, h⟩, ?_⟩
  rw [show S 1073741824 = _ from Flo.V_eq h]
  unfold Flo.val
  have := Flo.pw_neg_mul 22
  rw [show Flo.pw 22 = 4194304 from Flo.pw_nat 22] at this
  simp only [Bool.false_eq_true, if_false]
  have e2 : ((8388608 : Nat) : Rat) = 8388608 := rfl
  rw [e2]; grind
theorem two_60 : (2 : Rat) ≤ Flo.pw 60 := by
  have h1 : Flo.pw 7 ≤ Flo.pw 60 := Flo.pw_le (by omega)
  rw [show Flo.pw 7 = 128 from Flo.pw_nat 7] at h1
  grind
theorem samp_5 {x : Nat} (h : Samp 2 x) : Sm x ∧ Flo.Ab (S x) 5 := ⟨h.1, h.2.mono (by grind)⟩
theorem ge_iff {a b : Nat} (ha : Flo.Nm a) (hb : Flo.Nm b) (h : Flo.W a < Flo.W b) : (FloatKind.f64.format.order a b == some .eq) = false := by
  have o := Flo.order_num Ieee.double a b ha hb
  rw [show FloatKind.f64.format = Ieee.double from rfl, o.1.2 h]; rfl

def EarI (P : Nat) (w1 : World) (i : Value) (wr : World) : Prop := ∃ k : Nat, k ≤ P ∧ i = .int .i64 (k : Int) ∧ Nw w1 wr

set_option maxRecDepth 100000 in
set_option maxHeartbeats 12800000 in
theorem walk (a0 : Option Addr) (len0 cap0 : Nat) (z0 : List Int) (w : World) (w0 : IsRow .u8 w a0 len0 cap0 z0) :
    Calls Try.prog 10 #[.slice a0 len0 cap0] w fun e w' => e = .returned (.bool true) ∧ Below w.heap.size w w' := by
  by_cases hl : len0 ≤ 1048576
  · have Hb := Lib.hid (bys_of_row w0 (by omega))
    clear w0
    go_enter Try.func10, Try.ntmps10
    go_wp2_with fail
    refine (makeRoom_any a0 len0 cap0 3 (by omega) (by omega) _ Hb.out).mono ?_
    rintro e w1 ⟨ms, rows, mv, sv, rfl, hlen, hok, hrl, hwt, hown, hrs, n1⟩
    obtain ⟨q, hq⟩ : ∃ q, q = ms.length := ⟨_, rfl⟩
    obtain ⟨P, hP⟩ : ∃ P, P = rows.length := ⟨_, rfl⟩
    rw [← hq] at hown hlen hrs
    rw [← hP] at hrl
    obtain ⟨va, vc, rfl⟩ := own_shape' hown
    obtain ⟨sa, sc, rfl⟩ := hrs.shape
    rw [← hP] at hrs ⊢
    have N1 := Lib.hid (n1.alloc (.cells #[.slice va q vc, .slice sa P sc] 71 (0, 0)))
    have B1 := Lib.hid (Has2.new w1 71 (.slice va q vc) (.slice sa P sc))
    have R1 := Lib.hid (RoomV.nw (show RoomV ms rows q P w.heap.size w.heap.size (.slice va q vc) (.slice sa P sc) w1 from ⟨hq.symm, by omega, hP.symm, by omega, hok, hwt, hown, hrs⟩) ((Nw.refl w1).alloc (.cells #[.slice va q vc, .slice sa P sc] 71 (0, 0))))
    clear n1 hown hok hwt hrs hq hP
    go_wp2_with fail
    refine (fresh_any _ _ _ _ (by omega) (by omega) _ (bys_step Hb.out N1.out)).mono ?_
    rintro e w2 ⟨g2, l2, c2, rfl, -, -, hf2, bel2⟩
    have N2 := Lib.hid (N1.out.trans (nw_of_below bel2))
    have B2 := Lib.hid (B1.out.nw (nw_of_below bel2))
    have R2 := Lib.hid (R1.out.nw (nw_of_below bel2))
    have Hf2 := Lib.hid hf2
    clear hf2 bel2
    go_wp2_with fail
    refine (makeSmall_any _ _ _ 1073741824 2 num_2.1 (by rw [num_2.2]; exact ⟨by grind, by grind⟩) two_60 _ Hf2.out).mono ?_
    rintro e w4 ⟨xs, iv, rfl, hxs, hsam, own4, n4⟩
    obtain ⟨ia, ic, rfl⟩ := own_shape' own4
    obtain ⟨p, hp⟩ : ∃ p, p = xs.length := ⟨_, rfl⟩
    rw [← hp] at own4 hxs ⊢
    have Hp := Lib.hid hp.symm
    have X4 := Lib.hid own4
    have Hsam := Lib.hid (fun x hx => samp_5 (hsam x hx))
    have N4 := Lib.hid (N2.out.trans n4)
    have B4 := Lib.hid (B2.out.nw n4)
    have R4 := Lib.hid (R2.out.nw n4)
    clear own4 hsam n4 hp
    obtain ⟨z1, hz1, hat⟩ := at_fix a0 len0 cap0 1 hl (by omega) (w4.drewN 1) (bys_step Hb.out (N4.out.draw 1))
    rw [show (((1 : Nat) : Int)) = 1 from rfl] at hat
    have Hat := Lib.hid hat
    clear hat
    obtain ⟨b0, b1, b2, b3, b4⟩ := B4.out
    go_wp2_with fail
    have hne0 : ¬ ((P : Int) + 1 = 0) := by omega
    have hwr : IntKind.i64.wrap ((P : Int) + 1) = (P : Int) + 1 := IntWalk.i64_in _ (by omega)
    refine wp_region_still_tail 6 (by kernel_rfl) (by kernel_rfl) ?_
    simp only [List.take_succ_cons, List.take_zero, List.drop_succ_cons, List.drop_zero]
    still_step
    still_call Hat.out
    repeat still_step
    refine wpStill_nil ?_
    change wpList _ _ _ _ _ (w4.drewN 1)
    have N5 := Lib.hid (N4.out.draw 1)
    have B5 := Lib.hid (B4.out.draw 1)
    have R5 := Lib.hid (R4.out.nw ((Nw.refl w4).draw 1))
    have X5 := Lib.hid (own_nw X4.out ((Nw.refl w4).draw 1))
    clear b0 b1 b2 b3 b4 Hat
    generalize w4.drewN 1 = w5 at *
    obtain ⟨b0, b1, b2, b3, b4⟩ := B5.out
    go_wp2_with fail
    obtain ⟨s, hs⟩ : ∃ s, s = z1 % (P + 1) := ⟨_, rfl⟩
    have hsP : s ≤ P := by have := Nat.mod_lt z1 (show 0 < P + 1 by omega); omega
    rw [show (z1 : Int) % ((P : Int) + 1) = (s : Int) from by rw [hs]; push_cast; rfl]
    clear hs
    by_cases hsl : s < P
    · have hgs : ∀ j, j < P → RingOk (weighL ms (mulW (rows.getD s []) (rows.getD j []))) (inputOf xs) 20 ∧ ∀ x ∈ earS ms rows s 20 xs j, Sm x := by
        intro j hj
        have hmem : ∀ j, j < P → rows.getD j [] ∈ rows := fun j hj => by
          have hj' : j < rows.length := by have := R5.out.hP; omega
          rw [List.getD_eq_getElem?_getD, List.getElem?_eq_getElem hj']
          exact List.getElem_mem hj'
        have l1 := R5.out.rs.lens _ (hmem s hsl)
        have l2 := R5.out.rs.lens _ (hmem j hj)
        have hq := R5.out.hq
        exact ring_small16 _ (weighL_ok ms _ R5.out.ok (mulW_wt _ _ (R5.out.wt _ (hmem s hsl)) (R5.out.wt _ (hmem j hj)))) q 20 (by rw [weighL_len ms _ (by rw [mulW_len _ _ (l1.trans l2.symm), l1, hq]), hq]) (by omega) (by omega) xs (by rw [Hp.out]; omega) Hsam.out
      have Hgs := Lib.hid hgs
      have Hel := Lib.hid (fun j => show (earS ms rows s 20 xs j).length = 20 from by unfold earS ringS; simp)
      clear hgs
      have hsne : ¬ ((s : Int) = (P : Int)) := by omega
      have hr := loudestEar_ok ms rows q P _ _ s p 20 _ xs _ _ _ _ R5.out hsl Hp.out (by omega) (by omega) X5.out Hgs.out
      rw [show (((20 : Nat) : Int)) = 20 from rfl] at hr
      have Hr := Lib.hid hr
      clear hr
      refine Hr.out.mono ?_
      rintro e w6 ⟨bst, rfl, harg, n6⟩
      have Ha := Lib.hid harg
      have hbl : bst < P := harg.1
      have N6 := Lib.hid (N5.out.trans n6)
      have B6 := Lib.hid (B5.out.nw n6)
      have R6 := Lib.hid (R5.out.nw n6)
      have X6 := Lib.hid (own_nw X5.out n6)
      clear harg n6 b0 b1 b2 b3 b4
      obtain ⟨b0, b1, b2, b3, b4⟩ := B6.out
      go_wp2_with fail
      have hrs : rows[s]? = some (rows.getD s []) := by rw [List.getD_eq_getElem?_getD, List.getElem?_eq_getElem (by rw [R6.out.hP]; exact hsl)]; rfl
      have hrk : ∀ j, j < P → rows[j]? = some (rows.getD j []) := fun j hj => by rw [List.getD_eq_getElem?_getD, List.getElem?_eq_getElem (by rw [R6.out.hP]; exact hj)]; rfl
      have Hrk := Lib.hid (And.intro hrs hrk)
      clear hrs hrk
      have hr := ringRoom_ok ms rows q P _ _ s bst p 20 _ _ _ xs _ _ _ _ R6.out Hrk.out.1 (Hrk.out.2 bst hbl) Hp.out (by omega) (by omega) X6.out (Hgs.out bst hbl).1
      rw [show (((20 : Nat) : Int)) = 20 from rfl] at hr
      refine hr.mono ?_
      rintro e w7 ⟨gt, rfl, own7, n7⟩
      have T7 := Lib.hid (show w7.ownsRow w6.heap.size 49 1 (.slice (some ⟨gt, 0, none⟩) 20 20) 20 (cellsS (earS ms rows s 20 xs bst)) from own7)
      have N7 := Lib.hid (N6.out.trans n7)
      have B7 := Lib.hid (B6.out.nw n7)
      have R7 := Lib.hid (R6.out.nw n7)
      have X7 := Lib.hid (own_nw X6.out n7)
      clear own7 n7 b0 b1 b2 b3 b4 hr
      obtain ⟨b0, b1, b2, b3, b4⟩ := B7.out
      go_wp2_with fail
      go_loopw [67] (fun i wr => EarI P w7 i wr) (fun i _ => P - (intOf i).toNat)
      case atStart => exact ⟨0, by omega, rfl, Nw.refl _⟩
      case round =>
        obtain ⟨k, hk, rfl, hnw⟩ := hrel
        have Nr := Lib.hid hnw
        clear hnw b0 b1 b2 b3 b4
        have B8 := Lib.hid (B7.out.nw Nr.out)
        obtain ⟨b0, b1, b2, b3, b4⟩ := B8.out
        by_cases hlt : k < P
        · go_wp2_with fail
          have hr := ringRoom_ok ms rows q P _ _ s k p 20 _ _ _ xs _ _ _ _ (R7.out.nw Nr.out) Hrk.out.1 (Hrk.out.2 k hlt) Hp.out (by omega) (by omega) (own_nw X7.out Nr.out) (Hgs.out k hlt).1
          rw [show (((20 : Nat) : Int)) = 20 from rfl] at hr
          refine hr.mono ?_
          rintro e w9 ⟨gk, rfl, own9, n9⟩
          have T9 := Lib.hid (show w9.ownsRow wr.heap.size 49 1 (.slice (some ⟨gk, 0, none⟩) 20 20) 20 (cellsS (earS ms rows s 20 xs k)) from own9)
          have N9 := Lib.hid (Nr.out.trans n9)
          clear own9 n9 hr b0 b1 b2 b3 b4
          go_wp2_with fail
          refine (implEnergy_num (earS ms rows s 20 xs k) 20 _ _ (Hel.out k) (by omega) (Hgs.out k hlt).2 _ T9.out).mono ?_
          rintro e w10 ⟨rfl, n10⟩
          have N10 := Lib.hid n10
          clear n10
          go_wp2_with fail
          refine (implEnergy_num (earS ms rows s 20 xs bst) 20 _ _ (Hel.out bst) (by omega) (Hgs.out bst hbl).2 _ (own_nw T7.out (N9.out.trans N10.out))).mono ?_
          rintro e w11 ⟨rfl, n11⟩
          have N11 := Lib.hid (N10.out.trans n11)
          clear n11
          have m1 := (en_num (earS ms rows s 20 xs k) (by rw [Hel.out]; omega) (Hgs.out k hlt).2).2
          have m2 := (en_num (earS ms rows s 20 xs bst) (by rw [Hel.out]; omega) (Hgs.out bst hbl).2).2
          have hgt := gt_iff m1 m2
          rw [decide_eq_false (by have h : Flo.W (enN (earS ms rows s 20 xs k)) ≤ Flo.W (enN (earS ms rows s 20 xs bst)) := (Ha.out.2 k hlt).1; grind)] at hgt
          by_cases hkb : k < bst
          · have hge := ge_iff m1 m2 ((Ha.out.2 k hlt).2 hkb)
            clear m1 m2
            go_wp2_with fail
            refine (implEnergy_num (earS ms rows s 20 xs k) 20 _ _ (Hel.out k) (by omega) (Hgs.out k hlt).2 _ (own_nw T9.out N11.out)).mono ?_
            rintro e w12 ⟨rfl, n12⟩
            have N12 := Lib.hid (N11.out.trans n12)
            clear n12
            go_wp2_with fail
            refine (implEnergy_num (earS ms rows s 20 xs bst) 20 _ _ (Hel.out bst) (by omega) (Hgs.out bst hbl).2 _ (own_nw T7.out (N9.out.trans N12.out))).mono ?_
            rintro e w13 ⟨rfl, n13⟩
            have N13 := Lib.hid (N9.out.trans (N12.out.trans n13))
            clear n13
            go_wp2_with fail
            go_roundw
            case rel => exact ⟨k + 1, by omega, by rw [show ((k + 1 : Nat) : Int) = (k : Int) + 1 from by omega], N13.out⟩
            case measure => simp only [intOf]; omega
          · clear m1 m2
            have N13 := Lib.hid (N9.out.trans N11.out)
            go_wp2_with fail
            go_roundw
            case rel => exact ⟨k + 1, by omega, by rw [show ((k + 1 : Nat) : Int) = (k : Int) + 1 from by omega], N13.out⟩
            case measure => simp only [intOf]; omega
        · go_wp2_with fail
          go_ret
          exact ⟨rfl, nw_below (N7.out.trans Nr.out)⟩
    · obtain rfl : s = P := by omega
      have hr := loudestEar_no ms rows q _ _ s _ _ (.slice ia p ic) (.int .i64 20) _ R5.out
      refine hr.mono ?_
      rintro e w6 ⟨rfl, n6⟩
      have N6 := Lib.hid (N5.out.trans n6)
      have B6 := Lib.hid (B5.out.nw n6)
      have R6 := Lib.hid (R5.out.nw n6)
      clear n6 b0 b1 b2 b3 b4 hr
      obtain ⟨b0, b1, b2, b3, b4⟩ := B6.out
      go_wp2_with fail
      have hr := specLoudest_no ms rows q _ _ s _ _ (.slice ia p ic) (.int .i64 20) _ R6.out
      refine hr.mono ?_
      rintro e w7 ⟨rfl, n7⟩
      have N7 := Lib.hid (N6.out.trans n7)
      clear n7 hr
      go_wp2_with fail
      go_ret
      exact ⟨rfl, nw_below N7.out⟩
  · go_enter Try.func10, Try.ntmps10
    go_wp2
    go_ret
    exact ⟨rfl, Below.refl _ _⟩

/-! ### THE ROW's STEP: WRITTEN OUT: LEAVE IT -/
set_option maxRecDepth 100000 in
theorem lifted (os : Os) (started : os.Started) (H : Type) (enc : TypeId × Value → H) :
    ReturnsInHanded {} Try.checked os 10 .any (Rows.fnLoudestSpec.pre6 enc Try.prog Try.f10 Rows.fnLoudestRow.domain false) (Rows.fnLoudestSpec.post enc Try.prog Try.f10 false true false false) := by
  refine returnsInHanded_of_change (C := Try.checked) own started (by kernel_rfl) Try.func10
    (ChangeSpec.witness6 (enc := enc) (C := Try.checked) false ⟨#[], #[.slice none 0 0], []⟩ 8 (by kernel_rfl) (by kernel_rfl) (by kernel_rfl) (by kernel_rfl)) ?_
  intro W base args ds gs before hval0 hW hcnd _
  have hval : ∀ (j : Nat) t v, Try.f10.params[j]? = some t → args[j]? = some v → Value.okWide Try.prog W .any base t v := hval0
  have hW' := hW
  obtain ⟨p, q, hA0, hV, rfl, hfz, hnd⟩ := hW
  have hA : DataW.TrodAll enc Try.prog W 0 (fun _ => true) true Try.f10.params.toList args.toList ds p := hA0
  rw [Try.params10] at hA hval
  obtain ⟨v0, vs0, d0, ds0, p0, q0, hargs, rfl, rfl, h0, r0⟩ := trodAll_cons hA
  obtain ⟨rfl, rfl, rfl⟩ := trodAll_nil r0
  obtain rfl : args = #[v0] := by cases args; simp_all
  obtain ⟨rfl, rfl⟩ := trodVars_none hV
  obtain ⟨a0, len0, cap0, rfl⟩ := okWide_slice Try.underlying22 (hval 0 22 v0 rfl rfl)
  have k0 := h0
  have lt0 : ∀ x ∈ p0, x.block < W.heap.size := by obtain ⟨m, hm⟩ := k0; exact DataW.trod_lt m _ _ _ hm
  obtain ⟨z0, w0⟩ : ∃ zs, IsRow .u8 W a0 len0 cap0 zs := by
    obtain ⟨fuel, hf⟩ := h0
    rcases open_ints Try.underlying22 Try.underlying5 (by kernel_rfl) hf with ⟨hcs, _⟩ | ⟨x, l, c, zs, hcs, _, hl, hm, hz, _, hcell, hwz⟩
    · simp [Value.cells] at hcs
      obtain ⟨rfl, rfl, rfl⟩ := hcs
      exact ⟨[], .inl ⟨rfl, rfl, rfl, rfl⟩⟩
    · simp [Value.cells] at hcs
      obtain ⟨rfl, rfl, rfl⟩ := hcs
      exact ⟨zs, .inr ⟨_, rfl, hl, hm, by simpa using hz, hcell, hwz⟩⟩
  clear hA0 hval0
  refine (walk a0 len0 cap0 z0 W w0).mono fun e W' ⟨he, bel⟩ => ?_
  subst he
  exact ⟨_, rfl, _, _, _, [], _, [], hW', trodAll_mk1 (shut_bool Try.underlying4 _), (trodAll_cons_mk (Below.trod laidOut (by kernel_rfl) (of_decide_eq_true (by kernel_rfl)) k0 bel lt0) trodAll_mk0), rfl, bel.frame _, fun h => by cases h⟩

theorem over : Rows.fnLoudestRow.holds Try.pinned (OpenSpec.ofChange Rows.fnLoudestSpec) :=
  OpenClaim.holds_of_wide 10 Try.f10 rfl rfl rfl rfl rfl rfl rfl ⟨rfl, rfl, rfl, rfl, rfl⟩ rfl rfl rfl rfl rfl (by kernel_rfl) Try.func10 (by kernel_rfl)
    (of_decide_eq_true (by kernel_rfl)) (by unfold Func.isWrapper; first | (rw [if_pos (by decide +kernel)]; kernel_rfl) | (rw [if_neg (by decide +kernel)]; exact ⟨rfl, rfl⟩))
    (fun os started H enc _ => lifted os started H enc)

/-- ████ THE STATEMENT ████ -/
theorem proved : Rows.FnLoudestSaid := over
#print axioms proved
end Go.Proofs.Ytfgofmcpgfofaaa.fnLoudest

