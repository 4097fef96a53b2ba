/- The law FnReciprocal, proved: a room answers the same when source and ear are exchanged; at a place where all weights are 1, what is listened to is what rings there; a door that is shut leaves a room as it was, in equal numbers.
   Conditions: none beyond the statement's own. -/
import Derived.Test.YtlhhcchncobmhaaKFnReciprocal5
import Derived.Test.YtlhhcchncobmhaaRows
namespace Go.Proofs.Ytlhhcchncobmhaa.fnReciprocal
set_option linter.unusedSimpArgs false
set_option linter.unusedVariables false
open Go.ChangeShapes Go.WideShapes Go.ChangeAt Go.RowKit
open Go.ChangeMaps (open_string shut_string)
set_option linter.unusedVariables false

theorem bys_step {w w1 : World} {a : Option Addr} {len : Nat} (h : Bys w.heap.size a len w) (hb : Nw w w1) : Bys w1.heap.size a len w1 :=
  (h.below ⟨hb.os, hb.tape, hb.output, hb.size, fun k hk => hb.block k hk (by simp)⟩).mono hb.size
theorem nw_of_below {w w1 : World} (h : Below w.heap.size w w1) : Nw w w1 := ⟨h.os, h.tape, h.output, h.size, fun k hk _ => h.block k hk⟩
theorem nw_below {w w' : World} (hb : Nw w w') : Below w.heap.size w w' := ⟨hb.os, hb.tape, hb.output, hb.size, fun k hk => hb.block k hk (by simp)⟩

theorem num_2 : Sm 1073741824 ∧ S 1073741824 = 2 := by
  have h : Ieee.single.read 1073741824 = .number false 8388608 (-22) := by decide
  refine ⟨⟨_, _, _, h⟩, ?_⟩
  rw [show S 1073741824 = _ from Flo.V_eq h]
  unfold Flo.val
  have := Flo.pw_neg_mul 22
  rw [show Flo.pw 22 = 4194304 from Flo.pw_nat 22] at this
  simp only [Bool.false_eq_true, if_false]
  have e2 : ((8388608 : Nat) : Rat) = 8388608 := rfl
  rw [e2]; grind
theorem two_60 : (2 : Rat) ≤ Flo.pw 60 := by
  have h1 : Flo.pw 7 ≤ Flo.pw 60 := Flo.pw_le (by omega)
  rw [show Flo.pw 7 = 128 from Flo.pw_nat 7] at h1
  grind
theorem samp_5 {x : Nat} (h : Samp 2 x) : Sm x ∧ Flo.Ab (S x) 5 := ⟨h.1, h.2.mono (by grind)⟩

def OnesI (q : Nat) (w1 : World) (v i : Value) (wr : World) : Prop :=
  ∃ k : Nat, k ≤ q ∧ i = .int .i64 (k : Int) ∧ wr.ownsRow w1.heap.size 31 1 v k (cellsS (List.replicate k 1065353216)) ∧ Nw w1 wr
def EarsI (l : Nat) (w1 : World) (v i : Value) (wr : World) : Prop :=
  ∃ k : Nat, k ≤ 25 ∧ i = .int .i64 (k : Int) ∧ wr.ownsRow w1.heap.size 3 1 v k (List.replicate k (.int .i64 (l : Int))) ∧ Nw w1 wr
theorem info_int : (Try.prog.info? 3).map (fun i => (i.zero, i.size, i.bytes)) = some (some (.int .i64 0), 1, 8) := by kernel_rfl
theorem len_u {q : Nat} {xs : List Nat} (h : xs.length = q) : xs.length = q := h

theorem letter {G : World → Prop} (W : World) (h : ∀ W', W' = W → G W') : G W := h W rfl
theorem sN {a w W' : World} {o : Obj} (hW : W' = w.alloc o) (h : Nw a w) : Nw a W' := hW ▸ nw_alloc h
theorem sO {w W' : World} {o : Obj} {b : Nat} {E : TypeId} {size n : Nat} {v : Value} {xs : List Value} (hW : W' = w.alloc o) (h : w.ownsRow b E size v n xs) : W'.ownsRow b E size v n xs := hW ▸ own_alloc h
theorem sZ {w W' : World} {o : Obj} {m : Nat} (hW : W' = w.alloc o) (h : m ≤ w.heap.size) : m ≤ W'.heap.size := by rw [hW]; simp; omega
theorem sL {w W' : World} {o : Obj} {p : Addr} {v : Value} (hW : W' = w.alloc o) (h : w.cell? p = some v) : W'.cell? p = some v := hW ▸ Lib.cell?_alloc_some _ h
theorem sX {w W' : World} {o : Obj} {D : Nat} (hW : W' = w.alloc o) (h : TB w D) : TB W' D := hW ▸ tb_alloc h
theorem sR {w W' : World} {o : Obj} {base q : Nat} {sv : Value} {rows : List (List Nat)} (hW : W' = w.alloc o) (h : RowsR w base q sv rows) : RowsR W' base q sv rows := hW ▸ h.alloc o
theorem sLnew {w W' : World} {T : TypeId} {v : Value} (hW : W' = w.alloc (.cells #[v] T (0, 0))) : W'.cell? ⟨w.heap.size, 0, none⟩ = some v := by rw [hW]; go_simp
theorem sLt {w W' : World} {o : Obj} (hW : W' = w.alloc o) : w.heap.size + 1 ≤ W'.heap.size := by rw [hW]; simp
theorem sXnew {w W' : World} (hW : W' = w.alloc (.cells #[.slice none 0 0, .slice none 0 0] 26 (0, 0))) : TB W' w.heap.size := hW ▸ tb_new w _ rfl
theorem room_fin {wr W : World} {D base k P : Nat} {va fa : Option Addr} {vc fc : Nat} {R : List (List Nat)} (hX : TB W D) (hR : RowsR W base k (.slice fa (P + 1) fc) R) (hN : Nw wr W) (hle : wr.heap.size ≤ D) :
    ∃ (D' : Nat) (fa' : Option Addr) (fc' : Nat), Value.pointer (some ⟨D, 0, none⟩) = .pointer (some ⟨D', 0, none⟩) ∧ Has2 ((W.setCell ⟨D, 0, none⟩ (.slice va k vc)).setCell ⟨D, 1, none⟩ (.slice fa (P + 1) fc)) D' (.slice va k vc) (.slice fa' (P + 1) fc') ∧
      RowsR ((W.setCell ⟨D, 0, none⟩ (.slice va k vc)).setCell ⟨D, 1, none⟩ (.slice fa (P + 1) fc)) base k (.slice fa' (P + 1) fc') R ∧ Nw wr ((W.setCell ⟨D, 0, none⟩ (.slice va k vc)).setCell ⟨D, 1, none⟩ (.slice fa (P + 1) fc)) :=
  ⟨D, fa, fc, rfl, (hX.has2.set0 _).set1 _, (hR.setne hX.ty _).setne (hX.ty.set _) _, (hN.set (p := ⟨D, 0, none⟩) hle _).set (p := ⟨D, 1, none⟩) hle _⟩

set_option maxRecDepth 100000 in
set_option maxHeartbeats 20000000 in
theorem walk (a0 : Option Addr) (len0 cap0 : Nat) (z0 : List Int) (w : World) (w0 : IsRow .u8 w a0 len0 cap0 z0) :
    Calls Try.prog 3 #[.slice a0 len0 cap0] w fun e w' => e = .returned (.bool true) ∧ Below w.heap.size w w' := by
  by_cases hl : len0 ≤ 1048576
  · have Hb := Lib.hid (bys_of_row w0 (by omega))
    clear w0
    go_enter Try.func3, Try.ntmps3
    go_wp2_with fail
    refine (makeRoom_any a0 len0 cap0 4 (by omega) (by omega) _ Hb.out).mono ?_
    rintro e w1 ⟨ms, rows, mv, sv, rfl, hlen, hok, hrl, hwt, hown, hrs, n1⟩
    obtain ⟨q, hq⟩ : ∃ q, q = ms.length := ⟨_, rfl⟩
    obtain ⟨P, hP⟩ : ∃ P, P = rows.length := ⟨_, rfl⟩
    rw [← hq] at hown hlen hrs
    rw [← hP] at hrl
    obtain ⟨va, vc, rfl⟩ := own_shape' hown
    obtain ⟨sa, sc, rfl⟩ := hrs.shape
    rw [← hP] at hrs ⊢
    have N1 := Lib.hid (n1.alloc (.cells #[.slice va q vc, .slice sa P sc] 26 (0, 0)))
    have B1 := Lib.hid (Has2.new w1 26 (.slice va q vc) (.slice sa P sc))
    have R1 := Lib.hid (RoomV.nw (show RoomV ms rows q P w.heap.size w.heap.size (.slice va q vc) (.slice sa P sc) w1 from ⟨hq.symm, by omega, hP.symm, by omega, hok, hwt, hown, hrs⟩) ((Nw.refl w1).alloc (.cells #[.slice va q vc, .slice sa P sc] 26 (0, 0))))
    clear n1 hown hok hwt hrs hq hP
    go_wp2_with fail
    refine (fresh_any _ _ _ _ (by omega) (by omega) _ (bys_step Hb.out N1.out)).mono ?_
    rintro e w2 ⟨g2, l2, c2, rfl, -, -, hf2, bel2⟩
    have N2 := Lib.hid (N1.out.trans (nw_of_below bel2))
    have B2 := Lib.hid (B1.out.nw (nw_of_below bel2))
    have R2 := Lib.hid (R1.out.nw (nw_of_below bel2))
    have Hf2 := Lib.hid hf2
    clear hf2 bel2
    go_wp2_with fail
    refine (makeSmall_any _ _ _ 1073741824 2 num_2.1 (by rw [num_2.2]; exact ⟨by grind, by grind⟩) two_60 _ Hf2.out).mono ?_
    rintro e w4 ⟨xs, iv, rfl, hxs, hsam, own4, n4⟩
    obtain ⟨ia, ic, rfl⟩ := own_shape' own4
    obtain ⟨p, hp⟩ : ∃ p, p = xs.length := ⟨_, rfl⟩
    rw [← hp] at own4 hxs ⊢
    have Hp := Lib.hid hp.symm
    have X4 := Lib.hid own4
    have Hsam := Lib.hid (fun x hx => samp_5 (hsam x hx))
    have N4 := Lib.hid (N2.out.trans n4)
    have B4 := Lib.hid (B2.out.nw n4)
    have R4 := Lib.hid (R2.out.nw n4)
    clear own4 hsam n4 hp
    obtain ⟨b0, b1, b2, b3, b4⟩ := B4.out
    by_cases hP0 : P = 0
    · subst hP0
      go_wp2_with fail
      go_ret
      exact ⟨rfl, nw_below N4.out⟩
    · have hPi : ¬ ((P : Int) = 0) := by omega
      have hPb : ((P : Int) == 0) = false := by simp; omega
      obtain ⟨z1, hz1, hat⟩ := at_fix a0 len0 cap0 1 hl (by omega) (w4.drewN 1) (bys_step Hb.out (N4.out.draw 1))
      rw [show (((1 : Nat) : Int)) = 1 from rfl] at hat
      have Hat := Lib.hid hat
      clear hat
      go_wp2_with fail
      refine wp_region_still_tail 5 (by kernel_rfl) (by kernel_rfl) ?_
      simp only [List.take_succ_cons, List.take_zero, List.drop_succ_cons, List.drop_zero]
      still_step
      still_call Hat.out
      repeat still_step
      refine wpStill_nil ?_
      change wpList _ _ _ _ _ (w4.drewN 1)
      have N5 := Lib.hid (N4.out.draw 1)
      have B5 := Lib.hid (B4.out.draw 1)
      have R5 := Lib.hid (R4.out.nw ((Nw.refl w4).draw 1))
      have X5 := Lib.hid (own_nw X4.out ((Nw.refl w4).draw 1))
      clear b0 b1 b2 b3 b4 Hat
      generalize w4.drewN 1 = w5 at *
      obtain ⟨b0, b1, b2, b3, b4⟩ := B5.out
      obtain ⟨z2, hz2, hat⟩ := at_fix a0 len0 cap0 2 hl (by omega) (w5.drewN 1) (bys_step Hb.out (N5.out.draw 1))
      rw [show (((2 : Nat) : Int)) = 2 from rfl] at hat
      have Hat := Lib.hid hat
      clear hat
      obtain ⟨s, hs⟩ : ∃ s, s = z1 % P := ⟨_, rfl⟩
      have hsP : s < P := by rw [hs]; exact Nat.mod_lt z1 (by omega)
      have hsi : (z1 : Int) % (P : Int) = (s : Int) := by rw [hs]; push_cast; rfl
      have Hs := Lib.hid hs
      clear hs
      go_wp2_with fail
      refine wp_region_still_tail 5 (by kernel_rfl) (by kernel_rfl) ?_
      simp only [List.take_succ_cons, List.take_zero, List.drop_succ_cons, List.drop_zero]
      still_step
      still_call Hat.out
      repeat still_step
      refine wpStill_nil ?_
      change wpList _ _ _ _ _ (w5.drewN 1)
      have N6 := Lib.hid (N5.out.draw 1)
      have B6 := Lib.hid (B5.out.draw 1)
      have R6 := Lib.hid (R5.out.nw ((Nw.refl w5).draw 1))
      have X6 := Lib.hid (own_nw X5.out ((Nw.refl w5).draw 1))
      clear b0 b1 b2 b3 b4 Hat
      generalize w5.drewN 1 = w6 at *
      obtain ⟨b0, b1, b2, b3, b4⟩ := B6.out
      obtain ⟨t, ht⟩ : ∃ t, t = z2 % P := ⟨_, rfl⟩
      have htP : t < P := by rw [ht]; exact Nat.mod_lt z2 (by omega)
      have hti : (z2 : Int) % (P : Int) = (t : Int) := by rw [ht]; push_cast; rfl
      have Ht := Lib.hid ht
      clear ht
      go_wp2_with fail
      rw [hti]
      obtain ⟨rs, hrs⟩ : ∃ rs, rows[s]? = some rs := ⟨rows[s]'(by rw [R6.out.hP]; exact hsP), List.getElem?_eq_getElem _⟩
      obtain ⟨re, hre⟩ : ∃ re, rows[t]? = some re := ⟨rows[t]'(by rw [R6.out.hP]; exact htP), List.getElem?_eq_getElem _⟩
      have lrs := R6.out.rs.lens rs (List.mem_of_getElem? hrs)
      have lre := R6.out.rs.lens re (List.mem_of_getElem? hre)
      have wrs := R6.out.wt rs (List.mem_of_getElem? hrs)
      have wre := R6.out.wt re (List.mem_of_getElem? hre)
      have hwl : (weighL ms (mulW rs re)).length = q := by rw [weighL_len ms _ (by rw [mulW_len _ _ (lrs.trans lre.symm), lrs, R6.out.hq]), R6.out.hq]
      have G1 := Lib.hid (ring_small16 _ (weighL_ok ms _ R6.out.ok (mulW_wt rs re wrs wre)) q 25 hwl (by omega) (by omega) xs (by rw [Hp.out]; omega) Hsam.out)
      have Hrs := Lib.hid (And.intro hrs (And.intro hre (And.intro lrs (And.intro lre (And.intro wrs wre)))))
      have hx := ringRoom_ok ms rows q P _ _ s t p 25 _ rs re xs _ _ _ _ R6.out hrs hre Hp.out (by omega) (by omega) X6.out G1.out.1
      rw [show (((25 : Nat) : Int)) = 25 from rfl] at hx
      have Hx := Lib.hid hx
      clear hx hrs hre lrs lre wrs wre hwl
      refine Hx.out.mono ?_
      rintro e w7 ⟨gx, rfl, own7, n7⟩
      have Z7 := Lib.hid own7
      have N7 := Lib.hid (N6.out.trans n7)
      have B7 := Lib.hid (B6.out.nw n7)
      have R7 := Lib.hid (R6.out.nw n7)
      have X7 := Lib.hid (own_nw X6.out n7)
      clear own7 n7 b0 b1 b2 b3 b4 Hx
      obtain ⟨b0, b1, b2, b3, b4⟩ := B7.out
      have hx := ringRoom_ok ms rows q P _ _ t s p 25 _ re rs xs _ _ _ _ R7.out Hrs.out.2.1 Hrs.out.1 Hp.out (by omega) (by omega) X7.out (by rw [mulW_comm re rs]; exact G1.out.1)
      rw [show (((25 : Nat) : Int)) = 25 from rfl, mulW_comm re rs] at hx
      have Hx := Lib.hid hx
      clear hx
      go_wp2_with fail
      refine Hx.out.mono ?_
      rintro e w8 ⟨gy, rfl, own8, n8⟩
      have Y8 := Lib.hid own8
      have Z8 := Lib.hid (own_nw Z7.out n8)
      have N8 := Lib.hid (N7.out.trans n8)
      have B8 := Lib.hid (B7.out.nw n8)
      have R8 := Lib.hid (R7.out.nw n8)
      have X8 := Lib.hid (own_nw X7.out n8)
      clear own8 n8 b0 b1 b2 b3 b4 Hx
      have Hlx := Lib.hid (ring_len' (weighL ms (mulW rs re)) (inputOf xs) 25)
      go_wp2_with fail
      refine (same_eq (ringS (weighL ms (mulW rs re)) (inputOf xs) 25) (ringS (weighL ms (mulW rs re)) (inputOf xs) 25) 25 _ _ _ _ Hlx.out Hlx.out (by omega) _ Z8.out Y8.out G1.out.2 G1.out.2 (same_self' _)).mono ?_
      rintro e w9 ⟨rfl, n9⟩
      have Z9 := Lib.hid (own_nw Z8.out n9)
      have N9 := Lib.hid (N8.out.trans n9)
      have B9 := Lib.hid (B8.out.nw n9)
      have R9 := Lib.hid (R8.out.nw n9)
      have X9 := Lib.hid (own_nw X8.out n9)
      clear n9
      obtain ⟨b0, b1, b2, b3, b4⟩ := B9.out
      obtain ⟨f0, hf, hfz0, hfz1, hfz2⟩ := info_parts info_f32
      have A9 := Lib.hid (World.ownsRow_lit (base := w9.heap.size) (e := 31) (size := 1) w9 #[] 0 (Nat.le_refl _) (by decide) rfl)
      go_wp2_with fail
      go_loopw [11, 78] (fun v i wr => OnesI q w9 v i wr) (fun _ i _ => q - (intOf i).toNat)
      case atStart => exact ⟨0, by omega, rfl, A9.out, (Nw.refl _).alloc _⟩
      case round =>
        obtain ⟨k, hk, rfl, hown, hnw⟩ := hrel
        obtain ⟨oa, oc, rfl⟩ := own_shape' hown
        have Or := Lib.hid hown
        have Nr := Lib.hid hnw
        clear hown hnw b0 b1 b2 b3 b4
        have Br := Lib.hid (B9.out.nw Nr.out)
        obtain ⟨b0, b1, b2, b3, b4⟩ := Br.out
        by_cases hlt : k < q
        · have hsz := Nr.out.size
          go_wp2_with (at_builtin; refine wpList_append_own _ rfl _ _ 28 rfl w9.heap.size 31 f0 (.float .f32 0) 1 4 Try.underlying28 hf hfz0 hfz1 hfz2 rfl (by decide) _ _ _ rfl (Or.out.alloc _) ⟨wr.heap.size, 0, none⟩ 1 1 [.float .f32 1065353216] rfl rfl ?c1 ?c2 ?c3 ?c4 ?c5 ?_)
          case c1 =>
            intro j u hj
            match j, hj with
            | 0, hj => simp at hj; subst hj; simp [Addr.add]
          case c2 => intro u hu; simp at hu; subst hu; rfl
          case c3 => unfold maxLen; omega
          case c4 => omega
          case c5 => simp; omega
          · intro v' w10 hown10 hgrow _
            have Nr2 := Lib.hid ((Nr.out.alloc _).grown hgrow (fun q' hq' => own_ge Or.out q' hq'))
            rw [show cellsS (List.replicate k 1065353216) ++ [Value.float .f32 1065353216] = cellsS (List.replicate (k + 1) 1065353216) from by rw [List.replicate_succ']; simp [cellsS]] at hown10
            have Or2 := Lib.hid hown10
            clear hown10 hgrow
            go_wp2_with fail
            go_roundw
            case rel => exact ⟨k + 1, by omega, by rw [show ((k + 1 : Nat) : Int) = (k : Int) + 1 from by omega], Or2.out, Nr2.out⟩
            case measure => simp only [intOf]; omega
        · have hkq : k = q := by omega
          subst hkq
          go_upto_region 18 with fail
          go_cut [12] (fun pv wx => ∃ (D : Nat) (fa : Option Addr) (fc : Nat), pv = .pointer (some ⟨D, 0, none⟩) ∧ Has2 wx D (.slice va k vc) (.slice fa (P + 1) fc) ∧ RowsR wx w.heap.size k (.slice fa (P + 1) fc) (rows ++ [List.replicate k 1065353216]) ∧ Nw wr wx)
          case first =>
            obtain ⟨vs, ho, hin⟩ := (R9.out.nw Nr.out).rs
            have hPl := R9.out.hP
            have hszr := N9.out.size
            have hszr2 := Nr.out.size
            rw [hPl] at ho
            have Ho := Lib.hid (And.intro ho hin)
            have Hon := Lib.hid (RowsR.ones (by rw [hPl]; exact ho) hin)
            clear ho hin
            have hP0' : 0 < P := by omega
            have hP48 : P ≤ 1048576 := by omega
            have hlr : (List.replicate k 1065353216).length = k := by simp
            have Hh := Lib.hid (show wr.cell? ⟨w1.heap.size, 0, none⟩ = some (.slice va k vc) ∧ wr.cell? ⟨w1.heap.size, 1, none⟩ = some (.slice sa P sc) ∧ w1.heap.size < wr.heap.size from ⟨b1, b2, b0⟩)
            have hrow : k ≤ 4 := hlen
            have Keep := Lib.hid (show ∀ W, Nw wr W → W.cell? ⟨w1.heap.size, 0, none⟩ = some (.slice va k vc) ∧ W.cell? ⟨w1.heap.size, 1, none⟩ = some (.slice sa P sc) from fun W h => ⟨(h.cell (p := ⟨w1.heap.size, 0, none⟩) Hh.out.2.2).trans Hh.out.1, (h.cell (p := ⟨w1.heap.size, 1, none⟩) Hh.out.2.2).trans Hh.out.2.1⟩)
            refine wp_region_held_drew (S := fun w' => w'.cell? ⟨w1.heap.size, 0, none⟩ = some (.slice va k vc) ∧ w'.cell? ⟨w1.heap.size, 1, none⟩ = some (.slice sa P sc)) (by kernel_rfl) ?_ (fun hHeld => ?_)
            · exact Keep.out _ (nw_drew (Nw.refl _))
            refine wpAnyH_take (i := 0) (oi := _) (v := ?_) rfl (by kernel_rfl) (by kernel_rfl) (by kernel_rfl) (fun _ _ _ h => h) (_root_.Or.inl ⟨by rfl, ?_⟩) (by assumption) ?_
            rotate_left
            · intro w hSw
              (try dsimp only at hSw)
              go_simp
              all_goals with_reducible rfl
            try simp only [Act.put, List.setIfInBounds_toArray, List.set_cons_zero, List.set_cons_succ]
            refine wpAnyH_take (i := 1) (oi := _) (v := ?_) rfl (by kernel_rfl) (by kernel_rfl) (by kernel_rfl) (fun _ _ _ h => h) (_root_.Or.inl ⟨by rfl, ?_⟩) (by assumption) ?_
            rotate_left
            · intro w hSw
              (try dsimp only at hSw)
              go_simp
              all_goals with_reducible rfl
            try simp only [Act.put, List.setIfInBounds_toArray, List.set_cons_zero, List.set_cons_succ]
            refine wpAnyH_take (i := 3) (oi := _) (v := ?_) rfl (by kernel_rfl) (by kernel_rfl) (by kernel_rfl) (fun _ _ _ h => h) (_root_.Or.inl ⟨by rfl, ?_⟩) (by assumption) ?_
            rotate_left
            · intro w hSw
              (try dsimp only at hSw)
              go_simp
              all_goals with_reducible rfl
            try simp only [Act.put, List.setIfInBounds_toArray, List.set_cons_zero, List.set_cons_succ]
            refine wpAnyH_take (i := 4) (oi := _) (v := ?_) rfl (by kernel_rfl) (by kernel_rfl) (by kernel_rfl) (fun _ _ _ h => h) (_root_.Or.inl ⟨by rfl, ?_⟩) (by assumption) ?_
            rotate_left
            · intro w hSw
              (try dsimp only at hSw)
              go_simp
              all_goals with_reducible rfl
            try simp only [Act.put, List.setIfInBounds_toArray, List.set_cons_zero, List.set_cons_succ]
            refine wpAnyH_take (i := 6) (oi := _) (v := ?_) rfl (by kernel_rfl) (by kernel_rfl) (by kernel_rfl) (fun _ _ _ h => h) (_root_.Or.inl ⟨by rfl, ?_⟩) (by assumption) ?_
            rotate_left
            · intro w hSw
              (try dsimp only at hSw)
              go_simp
              all_goals with_reducible rfl
            try simp only [Act.put, List.setIfInBounds_toArray, List.set_cons_zero, List.set_cons_succ]
            refine letter (G := fun X => wpAnyH _ _ _ _ _ _ _ _ X) _ ?_
            intro W0 hW0
            have N0 := Lib.hid (show Nw wr W0 from hW0 ▸ nw_drew (Nw.refl _))
            clear hHeld hW0
            have hHeld := Keep.out _ N0.out
            refine wpAnyH_ready (rs := [2, 7, 10]) (by kernel_rfl) (by simp) ?_
            refine AllReadyH.cons (o := _) rfl (fun K hK => ?_) ?_
            · go_simp
              refine hK.out _ _ ?_ (fun hHeld => ?_)
              · exact Keep.out _ (nw_alloc N0.out)
              clear hK K
              try simp only [Act.put, List.setIfInBounds_toArray, List.set_cons_zero, List.set_cons_succ]
              refine letter (G := fun X => wpAnyH _ _ _ _ _ _ _ _ X) _ ?_
              intro W1 hW1
              clear hHeld
              have N1 := Lib.hid (sN hW1 N0.out)
              clear hW1
              have hHeld := Keep.out _ N1.out
              refine wpAnyH_ready (rs := [5, 7, 10]) (by kernel_rfl) (by simp) ?_
              refine AllReadyH.cons (o := _) rfl (fun K hK => ?_) ?_
              · refine step_fresh_rows rfl (.tmp 86) (.tmp 88) rfl w.heap.size P _ (.slice sa P sc) vs rfl rfl (own_nw Ho.out.1 N1.out) Hon.out hP0' hP48 ?_
                intro v' W2 own' gr'
                obtain ⟨pa, pc, rfl⟩ := own_shape' own'
                have N2 := Lib.hid (N1.out.trans gr')
                have OA2 := Lib.hid own'
                have Z2 := Lib.hid gr'.size
                clear own' gr'
                refine hK.out _ _ ?_ (fun hHeld => ?_)
                · exact Keep.out _ N2.out
                clear hK K
                try simp only [Act.put, List.setIfInBounds_toArray, List.set_cons_zero, List.set_cons_succ]
                refine wpAnyH_ready (rs := [7, 10]) (by kernel_rfl) (by simp) ?_
                refine AllReadyH.cons (o := _) rfl (fun K hK => ?_) ?_
                · go_simp
                  refine hK.out _ _ ?_ (fun hHeld => ?_)
                  · exact Keep.out _ (nw_alloc N2.out)
                  clear hK K
                  try simp only [Act.put, List.setIfInBounds_toArray, List.set_cons_zero, List.set_cons_succ]
                  refine letter (G := fun X => wpAnyH _ _ _ _ _ _ _ _ X) _ ?_
                  intro W3 hW3
                  clear hHeld
                  have N3 := Lib.hid (sN hW3 N2.out)
                  have OA3 := Lib.hid (sO hW3 OA2.out)
                  have Z3 := Lib.hid (sZ hW3 Z2.out)
                  have L3 := Lib.hid (sLnew hW3)
                  have LZ3 := Lib.hid (sLt hW3)
                  clear hW3
                  have hHeld := Keep.out _ N3.out
                  refine wpAnyH_ready (rs := [8, 10]) (by kernel_rfl) (by simp) ?_
                  refine AllReadyH.cons (o := _) rfl (fun K hK => ?_) ?_
                  · refine step_append_row rfl (.tmp 89) (.tmp 91) rfl W1.heap.size P _ (.slice pa P pc) (.slice oa k oc) vs rfl rfl OA3.out L3.out rfl hP48 Z3.out ?_
                    intro v2 W4 own2 gr2
                    have FR := final_rows (wr := wr) (base := w.heap.size) (q := k) (P := P) (rows := rows) (r := List.replicate k 1065353216) (b2 := w9.heap.size) N3.out gr2 OA3.out (Nat.le_trans hszr (Nat.le_trans hszr2 N1.out.size)) N1.out.size hPl Ho.out.2 Or.out N9.out.size hlr own2
                    obtain ⟨qa, qc, rfl⟩ := own_shape' own2
                    have RF4 := Lib.hid FR.1
                    have N4 := Lib.hid FR.2
                    clear own2 gr2 FR
                    refine hK.out _ _ ?_ (fun hHeld => ?_)
                    · exact Keep.out _ N4.out
                    clear hK K
                    try simp only [Act.put, List.setIfInBounds_toArray, List.set_cons_zero, List.set_cons_succ]
                    refine wpAnyH_take (i := 9) (oi := _) (v := ?_) rfl (by kernel_rfl) (by kernel_rfl) (by kernel_rfl) (fun _ _ _ h => h) (_root_.Or.inl ⟨by rfl, ?_⟩) (by assumption) ?_
                    rotate_left
                    · intro w hSw
                      (try dsimp only at hSw)
                      go_simp
                      all_goals with_reducible rfl
                    try simp only [Act.put, List.setIfInBounds_toArray, List.set_cons_zero, List.set_cons_succ]
                    refine wpAnyH_ready (rs := [10]) (by kernel_rfl) (by simp) ?_
                    refine AllReadyH.cons (o := _) rfl (fun K hK => ?_) ?_
                    · go_simp
                      refine hK.out _ _ ?_ (fun hHeld => ?_)
                      · exact Keep.out _ (nw_alloc N4.out)
                      clear hK K
                      try simp only [Act.put, List.setIfInBounds_toArray, List.set_cons_zero, List.set_cons_succ]
                      refine letter (G := fun X => wpAnyH _ _ _ _ _ _ _ _ X) _ ?_
                      intro W5 hW5
                      clear hHeld
                      have N5 := Lib.hid (sN hW5 N4.out)
                      have RF5 := Lib.hid (sR hW5 RF4.out)
                      have X5 := Lib.hid (sXnew hW5)
                      clear hW5
                      have hHeld := Keep.out _ N5.out
                      refine wpAnyH_ready (rs := [11]) (by kernel_rfl) (by simp) ?_
                      refine AllReadyH.cons (o := _) rfl (fun K hK => ?_) ?_
                      · have hle := N4.out.size
                        obtain ⟨x0, x1, x2, x3, x4⟩ := X5.out.has2
                        go_simp
                        refine hK.out _ _ ?_ (fun hHeld => ?_)
                        · exact Keep.out _ ((N5.out.set (p := ⟨W4.heap.size, 0, none⟩) hle _).set (p := ⟨W4.heap.size, 1, none⟩) hle _)
                        clear hK K
                        try simp only [Act.put, List.setIfInBounds_toArray, List.set_cons_zero, List.set_cons_succ]
                        have Fin := Lib.hid (room_fin (va := va) (vc := vc) (fa := qa) (fc := qc) X5.out RF5.out N5.out hle)
                        clear x0 x1 x2 x3 x4 hHeld
                        refine wpAnyH_done (by kernel_rfl) ?_ _
                        go_wp2_with fail
                        go_meet
                        exact Fin.out
                      exact AllReadyH.nil
                    exact AllReadyH.nil
                  refine AllReadyH.cons (o := _) rfl (fun K hK => ?_) ?_
                  · go_simp
                    refine hK.out _ _ ?_ (fun hHeld => ?_)
                    · exact Keep.out _ (nw_alloc N3.out)
                    clear hK K
                    try simp only [Act.put, List.setIfInBounds_toArray, List.set_cons_zero, List.set_cons_succ]
                    refine letter (G := fun X => wpAnyH _ _ _ _ _ _ _ _ X) _ ?_
                    intro W4 hW4
                    clear hHeld
                    have N4 := Lib.hid (sN hW4 N3.out)
                    have OA4 := Lib.hid (sO hW4 OA3.out)
                    have Z4 := Lib.hid (sZ hW4 Z3.out)
                    have L4 := Lib.hid (sL hW4 L3.out)
                    have LZ4 := Lib.hid (sZ hW4 LZ3.out)
                    have X4 := Lib.hid (sXnew hW4)
                    clear hW4
                    have hHeld := Keep.out _ N4.out
                    refine wpAnyH_ready (rs := [8]) (by kernel_rfl) (by simp) ?_
                    refine AllReadyH.cons (o := _) rfl (fun K hK => ?_) ?_
                    · refine step_append_row rfl (.tmp 89) (.tmp 91) rfl W1.heap.size P _ (.slice pa P pc) (.slice oa k oc) vs rfl rfl OA4.out L4.out rfl hP48 Z4.out ?_
                      intro v2 W5 own2 gr2
                      have FR := final_rows (wr := wr) (base := w.heap.size) (q := k) (P := P) (rows := rows) (r := List.replicate k 1065353216) (b2 := w9.heap.size) N4.out gr2 OA4.out (Nat.le_trans hszr (Nat.le_trans hszr2 N1.out.size)) N1.out.size hPl Ho.out.2 Or.out N9.out.size hlr own2
                      obtain ⟨qa, qc, rfl⟩ := own_shape' own2
                      have RF5 := Lib.hid FR.1
                      have N5 := Lib.hid FR.2
                      have X5 := Lib.hid (X4.out.grown gr2 (own_off OA4.out X4.out.ty (by decide)).symm)
                      clear own2 gr2 FR
                      refine hK.out _ _ ?_ (fun hHeld => ?_)
                      · exact Keep.out _ N5.out
                      clear hK K
                      try simp only [Act.put, List.setIfInBounds_toArray, List.set_cons_zero, List.set_cons_succ]
                      refine wpAnyH_take (i := 9) (oi := _) (v := ?_) rfl (by kernel_rfl) (by kernel_rfl) (by kernel_rfl) (fun _ _ _ h => h) (_root_.Or.inl ⟨by rfl, ?_⟩) (by assumption) ?_
                      rotate_left
                      · intro w hSw
                        (try dsimp only at hSw)
                        go_simp
                        all_goals with_reducible rfl
                      try simp only [Act.put, List.setIfInBounds_toArray, List.set_cons_zero, List.set_cons_succ]
                      refine wpAnyH_ready (rs := [11]) (by kernel_rfl) (by simp) ?_
                      refine AllReadyH.cons (o := _) rfl (fun K hK => ?_) ?_
                      · have hle := N3.out.size
                        obtain ⟨x0, x1, x2, x3, x4⟩ := X5.out.has2
                        go_simp
                        refine hK.out _ _ ?_ (fun hHeld => ?_)
                        · exact Keep.out _ ((N5.out.set (p := ⟨W3.heap.size, 0, none⟩) hle _).set (p := ⟨W3.heap.size, 1, none⟩) hle _)
                        clear hK K
                        try simp only [Act.put, List.setIfInBounds_toArray, List.set_cons_zero, List.set_cons_succ]
                        have Fin := Lib.hid (room_fin (va := va) (vc := vc) (fa := qa) (fc := qc) X5.out RF5.out N5.out hle)
                        clear x0 x1 x2 x3 x4 hHeld
                        refine wpAnyH_done (by kernel_rfl) ?_ _
                        go_wp2_with fail
                        go_meet
                        exact Fin.out
                      exact AllReadyH.nil
                    exact AllReadyH.nil
                  exact AllReadyH.nil
                refine AllReadyH.cons (o := _) rfl (fun K hK => ?_) ?_
                · go_simp
                  refine hK.out _ _ ?_ (fun hHeld => ?_)
                  · exact Keep.out _ (nw_alloc N2.out)
                  clear hK K
                  try simp only [Act.put, List.setIfInBounds_toArray, List.set_cons_zero, List.set_cons_succ]
                  refine letter (G := fun X => wpAnyH _ _ _ _ _ _ _ _ X) _ ?_
                  intro W3 hW3
                  clear hHeld
                  have N3 := Lib.hid (sN hW3 N2.out)
                  have OA3 := Lib.hid (sO hW3 OA2.out)
                  have Z3 := Lib.hid (sZ hW3 Z2.out)
                  have X3 := Lib.hid (sXnew hW3)
                  clear hW3
                  have hHeld := Keep.out _ N3.out
                  refine wpAnyH_ready (rs := [7]) (by kernel_rfl) (by simp) ?_
                  refine AllReadyH.cons (o := _) rfl (fun K hK => ?_) ?_
                  · go_simp
                    refine hK.out _ _ ?_ (fun hHeld => ?_)
                    · exact Keep.out _ (nw_alloc N3.out)
                    clear hK K
                    try simp only [Act.put, List.setIfInBounds_toArray, List.set_cons_zero, List.set_cons_succ]
                    refine letter (G := fun X => wpAnyH _ _ _ _ _ _ _ _ X) _ ?_
                    intro W4 hW4
                    clear hHeld
                    have N4 := Lib.hid (sN hW4 N3.out)
                    have OA4 := Lib.hid (sO hW4 OA3.out)
                    have Z4 := Lib.hid (sZ hW4 Z3.out)
                    have X4 := Lib.hid (sX hW4 X3.out)
                    have L4 := Lib.hid (sLnew hW4)
                    have LZ4 := Lib.hid (sLt hW4)
                    clear hW4
                    have hHeld := Keep.out _ N4.out
                    refine wpAnyH_ready (rs := [8]) (by kernel_rfl) (by simp) ?_
                    refine AllReadyH.cons (o := _) rfl (fun K hK => ?_) ?_
                    · refine step_append_row rfl (.tmp 89) (.tmp 91) rfl W1.heap.size P _ (.slice pa P pc) (.slice oa k oc) vs rfl rfl OA4.out L4.out rfl hP48 Z4.out ?_
                      intro v2 W5 own2 gr2
                      have FR := final_rows (wr := wr) (base := w.heap.size) (q := k) (P := P) (rows := rows) (r := List.replicate k 1065353216) (b2 := w9.heap.size) N4.out gr2 OA4.out (Nat.le_trans hszr (Nat.le_trans hszr2 N1.out.size)) N1.out.size hPl Ho.out.2 Or.out N9.out.size hlr own2
                      obtain ⟨qa, qc, rfl⟩ := own_shape' own2
                      have RF5 := Lib.hid FR.1
                      have N5 := Lib.hid FR.2
                      have X5 := Lib.hid (X4.out.grown gr2 (own_off OA4.out X4.out.ty (by decide)).symm)
                      clear own2 gr2 FR
                      refine hK.out _ _ ?_ (fun hHeld => ?_)
                      · exact Keep.out _ N5.out
                      clear hK K
                      try simp only [Act.put, List.setIfInBounds_toArray, List.set_cons_zero, List.set_cons_succ]
                      refine wpAnyH_take (i := 9) (oi := _) (v := ?_) rfl (by kernel_rfl) (by kernel_rfl) (by kernel_rfl) (fun _ _ _ h => h) (_root_.Or.inl ⟨by rfl, ?_⟩) (by assumption) ?_
                      rotate_left
                      · intro w hSw
                        (try dsimp only at hSw)
                        go_simp
                        all_goals with_reducible rfl
                      try simp only [Act.put, List.setIfInBounds_toArray, List.set_cons_zero, List.set_cons_succ]
                      refine wpAnyH_ready (rs := [11]) (by kernel_rfl) (by simp) ?_
                      refine AllReadyH.cons (o := _) rfl (fun K hK => ?_) ?_
                      · have hle := N2.out.size
                        obtain ⟨x0, x1, x2, x3, x4⟩ := X5.out.has2
                        go_simp
                        refine hK.out _ _ ?_ (fun hHeld => ?_)
                        · exact Keep.out _ ((N5.out.set (p := ⟨W2.heap.size, 0, none⟩) hle _).set (p := ⟨W2.heap.size, 1, none⟩) hle _)
                        clear hK K
                        try simp only [Act.put, List.setIfInBounds_toArray, List.set_cons_zero, List.set_cons_succ]
                        have Fin := Lib.hid (room_fin (va := va) (vc := vc) (fa := qa) (fc := qc) X5.out RF5.out N5.out hle)
                        clear x0 x1 x2 x3 x4 hHeld
                        refine wpAnyH_done (by kernel_rfl) ?_ _
                        go_wp2_with fail
                        go_meet
                        exact Fin.out
                      exact AllReadyH.nil
                    exact AllReadyH.nil
                  exact AllReadyH.nil
                exact AllReadyH.nil
              refine AllReadyH.cons (o := _) rfl (fun K hK => ?_) ?_
              · go_simp
                refine hK.out _ _ ?_ (fun hHeld => ?_)
                · exact Keep.out _ (nw_alloc N1.out)
                clear hK K
                try simp only [Act.put, List.setIfInBounds_toArray, List.set_cons_zero, List.set_cons_succ]
                refine letter (G := fun X => wpAnyH _ _ _ _ _ _ _ _ X) _ ?_
                intro W2 hW2
                clear hHeld
                have N2 := Lib.hid (sN hW2 N1.out)
                have L2 := Lib.hid (sLnew hW2)
                have LZ2 := Lib.hid (sLt hW2)
                clear hW2
                have hHeld := Keep.out _ N2.out
                refine wpAnyH_ready (rs := [5, 10]) (by kernel_rfl) (by simp) ?_
                refine AllReadyH.cons (o := _) rfl (fun K hK => ?_) ?_
                · refine step_fresh_rows rfl (.tmp 86) (.tmp 88) rfl w.heap.size P _ (.slice sa P sc) vs rfl rfl (own_nw Ho.out.1 N2.out) Hon.out hP0' hP48 ?_
                  intro v' W3 own' gr'
                  obtain ⟨pa, pc, rfl⟩ := own_shape' own'
                  have N3 := Lib.hid (N2.out.trans gr')
                  have OA3 := Lib.hid own'
                  have Z3 := Lib.hid gr'.size
                  have L3 := Lib.hid (((show Nw W2 W3 from gr').cell (p := ⟨W1.heap.size, 0, none⟩) LZ2.out).trans L2.out)
                  have LZ3 := Lib.hid (Nat.lt_of_lt_of_le LZ2.out gr'.size)
                  clear own' gr'
                  refine hK.out _ _ ?_ (fun hHeld => ?_)
                  · exact Keep.out _ N3.out
                  clear hK K
                  try simp only [Act.put, List.setIfInBounds_toArray, List.set_cons_zero, List.set_cons_succ]
                  refine wpAnyH_ready (rs := [8, 10]) (by kernel_rfl) (by simp) ?_
                  refine AllReadyH.cons (o := _) rfl (fun K hK => ?_) ?_
                  · refine step_append_row rfl (.tmp 89) (.tmp 91) rfl W2.heap.size P _ (.slice pa P pc) (.slice oa k oc) vs rfl rfl OA3.out L3.out rfl hP48 Z3.out ?_
                    intro v2 W4 own2 gr2
                    have FR := final_rows (wr := wr) (base := w.heap.size) (q := k) (P := P) (rows := rows) (r := List.replicate k 1065353216) (b2 := w9.heap.size) N3.out gr2 OA3.out (Nat.le_trans hszr (Nat.le_trans hszr2 N2.out.size)) N2.out.size hPl Ho.out.2 Or.out N9.out.size hlr own2
                    obtain ⟨qa, qc, rfl⟩ := own_shape' own2
                    have RF4 := Lib.hid FR.1
                    have N4 := Lib.hid FR.2
                    clear own2 gr2 FR
                    refine hK.out _ _ ?_ (fun hHeld => ?_)
                    · exact Keep.out _ N4.out
                    clear hK K
                    try simp only [Act.put, List.setIfInBounds_toArray, List.set_cons_zero, List.set_cons_succ]
                    refine wpAnyH_take (i := 9) (oi := _) (v := ?_) rfl (by kernel_rfl) (by kernel_rfl) (by kernel_rfl) (fun _ _ _ h => h) (_root_.Or.inl ⟨by rfl, ?_⟩) (by assumption) ?_
                    rotate_left
                    · intro w hSw
                      (try dsimp only at hSw)
                      go_simp
                      all_goals with_reducible rfl
                    try simp only [Act.put, List.setIfInBounds_toArray, List.set_cons_zero, List.set_cons_succ]
                    refine wpAnyH_ready (rs := [10]) (by kernel_rfl) (by simp) ?_
                    refine AllReadyH.cons (o := _) rfl (fun K hK => ?_) ?_
                    · go_simp
                      refine hK.out _ _ ?_ (fun hHeld => ?_)
                      · exact Keep.out _ (nw_alloc N4.out)
                      clear hK K
                      try simp only [Act.put, List.setIfInBounds_toArray, List.set_cons_zero, List.set_cons_succ]
                      refine letter (G := fun X => wpAnyH _ _ _ _ _ _ _ _ X) _ ?_
                      intro W5 hW5
                      clear hHeld
                      have N5 := Lib.hid (sN hW5 N4.out)
                      have RF5 := Lib.hid (sR hW5 RF4.out)
                      have X5 := Lib.hid (sXnew hW5)
                      clear hW5
                      have hHeld := Keep.out _ N5.out
                      refine wpAnyH_ready (rs := [11]) (by kernel_rfl) (by simp) ?_
                      refine AllReadyH.cons (o := _) rfl (fun K hK => ?_) ?_
                      · have hle := N4.out.size
                        obtain ⟨x0, x1, x2, x3, x4⟩ := X5.out.has2
                        go_simp
                        refine hK.out _ _ ?_ (fun hHeld => ?_)
                        · exact Keep.out _ ((N5.out.set (p := ⟨W4.heap.size, 0, none⟩) hle _).set (p := ⟨W4.heap.size, 1, none⟩) hle _)
                        clear hK K
                        try simp only [Act.put, List.setIfInBounds_toArray, List.set_cons_zero, List.set_cons_succ]
                        have Fin := Lib.hid (room_fin (va := va) (vc := vc) (fa := qa) (fc := qc) X5.out RF5.out N5.out hle)
                        clear x0 x1 x2 x3 x4 hHeld
                        refine wpAnyH_done (by kernel_rfl) ?_ _
                        go_wp2_with fail
                        go_meet
                        exact Fin.out
                      exact AllReadyH.nil
                    exact AllReadyH.nil
                  refine AllReadyH.cons (o := _) rfl (fun K hK => ?_) ?_
                  · go_simp
                    refine hK.out _ _ ?_ (fun hHeld => ?_)
                    · exact Keep.out _ (nw_alloc N3.out)
                    clear hK K
                    try simp only [Act.put, List.setIfInBounds_toArray, List.set_cons_zero, List.set_cons_succ]
                    refine letter (G := fun X => wpAnyH _ _ _ _ _ _ _ _ X) _ ?_
                    intro W4 hW4
                    clear hHeld
                    have N4 := Lib.hid (sN hW4 N3.out)
                    have OA4 := Lib.hid (sO hW4 OA3.out)
                    have Z4 := Lib.hid (sZ hW4 Z3.out)
                    have L4 := Lib.hid (sL hW4 L3.out)
                    have LZ4 := Lib.hid (sZ hW4 LZ3.out)
                    have X4 := Lib.hid (sXnew hW4)
                    clear hW4
                    have hHeld := Keep.out _ N4.out
                    refine wpAnyH_ready (rs := [8]) (by kernel_rfl) (by simp) ?_
                    refine AllReadyH.cons (o := _) rfl (fun K hK => ?_) ?_
                    · refine step_append_row rfl (.tmp 89) (.tmp 91) rfl W2.heap.size P _ (.slice pa P pc) (.slice oa k oc) vs rfl rfl OA4.out L4.out rfl hP48 Z4.out ?_
                      intro v2 W5 own2 gr2
                      have FR := final_rows (wr := wr) (base := w.heap.size) (q := k) (P := P) (rows := rows) (r := List.replicate k 1065353216) (b2 := w9.heap.size) N4.out gr2 OA4.out (Nat.le_trans hszr (Nat.le_trans hszr2 N2.out.size)) N2.out.size hPl Ho.out.2 Or.out N9.out.size hlr own2
                      obtain ⟨qa, qc, rfl⟩ := own_shape' own2
                      have RF5 := Lib.hid FR.1
                      have N5 := Lib.hid FR.2
                      have X5 := Lib.hid (X4.out.grown gr2 (own_off OA4.out X4.out.ty (by decide)).symm)
                      clear own2 gr2 FR
                      refine hK.out _ _ ?_ (fun hHeld => ?_)
                      · exact Keep.out _ N5.out
                      clear hK K
                      try simp only [Act.put, List.setIfInBounds_toArray, List.set_cons_zero, List.set_cons_succ]
                      refine wpAnyH_take (i := 9) (oi := _) (v := ?_) rfl (by kernel_rfl) (by kernel_rfl) (by kernel_rfl) (fun _ _ _ h => h) (_root_.Or.inl ⟨by rfl, ?_⟩) (by assumption) ?_
                      rotate_left
                      · intro w hSw
                        (try dsimp only at hSw)
                        go_simp
                        all_goals with_reducible rfl
                      try simp only [Act.put, List.setIfInBounds_toArray, List.set_cons_zero, List.set_cons_succ]
                      refine wpAnyH_ready (rs := [11]) (by kernel_rfl) (by simp) ?_
                      refine AllReadyH.cons (o := _) rfl (fun K hK => ?_) ?_
                      · have hle := N3.out.size
                        obtain ⟨x0, x1, x2, x3, x4⟩ := X5.out.has2
                        go_simp
                        refine hK.out _ _ ?_ (fun hHeld => ?_)
                        · exact Keep.out _ ((N5.out.set (p := ⟨W3.heap.size, 0, none⟩) hle _).set (p := ⟨W3.heap.size, 1, none⟩) hle _)
                        clear hK K
                        try simp only [Act.put, List.setIfInBounds_toArray, List.set_cons_zero, List.set_cons_succ]
                        have Fin := Lib.hid (room_fin (va := va) (vc := vc) (fa := qa) (fc := qc) X5.out RF5.out N5.out hle)
                        clear x0 x1 x2 x3 x4 hHeld
                        refine wpAnyH_done (by kernel_rfl) ?_ _
                        go_wp2_with fail
                        go_meet
                        exact Fin.out
                      exact AllReadyH.nil
                    exact AllReadyH.nil
                  exact AllReadyH.nil
                refine AllReadyH.cons (o := _) rfl (fun K hK => ?_) ?_
                · go_simp
                  refine hK.out _ _ ?_ (fun hHeld => ?_)
                  · exact Keep.out _ (nw_alloc N2.out)
                  clear hK K
                  try simp only [Act.put, List.setIfInBounds_toArray, List.set_cons_zero, List.set_cons_succ]
                  refine letter (G := fun X => wpAnyH _ _ _ _ _ _ _ _ X) _ ?_
                  intro W3 hW3
                  clear hHeld
                  have N3 := Lib.hid (sN hW3 N2.out)
                  have L3 := Lib.hid (sL hW3 L2.out)
                  have LZ3 := Lib.hid (sZ hW3 LZ2.out)
                  have X3 := Lib.hid (sXnew hW3)
                  clear hW3
                  have hHeld := Keep.out _ N3.out
                  refine wpAnyH_ready (rs := [5]) (by kernel_rfl) (by simp) ?_
                  refine AllReadyH.cons (o := _) rfl (fun K hK => ?_) ?_
                  · refine step_fresh_rows rfl (.tmp 86) (.tmp 88) rfl w.heap.size P _ (.slice sa P sc) vs rfl rfl (own_nw Ho.out.1 N3.out) Hon.out hP0' hP48 ?_
                    intro v' W4 own' gr'
                    obtain ⟨pa, pc, rfl⟩ := own_shape' own'
                    have N4 := Lib.hid (N3.out.trans gr')
                    have OA4 := Lib.hid own'
                    have Z4 := Lib.hid gr'.size
                    have L4 := Lib.hid (((show Nw W3 W4 from gr').cell (p := ⟨W1.heap.size, 0, none⟩) LZ3.out).trans L3.out)
                    have LZ4 := Lib.hid (Nat.lt_of_lt_of_le LZ3.out gr'.size)
                    have X4 := Lib.hid (X3.out.nw gr')
                    clear own' gr'
                    refine hK.out _ _ ?_ (fun hHeld => ?_)
                    · exact Keep.out _ N4.out
                    clear hK K
                    try simp only [Act.put, List.setIfInBounds_toArray, List.set_cons_zero, List.set_cons_succ]
                    refine wpAnyH_ready (rs := [8]) (by kernel_rfl) (by simp) ?_
                    refine AllReadyH.cons (o := _) rfl (fun K hK => ?_) ?_
                    · refine step_append_row rfl (.tmp 89) (.tmp 91) rfl W3.heap.size P _ (.slice pa P pc) (.slice oa k oc) vs rfl rfl OA4.out L4.out rfl hP48 Z4.out ?_
                      intro v2 W5 own2 gr2
                      have FR := final_rows (wr := wr) (base := w.heap.size) (q := k) (P := P) (rows := rows) (r := List.replicate k 1065353216) (b2 := w9.heap.size) N4.out gr2 OA4.out (Nat.le_trans hszr (Nat.le_trans hszr2 N3.out.size)) N3.out.size hPl Ho.out.2 Or.out N9.out.size hlr own2
                      obtain ⟨qa, qc, rfl⟩ := own_shape' own2
                      have RF5 := Lib.hid FR.1
                      have N5 := Lib.hid FR.2
                      have X5 := Lib.hid (X4.out.grown gr2 (own_off OA4.out X4.out.ty (by decide)).symm)
                      clear own2 gr2 FR
                      refine hK.out _ _ ?_ (fun hHeld => ?_)
                      · exact Keep.out _ N5.out
                      clear hK K
                      try simp only [Act.put, List.setIfInBounds_toArray, List.set_cons_zero, List.set_cons_succ]
                      refine wpAnyH_take (i := 9) (oi := _) (v := ?_) rfl (by kernel_rfl) (by kernel_rfl) (by kernel_rfl) (fun _ _ _ h => h) (_root_.Or.inl ⟨by rfl, ?_⟩) (by assumption) ?_
                      rotate_left
                      · intro w hSw
                        (try dsimp only at hSw)
                        go_simp
                        all_goals with_reducible rfl
                      try simp only [Act.put, List.setIfInBounds_toArray, List.set_cons_zero, List.set_cons_succ]
                      refine wpAnyH_ready (rs := [11]) (by kernel_rfl) (by simp) ?_
                      refine AllReadyH.cons (o := _) rfl (fun K hK => ?_) ?_
                      · have hle := N2.out.size
                        obtain ⟨x0, x1, x2, x3, x4⟩ := X5.out.has2
                        go_simp
                        refine hK.out _ _ ?_ (fun hHeld => ?_)
                        · exact Keep.out _ ((N5.out.set (p := ⟨W2.heap.size, 0, none⟩) hle _).set (p := ⟨W2.heap.size, 1, none⟩) hle _)
                        clear hK K
                        try simp only [Act.put, List.setIfInBounds_toArray, List.set_cons_zero, List.set_cons_succ]
                        have Fin := Lib.hid (room_fin (va := va) (vc := vc) (fa := qa) (fc := qc) X5.out RF5.out N5.out hle)
                        clear x0 x1 x2 x3 x4 hHeld
                        refine wpAnyH_done (by kernel_rfl) ?_ _
                        go_wp2_with fail
                        go_meet
                        exact Fin.out
                      exact AllReadyH.nil
                    exact AllReadyH.nil
                  exact AllReadyH.nil
                exact AllReadyH.nil
              refine AllReadyH.cons (o := _) rfl (fun K hK => ?_) ?_
              · go_simp
                refine hK.out _ _ ?_ (fun hHeld => ?_)
                · exact Keep.out _ (nw_alloc N1.out)
                clear hK K
                try simp only [Act.put, List.setIfInBounds_toArray, List.set_cons_zero, List.set_cons_succ]
                refine letter (G := fun X => wpAnyH _ _ _ _ _ _ _ _ X) _ ?_
                intro W2 hW2
                clear hHeld
                have N2 := Lib.hid (sN hW2 N1.out)
                have X2 := Lib.hid (sXnew hW2)
                clear hW2
                have hHeld := Keep.out _ N2.out
                refine wpAnyH_ready (rs := [5, 7]) (by kernel_rfl) (by simp) ?_
                refine AllReadyH.cons (o := _) rfl (fun K hK => ?_) ?_
                · refine step_fresh_rows rfl (.tmp 86) (.tmp 88) rfl w.heap.size P _ (.slice sa P sc) vs rfl rfl (own_nw Ho.out.1 N2.out) Hon.out hP0' hP48 ?_
                  intro v' W3 own' gr'
                  obtain ⟨pa, pc, rfl⟩ := own_shape' own'
                  have N3 := Lib.hid (N2.out.trans gr')
                  have OA3 := Lib.hid own'
                  have Z3 := Lib.hid gr'.size
                  have X3 := Lib.hid (X2.out.nw gr')
                  clear own' gr'
                  refine hK.out _ _ ?_ (fun hHeld => ?_)
                  · exact Keep.out _ N3.out
                  clear hK K
                  try simp only [Act.put, List.setIfInBounds_toArray, List.set_cons_zero, List.set_cons_succ]
                  refine wpAnyH_ready (rs := [7]) (by kernel_rfl) (by simp) ?_
                  refine AllReadyH.cons (o := _) rfl (fun K hK => ?_) ?_
                  · go_simp
                    refine hK.out _ _ ?_ (fun hHeld => ?_)
                    · exact Keep.out _ (nw_alloc N3.out)
                    clear hK K
                    try simp only [Act.put, List.setIfInBounds_toArray, List.set_cons_zero, List.set_cons_succ]
                    refine letter (G := fun X => wpAnyH _ _ _ _ _ _ _ _ X) _ ?_
                    intro W4 hW4
                    clear hHeld
                    have N4 := Lib.hid (sN hW4 N3.out)
                    have OA4 := Lib.hid (sO hW4 OA3.out)
                    have Z4 := Lib.hid (sZ hW4 Z3.out)
                    have X4 := Lib.hid (sX hW4 X3.out)
                    have L4 := Lib.hid (sLnew hW4)
                    have LZ4 := Lib.hid (sLt hW4)
                    clear hW4
                    have hHeld := Keep.out _ N4.out
                    refine wpAnyH_ready (rs := [8]) (by kernel_rfl) (by simp) ?_
                    refine AllReadyH.cons (o := _) rfl (fun K hK => ?_) ?_
                    · refine step_append_row rfl (.tmp 89) (.tmp 91) rfl W2.heap.size P _ (.slice pa P pc) (.slice oa k oc) vs rfl rfl OA4.out L4.out rfl hP48 Z4.out ?_
                      intro v2 W5 own2 gr2
                      have FR := final_rows (wr := wr) (base := w.heap.size) (q := k) (P := P) (rows := rows) (r := List.replicate k 1065353216) (b2 := w9.heap.size) N4.out gr2 OA4.out (Nat.le_trans hszr (Nat.le_trans hszr2 N2.out.size)) N2.out.size hPl Ho.out.2 Or.out N9.out.size hlr own2
                      obtain ⟨qa, qc, rfl⟩ := own_shape' own2
                      have RF5 := Lib.hid FR.1
                      have N5 := Lib.hid FR.2
                      have X5 := Lib.hid (X4.out.grown gr2 (own_off OA4.out X4.out.ty (by decide)).symm)
                      clear own2 gr2 FR
                      refine hK.out _ _ ?_ (fun hHeld => ?_)
                      · exact Keep.out _ N5.out
                      clear hK K
                      try simp only [Act.put, List.setIfInBounds_toArray, List.set_cons_zero, List.set_cons_succ]
                      refine wpAnyH_take (i := 9) (oi := _) (v := ?_) rfl (by kernel_rfl) (by kernel_rfl) (by kernel_rfl) (fun _ _ _ h => h) (_root_.Or.inl ⟨by rfl, ?_⟩) (by assumption) ?_
                      rotate_left
                      · intro w hSw
                        (try dsimp only at hSw)
                        go_simp
                        all_goals with_reducible rfl
                      try simp only [Act.put, List.setIfInBounds_toArray, List.set_cons_zero, List.set_cons_succ]
                      refine wpAnyH_ready (rs := [11]) (by kernel_rfl) (by simp) ?_
                      refine AllReadyH.cons (o := _) rfl (fun K hK => ?_) ?_
                      · have hle := N1.out.size
                        obtain ⟨x0, x1, x2, x3, x4⟩ := X5.out.has2
                        go_simp
                        refine hK.out _ _ ?_ (fun hHeld => ?_)
                        · exact Keep.out _ ((N5.out.set (p := ⟨W1.heap.size, 0, none⟩) hle _).set (p := ⟨W1.heap.size, 1, none⟩) hle _)
                        clear hK K
                        try simp only [Act.put, List.setIfInBounds_toArray, List.set_cons_zero, List.set_cons_succ]
                        have Fin := Lib.hid (room_fin (va := va) (vc := vc) (fa := qa) (fc := qc) X5.out RF5.out N5.out hle)
                        clear x0 x1 x2 x3 x4 hHeld
                        refine wpAnyH_done (by kernel_rfl) ?_ _
                        go_wp2_with fail
                        go_meet
                        exact Fin.out
                      exact AllReadyH.nil
                    exact AllReadyH.nil
                  exact AllReadyH.nil
                refine AllReadyH.cons (o := _) rfl (fun K hK => ?_) ?_
                · go_simp
                  refine hK.out _ _ ?_ (fun hHeld => ?_)
                  · exact Keep.out _ (nw_alloc N2.out)
                  clear hK K
                  try simp only [Act.put, List.setIfInBounds_toArray, List.set_cons_zero, List.set_cons_succ]
                  refine letter (G := fun X => wpAnyH _ _ _ _ _ _ _ _ X) _ ?_
                  intro W3 hW3
                  clear hHeld
                  have N3 := Lib.hid (sN hW3 N2.out)
                  have X3 := Lib.hid (sX hW3 X2.out)
                  have L3 := Lib.hid (sLnew hW3)
                  have LZ3 := Lib.hid (sLt hW3)
                  clear hW3
                  have hHeld := Keep.out _ N3.out
                  refine wpAnyH_ready (rs := [5]) (by kernel_rfl) (by simp) ?_
                  refine AllReadyH.cons (o := _) rfl (fun K hK => ?_) ?_
                  · refine step_fresh_rows rfl (.tmp 86) (.tmp 88) rfl w.heap.size P _ (.slice sa P sc) vs rfl rfl (own_nw Ho.out.1 N3.out) Hon.out hP0' hP48 ?_
                    intro v' W4 own' gr'
                    obtain ⟨pa, pc, rfl⟩ := own_shape' own'
                    have N4 := Lib.hid (N3.out.trans gr')
                    have OA4 := Lib.hid own'
                    have Z4 := Lib.hid gr'.size
                    have L4 := Lib.hid (((show Nw W3 W4 from gr').cell (p := ⟨W2.heap.size, 0, none⟩) LZ3.out).trans L3.out)
                    have LZ4 := Lib.hid (Nat.lt_of_lt_of_le LZ3.out gr'.size)
                    have X4 := Lib.hid (X3.out.nw gr')
                    clear own' gr'
                    refine hK.out _ _ ?_ (fun hHeld => ?_)
                    · exact Keep.out _ N4.out
                    clear hK K
                    try simp only [Act.put, List.setIfInBounds_toArray, List.set_cons_zero, List.set_cons_succ]
                    refine wpAnyH_ready (rs := [8]) (by kernel_rfl) (by simp) ?_
                    refine AllReadyH.cons (o := _) rfl (fun K hK => ?_) ?_
                    · refine step_append_row rfl (.tmp 89) (.tmp 91) rfl W3.heap.size P _ (.slice pa P pc) (.slice oa k oc) vs rfl rfl OA4.out L4.out rfl hP48 Z4.out ?_
                      intro v2 W5 own2 gr2
                      have FR := final_rows (wr := wr) (base := w.heap.size) (q := k) (P := P) (rows := rows) (r := List.replicate k 1065353216) (b2 := w9.heap.size) N4.out gr2 OA4.out (Nat.le_trans hszr (Nat.le_trans hszr2 N3.out.size)) N3.out.size hPl Ho.out.2 Or.out N9.out.size hlr own2
                      obtain ⟨qa, qc, rfl⟩ := own_shape' own2
                      have RF5 := Lib.hid FR.1
                      have N5 := Lib.hid FR.2
                      have X5 := Lib.hid (X4.out.grown gr2 (own_off OA4.out X4.out.ty (by decide)).symm)
                      clear own2 gr2 FR
                      refine hK.out _ _ ?_ (fun hHeld => ?_)
                      · exact Keep.out _ N5.out
                      clear hK K
                      try simp only [Act.put, List.setIfInBounds_toArray, List.set_cons_zero, List.set_cons_succ]
                      refine wpAnyH_take (i := 9) (oi := _) (v := ?_) rfl (by kernel_rfl) (by kernel_rfl) (by kernel_rfl) (fun _ _ _ h => h) (_root_.Or.inl ⟨by rfl, ?_⟩) (by assumption) ?_
                      rotate_left
                      · intro w hSw
                        (try dsimp only at hSw)
                        go_simp
                        all_goals with_reducible rfl
                      try simp only [Act.put, List.setIfInBounds_toArray, List.set_cons_zero, List.set_cons_succ]
                      refine wpAnyH_ready (rs := [11]) (by kernel_rfl) (by simp) ?_
                      refine AllReadyH.cons (o := _) rfl (fun K hK => ?_) ?_
                      · have hle := N1.out.size
                        obtain ⟨x0, x1, x2, x3, x4⟩ := X5.out.has2
                        go_simp
                        refine hK.out _ _ ?_ (fun hHeld => ?_)
                        · exact Keep.out _ ((N5.out.set (p := ⟨W1.heap.size, 0, none⟩) hle _).set (p := ⟨W1.heap.size, 1, none⟩) hle _)
                        clear hK K
                        try simp only [Act.put, List.setIfInBounds_toArray, List.set_cons_zero, List.set_cons_succ]
                        have Fin := Lib.hid (room_fin (va := va) (vc := vc) (fa := qa) (fc := qc) X5.out RF5.out N5.out hle)
                        clear x0 x1 x2 x3 x4 hHeld
                        refine wpAnyH_done (by kernel_rfl) ?_ _
                        go_wp2_with fail
                        go_meet
                        exact Fin.out
                      exact AllReadyH.nil
                    exact AllReadyH.nil
                  exact AllReadyH.nil
                exact AllReadyH.nil
              exact AllReadyH.nil
            refine AllReadyH.cons (o := _) rfl (fun K hK => ?_) ?_
            · go_simp
              refine hK.out _ _ ?_ (fun hHeld => ?_)
              · exact Keep.out _ (nw_alloc N0.out)
              clear hK K
              try simp only [Act.put, List.setIfInBounds_toArray, List.set_cons_zero, List.set_cons_succ]
              refine letter (G := fun X => wpAnyH _ _ _ _ _ _ _ _ X) _ ?_
              intro W1 hW1
              clear hHeld
              have N1 := Lib.hid (sN hW1 N0.out)
              have L1 := Lib.hid (sLnew hW1)
              have LZ1 := Lib.hid (sLt hW1)
              clear hW1
              have hHeld := Keep.out _ N1.out
              refine wpAnyH_ready (rs := [2, 10]) (by kernel_rfl) (by simp) ?_
              refine AllReadyH.cons (o := _) rfl (fun K hK => ?_) ?_
              · go_simp
                refine hK.out _ _ ?_ (fun hHeld => ?_)
                · exact Keep.out _ (nw_alloc N1.out)
                clear hK K
                try simp only [Act.put, List.setIfInBounds_toArray, List.set_cons_zero, List.set_cons_succ]
                refine letter (G := fun X => wpAnyH _ _ _ _ _ _ _ _ X) _ ?_
                intro W2 hW2
                clear hHeld
                have N2 := Lib.hid (sN hW2 N1.out)
                have L2 := Lib.hid (sL hW2 L1.out)
                have LZ2 := Lib.hid (sZ hW2 LZ1.out)
                clear hW2
                have hHeld := Keep.out _ N2.out
                refine wpAnyH_ready (rs := [5, 10]) (by kernel_rfl) (by simp) ?_
                refine AllReadyH.cons (o := _) rfl (fun K hK => ?_) ?_
                · refine step_fresh_rows rfl (.tmp 86) (.tmp 88) rfl w.heap.size P _ (.slice sa P sc) vs rfl rfl (own_nw Ho.out.1 N2.out) Hon.out hP0' hP48 ?_
                  intro v' W3 own' gr'
                  obtain ⟨pa, pc, rfl⟩ := own_shape' own'
                  have N3 := Lib.hid (N2.out.trans gr')
                  have OA3 := Lib.hid own'
                  have Z3 := Lib.hid gr'.size
                  have L3 := Lib.hid (((show Nw W2 W3 from gr').cell (p := ⟨W0.heap.size, 0, none⟩) LZ2.out).trans L2.out)
                  have LZ3 := Lib.hid (Nat.lt_of_lt_of_le LZ2.out gr'.size)
                  clear own' gr'
                  refine hK.out _ _ ?_ (fun hHeld => ?_)
                  · exact Keep.out _ N3.out
                  clear hK K
                  try simp only [Act.put, List.setIfInBounds_toArray, List.set_cons_zero, List.set_cons_succ]
                  refine wpAnyH_ready (rs := [8, 10]) (by kernel_rfl) (by simp) ?_
                  refine AllReadyH.cons (o := _) rfl (fun K hK => ?_) ?_
                  · refine step_append_row rfl (.tmp 89) (.tmp 91) rfl W2.heap.size P _ (.slice pa P pc) (.slice oa k oc) vs rfl rfl OA3.out L3.out rfl hP48 Z3.out ?_
                    intro v2 W4 own2 gr2
                    have FR := final_rows (wr := wr) (base := w.heap.size) (q := k) (P := P) (rows := rows) (r := List.replicate k 1065353216) (b2 := w9.heap.size) N3.out gr2 OA3.out (Nat.le_trans hszr (Nat.le_trans hszr2 N2.out.size)) N2.out.size hPl Ho.out.2 Or.out N9.out.size hlr own2
                    obtain ⟨qa, qc, rfl⟩ := own_shape' own2
                    have RF4 := Lib.hid FR.1
                    have N4 := Lib.hid FR.2
                    clear own2 gr2 FR
                    refine hK.out _ _ ?_ (fun hHeld => ?_)
                    · exact Keep.out _ N4.out
                    clear hK K
                    try simp only [Act.put, List.setIfInBounds_toArray, List.set_cons_zero, List.set_cons_succ]
                    refine wpAnyH_take (i := 9) (oi := _) (v := ?_) rfl (by kernel_rfl) (by kernel_rfl) (by kernel_rfl) (fun _ _ _ h => h) (_root_.Or.inl ⟨by rfl, ?_⟩) (by assumption) ?_
                    rotate_left
                    · intro w hSw
                      (try dsimp only at hSw)
                      go_simp
                      all_goals with_reducible rfl
                    try simp only [Act.put, List.setIfInBounds_toArray, List.set_cons_zero, List.set_cons_succ]
                    refine wpAnyH_ready (rs := [10]) (by kernel_rfl) (by simp) ?_
                    refine AllReadyH.cons (o := _) rfl (fun K hK => ?_) ?_
                    · go_simp
                      refine hK.out _ _ ?_ (fun hHeld => ?_)
                      · exact Keep.out _ (nw_alloc N4.out)
                      clear hK K
                      try simp only [Act.put, List.setIfInBounds_toArray, List.set_cons_zero, List.set_cons_succ]
                      refine letter (G := fun X => wpAnyH _ _ _ _ _ _ _ _ X) _ ?_
                      intro W5 hW5
                      clear hHeld
                      have N5 := Lib.hid (sN hW5 N4.out)
                      have RF5 := Lib.hid (sR hW5 RF4.out)
                      have X5 := Lib.hid (sXnew hW5)
                      clear hW5
                      have hHeld := Keep.out _ N5.out
                      refine wpAnyH_ready (rs := [11]) (by kernel_rfl) (by simp) ?_
                      refine AllReadyH.cons (o := _) rfl (fun K hK => ?_) ?_
                      · have hle := N4.out.size
                        obtain ⟨x0, x1, x2, x3, x4⟩ := X5.out.has2
                        go_simp
                        refine hK.out _ _ ?_ (fun hHeld => ?_)
                        · exact Keep.out _ ((N5.out.set (p := ⟨W4.heap.size, 0, none⟩) hle _).set (p := ⟨W4.heap.size, 1, none⟩) hle _)
                        clear hK K
                        try simp only [Act.put, List.setIfInBounds_toArray, List.set_cons_zero, List.set_cons_succ]
                        have Fin := Lib.hid (room_fin (va := va) (vc := vc) (fa := qa) (fc := qc) X5.out RF5.out N5.out hle)
                        clear x0 x1 x2 x3 x4 hHeld
                        refine wpAnyH_done (by kernel_rfl) ?_ _
                        go_wp2_with fail
                        go_meet
                        exact Fin.out
                      exact AllReadyH.nil
                    exact AllReadyH.nil
                  refine AllReadyH.cons (o := _) rfl (fun K hK => ?_) ?_
                  · go_simp
                    refine hK.out _ _ ?_ (fun hHeld => ?_)
                    · exact Keep.out _ (nw_alloc N3.out)
                    clear hK K
                    try simp only [Act.put, List.setIfInBounds_toArray, List.set_cons_zero, List.set_cons_succ]
                    refine letter (G := fun X => wpAnyH _ _ _ _ _ _ _ _ X) _ ?_
                    intro W4 hW4
                    clear hHeld
                    have N4 := Lib.hid (sN hW4 N3.out)
                    have OA4 := Lib.hid (sO hW4 OA3.out)
                    have Z4 := Lib.hid (sZ hW4 Z3.out)
                    have L4 := Lib.hid (sL hW4 L3.out)
                    have LZ4 := Lib.hid (sZ hW4 LZ3.out)
                    have X4 := Lib.hid (sXnew hW4)
                    clear hW4
                    have hHeld := Keep.out _ N4.out
                    refine wpAnyH_ready (rs := [8]) (by kernel_rfl) (by simp) ?_
                    refine AllReadyH.cons (o := _) rfl (fun K hK => ?_) ?_
                    · refine step_append_row rfl (.tmp 89) (.tmp 91) rfl W2.heap.size P _ (.slice pa P pc) (.slice oa k oc) vs rfl rfl OA4.out L4.out rfl hP48 Z4.out ?_
                      intro v2 W5 own2 gr2
                      have FR := final_rows (wr := wr) (base := w.heap.size) (q := k) (P := P) (rows := rows) (r := List.replicate k 1065353216) (b2 := w9.heap.size) N4.out gr2 OA4.out (Nat.le_trans hszr (Nat.le_trans hszr2 N2.out.size)) N2.out.size hPl Ho.out.2 Or.out N9.out.size hlr own2
                      obtain ⟨qa, qc, rfl⟩ := own_shape' own2
                      have RF5 := Lib.hid FR.1
                      have N5 := Lib.hid FR.2
                      have X5 := Lib.hid (X4.out.grown gr2 (own_off OA4.out X4.out.ty (by decide)).symm)
                      clear own2 gr2 FR
                      refine hK.out _ _ ?_ (fun hHeld => ?_)
                      · exact Keep.out _ N5.out
                      clear hK K
                      try simp only [Act.put, List.setIfInBounds_toArray, List.set_cons_zero, List.set_cons_succ]
                      refine wpAnyH_take (i := 9) (oi := _) (v := ?_) rfl (by kernel_rfl) (by kernel_rfl) (by kernel_rfl) (fun _ _ _ h => h) (_root_.Or.inl ⟨by rfl, ?_⟩) (by assumption) ?_
                      rotate_left
                      · intro w hSw
                        (try dsimp only at hSw)
                        go_simp
                        all_goals with_reducible rfl
                      try simp only [Act.put, List.setIfInBounds_toArray, List.set_cons_zero, List.set_cons_succ]
                      refine wpAnyH_ready (rs := [11]) (by kernel_rfl) (by simp) ?_
                      refine AllReadyH.cons (o := _) rfl (fun K hK => ?_) ?_
                      · have hle := N3.out.size
                        obtain ⟨x0, x1, x2, x3, x4⟩ := X5.out.has2
                        go_simp
                        refine hK.out _ _ ?_ (fun hHeld => ?_)
                        · exact Keep.out _ ((N5.out.set (p := ⟨W3.heap.size, 0, none⟩) hle _).set (p := ⟨W3.heap.size, 1, none⟩) hle _)
                        clear hK K
                        try simp only [Act.put, List.setIfInBounds_toArray, List.set_cons_zero, List.set_cons_succ]
                        have Fin := Lib.hid (room_fin (va := va) (vc := vc) (fa := qa) (fc := qc) X5.out RF5.out N5.out hle)
                        clear x0 x1 x2 x3 x4 hHeld
                        refine wpAnyH_done (by kernel_rfl) ?_ _
                        go_wp2_with fail
                        go_meet
                        exact Fin.out
                      exact AllReadyH.nil
                    exact AllReadyH.nil
                  exact AllReadyH.nil
                refine AllReadyH.cons (o := _) rfl (fun K hK => ?_) ?_
                · go_simp
                  refine hK.out _ _ ?_ (fun hHeld => ?_)
                  · exact Keep.out _ (nw_alloc N2.out)
                  clear hK K
                  try simp only [Act.put, List.setIfInBounds_toArray, List.set_cons_zero, List.set_cons_succ]
                  refine letter (G := fun X => wpAnyH _ _ _ _ _ _ _ _ X) _ ?_
                  intro W3 hW3
                  clear hHeld
                  have N3 := Lib.hid (sN hW3 N2.out)
                  have L3 := Lib.hid (sL hW3 L2.out)
                  have LZ3 := Lib.hid (sZ hW3 LZ2.out)
                  have X3 := Lib.hid (sXnew hW3)
                  clear hW3
                  have hHeld := Keep.out _ N3.out
                  refine wpAnyH_ready (rs := [5]) (by kernel_rfl) (by simp) ?_
                  refine AllReadyH.cons (o := _) rfl (fun K hK => ?_) ?_
                  · refine step_fresh_rows rfl (.tmp 86) (.tmp 88) rfl w.heap.size P _ (.slice sa P sc) vs rfl rfl (own_nw Ho.out.1 N3.out) Hon.out hP0' hP48 ?_
                    intro v' W4 own' gr'
                    obtain ⟨pa, pc, rfl⟩ := own_shape' own'
                    have N4 := Lib.hid (N3.out.trans gr')
                    have OA4 := Lib.hid own'
                    have Z4 := Lib.hid gr'.size
                    have L4 := Lib.hid (((show Nw W3 W4 from gr').cell (p := ⟨W0.heap.size, 0, none⟩) LZ3.out).trans L3.out)
                    have LZ4 := Lib.hid (Nat.lt_of_lt_of_le LZ3.out gr'.size)
                    have X4 := Lib.hid (X3.out.nw gr')
                    clear own' gr'
                    refine hK.out _ _ ?_ (fun hHeld => ?_)
                    · exact Keep.out _ N4.out
                    clear hK K
                    try simp only [Act.put, List.setIfInBounds_toArray, List.set_cons_zero, List.set_cons_succ]
                    refine wpAnyH_ready (rs := [8]) (by kernel_rfl) (by simp) ?_
                    refine AllReadyH.cons (o := _) rfl (fun K hK => ?_) ?_
                    · refine step_append_row rfl (.tmp 89) (.tmp 91) rfl W3.heap.size P _ (.slice pa P pc) (.slice oa k oc) vs rfl rfl OA4.out L4.out rfl hP48 Z4.out ?_
                      intro v2 W5 own2 gr2
                      have FR := final_rows (wr := wr) (base := w.heap.size) (q := k) (P := P) (rows := rows) (r := List.replicate k 1065353216) (b2 := w9.heap.size) N4.out gr2 OA4.out (Nat.le_trans hszr (Nat.le_trans hszr2 N3.out.size)) N3.out.size hPl Ho.out.2 Or.out N9.out.size hlr own2
                      obtain ⟨qa, qc, rfl⟩ := own_shape' own2
                      have RF5 := Lib.hid FR.1
                      have N5 := Lib.hid FR.2
                      have X5 := Lib.hid (X4.out.grown gr2 (own_off OA4.out X4.out.ty (by decide)).symm)
                      clear own2 gr2 FR
                      refine hK.out _ _ ?_ (fun hHeld => ?_)
                      · exact Keep.out _ N5.out
                      clear hK K
                      try simp only [Act.put, List.setIfInBounds_toArray, List.set_cons_zero, List.set_cons_succ]
                      refine wpAnyH_take (i := 9) (oi := _) (v := ?_) rfl (by kernel_rfl) (by kernel_rfl) (by kernel_rfl) (fun _ _ _ h => h) (_root_.Or.inl ⟨by rfl, ?_⟩) (by assumption) ?_
                      rotate_left
                      · intro w hSw
                        (try dsimp only at hSw)
                        go_simp
                        all_goals with_reducible rfl
                      try simp only [Act.put, List.setIfInBounds_toArray, List.set_cons_zero, List.set_cons_succ]
                      refine wpAnyH_ready (rs := [11]) (by kernel_rfl) (by simp) ?_
                      refine AllReadyH.cons (o := _) rfl (fun K hK => ?_) ?_
                      · have hle := N2.out.size
                        obtain ⟨x0, x1, x2, x3, x4⟩ := X5.out.has2
                        go_simp
                        refine hK.out _ _ ?_ (fun hHeld => ?_)
                        · exact Keep.out _ ((N5.out.set (p := ⟨W2.heap.size, 0, none⟩) hle _).set (p := ⟨W2.heap.size, 1, none⟩) hle _)
                        clear hK K
                        try simp only [Act.put, List.setIfInBounds_toArray, List.set_cons_zero, List.set_cons_succ]
                        have Fin := Lib.hid (room_fin (va := va) (vc := vc) (fa := qa) (fc := qc) X5.out RF5.out N5.out hle)
                        clear x0 x1 x2 x3 x4 hHeld
                        refine wpAnyH_done (by kernel_rfl) ?_ _
                        go_wp2_with fail
                        go_meet
                        exact Fin.out
                      exact AllReadyH.nil
                    exact AllReadyH.nil
                  exact AllReadyH.nil
                exact AllReadyH.nil
              refine AllReadyH.cons (o := _) rfl (fun K hK => ?_) ?_
              · go_simp
                refine hK.out _ _ ?_ (fun hHeld => ?_)
                · exact Keep.out _ (nw_alloc N1.out)
                clear hK K
                try simp only [Act.put, List.setIfInBounds_toArray, List.set_cons_zero, List.set_cons_succ]
                refine letter (G := fun X => wpAnyH _ _ _ _ _ _ _ _ X) _ ?_
                intro W2 hW2
                clear hHeld
                have N2 := Lib.hid (sN hW2 N1.out)
                have L2 := Lib.hid (sL hW2 L1.out)
                have LZ2 := Lib.hid (sZ hW2 LZ1.out)
                have X2 := Lib.hid (sXnew hW2)
                clear hW2
                have hHeld := Keep.out _ N2.out
                refine wpAnyH_ready (rs := [2]) (by kernel_rfl) (by simp) ?_
                refine AllReadyH.cons (o := _) rfl (fun K hK => ?_) ?_
                · go_simp
                  refine hK.out _ _ ?_ (fun hHeld => ?_)
                  · exact Keep.out _ (nw_alloc N2.out)
                  clear hK K
                  try simp only [Act.put, List.setIfInBounds_toArray, List.set_cons_zero, List.set_cons_succ]
                  refine letter (G := fun X => wpAnyH _ _ _ _ _ _ _ _ X) _ ?_
                  intro W3 hW3
                  clear hHeld
                  have N3 := Lib.hid (sN hW3 N2.out)
                  have L3 := Lib.hid (sL hW3 L2.out)
                  have LZ3 := Lib.hid (sZ hW3 LZ2.out)
                  have X3 := Lib.hid (sX hW3 X2.out)
                  clear hW3
                  have hHeld := Keep.out _ N3.out
                  refine wpAnyH_ready (rs := [5]) (by kernel_rfl) (by simp) ?_
                  refine AllReadyH.cons (o := _) rfl (fun K hK => ?_) ?_
                  · refine step_fresh_rows rfl (.tmp 86) (.tmp 88) rfl w.heap.size P _ (.slice sa P sc) vs rfl rfl (own_nw Ho.out.1 N3.out) Hon.out hP0' hP48 ?_
                    intro v' W4 own' gr'
                    obtain ⟨pa, pc, rfl⟩ := own_shape' own'
                    have N4 := Lib.hid (N3.out.trans gr')
                    have OA4 := Lib.hid own'
                    have Z4 := Lib.hid gr'.size
                    have L4 := Lib.hid (((show Nw W3 W4 from gr').cell (p := ⟨W0.heap.size, 0, none⟩) LZ3.out).trans L3.out)
                    have LZ4 := Lib.hid (Nat.lt_of_lt_of_le LZ3.out gr'.size)
                    have X4 := Lib.hid (X3.out.nw gr')
                    clear own' gr'
                    refine hK.out _ _ ?_ (fun hHeld => ?_)
                    · exact Keep.out _ N4.out
                    clear hK K
                    try simp only [Act.put, List.setIfInBounds_toArray, List.set_cons_zero, List.set_cons_succ]
                    refine wpAnyH_ready (rs := [8]) (by kernel_rfl) (by simp) ?_
                    refine AllReadyH.cons (o := _) rfl (fun K hK => ?_) ?_
                    · refine step_append_row rfl (.tmp 89) (.tmp 91) rfl W3.heap.size P _ (.slice pa P pc) (.slice oa k oc) vs rfl rfl OA4.out L4.out rfl hP48 Z4.out ?_
                      intro v2 W5 own2 gr2
                      have FR := final_rows (wr := wr) (base := w.heap.size) (q := k) (P := P) (rows := rows) (r := List.replicate k 1065353216) (b2 := w9.heap.size) N4.out gr2 OA4.out (Nat.le_trans hszr (Nat.le_trans hszr2 N3.out.size)) N3.out.size hPl Ho.out.2 Or.out N9.out.size hlr own2
                      obtain ⟨qa, qc, rfl⟩ := own_shape' own2
                      have RF5 := Lib.hid FR.1
                      have N5 := Lib.hid FR.2
                      have X5 := Lib.hid (X4.out.grown gr2 (own_off OA4.out X4.out.ty (by decide)).symm)
                      clear own2 gr2 FR
                      refine hK.out _ _ ?_ (fun hHeld => ?_)
                      · exact Keep.out _ N5.out
                      clear hK K
                      try simp only [Act.put, List.setIfInBounds_toArray, List.set_cons_zero, List.set_cons_succ]
                      refine wpAnyH_take (i := 9) (oi := _) (v := ?_) rfl (by kernel_rfl) (by kernel_rfl) (by kernel_rfl) (fun _ _ _ h => h) (_root_.Or.inl ⟨by rfl, ?_⟩) (by assumption) ?_
                      rotate_left
                      · intro w hSw
                        (try dsimp only at hSw)
                        go_simp
                        all_goals with_reducible rfl
                      try simp only [Act.put, List.setIfInBounds_toArray, List.set_cons_zero, List.set_cons_succ]
                      refine wpAnyH_ready (rs := [11]) (by kernel_rfl) (by simp) ?_
                      refine AllReadyH.cons (o := _) rfl (fun K hK => ?_) ?_
                      · have hle := N1.out.size
                        obtain ⟨x0, x1, x2, x3, x4⟩ := X5.out.has2
                        go_simp
                        refine hK.out _ _ ?_ (fun hHeld => ?_)
                        · exact Keep.out _ ((N5.out.set (p := ⟨W1.heap.size, 0, none⟩) hle _).set (p := ⟨W1.heap.size, 1, none⟩) hle _)
                        clear hK K
                        try simp only [Act.put, List.setIfInBounds_toArray, List.set_cons_zero, List.set_cons_succ]
                        have Fin := Lib.hid (room_fin (va := va) (vc := vc) (fa := qa) (fc := qc) X5.out RF5.out N5.out hle)
                        clear x0 x1 x2 x3 x4 hHeld
                        refine wpAnyH_done (by kernel_rfl) ?_ _
                        go_wp2_with fail
                        go_meet
                        exact Fin.out
                      exact AllReadyH.nil
                    exact AllReadyH.nil
                  exact AllReadyH.nil
                exact AllReadyH.nil
              exact AllReadyH.nil
            refine AllReadyH.cons (o := _) rfl (fun K hK => ?_) ?_
            · go_simp
              refine hK.out _ _ ?_ (fun hHeld => ?_)
              · exact Keep.out _ (nw_alloc N0.out)
              clear hK K
              try simp only [Act.put, List.setIfInBounds_toArray, List.set_cons_zero, List.set_cons_succ]
              refine letter (G := fun X => wpAnyH _ _ _ _ _ _ _ _ X) _ ?_
              intro W1 hW1
              clear hHeld
              have N1 := Lib.hid (sN hW1 N0.out)
              have X1 := Lib.hid (sXnew hW1)
              clear hW1
              have hHeld := Keep.out _ N1.out
              refine wpAnyH_ready (rs := [2, 7]) (by kernel_rfl) (by simp) ?_
              refine AllReadyH.cons (o := _) rfl (fun K hK => ?_) ?_
              · go_simp
                refine hK.out _ _ ?_ (fun hHeld => ?_)
                · exact Keep.out _ (nw_alloc N1.out)
                clear hK K
                try simp only [Act.put, List.setIfInBounds_toArray, List.set_cons_zero, List.set_cons_succ]
                refine letter (G := fun X => wpAnyH _ _ _ _ _ _ _ _ X) _ ?_
                intro W2 hW2
                clear hHeld
                have N2 := Lib.hid (sN hW2 N1.out)
                have X2 := Lib.hid (sX hW2 X1.out)
                clear hW2
                have hHeld := Keep.out _ N2.out
                refine wpAnyH_ready (rs := [5, 7]) (by kernel_rfl) (by simp) ?_
                refine AllReadyH.cons (o := _) rfl (fun K hK => ?_) ?_
                · refine step_fresh_rows rfl (.tmp 86) (.tmp 88) rfl w.heap.size P _ (.slice sa P sc) vs rfl rfl (own_nw Ho.out.1 N2.out) Hon.out hP0' hP48 ?_
                  intro v' W3 own' gr'
                  obtain ⟨pa, pc, rfl⟩ := own_shape' own'
                  have N3 := Lib.hid (N2.out.trans gr')
                  have OA3 := Lib.hid own'
                  have Z3 := Lib.hid gr'.size
                  have X3 := Lib.hid (X2.out.nw gr')
                  clear own' gr'
                  refine hK.out _ _ ?_ (fun hHeld => ?_)
                  · exact Keep.out _ N3.out
                  clear hK K
                  try simp only [Act.put, List.setIfInBounds_toArray, List.set_cons_zero, List.set_cons_succ]
                  refine wpAnyH_ready (rs := [7]) (by kernel_rfl) (by simp) ?_
                  refine AllReadyH.cons (o := _) rfl (fun K hK => ?_) ?_
                  · go_simp
                    refine hK.out _ _ ?_ (fun hHeld => ?_)
                    · exact Keep.out _ (nw_alloc N3.out)
                    clear hK K
                    try simp only [Act.put, List.setIfInBounds_toArray, List.set_cons_zero, List.set_cons_succ]
                    refine letter (G := fun X => wpAnyH _ _ _ _ _ _ _ _ X) _ ?_
                    intro W4 hW4
                    clear hHeld
                    have N4 := Lib.hid (sN hW4 N3.out)
                    have OA4 := Lib.hid (sO hW4 OA3.out)
                    have Z4 := Lib.hid (sZ hW4 Z3.out)
                    have X4 := Lib.hid (sX hW4 X3.out)
                    have L4 := Lib.hid (sLnew hW4)
                    have LZ4 := Lib.hid (sLt hW4)
                    clear hW4
                    have hHeld := Keep.out _ N4.out
                    refine wpAnyH_ready (rs := [8]) (by kernel_rfl) (by simp) ?_
                    refine AllReadyH.cons (o := _) rfl (fun K hK => ?_) ?_
                    · refine step_append_row rfl (.tmp 89) (.tmp 91) rfl W2.heap.size P _ (.slice pa P pc) (.slice oa k oc) vs rfl rfl OA4.out L4.out rfl hP48 Z4.out ?_
                      intro v2 W5 own2 gr2
                      have FR := final_rows (wr := wr) (base := w.heap.size) (q := k) (P := P) (rows := rows) (r := List.replicate k 1065353216) (b2 := w9.heap.size) N4.out gr2 OA4.out (Nat.le_trans hszr (Nat.le_trans hszr2 N2.out.size)) N2.out.size hPl Ho.out.2 Or.out N9.out.size hlr own2
                      obtain ⟨qa, qc, rfl⟩ := own_shape' own2
                      have RF5 := Lib.hid FR.1
                      have N5 := Lib.hid FR.2
                      have X5 := Lib.hid (X4.out.grown gr2 (own_off OA4.out X4.out.ty (by decide)).symm)
                      clear own2 gr2 FR
                      refine hK.out _ _ ?_ (fun hHeld => ?_)
                      · exact Keep.out _ N5.out
                      clear hK K
                      try simp only [Act.put, List.setIfInBounds_toArray, List.set_cons_zero, List.set_cons_succ]
                      refine wpAnyH_take (i := 9) (oi := _) (v := ?_) rfl (by kernel_rfl) (by kernel_rfl) (by kernel_rfl) (fun _ _ _ h => h) (_root_.Or.inl ⟨by rfl, ?_⟩) (by assumption) ?_
                      rotate_left
                      · intro w hSw
                        (try dsimp only at hSw)
                        go_simp
                        all_goals with_reducible rfl
                      try simp only [Act.put, List.setIfInBounds_toArray, List.set_cons_zero, List.set_cons_succ]
                      refine wpAnyH_ready (rs := [11]) (by kernel_rfl) (by simp) ?_
                      refine AllReadyH.cons (o := _) rfl (fun K hK => ?_) ?_
                      · have hle := N0.out.size
                        obtain ⟨x0, x1, x2, x3, x4⟩ := X5.out.has2
                        go_simp
                        refine hK.out _ _ ?_ (fun hHeld => ?_)
                        · exact Keep.out _ ((N5.out.set (p := ⟨W0.heap.size, 0, none⟩) hle _).set (p := ⟨W0.heap.size, 1, none⟩) hle _)
                        clear hK K
                        try simp only [Act.put, List.setIfInBounds_toArray, List.set_cons_zero, List.set_cons_succ]
                        have Fin := Lib.hid (room_fin (va := va) (vc := vc) (fa := qa) (fc := qc) X5.out RF5.out N5.out hle)
                        clear x0 x1 x2 x3 x4 hHeld
                        refine wpAnyH_done (by kernel_rfl) ?_ _
                        go_wp2_with fail
                        go_meet
                        exact Fin.out
                      exact AllReadyH.nil
                    exact AllReadyH.nil
                  exact AllReadyH.nil
                refine AllReadyH.cons (o := _) rfl (fun K hK => ?_) ?_
                · go_simp
                  refine hK.out _ _ ?_ (fun hHeld => ?_)
                  · exact Keep.out _ (nw_alloc N2.out)
                  clear hK K
                  try simp only [Act.put, List.setIfInBounds_toArray, List.set_cons_zero, List.set_cons_succ]
                  refine letter (G := fun X => wpAnyH _ _ _ _ _ _ _ _ X) _ ?_
                  intro W3 hW3
                  clear hHeld
                  have N3 := Lib.hid (sN hW3 N2.out)
                  have X3 := Lib.hid (sX hW3 X2.out)
                  have L3 := Lib.hid (sLnew hW3)
                  have LZ3 := Lib.hid (sLt hW3)
                  clear hW3
                  have hHeld := Keep.out _ N3.out
                  refine wpAnyH_ready (rs := [5]) (by kernel_rfl) (by simp) ?_
                  refine AllReadyH.cons (o := _) rfl (fun K hK => ?_) ?_
                  · refine step_fresh_rows rfl (.tmp 86) (.tmp 88) rfl w.heap.size P _ (.slice sa P sc) vs rfl rfl (own_nw Ho.out.1 N3.out) Hon.out hP0' hP48 ?_
                    intro v' W4 own' gr'
                    obtain ⟨pa, pc, rfl⟩ := own_shape' own'
                    have N4 := Lib.hid (N3.out.trans gr')
                    have OA4 := Lib.hid own'
                    have Z4 := Lib.hid gr'.size
                    have L4 := Lib.hid (((show Nw W3 W4 from gr').cell (p := ⟨W2.heap.size, 0, none⟩) LZ3.out).trans L3.out)
                    have LZ4 := Lib.hid (Nat.lt_of_lt_of_le LZ3.out gr'.size)
                    have X4 := Lib.hid (X3.out.nw gr')
                    clear own' gr'
                    refine hK.out _ _ ?_ (fun hHeld => ?_)
                    · exact Keep.out _ N4.out
                    clear hK K
                    try simp only [Act.put, List.setIfInBounds_toArray, List.set_cons_zero, List.set_cons_succ]
                    refine wpAnyH_ready (rs := [8]) (by kernel_rfl) (by simp) ?_
                    refine AllReadyH.cons (o := _) rfl (fun K hK => ?_) ?_
                    · refine step_append_row rfl (.tmp 89) (.tmp 91) rfl W3.heap.size P _ (.slice pa P pc) (.slice oa k oc) vs rfl rfl OA4.out L4.out rfl hP48 Z4.out ?_
                      intro v2 W5 own2 gr2
                      have FR := final_rows (wr := wr) (base := w.heap.size) (q := k) (P := P) (rows := rows) (r := List.replicate k 1065353216) (b2 := w9.heap.size) N4.out gr2 OA4.out (Nat.le_trans hszr (Nat.le_trans hszr2 N3.out.size)) N3.out.size hPl Ho.out.2 Or.out N9.out.size hlr own2
                      obtain ⟨qa, qc, rfl⟩ := own_shape' own2
                      have RF5 := Lib.hid FR.1
                      have N5 := Lib.hid FR.2
                      have X5 := Lib.hid (X4.out.grown gr2 (own_off OA4.out X4.out.ty (by decide)).symm)
                      clear own2 gr2 FR
                      refine hK.out _ _ ?_ (fun hHeld => ?_)
                      · exact Keep.out _ N5.out
                      clear hK K
                      try simp only [Act.put, List.setIfInBounds_toArray, List.set_cons_zero, List.set_cons_succ]
                      refine wpAnyH_take (i := 9) (oi := _) (v := ?_) rfl (by kernel_rfl) (by kernel_rfl) (by kernel_rfl) (fun _ _ _ h => h) (_root_.Or.inl ⟨by rfl, ?_⟩) (by assumption) ?_
                      rotate_left
                      · intro w hSw
                        (try dsimp only at hSw)
                        go_simp
                        all_goals with_reducible rfl
                      try simp only [Act.put, List.setIfInBounds_toArray, List.set_cons_zero, List.set_cons_succ]
                      refine wpAnyH_ready (rs := [11]) (by kernel_rfl) (by simp) ?_
                      refine AllReadyH.cons (o := _) rfl (fun K hK => ?_) ?_
                      · have hle := N0.out.size
                        obtain ⟨x0, x1, x2, x3, x4⟩ := X5.out.has2
                        go_simp
                        refine hK.out _ _ ?_ (fun hHeld => ?_)
                        · exact Keep.out _ ((N5.out.set (p := ⟨W0.heap.size, 0, none⟩) hle _).set (p := ⟨W0.heap.size, 1, none⟩) hle _)
                        clear hK K
                        try simp only [Act.put, List.setIfInBounds_toArray, List.set_cons_zero, List.set_cons_succ]
                        have Fin := Lib.hid (room_fin (va := va) (vc := vc) (fa := qa) (fc := qc) X5.out RF5.out N5.out hle)
                        clear x0 x1 x2 x3 x4 hHeld
                        refine wpAnyH_done (by kernel_rfl) ?_ _
                        go_wp2_with fail
                        go_meet
                        exact Fin.out
                      exact AllReadyH.nil
                    exact AllReadyH.nil
                  exact AllReadyH.nil
                exact AllReadyH.nil
              refine AllReadyH.cons (o := _) rfl (fun K hK => ?_) ?_
              · go_simp
                refine hK.out _ _ ?_ (fun hHeld => ?_)
                · exact Keep.out _ (nw_alloc N1.out)
                clear hK K
                try simp only [Act.put, List.setIfInBounds_toArray, List.set_cons_zero, List.set_cons_succ]
                refine letter (G := fun X => wpAnyH _ _ _ _ _ _ _ _ X) _ ?_
                intro W2 hW2
                clear hHeld
                have N2 := Lib.hid (sN hW2 N1.out)
                have X2 := Lib.hid (sX hW2 X1.out)
                have L2 := Lib.hid (sLnew hW2)
                have LZ2 := Lib.hid (sLt hW2)
                clear hW2
                have hHeld := Keep.out _ N2.out
                refine wpAnyH_ready (rs := [2]) (by kernel_rfl) (by simp) ?_
                refine AllReadyH.cons (o := _) rfl (fun K hK => ?_) ?_
                · go_simp
                  refine hK.out _ _ ?_ (fun hHeld => ?_)
                  · exact Keep.out _ (nw_alloc N2.out)
                  clear hK K
                  try simp only [Act.put, List.setIfInBounds_toArray, List.set_cons_zero, List.set_cons_succ]
                  refine letter (G := fun X => wpAnyH _ _ _ _ _ _ _ _ X) _ ?_
                  intro W3 hW3
                  clear hHeld
                  have N3 := Lib.hid (sN hW3 N2.out)
                  have L3 := Lib.hid (sL hW3 L2.out)
                  have LZ3 := Lib.hid (sZ hW3 LZ2.out)
                  have X3 := Lib.hid (sX hW3 X2.out)
                  clear hW3
                  have hHeld := Keep.out _ N3.out
                  refine wpAnyH_ready (rs := [5]) (by kernel_rfl) (by simp) ?_
                  refine AllReadyH.cons (o := _) rfl (fun K hK => ?_) ?_
                  · refine step_fresh_rows rfl (.tmp 86) (.tmp 88) rfl w.heap.size P _ (.slice sa P sc) vs rfl rfl (own_nw Ho.out.1 N3.out) Hon.out hP0' hP48 ?_
                    intro v' W4 own' gr'
                    obtain ⟨pa, pc, rfl⟩ := own_shape' own'
                    have N4 := Lib.hid (N3.out.trans gr')
                    have OA4 := Lib.hid own'
                    have Z4 := Lib.hid gr'.size
                    have L4 := Lib.hid (((show Nw W3 W4 from gr').cell (p := ⟨W1.heap.size, 0, none⟩) LZ3.out).trans L3.out)
                    have LZ4 := Lib.hid (Nat.lt_of_lt_of_le LZ3.out gr'.size)
                    have X4 := Lib.hid (X3.out.nw gr')
                    clear own' gr'
                    refine hK.out _ _ ?_ (fun hHeld => ?_)
                    · exact Keep.out _ N4.out
                    clear hK K
                    try simp only [Act.put, List.setIfInBounds_toArray, List.set_cons_zero, List.set_cons_succ]
                    refine wpAnyH_ready (rs := [8]) (by kernel_rfl) (by simp) ?_
                    refine AllReadyH.cons (o := _) rfl (fun K hK => ?_) ?_
                    · refine step_append_row rfl (.tmp 89) (.tmp 91) rfl W3.heap.size P _ (.slice pa P pc) (.slice oa k oc) vs rfl rfl OA4.out L4.out rfl hP48 Z4.out ?_
                      intro v2 W5 own2 gr2
                      have FR := final_rows (wr := wr) (base := w.heap.size) (q := k) (P := P) (rows := rows) (r := List.replicate k 1065353216) (b2 := w9.heap.size) N4.out gr2 OA4.out (Nat.le_trans hszr (Nat.le_trans hszr2 N3.out.size)) N3.out.size hPl Ho.out.2 Or.out N9.out.size hlr own2
                      obtain ⟨qa, qc, rfl⟩ := own_shape' own2
                      have RF5 := Lib.hid FR.1
                      have N5 := Lib.hid FR.2
                      have X5 := Lib.hid (X4.out.grown gr2 (own_off OA4.out X4.out.ty (by decide)).symm)
                      clear own2 gr2 FR
                      refine hK.out _ _ ?_ (fun hHeld => ?_)
                      · exact Keep.out _ N5.out
                      clear hK K
                      try simp only [Act.put, List.setIfInBounds_toArray, List.set_cons_zero, List.set_cons_succ]
                      refine wpAnyH_take (i := 9) (oi := _) (v := ?_) rfl (by kernel_rfl) (by kernel_rfl) (by kernel_rfl) (fun _ _ _ h => h) (_root_.Or.inl ⟨by rfl, ?_⟩) (by assumption) ?_
                      rotate_left
                      · intro w hSw
                        (try dsimp only at hSw)
                        go_simp
                        all_goals with_reducible rfl
                      try simp only [Act.put, List.setIfInBounds_toArray, List.set_cons_zero, List.set_cons_succ]
                      refine wpAnyH_ready (rs := [11]) (by kernel_rfl) (by simp) ?_
                      refine AllReadyH.cons (o := _) rfl (fun K hK => ?_) ?_
                      · have hle := N0.out.size
                        obtain ⟨x0, x1, x2, x3, x4⟩ := X5.out.has2
                        go_simp
                        refine hK.out _ _ ?_ (fun hHeld => ?_)
                        · exact Keep.out _ ((N5.out.set (p := ⟨W0.heap.size, 0, none⟩) hle _).set (p := ⟨W0.heap.size, 1, none⟩) hle _)
                        clear hK K
                        try simp only [Act.put, List.setIfInBounds_toArray, List.set_cons_zero, List.set_cons_succ]
                        have Fin := Lib.hid (room_fin (va := va) (vc := vc) (fa := qa) (fc := qc) X5.out RF5.out N5.out hle)
                        clear x0 x1 x2 x3 x4 hHeld
                        refine wpAnyH_done (by kernel_rfl) ?_ _
                        go_wp2_with fail
                        go_meet
                        exact Fin.out
                      exact AllReadyH.nil
                    exact AllReadyH.nil
                  exact AllReadyH.nil
                exact AllReadyH.nil
              exact AllReadyH.nil
            exact AllReadyH.nil
          case rest =>
            obtain ⟨D, fa, fc, rfl, hasD, rsu, nwu⟩ := hcut
            have N10 := Lib.hid (N9.out.trans (Nr.out.trans nwu))
            have N9c := Lib.hid (Nr.out.trans nwu)
            have B10 := Lib.hid (B9.out.nw N9c.out)
            have R10 := Lib.hid (R9.out.nw N9c.out)
            have X10 := Lib.hid (own_nw X9.out N9c.out)
            have Z10 := Lib.hid (own_nw Z9.out N9c.out)
            have D10 := Lib.hid hasD
            have U10 := Lib.hid (show RoomV ms (rows ++ [List.replicate k 1065353216]) k (P + 1) w.heap.size w.heap.size (.slice va k vc) (.slice fa (P + 1) fc) wc from
              ⟨R9.out.hq, R9.out.hq16, by rw [List.length_append, R9.out.hP]; rfl, by omega, R9.out.ok, fun r hr x hx => by
                rcases List.mem_append.1 hr with hr | hr
                · exact R9.out.wt r hr x hx
                · simp at hr
                  subst hr
                  rw [List.mem_replicate] at hx
                  rw [hx.2]
                  exact wt_one, R10.out.om, rsu⟩)
            clear hasD rsu nwu b0 b1 b2 b3 b4
            obtain ⟨b0, b1, b2, b3, b4⟩ := B10.out
            obtain ⟨g0, hg, hgz0, hgz1, hgz2⟩ := info_parts info_int
            have E10 := Lib.hid (World.ownsRow_lit (base := wc.heap.size) (e := 3) (size := 1) wc #[] 0 (Nat.le_refl _) (by decide) rfl)
            go_wp2_with fail
            go_loopw [14, 15] (fun v i wr => EarsI P wc v i wr) (fun _ i _ => 25 - (intOf i).toNat)
            case atStart => exact ⟨0, by omega, rfl, E10.out, (Nw.refl _).alloc _⟩
            case round =>
              obtain ⟨j, hj, rfl, hown, hnw⟩ := hrel
              obtain ⟨ya, yc, rfl⟩ := own_shape' hown
              have Oj := Lib.hid hown
              have Nj := Lib.hid hnw
              clear hown hnw
              by_cases hlj : j < 25
              · have hsz := Nj.out.size
                go_wp2_with (at_builtin; refine wpList_append_own _ rfl _ _ 36 rfl wc.heap.size 3 g0 (.int .i64 0) 1 8 Try.underlying36 hg hgz0 hgz1 hgz2 rfl (by decide) _ _ _ rfl (Oj.out.alloc _) ⟨wr.heap.size, 0, none⟩ 1 1 [.int .i64 (P : Int)] rfl rfl ?c1 ?c2 ?c3 ?c4 ?c5 ?_)
                case c1 =>
                  intro j' u hj'
                  match j', hj' with
                  | 0, hj' => simp at hj'; subst hj'; simp [Addr.add]
                case c2 => intro u hu; simp at hu; subst hu; rfl
                case c3 => unfold maxLen; omega
                case c4 => omega
                case c5 => simp; omega
                · intro v' w10 hown10 hgrow _
                  have Nj2 := Lib.hid ((Nj.out.alloc _).grown hgrow (fun q' hq' => own_ge Oj.out q' hq'))
                  rw [show List.replicate j (Value.int .i64 (P : Int)) ++ [Value.int .i64 (P : Int)] = List.replicate (j + 1) (Value.int .i64 (P : Int)) from by rw [List.replicate_succ']] at hown10
                  have Oj2 := Lib.hid hown10
                  clear hown10 hgrow
                  go_wp2_with fail
                  go_roundw
                  case rel => exact ⟨j + 1, by omega, by rw [show ((j + 1 : Nat) : Int) = (j : Int) + 1 from by omega], Oj2.out, Nj2.out⟩
                  case measure => simp only [intOf]; omega
              · obtain rfl : j = 25 := by omega
                have N11 := Lib.hid (N10.out.trans Nj.out)
                have D11 := Lib.hid (D10.out.nw Nj.out)
                have U11 := Lib.hid (U10.out.nw Nj.out)
                have X11 := Lib.hid (own_nw X10.out Nj.out)
                have Z11 := Lib.hid (own_nw Z10.out Nj.out)
                have R11 := Lib.hid (R10.out.nw Nj.out)
                have B11 := Lib.hid (B10.out.nw Nj.out)
                clear b0 b1 b2 b3 b4
                obtain ⟨d0, d1, d2, d3, d4⟩ := D11.out
                go_wp2_with fail
                have hs1 : (rows ++ [List.replicate k 1065353216])[s]? = some rs := by rw [List.getElem?_append_left (by rw [R9.out.hP]; exact hsP)]; exact Hrs.out.1
                have hl1 : (rows ++ [List.replicate k 1065353216])[P]? = some (List.replicate k 1065353216) := by rw [List.getElem?_append_right (by rw [R9.out.hP]; exact Nat.le_refl _), R9.out.hP, Nat.sub_self]; rfl
                have hwl2 : (weighL ms rs).length = k := by rw [weighL_len ms rs (by rw [Hrs.out.2.2.1, R9.out.hq]), R9.out.hq]
                have Wo2 := weighL_ok ms rs R9.out.ok Hrs.out.2.2.2.2.1
                have G2 := Lib.hid (ring_small16 _ Wo2 k 26 hwl2 (by omega) (by omega) xs (by rw [Hp.out]; omega) Hsam.out).1
                have G3 := Lib.hid (ring_small16 _ Wo2 k 25 hwl2 (by omega) (by omega) xs (by rw [Hp.out]; omega) Hsam.out)
                have Hsl := Lib.hid (And.intro hs1 hl1)
                have hones : weighL ms (mulW rs (List.replicate k 1065353216)) = weighL ms rs := by
                  have := weigh_ones ms rs (fun x hx => (Hrs.out.2.2.2.2.1 x hx).1)
                  rwa [Hrs.out.2.2.1] at this
                have Hones := Lib.hid hones
                clear hs1 hl1 hwl2 Wo2 hones
                have Kl := Lib.hid (listenLast_ok ms (rows ++ [List.replicate k 1065353216]) k (P + 1) _ _ s P p 25 _ _ rs xs _ _ _ (.slice ya 25 yc) _ U11.out Hsl.out.1 Hsl.out.2 Hp.out (by omega) (by omega) X11.out Oj.out (ring_less _ _ _ G2.out) (ring_states _ _ _ G2.out))
                refine Kl.out.mono ?_
                rintro e w12 ⟨gh, rfl, own12, n12⟩
                have Hh12 := Lib.hid own12
                have N12 := Lib.hid (N11.out.trans n12)
                have D12 := Lib.hid (D11.out.nw n12)
                have U12 := Lib.hid (U11.out.nw n12)
                have X12 := Lib.hid (own_nw X11.out n12)
                have Z12 := Lib.hid (own_nw Z11.out n12)
                have R12 := Lib.hid (R11.out.nw n12)
                have B12 := Lib.hid (B11.out.nw n12)
                clear own12 n12 d0 d1 d2 d3 d4 Kl
                obtain ⟨d0, d1, d2, d3, d4⟩ := D12.out
                have hk2 := ringRoom_ok ms (rows ++ [List.replicate k 1065353216]) k (P + 1) _ _ s P p 25 _ rs (List.replicate k 1065353216) xs _ _ _ _ U12.out Hsl.out.1 Hsl.out.2 Hp.out (by omega) (by omega) X12.out (by rw [Hones.out]; exact G3.out.1)
                rw [Hones.out, show (((25 : Nat) : Int)) = 25 from rfl] at hk2
                have Kr := Lib.hid hk2
                clear hk2
                go_wp2_with fail
                refine Kr.out.mono ?_
                rintro e w13 ⟨gr, rfl, own13, n13⟩
                have Hr13 := Lib.hid own13
                have Hh13 := Lib.hid (own_nw Hh12.out n13)
                have N13 := Lib.hid (N12.out.trans n13)
                have X13 := Lib.hid (own_nw X12.out n13)
                have Z13 := Lib.hid (own_nw Z12.out n13)
                have R13 := Lib.hid (R12.out.nw n13)
                have B13 := Lib.hid (B12.out.nw n13)
                clear own13 n13 d0 d1 d2 d3 d4 Kr
                have Hlr2 := Lib.hid (ring_len' (weighL ms rs) (inputOf xs) 25)
                go_wp2_with fail
                refine (same_eq (ringS (weighL ms rs) (inputOf xs) 25) (ringS (weighL ms rs) (inputOf xs) 25) 25 _ _ _ _ Hlr2.out Hlr2.out (by omega) _ Hh13.out Hr13.out G3.out.2 G3.out.2 (same_self' _)).mono ?_
                rintro e w14 ⟨rfl, n14⟩
                have N14 := Lib.hid (N13.out.trans n14)
                have X14 := Lib.hid (own_nw X13.out n14)
                have Z14 := Lib.hid (own_nw Z13.out n14)
                have R14 := Lib.hid (R13.out.nw n14)
                have B14 := Lib.hid (B13.out.nw n14)
                clear n14
                go_wp2_with fail
                refine (fresh_any _ _ _ _ (by omega) (by omega) _ (bys_step Hb.out N14.out)).mono ?_
                rintro e w15 ⟨g5, l5, c5, rfl, -, -, hf5, bel5⟩
                have N15 := Lib.hid (N14.out.trans (nw_of_below bel5))
                have X15 := Lib.hid (own_nw X14.out (nw_of_below bel5))
                have Z15 := Lib.hid (own_nw Z14.out (nw_of_below bel5))
                have R15 := Lib.hid (R14.out.nw (nw_of_below bel5))
                have B15 := Lib.hid (B14.out.nw (nw_of_below bel5))
                have Hf5 := Lib.hid hf5
                clear hf5 bel5
                go_wp2_with fail
                refine (makeRoom_any _ _ _ 4 (by omega) (by omega) _ Hf5.out).mono ?_
                rintro e w16 ⟨ms', rows', mv', sv', rfl, hlen', hok', hrl', hwt', hown', hrs', n16⟩
                obtain ⟨q', hq'⟩ : ∃ q', q' = ms'.length := ⟨_, rfl⟩
                obtain ⟨P', hP'⟩ : ∃ P', P' = rows'.length := ⟨_, rfl⟩
                rw [← hq'] at hown' hlen' hrs'
                rw [← hP'] at hrl'
                obtain ⟨va', vc', rfl⟩ := own_shape' hown'
                obtain ⟨sa', sc', rfl⟩ := hrs'.shape
                rw [← hP'] at hrs' ⊢
                have n17 := n16.alloc (.cells #[.slice va' q' vc', .slice sa' P' sc'] 26 (0, 0))
                have N17 := Lib.hid (N15.out.trans n17)
                have X17 := Lib.hid (own_nw X15.out n17)
                have Z17 := Lib.hid (own_nw Z15.out n17)
                have R17 := Lib.hid (R15.out.nw n17)
                have B17 := Lib.hid (B15.out.nw n17)
                have C17 := Lib.hid (Has2.new w16 26 (.slice va' q' vc') (.slice sa' P' sc'))
                have V17 := Lib.hid (RoomV.nw (show RoomV ms' rows' q' P' w15.heap.size w15.heap.size (.slice va' q' vc') (.slice sa' P' sc') w16 from ⟨hq'.symm, by omega, hP'.symm, by omega, hok', hwt', hown', hrs'⟩) ((Nw.refl w16).alloc (.cells #[.slice va' q' vc', .slice sa' P' sc'] 26 (0, 0))))
                clear n16 n17 hown' hok' hwt' hrs' hq' hP'
                obtain ⟨b0, b1, b2, b3, b4⟩ := B17.out
                obtain ⟨c0, c1, c2, c3, c4⟩ := C17.out
                go_wp2_with fail
                by_cases hPz : P' = 0
                · subst hPz
                  refine (shareModes_no ms ms' rows rows' k q' P _ _ _ _ 0 _ _ _ _ _ R17.out V17.out (by omega)).mono ?_
                  rintro e w18 ⟨rfl, n18⟩
                  have n19 := n18.alloc (.cells #[.slice none 0 0, .slice none 0 0] 26 (0, 0))
                  have N19 := Lib.hid (N17.out.trans n19)
                  have C19 := Lib.hid (C17.out.nw n19)
                  have D19 := Lib.hid (Has2.new w18 26 (.slice none 0 0) (.slice none 0 0))
                  clear n18 n19 b0 b1 b2 b3 b4 c0 c1 c2 c3 c4
                  obtain ⟨c0, c1, c2, c3, c4⟩ := C19.out
                  obtain ⟨b0, b1, b2, b3, b4⟩ := D19.out
                  go_wp2_with fail
                  refine (ringRoom_no [] [] 0 0 0 0 s t (.slice none 0 0) (.slice none 0 0) (.slice ia p ic) (.int .i64 25) _ ⟨rfl, by omega, rfl, by omega, by simp, by simp, World.ownsRow_nil _ _ _ _, RowsR.nil _ _ _⟩ (by omega) (by omega)).mono ?_
                  rintro e w20 ⟨rfl, n20⟩
                  have N20 := Lib.hid (N19.out.trans n20)
                  have C20 := Lib.hid (C19.out.nw n20)
                  clear n20 b0 b1 b2 b3 b4 c0 c1 c2 c3 c4
                  obtain ⟨c0, c1, c2, c3, c4⟩ := C20.out
                  go_wp2_with fail
                  go_ret
                  exact ⟨rfl, nw_below N20.out⟩
                · have hPi' : ¬ ((P' : Int) = 0) := by omega
                  have hPb' : ((P' : Int) == 0) = false := by simp; omega
                  obtain ⟨r0, hr0⟩ : ∃ r0, rows[0]? = some r0 := ⟨rows[0]'(by rw [R17.out.hP]; omega), List.getElem?_eq_getElem _⟩
                  obtain ⟨r0', hr0'⟩ : ∃ r0', rows'[0]? = some r0' := ⟨rows'[0]'(by rw [V17.out.hP]; omega), List.getElem?_eq_getElem _⟩
                  have w0' := V17.out.wt r0' (List.mem_of_getElem? hr0')
                  have W0 := Lib.hid w0'
                  have L0 := Lib.hid (V17.out.rs.lens r0' (List.mem_of_getElem? hr0'))
                  refine (shareModes_ok ms ms' rows rows' k q' P P' _ _ _ _ 0 r0 r0' _ _ _ _ _ R17.out V17.out hr0 hr0' (by omega) (by omega) wt_zero).mono ?_
                  rintro e w18 ⟨mv2, sv2, rfl, hV, n18⟩
                  obtain ⟨va2, vc2, rfl⟩ := own_shape' hV.om
                  obtain ⟨sa2, sc2, rfl⟩ := hV.rs.shape
                  have hl2 := hV.hP
                  rw [hl2] at hV ⊢
                  have n19 := n18.alloc (.cells #[.slice va2 (k + q') vc2, .slice sa2 (P + P') sc2] 26 (0, 0))
                  have N19 := Lib.hid (N17.out.trans n19)
                  have C19 := Lib.hid (C17.out.nw n19)
                  have D19 := Lib.hid (Has2.new w18 26 (.slice va2 (k + q') vc2) (.slice sa2 (P + P') sc2))
                  have V19 := Lib.hid (hV.nw ((Nw.refl w18).alloc (.cells #[.slice va2 (k + q') vc2, .slice sa2 (P + P') sc2] 26 (0, 0))))
                  have X19 := Lib.hid (own_nw X17.out n19)
                  have Z19 := Lib.hid (own_nw Z17.out n19)
                  have hat : ∀ (j : Nat) r, rows[j]? = some r → (rows.map (fun r => r ++ scaleL r0' 0) ++ rows'.map (fun r => scaleL r0 0 ++ r))[j]? = some (r ++ scaleL r0' 0) := fun j r hj => by
                    have hjl := (List.getElem?_eq_some_iff.1 hj).1
                    rw [List.getElem?_append_left (by rw [List.length_map]; exact hjl), List.getElem?_map, hj]; rfl
                  have hS := hat s rs Hrs.out.1
                  have hT := hat t re Hrs.out.2.1
                  have lS := hV.rs.lens _ (List.mem_of_getElem? hS)
                  have lT := hV.rs.lens _ (List.mem_of_getElem? hT)
                  have G4 := Lib.hid (ring_small16 (weighL (ms ++ ms') (mulW (rs ++ scaleL r0' 0) (re ++ scaleL r0' 0))) (weighL_ok _ _ hV.ok (mulW_wt _ _ (hV.wt _ (List.mem_of_getElem? hS)) (hV.wt _ (List.mem_of_getElem? hT)))) (k + q') 25
                    (by rw [weighL_len _ _ (by rw [mulW_len _ _ (lS.trans lT.symm), lS, hV.hq]), hV.hq]) (by omega) (by omega) xs (by rw [Hp.out]; omega) Hsam.out)
                  have Heq := Lib.hid (shut_ring ms ms' rs re (scaleL r0' 0) (scaleL r0' 0) xs 25 (by rw [Hrs.out.2.2.1, R17.out.hq]) (by rw [Hrs.out.2.2.2.1, R17.out.hq]) V17.out.ok (scaleL_wt r0' 0 W0.out wt_zero) (scaleL_wt r0' 0 W0.out wt_zero) (scale_zr r0' W0.out) (fun x hx => (Hsam.out x hx).1) G1.out.2)
                  have hk3 := ringRoom_ok (ms ++ ms') _ (k + q') (P + P') _ _ s t p 25 _ (rs ++ scaleL r0' 0) (re ++ scaleL r0' 0) xs _ _ _ _ V19.out hS hT Hp.out (by omega) (by omega) X19.out G4.out.1
                  rw [show (((25 : Nat) : Int)) = 25 from rfl] at hk3
                  have K3 := Lib.hid hk3
                  clear n18 n19 b0 b1 b2 b3 b4 c0 c1 c2 c3 c4 hk3 hS hT lS lT hat hV hr0 hr0' w0' hl2
                  obtain ⟨c0, c1, c2, c3, c4⟩ := C19.out
                  obtain ⟨b0, b1, b2, b3, b4⟩ := D19.out
                  go_wp2_with fail
                  refine K3.out.mono ?_
                  rintro e w20 ⟨gz, rfl, own20, n20⟩
                  have S20 := Lib.hid (own_sam (j := 0) (m := 25) own20 (ring_len' _ _ 25) (by omega))
                  have T20 := Lib.hid (own_sam (j := 0) (m := 25) (own_nw Z19.out n20) (ring_len' _ _ 25) (by omega))
                  have N20 := Lib.hid (N19.out.trans n20)
                  have C20 := Lib.hid (C19.out.nw n20)
                  clear n20 own20 b0 b1 b2 b3 b4 c0 c1 c2 c3 c4 K3
                  obtain ⟨c0, c1, c2, c3, c4⟩ := C20.out
                  go_wp2_with fail
                  refine (equal_ok _ _ 25 _ _ _ _ (by omega) _ S20.out T20.out Heq.out).mono ?_
                  rintro e w21 ⟨rfl, n21⟩
                  have N21 := Lib.hid (N20.out.trans n21)
                  clear n21
                  go_wp2_with fail
                  go_ret
                  exact ⟨rfl, nw_below N21.out⟩
  · go_enter Try.func3, Try.ntmps3
    go_wp2
    go_ret
    exact ⟨rfl, Below.refl _ _⟩

/-! ### THE ROW's STEP: WRITTEN OUT: LEAVE IT -/
set_option maxRecDepth 100000 in
theorem lifted (os : Os) (started : os.Started) (H : Type) (enc : TypeId × Value → H) :
    ReturnsInHanded {} Try.checked os 3 .any (Rows.fnReciprocalSpec.pre6 enc Try.prog Try.f3 Rows.fnReciprocalRow.domain false) (Rows.fnReciprocalSpec.post enc Try.prog Try.f3 false true false false) := by
  refine returnsInHanded_of_change (C := Try.checked) own started (by kernel_rfl) Try.func3
    (ChangeSpec.witness6 (enc := enc) (C := Try.checked) false ⟨#[], #[.slice none 0 0], []⟩ 8 (by kernel_rfl) (by kernel_rfl) (by kernel_rfl) (by kernel_rfl)) ?_
  intro W base args ds gs before hval0 hW hcnd _
  have hval : ∀ (j : Nat) t v, Try.f3.params[j]? = some t → args[j]? = some v → Value.okWide Try.prog W .any base t v := hval0
  have hW' := hW
  obtain ⟨p, q, hA0, hV, rfl, hfz, hnd⟩ := hW
  have hA : DataW.TrodAll enc Try.prog W 0 (fun _ => true) true Try.f3.params.toList args.toList ds p := hA0
  rw [Try.params3] at hA hval
  obtain ⟨v0, vs0, d0, ds0, p0, q0, hargs, rfl, rfl, h0, r0⟩ := trodAll_cons hA
  obtain ⟨rfl, rfl, rfl⟩ := trodAll_nil r0
  obtain rfl : args = #[v0] := by cases args; simp_all
  obtain ⟨rfl, rfl⟩ := trodVars_none hV
  obtain ⟨a0, len0, cap0, rfl⟩ := okWide_slice Try.underlying22 (hval 0 22 v0 rfl rfl)
  have k0 := h0
  have lt0 : ∀ x ∈ p0, x.block < W.heap.size := by obtain ⟨m, hm⟩ := k0; exact DataW.trod_lt m _ _ _ hm
  obtain ⟨z0, w0⟩ : ∃ zs, IsRow .u8 W a0 len0 cap0 zs := by
    obtain ⟨fuel, hf⟩ := h0
    rcases open_ints Try.underlying22 Try.underlying5 (by kernel_rfl) hf with ⟨hcs, _⟩ | ⟨x, l, c, zs, hcs, _, hl, hm, hz, _, hcell, hwz⟩
    · simp [Value.cells] at hcs
      obtain ⟨rfl, rfl, rfl⟩ := hcs
      exact ⟨[], .inl ⟨rfl, rfl, rfl, rfl⟩⟩
    · simp [Value.cells] at hcs
      obtain ⟨rfl, rfl, rfl⟩ := hcs
      exact ⟨zs, .inr ⟨_, rfl, hl, hm, by simpa using hz, hcell, hwz⟩⟩
  clear hA0 hval0
  refine (walk a0 len0 cap0 z0 W w0).mono fun e W' ⟨he, bel⟩ => ?_
  subst he
  exact ⟨_, rfl, _, _, _, [], _, [], hW', trodAll_mk1 (shut_bool Try.underlying4 _), (trodAll_cons_mk (Below.trod laidOut (by kernel_rfl) (of_decide_eq_true (by kernel_rfl)) k0 bel lt0) trodAll_mk0), rfl, bel.frame _, fun h => by cases h⟩

theorem over : Rows.fnReciprocalRow.holds Try.pinned (OpenSpec.ofChange Rows.fnReciprocalSpec) :=
  OpenClaim.holds_of_wide 3 Try.f3 rfl rfl rfl rfl rfl rfl rfl ⟨rfl, rfl, rfl, rfl, rfl⟩ rfl rfl rfl rfl rfl (by kernel_rfl) Try.func3 (by kernel_rfl)
    (of_decide_eq_true (by kernel_rfl)) (by unfold Func.isWrapper; first | (rw [if_pos (by decide +kernel)]; kernel_rfl) | (rw [if_neg (by decide +kernel)]; exact ⟨rfl, rfl⟩))
    (fun os started H enc _ => lifted os started H enc)

/-- ████ THE STATEMENT ████ -/
theorem proved : Rows.FnReciprocalSaid := over
#print axioms proved
end Go.Proofs.Ytlhhcchncobmhaa.fnReciprocal

