/- Texts of a proof, put together: Wid2, NarW, Traj, Unit, Half, Clone, HalfW, NarM, Input, Row, Fls, En, EnN, Abs, Peak, Damp, TrajS, Ev, Ng, Lev.
   Conditions: those that each statement names. -/
import Derived.Test.YtlhhcchncobmhaaKFnWidened3
import Derived.Deep.CutBlock
import Derived.StillTailTactics
import Derived.Lib.SliceRun
import Derived.BigQuiet
import Derived.ProofKit
import Derived.OpenShut
import Derived.ShutString
import Derived.ChangeOld
import Derived.Test.YtlhhcchncobmhaaRows
/- The walks of what draws wide modes: the result's tests are met.
   Conditions: those that each statement names. -/
namespace Go.Proofs.Ytlhhcchncobmhaa
set_option linter.unusedSimpArgs false
set_option linter.unusedVariables false
open Go Go.RowKit

theorem info_wide : (Try.prog.info? 124).map (fun i => (i.zero, i.size, i.bytes)) = some (some (.agg #[.complex .f64 0 0, .complex .f64 0 0]), 2, 32) := by kernel_rfl
theorem scaleSpecD_any (x y k : Nat) (w : World) :
    Calls Try.prog 115 #[.complex .f64 x y, .float .f64 k] w fun e w' => ∃ w1 n, e = .returned (.complex .f64 (fres w .mul .f64 x k) (fres w1 .mul .f64 y k)) ∧ w' = w.drewN n := by
  go_enter Try.func115, Try.ntmps115
  go_wp2
  all_goals (go_ret; exact ⟨_, _, rfl, rfl⟩)

theorem fcv_up_lt (w : World) (b : Nat) : fcv w .f32 b .f64 < 2 ^ 64 := by
  unfold fcv
  rw [if_neg (by decide)]
  split
  · show (w.tape w.drawn _ % 2) * 2 ^ 63 + 0x7ff0000000000000 + 1 + (w.tape w.drawn _ / 2) % (2 ^ 52 - 1) < 2 ^ 64
    have h1 := Nat.mod_lt (w.tape w.drawn (Question.nanConv .f64 b)) (y := 2) (by decide)
    have h2 := Nat.mod_lt (w.tape w.drawn (Question.nanConv .f64 b) / 2) (y := 2 ^ 52 - 1) (by decide)
    omega
  · exact FloatKind.f64.format.write_lt _
  · split
    · have h1 := Nat.mod_lt (w.tape w.drawn (Question.floatToFloat b)) (y := 2 ^ 32) (by decide)
      exact Nat.lt_trans h1 (by decide)
    · exact FloatKind.f64.format.write_lt _

/-- a box of a wide mode of some bits -/
def HasW (w : World) (b : Nat) : Prop := ∃ m : W4, m.bits ∧ HasC w b m.cells
theorem HasW.nw {w w' : World} {b : Nat} (h : HasW w b) (n : Nw w w') : HasW w' b := by
  obtain ⟨m, h1, h2⟩ := h
  exact ⟨m, h1, h2.nw n⟩
theorem HasW.kp {c : Nat} {w w' : World} {b : Nat} (h : HasW w b) (hk : Kp c w w') (hne : b ≠ c) : HasW w' b := by
  obtain ⟨m, h1, h2⟩ := h
  exact ⟨m, h1, h2.kp hk hne⟩
theorem HasW.set0 {w : World} {b : Nat} (h : HasW w b) (x y : Nat) (hx : x < 2 ^ 64) (hy : y < 2 ^ 64) : HasW (w.setCell ⟨b, 0, none⟩ (.complex .f64 x y)) b := by
  obtain ⟨m, h1, h2⟩ := h
  exact ⟨⟨x, y, m.c, m.d⟩, ⟨hx, hy, h1.2.2⟩, h2.set 0 _⟩
theorem HasW.set1 {w : World} {b : Nat} (h : HasW w b) (x y : Nat) (hx : x < 2 ^ 64) (hy : y < 2 ^ 64) : HasW (w.setCell ⟨b, 1, none⟩ (.complex .f64 x y)) b := by
  obtain ⟨m, h1, h2⟩ := h
  exact ⟨⟨m.a, m.b, x, y⟩, ⟨h1.1, h1.2.1, hx, hy⟩, h2.set 1 _⟩

/-- what holds within a round of l6Draw: the row so far, the box of the mode -/
def WLoc (B : Nat) (w0 : World) (a : Option Addr) (len cap c base k : Nat) (ms : List W4) (v : Value) (bm : Nat) (wx : World) : Prop :=
  At B w0 a len cap c wx ∧ (bm ≠ c ∧ B ≤ bm ∧ w0.heap.size ≤ bm) ∧ HasW wx bm ∧ wx.ownsRow base 124 2 v ms.length (cellsW ms) ∧ v.ownBlock ≠ some bm
theorem WLoc.step {B : Nat} {w0 : World} {a : Option Addr} {len cap c base k : Nat} {ms : List W4} {v : Value} {bm : Nat} {w w' : World} (h : WLoc B w0 a len cap c base k ms v bm w) (hb : c < base) (g : At B w a len cap c w') : WLoc B w0 a len cap c base k ms v bm w' := by
  obtain ⟨h1, h2, h3, h4, h5⟩ := h
  exact ⟨⟨g.1, h1.2.trans g.2⟩, h2, h3.kp g.2 h2.1, own_kp h4 g.2 hb, h5⟩
theorem WLoc.nw {B : Nat} {w0 : World} {a : Option Addr} {len cap c base k : Nat} {ms : List W4} {v : Value} {bm : Nat} {w w' : World} (h : WLoc B w0 a len cap c base k ms v bm w) (g : Nw w w') : WLoc B w0 a len cap c base k ms v bm w' := by
  obtain ⟨h1, h2, h3, h4, h5⟩ := h
  exact ⟨h1.nw g, h2, h3.nw g, own_nw h4 g, h5⟩
theorem own_sete {w : World} {base : Nat} {E : TypeId} {size : Nat} {v : Value} {n : Nat} {xs : List Value} (h : w.ownsRow base E size v n xs) {b o : Nat} (hp : v.ownBlock ≠ some b) (u : Value) : (w.setCell ⟨b, o, none⟩ u).ownsRow base E size v n xs :=
  h.kept (Kp.set (Kp.refl b w) o u) (.inr hp)
theorem WLoc.set0 {B : Nat} {w0 : World} {a : Option Addr} {len cap c base k : Nat} {ms : List W4} {v : Value} {bm : Nat} {w : World} (h : WLoc B w0 a len cap c base k ms v bm w) (x y : Nat) (hx : x < 2 ^ 64) (hy : y < 2 ^ 64) : WLoc B w0 a len cap c base k ms v bm (w.setCell ⟨bm, 0, none⟩ (.complex .f64 x y)) := by
  obtain ⟨h1, h2, h3, h4, h5⟩ := h
  exact ⟨h1.set h2.1 h2.2.1 h2.2.2 _, h2, h3.set0 x y hx hy, own_sete h4 h5 _, h5⟩
theorem WLoc.set1 {B : Nat} {w0 : World} {a : Option Addr} {len cap c base k : Nat} {ms : List W4} {v : Value} {bm : Nat} {w : World} (h : WLoc B w0 a len cap c base k ms v bm w) (x y : Nat) (hx : x < 2 ^ 64) (hy : y < 2 ^ 64) : WLoc B w0 a len cap c base k ms v bm (w.setCell ⟨bm, 1, none⟩ (.complex .f64 x y)) := by
  obtain ⟨h1, h2, h3, h4, h5⟩ := h
  exact ⟨h1.set h2.1 h2.2.1 h2.2.2 _, h2, h3.set1 x y hx hy, own_sete h4 h5 _, h5⟩

theorem toList_madeCells_two (z : Value) (n : Nat) : (madeCells #[z, z] n).toList = List.replicate n z := by
  apply List.ext_getElem?
  intro j
  by_cases hj : j < n
  · have h2 : j % 2 = 0 ∨ j % 2 = 1 := by omega
    rcases h2 with h | h <;> simp [madeCells, hj, h]
  · simp [madeCells, hj]
def WDrawI (B : Nat) (w0 : World) (a : Option Addr) (len cap c base M : Nat) (v i : Value) (wr : World) : Prop :=
  ∃ (k : Nat) (ms : List W4), i = .int .i64 (k : Int) ∧ k + ms.length ≤ M ∧ At B w0 a len cap c wr ∧ wr.ownsRow base 124 2 v ms.length (cellsW ms) ∧ (∀ m ∈ ms, m.bits) ∧ base ≤ wr.heap.size
def WDrawP (B : Nat) (w0 : World) (a : Option Addr) (len cap c base : Nat) (e : Ending) (w' : World) : Prop :=
  ∃ (ms : List W4) (v : Value), e = .returned v ∧ ms.length ≤ 17 ∧ (∀ m ∈ ms, m.bits) ∧ w'.ownsRow base 124 2 v ms.length (cellsW ms) ∧ At B w0 a len cap c w'

set_option maxHeartbeats 3200000 in
set_option maxRecDepth 100000 in
theorem l6Draw_at (B : Nat) (w0 : World) (a : Option Addr) (len cap c : Nat) (w : World) (hc : At B w0 a len cap c w) :
    Calls Try.prog 88 #[.pointer (some ⟨c, 0, none⟩)] w (WDrawP B w0 a len cap c w.heap.size) := by
  obtain ⟨i0, hi, hz0, hz1, hz2⟩ := info_parts info_wide
  have hcs : c < w.heap.size := hc.1.2.1
  have hBc : B ≤ c := hc.1.1
  have hw0 : w0.heap.size ≤ w.heap.size := hc.2.size
  have Hc := Lib.hid hc
  have L0 := Lib.hid (World.ownsRow_lit (base := w.heap.size) (e := 124) (size := 2) w #[] 0 (Nat.le_refl _) (by decide) rfl)
  have H0 := Lib.hid (hc.alloc (.cells #[] 124 (0, 0)))
  have s0 : (w.alloc (.cells #[] 124 (0, 0))).heap.size = w.heap.size + 1 := by simp
  clear hc
  go_enter Try.func88, Try.ntmps88
  go_wp2_with fail
  refine (below_at _ _ _ _ _ _ _ (by omega) (by omega) _ H0.out.here).mono ?_
  rintro e w1 ⟨x, x0, x1, rfl, hc1⟩
  have Hs1 := Lib.hid (show w.heap.size ≤ w1.heap.size from by have := hc1.2.size; omega)
  have R1 := Lib.hid (own_kp L0.out hc1.2 hcs)
  have H1 := Lib.hid (show At B w0 a len cap c w1 from ⟨hc1.1, H0.out.2.trans hc1.2⟩)
  clear hc1
  go_wp2_with fail
  go_loopw [3, 4] (fun v i wr => WDrawI B w0 a len cap c w.heap.size 5 v i wr) (fun _ i _ => (intOf i).toNat)
  case atStart => exact ⟨x.toNat, [], by rw [Int.toNat_of_nonneg x0], by simp; omega, H1.out, R1.out, by simp, Hs1.out⟩
  case round =>
    obtain ⟨k, ms, rfl, hk, hat, hown, hok, hbase⟩ := hrel
    obtain ⟨va, vn, vc, rfl⟩ := own_shape hown
    have Hat := Lib.hid hat
    have Hown := Lib.hid hown
    have Hok := Lib.hid hok
    clear hat hown hok
    by_cases hk0 : 0 < k
    · go_wp2_with fail
      refine (l2Turn_at _ _ _ _ _ _ _ Hat.out.here).mono ?_
      rintro e w2 ⟨p, q, rfl, hc2⟩
      have H2 := Lib.hid (show At B w0 a len cap c w2 from ⟨hc2.1, Hat.out.2.trans hc2.2⟩)
      have R2 := Lib.hid (own_kp Hown.out hc2.2 hcs)
      have s2 : w.heap.size ≤ w2.heap.size := by have := hc2.2.size; omega
      clear hc2
      go_wp2_with fail
      refine (l1Some_at _ _ _ _ _ _ _ (H2.out.here.draw _)).mono ?_
      rintro e w3 ⟨g1, rfl, hg1, hc3⟩
      have H3 := Lib.hid (show At B w0 a len cap c w3 from ⟨hc3.1, H2.out.2.trans hc3.2⟩)
      have R3 := Lib.hid (own_kp R2.out hc3.2 hcs)
      have s3 : w.heap.size ≤ w3.heap.size := by have := hc3.2.size; omega
      clear hc3
      go_wp2_with fail
      refine (l1Some_at _ _ _ _ _ _ _ (H3.out.here.draw _)).mono ?_
      rintro e w4 ⟨g2, rfl, hg2, hc4⟩
      have H4 := Lib.hid (show At B w0 a len cap c w4 from ⟨hc4.1, H3.out.2.trans hc4.2⟩)
      have R4 := Lib.hid (own_kp R3.out hc4.2 hcs)
      have s4 : w.heap.size ≤ w4.heap.size := by have := hc4.2.size; omega
      clear hc4
      obtain ⟨m4, hm4⟩ : ∃ m : W4, m = ⟨fcv w2 .f32 p .f64, fcv (w2.drewN (fcd .f32 p .f64)) .f32 q .f64, fres w3 .quo .f64 g1 4652218415073722368, fres w4 .quo .f64 g2 4652218415073722368⟩ := ⟨_, rfl⟩
      have Hm4 := Lib.hid (show m4.bits from by rw [hm4]; exact ⟨fcv_up_lt _ _, fcv_up_lt _ _, fres_wf _ _ _ _ _, fres_wf _ _ _ _ _⟩)
      have e1 : fcv w2 .f32 p .f64 = m4.a := by rw [hm4]
      have e2 : fcv (w2.drewN (fcd .f32 p .f64)) .f32 q .f64 = m4.b := by rw [hm4]
      have e3 : fres w3 .quo .f64 g1 4652218415073722368 = m4.c := by rw [hm4]
      have e4 : fres w4 .quo .f64 g2 4652218415073722368 = m4.d := by rw [hm4]
      clear hm4
      simp only [e1, e2, e3]
      obtain ⟨w5, hw5⟩ : ∃ w5, w5 = (w4.alloc (.cells #[.complex .f64 m4.a m4.b, .complex .f64 m4.c m4.d] 124 (0, 0))).drewN (fdr .quo .f64 g2 4652218415073722368) := ⟨_, rfl⟩
      have Ew5 := Lib.hid hw5
      have hW5 : WLoc B w0 a len cap c w.heap.size k ms (.slice va vn vc) w4.heap.size w5 := by
        rw [hw5]
        refine WLoc.nw ⟨H4.out.alloc _, ⟨by have := H4.out.1.2.1; omega, by omega, by omega⟩, ⟨m4, Hm4.out, new2 _ _ _ _⟩, R4.out.alloc _, ?_⟩ ((Nw.refl _).draw _)
        intro e
        have := (R4.out.lt _ e).2
        omega
      have HW5 := Lib.hid hW5
      have Hok' := Hok.out
      clear hw5 hW5 H2 H3 H4 R2 R3 R4
      go_wp2_with fail
      rw [← Ew5.out]
      clear Ew5
      refine (below_at _ _ _ _ _ _ _ (by omega) (by omega) _ HW5.out.1.here).mono ?_
      rintro e w6 ⟨x6, x60, x61, rfl, hc6⟩
      have HW6 := Lib.hid (HW5.out.step hcs hc6)
      have hb6 : w4.heap.size ≠ c := HW6.out.2.1.1
      clear hc6 e1 e2 e3 e4
      obtain ⟨bm, hbm⟩ : ∃ bm, bm = w4.heap.size := ⟨_, rfl⟩
      rw [← hbm] at HW6 hb6
      rw [← hbm]
      have hbmw : w.heap.size ≤ bm := by rw [hbm]; exact s4
      clear hbm
      go_upto_block 2 with fail
      go_cut [] (fun wx => WLoc B w0 a len cap c w.heap.size k ms (.slice va vn vc) bm wx)
      case first =>
        obtain ⟨m5, hm5, hx5⟩ := HW6.out.2.2.1
        obtain ⟨⟨c0, f0⟩, ⟨c1, f1⟩⟩ := two_at hx5
        by_cases h0 : x6 = 0
        · subst h0
          have hq : ∀ z, fdr .quo .f64 (floatOfInt .f64 z) 4652016104934211584 = 0 := fun z => quo_calm (int_nn _ _) (show FloatKind.f64.decode 4652016104934211584 = .number false 8804889115230208 (-43) by decide) (by decide)
          have hf : ∀ (z : Int) (w : World), fres w .quo .f64 (floatOfInt .f64 z) 4652016104934211584 = (floatBits .quo .f64 (floatOfInt .f64 z) 4652016104934211584).getD 0 := fun z w => fres_calm (hq z) w
          have hq2 : ∀ (z : Int) (w : World), (binOp .quo 49 (.float .f64 (floatOfInt .f64 z)) (.float .f64 4652016104934211584)).run Try.prog w = .ok (.float .f64 ((floatBits .quo .f64 (floatOfInt .f64 z) 4652016104934211584).getD 0)) w := by
            intro z w
            rw [run_fl_quo, hq, hf]; rfl
          have Hx5 := Lib.hid (show HasC (w6.drewN 1) bm [.complex .f64 m5.a m5.b, .complex .f64 m5.c m5.d] from hx5.draw 1)
          have HA := Lib.hid (HW6.out.nw ((Nw.refl _).draw 1))
          have Ha := Lib.hid HA.out.1
          clear hx5
          go_wp2_with fail
          go_region_with
            (first
              | (go_at_call 51; refine (below_at B _ a len cap c 1000 (by omega) (by omega) _ Ha.out.here).mono ?_; rintro e w7 ⟨x7, x70, x71, rfl, hc7⟩; have HW7 := Lib.hid (HA.out.step hcs hc7); have h7 : w7.cell? ⟨bm, 0, none⟩ = some (.complex .f64 m5.a m5.b) := (two_at (Hx5.out.kp hc7.2 hb6)).1.1; have h7f : w7.frozen? ⟨bm, 0, none⟩ = false := (two_at (Hx5.out.kp hc7.2 hb6)).1.2)
              | (go_at_call 115; refine (scaleSpecD_any _ _ _ _).mono ?_; rintro e w8 ⟨w9, n8, rfl, rfl⟩))
          all_goals
            go_wp2_with fail
            go_meet
            exact (HW7.out.set0 _ _ (fres_wf _ _ _ _ _) (fres_wf _ _ _ _ _)).nw ((Nw.refl _).draw _)
        · by_cases h1 : x6 = 1
          · subst h1
            go_wp2_with fail
            refine (below_at _ _ _ _ _ _ _ (by omega) (by omega) _ HW6.out.1.here).mono ?_
            rintro e w7 ⟨x7, x70, x71, rfl, hc7⟩
            have HW7 := Lib.hid (HW6.out.step hcs hc7)
            clear hc7 c0 f0 c1 f1
            go_wp2_with fail
            refine (below_at _ _ _ _ _ _ _ (by omega) (by omega) _ (HW7.out.1.here.draw _)).mono ?_
            rintro e w8 ⟨x8, x80, x81, rfl, hc8⟩
            have HW8 := Lib.hid (HW7.out.step hcs hc8)
            clear hc8
            obtain ⟨m8, hm8, hx8⟩ := HW8.out.2.2.1
            obtain ⟨⟨c0, f0⟩, ⟨c1, f1⟩⟩ := two_at hx8
            go_wp2_with fail
            go_meet
            exact (HW8.out.set0 _ _ (fres_wf _ _ _ _ _) (fres_wf _ _ _ _ _)).nw ((Nw.refl _).draw _)
          · go_wp2_with fail
            go_meet
            exact HW6.out
      case rest =>
        have Hl := Lib.hid hcut
        clear hcut HW6
        go_wp2_with fail
        refine (once_at _ _ _ _ _ _ _ (by omega) (by omega) _ Hl.out.1.here).mono ?_
        rintro e w7 ⟨b7, rfl, hc7⟩
        have Hl := Lib.hid (Hl.out.step hcs hc7)
        clear hc7
        go_upto_if 49 with fail
        go_cut [] (fun wx => WLoc B w0 a len cap c w.heap.size k ms (.slice va vn vc) bm wx)
        case first =>
          cases b7
          · go_wp2_with fail
            go_meet
            exact Hl.out
          · go_wp2_with fail
            refine (l1Double_at _ _ _ _ _ _ _ Hl.out.1.here).mono ?_
            rintro e w8 ⟨x8, y8, rfl, hx8, hy8, hc8⟩
            have Hl := Lib.hid (Hl.out.step hcs hc8)
            clear hc8
            obtain ⟨m8, hm8, hb8⟩ := Hl.out.2.2.1
            obtain ⟨⟨c0, f0⟩, ⟨c1, f1⟩⟩ := two_at hb8
            go_wp2_with fail
            go_meet
            exact Hl.out.set0 _ _ hx8 hy8
        case rest =>
          have Hl := Lib.hid hcut
          clear hcut
          go_wp2_with fail
          refine (once_at _ _ _ _ _ _ _ (by omega) (by omega) _ Hl.out.1.here).mono ?_
          rintro e w8 ⟨b8, rfl, hc8⟩
          have Hl := Lib.hid (Hl.out.step hcs hc8)
          clear hc8
          go_upto_if 54 with fail
          go_cut [] (fun wx => WLoc B w0 a len cap c w.heap.size k ms (.slice va vn vc) bm wx)
          case first =>
            cases b8
            · go_wp2_with fail
              go_meet
              exact Hl.out
            · go_wp2_with fail
              refine (l1Double_at _ _ _ _ _ _ _ Hl.out.1.here).mono ?_
              rintro e w9 ⟨x9, y9, rfl, hx9, hy9, hc9⟩
              have Hl := Lib.hid (Hl.out.step hcs hc9)
              clear hc9
              obtain ⟨m9, hm9, hb9⟩ := Hl.out.2.2.1
              obtain ⟨⟨c0, f0⟩, ⟨c1, f1⟩⟩ := two_at hb9
              go_wp2_with fail
              go_meet
              exact Hl.out.set1 _ _ hx9 hy9
          case rest =>
            have Hl := Lib.hid hcut
            clear hcut
            obtain ⟨m9, hm9, hb9⟩ := Hl.out.2.2.1
            obtain ⟨⟨c0, f0⟩, ⟨c1, f1⟩⟩ := two_at hb9
            have Hm9 := Lib.hid hm9
            obtain ⟨ma, mb, mc, md⟩ := m9
            simp only at c0 c1
            have Ho := Lib.hid Hl.out.2.2.2.1
            have hlen : vn = ms.length := by
              obtain ⟨ta, tc, ht⟩ := own_shape' Ho.out
              cases ht; rfl
            subst hlen
            go_wp2_with (at_builtin; refine wpList_append_own _ rfl _ _ 72 rfl w.heap.size 124 i0 (.agg #[.complex .f64 0 0, .complex .f64 0 0]) 2 32 Try.underlying72 hi hz0 hz1 hz2 rfl (by decide) _ _ _ rfl (Ho.out.alloc _) ⟨wc.heap.size, 0, none⟩ 1 1 [.complex .f64 ma mb, .complex .f64 mc md] rfl rfl ?c1 ?c2 ?c3 ?c4 ?c5 ?_)
            case c1 =>
              intro j u hj
              match j, hj with
              | 0, hj => simp at hj; subst hj; simp [Addr.add]
              | 1, hj => simp at hj; subst hj; simp [Addr.add]
            case c2 => intro u hu; simp at hu; rcases hu with rfl | rfl <;> rfl
            case c3 => unfold maxLen; omega
            case c4 => omega
            case c5 => have := hb9.1; simp; omega
            · intro v' w9 hown9 hgrow _
              have hrow : ∀ q, (Value.slice va ms.length vc).ownBlock = some q → w.heap.size ≤ q := fun q hq => own_ge Ho.out q hq
              have Hc9 := Lib.hid ((Hl.out.1.alloc _).grown hgrow hrow hcs (by omega) (by omega))
              have Hs9 := Lib.hid (show w.heap.size ≤ w9.heap.size from by have := hgrow.size; have := hb9.1; simp at *; omega)
              rw [show cellsW ms ++ [Value.complex .f64 ma mb, Value.complex .f64 mc md] = cellsW (ms ++ [⟨ma, mb, mc, md⟩]) from (cellsW_snoc ms ⟨ma, mb, mc, md⟩).symm, show ms.length + 1 = (ms ++ [(⟨ma, mb, mc, md⟩ : W4)]).length from by simp] at hown9
              obtain ⟨ta, tl, tc, rfl⟩ := own_shape hown9
              have Hown9 := Lib.hid hown9
              have Hok9 := Lib.hid (show ∀ m ∈ ms ++ [(⟨ma, mb, mc, md⟩ : W4)], m.bits from by
                intro m hm
                rcases List.mem_append.1 hm with hm | hm
                · exact Hok.out m hm
                · simp at hm; subst hm; exact Hm9.out)
              clear hown9 hgrow hrow c0 f0 c1 f1
              go_wp2_with fail
              go_roundw
              case rel => exact ⟨k - 1, ms ++ [⟨ma, mb, mc, md⟩], by rw [show ((k - 1 : Nat) : Int) = (k : Int) - 1 from by omega], by simp; omega, Hc9.out, Hown9.out, Hok9.out, Hs9.out⟩
              case measure => simp only [intOf]; omega
    · go_wp2_with fail
      refine (once_at _ _ _ _ _ _ _ (by omega) (by omega) _ Hat.out.here).mono ?_
      rintro e w2 ⟨b, rfl, hc2⟩
      have H2 := Lib.hid (show At B w0 a len cap c w2 from ⟨hc2.1, Hat.out.2.trans hc2.2⟩)
      have R2 := Lib.hid (own_kp Hown.out hc2.2 hcs)
      have s2 : w.heap.size ≤ w2.heap.size := by have := hc2.2.size; omega
      clear hc2
      have hlen : vn = ms.length := by
        obtain ⟨ta, tc, ht⟩ := own_shape' R2.out
        cases ht; rfl
      subst hlen
      cases b
      · go_wp2_with fail
        go_ret
        exact ⟨ms, .slice va ms.length vc, rfl, by omega, Hok.out, R2.out, H2.out⟩
      · go_wp2_with (first
          | (at_make; refine wpList_make_full _ rfl _ _ 72 rfl w.heap.size 124 i0 (.agg #[.complex .f64 0 0, .complex .f64 0 0]) 2 Try.underlying72 hi hz0 hz1 _ _ _ _ 17 rfl rfl rfl rfl (by rw [hz2]; omega) (by unfold maxLen; omega) s2 ?_))
        intro w3 hown3 hgrow3
        have R3 := Lib.hid (show w3.ownsRow w.heap.size 124 2 (.slice (some ⟨w2.heap.size, 0, none⟩) 17 17) (List.replicate 17 (⟨0, 0, 0, 0⟩ : W4)).length (cellsW (List.replicate 17 ⟨0, 0, 0, 0⟩)) from by
          have e : (madeCells #[Value.complex .f64 0 0, Value.complex .f64 0 0] 34).toList = cellsW (List.replicate 17 ⟨0, 0, 0, 0⟩) := by rw [toList_madeCells_two]; rfl
          rw [← e]; exact hown3)
        have H3 := Lib.hid (H2.out.nw hgrow3)
        clear hown3 hgrow3
        go_wp2_with fail
        go_ret
        refine ⟨List.replicate 17 ⟨0, 0, 0, 0⟩, _, rfl, by simp, ?_, R3.out, H3.out⟩
        intro m hm
        rw [List.eq_of_mem_replicate hm]
        exact ⟨by decide, by decide, by decide, by decide⟩

/-- a valid list of wide modes, of memory of its own -/
def MadeW (w : World) (e : Ending) (w' : World) : Prop := ∃ (ms : List W4) (v : Value), e = .returned v ∧ areB ms = true ∧ (∀ m ∈ ms, m.bits) ∧ w'.ownsRow w.heap.size 124 2 v ms.length (cellsW ms) ∧ Nw w w'
theorem makeWide_any (a : Option Addr) (len cap : Nat) (w : World) (hb : Bys w.heap.size a len w) :
    Calls Try.prog 46 #[.slice a len cap] w (MadeW w) := by
  have Hb := Lib.hid hb
  clear hb
  go_enter Try.func46, Try.ntmps46
  go_wp2_with fail
  refine (l01New_any _ _ _ _ Hb.out).mono ?_
  rintro e w1 ⟨rfl, hat⟩
  have Hn1 := Lib.hid (show Nw w w1 from hat.2.nw (by simp))
  have Hat := Lib.hid hat
  clear hat
  go_wp2_with fail
  refine (l6Draw_at _ _ _ _ _ _ _ Hat.out.here).mono ?_
  rintro e w2 ⟨ms, v, rfl, hms, hok, hown, hc2⟩
  have Hn2 := Lib.hid (show Nw w w2 from ⟨hc2.2.os.trans Hn1.out.os, hc2.2.tape.trans Hn1.out.tape, hc2.2.output.trans Hn1.out.output, Nat.le_trans Hn1.out.size hc2.2.size,
    fun k hk hne => (hc2.2.block k (Nat.lt_of_lt_of_le hk Hn1.out.size) (fun e => by cases e; omega)).trans (Hn1.out.block k hk hne)⟩)
  obtain ⟨n, hn⟩ : ∃ n, n = ms.length := ⟨_, rfl⟩
  rw [← hn] at hown hms
  have Hn := Lib.hid hn.symm
  obtain ⟨va, vc, rfl⟩ := own_shape' hown
  have Hown := Lib.hid (own_base hown Hn1.out.size)
  have Hok := Lib.hid hok
  clear hc2 hown hok hn
  go_wp2_with fail
  refine (specAreWide_any ms n _ _ Hn.out (by omega) _ Hown.out).mono ?_
  rintro e w3 ⟨rfl, n3⟩
  have Hn3 := Lib.hid (Hn2.out.trans n3)
  have Hown3 := Lib.hid (own_nw Hown.out n3)
  clear n3
  cases hb : areB ms with
  | false =>
    go_wp2_with fail
    go_ret
    exact ⟨[], .slice none 0 0, rfl, rfl, by simp, World.ownsRow_nil _ _ _ _, Hn3.out⟩
  | true =>
    go_wp2_with fail
    go_ret
    exact ⟨ms, .slice va n vc, rfl, hb, Hok.out, by rw [Hn.out]; exact Hown3.out, Hn3.out⟩

end Go.Proofs.Ytlhhcchncobmhaa

/- The walks of WidenBody and of NarrowModes of what was widened.
   Conditions: those that each statement names. -/
namespace Go.Proofs.Ytlhhcchncobmhaa
set_option linter.unusedSimpArgs false
set_option linter.unusedVariables false
open Go Go.RowKit

def widenM (m : M4) : W4 := ⟨wid m.pr, wid m.pi, wid m.gr, wid m.gi⟩
theorem widenM_bits (m : M4) : (widenM m).bits := ⟨wid_lt _, wid_lt _, wid_lt _, wid_lt _⟩
theorem widenM_ok {m : M4} (h : m.ok) : wideB (widenM m) = true := by
  obtain ⟨s1, s2, s3, s4⟩ := h.nums
  obtain ⟨-, -, -, -, h5, h6, h7⟩ := Valid.parts h
  obtain ⟨a, b, e1, e2, e3, -, -⟩ := sqr_num s1 s2
  unfold wideB widenM
  simp only
  rw [fin_wid s1, fin_wid s2, fin_wid s3, fin_wid s4, h6, h7]
  have : sqF (wid m.pr) (wid m.pi) = some (sqr (wid m.pr) (wid m.pi)) := by
    unfold sqF
    rw [fab_of_fin (fin_wid s1), fab_of_fin (fin_wid s2)]
    show fA .add .f64 (floatBits .mul .f64 _ _) (floatBits .mul .f64 _ _) = _
    rw [e1, e2]
    exact e3
  rw [this, show leF (some (sqr (wid m.pr) (wid m.pi))) 4607182418800017408 = leB (sqr (wid m.pr) (wid m.pi)) 4607182418800017408 from rfl, h5]
  rfl
theorem widen_are {ms : List M4} (hl : ms.length ≤ 16) (h : ∀ m ∈ ms, m.ok) : areB (ms.map widenM) = true := by
  rw [areB_iff]
  refine ⟨by simpa using hl, fun m hm => ?_⟩
  obtain ⟨m', h1, rfl⟩ := List.mem_map.1 hm
  exact widenM_ok (h m' h1)

/-- the row when k modes are laid -/
def mixW (ws : List W4) (k n : Nat) : List W4 := ws.take k ++ List.replicate (n - k) ⟨0, 0, 0, 0⟩
theorem cellsW_app (a b : List W4) : cellsW (a ++ b) = cellsW a ++ cellsW b := by simp [cellsW]
theorem cellsW_zero : ∀ n, cellsW (List.replicate n ⟨0, 0, 0, 0⟩) = List.replicate (n * 2) (.complex .f64 0 0)
  | 0 => rfl
  | n + 1 => by
    rw [List.replicate_succ, show (n + 1) * 2 = n * 2 + 2 from by omega, List.replicate_succ, List.replicate_succ, ← cellsW_zero n]
    rfl
theorem mixW_zero (ws : List W4) (n : Nat) : cellsW (mixW ws 0 n) = List.replicate (n * 2) (.complex .f64 0 0) := by
  unfold mixW
  rw [List.take_zero, List.nil_append, Nat.sub_zero, cellsW_zero]
theorem mixW_full (ws : List W4) (n : Nat) (h : ws.length = n) : mixW ws n n = ws := by
  unfold mixW
  rw [Nat.sub_self, List.replicate_zero, List.append_nil, List.take_of_length_le (by omega)]
theorem mixW_set (ws : List W4) (k n : Nat) (m : W4) (hk : k < n) (hn : ws.length = n) (h : ws[k]? = some m) :
    ((cellsW (mixW ws k n)).set (k * 2) (.complex .f64 m.a m.b)).set (k * 2 + 1) (.complex .f64 m.c m.d) = cellsW (mixW ws (k + 1) n) := by
  obtain ⟨hk', he⟩ := List.getElem?_eq_some_iff.1 h
  have hl : (cellsW (ws.take k)).length = k * 2 := by rw [cellsW_len, List.length_take]; omega
  unfold mixW
  rw [show n - k = (n - (k + 1)) + 1 from by omega, List.replicate_succ, List.take_succ_eq_append_getElem hk', he, cellsW_app, cellsW_app, cellsW_app]
  rw [List.set_append_right _ _ (by omega), hl, Nat.sub_self]
  rw [List.set_append_right _ _ (by omega), hl, show k * 2 + 1 - k * 2 = 1 from by omega, List.append_assoc]
  congr 1

def WidenI (ms : List M4) (B g bb n : Nat) (bv : Value) (w : World) (i : Value) (wr : World) : Prop :=
  ∃ k : Nat, k ≤ n ∧ i = .int .i64 (k : Int) ∧ wr.ownsRow B 124 2 (.slice (some ⟨g, 0, none⟩) n n) n (cellsW (mixW (ms.map widenM) k n)) ∧ Has1 wr bb bv ∧ Nw w wr
def WidenP (ms : List M4) (w : World) (e : Ending) (w' : World) : Prop :=
  ∃ v, e = .returned (.tuple #[v, .bool true]) ∧ w'.ownsRow w.heap.size 124 2 v ms.length (cellsW (ms.map widenM)) ∧ Nw w w'

set_option maxRecDepth 100000 in
set_option maxHeartbeats 3200000 in
theorem widenBody_ok (ms : List M4) (hms : ∀ m ∈ ms, m.ok) (n bm : Nat) (v : Value) (hq : ms.length = n) (hq16 : n ≤ 16) (w : World)
    (hm : w.ownsRow bm 61 2 v n (cellsM ms)) :
    Calls Try.prog 41 #[.agg #[v]] w (WidenP ms w) := by
  obtain ⟨va, vc, rfl⟩ := own_shape' hm
  obtain ⟨i0, hi, hz0, hz1, hz2⟩ := info_parts info_wide
  have Hm := Lib.hid hm
  have Hq := Lib.hid hq
  have Hbox := Lib.hid (Has1.new w 69 (.slice va n vc))
  have Hn0 := Lib.hid ((Nw.refl w).alloc (.cells #[.slice va n vc] 69 (0, 0)))
  have Hm0 := Lib.hid (own_nw hm Hn0.out)
  clear hm hq
  go_enter Try.func41, Try.ntmps41
  go_wp2_with fail
  refine (implIsBody_ok ms hms n bm _ Hq.out hq16 _ Hm0.out).mono ?_
  rintro e w1 ⟨rfl, n1⟩
  have Hb1 := Lib.hid (Hbox.out.nw n1)
  have Hn1 := Lib.hid (Hn0.out.trans n1)
  clear n1
  obtain ⟨b0, b1, b2⟩ := Hb1.out
  have hs1 := Hn1.out.size
  go_wp2_with (first
    | (at_make; refine wpList_make_full _ rfl _ _ 72 rfl w.heap.size 124 i0 (.agg #[.complex .f64 0 0, .complex .f64 0 0]) 2 Try.underlying72 hi hz0 hz1 _ _ _ _ n rfl rfl rfl rfl (by rw [hz2]; omega) (by unfold maxLen; omega) hs1 ?_))
  intro w3 hown3 hgrow3
  have Hs3 := Lib.hid (show w3.ownsRow w.heap.size 124 2 (.slice (some ⟨w1.heap.size, 0, none⟩) n n) n (cellsW (mixW (ms.map widenM) 0 n)) from by
    rw [mixW_zero, ← toList_madeCells_two]
    exact hown3)
  have Hb3 := Lib.hid (Hb1.out.nw hgrow3)
  have Hn3 := Lib.hid (Hn1.out.trans hgrow3)
  have hlt3 : w.heap.size < w1.heap.size := b0
  clear hown3 hgrow3 b0 b1 b2
  obtain ⟨b0, b1, b2⟩ := Hb3.out
  go_wp2_with fail
  go_loopw [17] (fun i wr => WidenI ms w.heap.size w1.heap.size w.heap.size n (.slice va n vc) w i wr) (fun i _ => n - (intOf i).toNat)
  case atStart => exact ⟨0, by omega, rfl, Hs3.out, Hb3.out, Hn3.out⟩
  case round =>
    obtain ⟨k, hk, rfl, hst, hbx, hnw⟩ := hrel
    have Hst := Lib.hid hst
    have Hbx := Lib.hid hbx
    have Hnw := Lib.hid hnw
    clear hst hbx hnw
    by_cases hlt : k < n
    · obtain ⟨m, hmk⟩ : ∃ m, ms[k]? = some m := ⟨ms[k]'(by rw [Hq.out]; exact hlt), List.getElem?_eq_getElem _⟩
      have Hmr := Lib.hid (own_nw Hm.out Hnw.out)
      obtain ⟨g, cap, hv, hcap, hmax, hgs, e1, e2⟩ := own_mode Hmr.out hmk Hq.out.symm
      cases hv
      have Hmk := Lib.hid hmk
      have Hmo := Lib.hid (hms m (List.mem_of_getElem? hmk))
      clear hmk
      unfold maxLen at hmax
      go_upto_region 7 with fail
      have K1 := Lib.hid (HasMode.new wr 61 m.pr m.pi m.gr m.gi)
      have K2 := Lib.hid (Hst.out.alloc (.cells #[.complex .f32 m.pr m.pi, .complex .f32 m.gr m.gi] 61 (0, 0)))
      have K4 := Lib.hid (Hbx.out.alloc (.cells #[.complex .f32 m.pr m.pi, .complex .f32 m.gr m.gi] 61 (0, 0)))
      have K5 := Lib.hid (Hnw.out.alloc (.cells #[.complex .f32 m.pr m.pi, .complex .f32 m.gr m.gi] 61 (0, 0)))
      clear e1 e2
      obtain ⟨w4, hw4⟩ : ∃ w4, w4 = wr.alloc (.cells #[.complex .f32 m.pr m.pi, .complex .f32 m.gr m.gi] 61 (0, 0)) := ⟨_, rfl⟩
      rw [← hw4] at K1 K2 K4 K5
      rw [← hw4]
      clear hw4
      obtain ⟨l0, l1, l2, l3, l4⟩ := K1.out
      obtain ⟨n1, n2, n3, n4⟩ := Hmo.out.nums
      refine wp_region_still_tail 9 (by kernel_rfl) (by kernel_rfl) ?_
      simp only [List.take_succ_cons, List.take_zero, List.drop_succ_cons, List.drop_zero]
      still_step
      still_step
      still_step
      still_step
      still_call ((implWiden_fin _ _ _ n1 n2).mono fun _ _ h => ⟨h.1, h.2.symm⟩)
      still_step
      still_step
      still_call ((implWiden_fin _ _ _ n3 n4).mono fun _ _ h => ⟨h.1, h.2.symm⟩)
      still_step
      refine wpStill_nil ?_
      change wpList _ _ _ _ _ (w4.drewN 1)
      have G2 := Lib.hid (own_nw K2.out ((Nw.refl w4).draw 1))
      have G4 := Lib.hid (K4.out.draw 1)
      have G5 := Lib.hid (K5.out.draw 1)
      clear l1 l2 l3 l4
      generalize w4.drewN 1 = w5 at *
      have e4 := G2.out.frozenAt (k * 2)
      have e5 := G2.out.frozenAt (k * 2 + 1)
      obtain ⟨s1, s2⟩ := G2.out.stored (k * 2) (.complex .f64 (wid m.pr) (wid m.pi))
      obtain ⟨s3, s4⟩ := s1.stored (k * 2 + 1) (.complex .f64 (wid m.gr) (wid m.gi))
      have em := mixW_set (ms.map widenM) k n (widenM m) hlt (by simp [Hq.out]) (by rw [List.getElem?_map, Hmk.out]; rfl)
      simp only [widenM] at em
      rw [em] at s3
      have Hfin := Lib.hid s3
      have hsg := Hst.out.lt _ rfl
      have Hbx' := Lib.hid ((G4.out.set (p := ⟨w1.heap.size, k * 2, none⟩) (by show w1.heap.size ≠ w.heap.size; omega) (.complex .f64 (wid m.pr) (wid m.pi))).set (p := ⟨w1.heap.size, k * 2 + 1, none⟩) (by show w1.heap.size ≠ w.heap.size; omega) (.complex .f64 (wid m.gr) (wid m.gi)))
      have Hnw' := Lib.hid ((G5.out.set (p := ⟨w1.heap.size, k * 2, none⟩) (by show w.heap.size ≤ w1.heap.size; omega) (.complex .f64 (wid m.pr) (wid m.pi))).set (p := ⟨w1.heap.size, k * 2 + 1, none⟩) (by show w.heap.size ≤ w1.heap.size; omega) (.complex .f64 (wid m.gr) (wid m.gi)))
      have hlw : (cellsW (mixW (ms.map widenM) k n)).length = n * 2 := by rw [cellsW_len]; simp [mixW]; have := Hq.out; omega
      obtain ⟨z1, c1⟩ : ∃ z, (cellsW (mixW (ms.map widenM) k n))[k * 2]? = some z := ⟨_, List.getElem?_eq_getElem (by omega)⟩
      obtain ⟨z2, c2⟩ : ∃ z, (cellsW (mixW (ms.map widenM) k n))[k * 2 + 1]? = some z := ⟨_, List.getElem?_eq_getElem (by omega)⟩
      have d1 := G2.out.cellAt (k * 2) (by omega)
      have d2 := s1.cellAt (k * 2 + 1) (by omega)
      have d3 := s1.frozenAt (k * 2 + 1)
      rw [c1] at d1
      rw [List.getElem?_set_ne (by omega), c2] at d2
      clear s1 s2 s3 s4 em c1 c2
      go_wp2_with fail
      go_roundw
      case rel => exact ⟨k + 1, by omega, by rw [show ((k + 1 : Nat) : Int) = (k : Int) + 1 from by omega], Hfin.out, Hbx'.out, Hnw'.out⟩
      case measure => simp only [intOf]; omega
    · obtain rfl : k = n := by omega
      go_wp2_with fail
      go_ret2
      refine ⟨_, rfl, ?_, Hnw.out⟩
      have := Hst.out
      rw [mixW_full _ _ (by simp [Hq.out])] at this
      rw [Hq.out]
      exact this

end Go.Proofs.Ytlhhcchncobmhaa

/- Plain facts: how far the states of a mode that is stepped with small errors lie from those of the mode that is stepped exactly. No program stands in it.
   Conditions: those that each statement names. -/
namespace Go.Proofs.Ytlhhcchncobmhaa
set_option linter.unusedSimpArgs false
set_option linter.unusedVariables false
open Go

/-! ### sizes in the plane -/
def N (a b B : Rat) : Prop := 0 ≤ B ∧ a * a + b * b ≤ B * B
theorem le_of_sq {a B : Rat} (hB : 0 ≤ B) (h : a * a ≤ B * B) : a ≤ B := by
  rcases Rat.le_total (a := a) (b := B) with g | g
  · exact g
  · have h1 := Rat.mul_nonneg (show 0 ≤ a - B by grind) hB
    have h2 := Rat.mul_nonneg (show 0 ≤ a - B by grind) (show 0 ≤ a - B by grind)
    by_cases e : a = B
    · grind
    · have : 0 < a - B := by grind
      have h3 := Rat.mul_pos this this
      grind
theorem N.ab {a b B : Rat} (h : N a b B) : Flo.Ab a B ∧ Flo.Ab b B := by
  obtain ⟨h0, h1⟩ := h
  have ha := square_nonneg a
  have hb := square_nonneg b
  have k1 := le_of_sq h0 (show a * a ≤ B * B by grind)
  have k2 := le_of_sq h0 (show b * b ≤ B * B by grind)
  have k3 := le_of_sq (a := -a) h0 (by grind)
  have k4 := le_of_sq (a := -b) h0 (by grind)
  exact ⟨⟨by grind, k1⟩, ⟨by grind, k2⟩⟩
theorem N.zero : N 0 0 0 := ⟨by grind, by grind⟩
theorem N.mono {a b B C : Rat} (h : N a b B) (hC : B ≤ C) : N a b C := by
  obtain ⟨h0, h1⟩ := h
  refine ⟨by grind, ?_⟩
  have h2 := Rat.mul_le_mul_of_nonneg_left hC h0
  have h3 := Rat.mul_le_mul_of_nonneg_right hC (show 0 ≤ C by grind)
  grind
theorem N.eq {a b a' b' B : Rat} (h : N a b B) (h1 : a = a') (h2 : b = b') : N a' b' B := h1 ▸ h2 ▸ h
theorem N.add {a b c d B C : Rat} (h : N a b B) (g : N c d C) : N (a + c) (b + d) (B + C) := by
  obtain ⟨h0, h1⟩ := h
  obtain ⟨g0, g1⟩ := g
  refine ⟨by grind, ?_⟩
  have hBC := Rat.mul_nonneg h0 g0
  have k1 := Rat.mul_le_mul_of_nonneg_left g1 (show 0 ≤ a * a + b * b by have := square_nonneg a; have := square_nonneg b; grind)
  have k2 := Rat.mul_le_mul_of_nonneg_right h1 (square_nonneg C)
  have k3 := square_nonneg (a * d - b * c)
  have k4 := le_of_sq (a := a * c + b * d) hBC (by grind)
  grind
theorem N.mul {a b c d B T : Rat} (h : N a b B) (hT : 0 ≤ T) (g : c * c + d * d ≤ T * T) : N (a * c - b * d) (a * d + b * c) (B * T) := by
  obtain ⟨h0, h1⟩ := h
  refine ⟨Rat.mul_nonneg h0 hT, ?_⟩
  have k1 := Rat.mul_le_mul_of_nonneg_left g (show 0 ≤ a * a + b * b by have := square_nonneg a; have := square_nonneg b; grind)
  have k2 := Rat.mul_le_mul_of_nonneg_right h1 (square_nonneg T)
  grind
theorem N.parts {a b L : Rat} (h : Flo.Ab a L) (g : Flo.Ab b L) : N a b (3 / 2 * L) := by
  have hL := h.nonneg
  have h2 := h.mul h
  have g2 := g.mul g
  unfold Flo.Ab at h2 g2
  have := square_nonneg L
  exact ⟨by grind, by grind⟩
theorem N.gain (g h x : Rat) : N (g * x) (h * x) ((ra g + ra h) * ra x) := by
  have a := ra_nonneg g
  have b := ra_nonneg h
  have c := ra_nonneg x
  refine ⟨Rat.mul_nonneg (by grind) c, ?_⟩
  have e1 := ra_sq g
  have e2 := ra_sq h
  have e3 := ra_sq x
  have k := Rat.mul_nonneg (Rat.mul_nonneg a b) (square_nonneg (ra x))
  have : g * x * (g * x) + h * x * (h * x) = (ra g * ra g) * (ra x * ra x) + (ra h * ra h) * (ra x * ra x) := by rw [e1, e2, e3]; grind
  rw [this]
  grind

/-! ### trajectories -/
def psum (x : Nat → Rat) : Nat → Rat
  | 0 => 0
  | i + 1 => psum x i + ra (x i)
theorem psum_nonneg (x : Nat → Rat) : ∀ i, 0 ≤ psum x i
  | 0 => by simp [psum]
  | i + 1 => by have := psum_nonneg x i; have := ra_nonneg (x i); simp only [psum]; grind

/-- the states of a mode that is stepped exactly -/
def zt (c d g h : Rat) (x : Nat → Rat) : Nat → Rat × Rat
  | 0 => (0, 0)
  | i + 1 => ((zt c d g h x i).1 * c - (zt c d g h x i).2 * d + g * x i, (zt c d g h x i).1 * d + (zt c d g h x i).2 * c + h * x i)

theorem pole_T {c d : Rat} (hp : c * c + d * d ≤ 1 + 1 / 100000) : c * c + d * d ≤ (1 + 1 / 200000) * (1 + 1 / 200000) := by grind

/-- growth by at most one part in 200,000 a step -/
theorem grow (i : Nat) (hi : i < 2000) : (1 + (i : Rat) / 100000) * (1 + 1 / 200000) ≤ 1 + ((i + 1 : Nat) : Rat) / 100000 := by
  have h1 : (i : Rat) ≤ 2000 := by have : ((i : Nat) : Rat) ≤ ((2000 : Nat) : Rat) := by exact_mod_cast (by omega : i ≤ 2000)
                                   exact this
  have h2 : ((i + 1 : Nat) : Rat) = (i : Rat) + 1 := by exact_mod_cast rfl
  rw [h2]
  grind

theorem zt_N (c d g h : Rat) (x : Nat → Rat) (hp : c * c + d * d ≤ 1 + 1 / 100000) : ∀ i, i ≤ 2000 → N (zt c d g h x i).1 (zt c d g h x i).2 ((ra g + ra h) * psum x i * (1 + (i : Rat) / 100000))
  | 0, _ => by
    have : (ra g + ra h) * psum x 0 * (1 + ((0 : Nat) : Rat) / 100000) = 0 := by simp [psum]
    rw [this]; exact N.zero
  | i + 1, hi => by
    have ih := zt_N c d g h x hp i (by omega)
    have h1 := (ih.mul (show (0 : Rat) ≤ 1 + 1 / 200000 by grind) (pole_T hp)).add (N.gain g h (x i))
    refine (h1.eq rfl rfl).mono ?_
    have hG : 0 ≤ ra g + ra h := by have := ra_nonneg g; have := ra_nonneg h; grind
    have hP := psum_nonneg x i
    have hgr := grow i (by omega)
    have k1 := Rat.mul_le_mul_of_nonneg_left hgr (Rat.mul_nonneg hG hP)
    have hx := Rat.mul_nonneg hG (ra_nonneg (x i))
    have h2 : ((i + 1 : Nat) : Rat) = (i : Rat) + 1 := by exact_mod_cast rfl
    have hi0 : (0 : Rat) ≤ (i : Rat) := by exact_mod_cast Nat.zero_le i
    have k2 := Rat.mul_nonneg hx (show (0 : Rat) ≤ ((i : Rat) + 1) / 100000 by grind)
    rw [h2] at k1 ⊢
    simp only [psum]
    grind

/-- a mode that is stepped with errors of at most L in each part -/
theorem traj (c d g h : Rat) (x : Nat → Rat) (hp : c * c + d * d ≤ 1 + 1 / 100000) (s : Nat → Rat × Rat) (h0 : s 0 = (0, 0)) (X M L : Rat) (n : Nat) (hn : n ≤ 2000) (hL : 0 ≤ L)
    (hX : ∀ i, i ≤ n → psum x i ≤ X) (hM : 51 / 50 * ((ra g + ra h) * X + (n : Rat) * (3 / 2 * L)) ≤ M) (Q : Nat → Prop) (q0 : Q 0)
    (hstep : ∀ i, i < n → Q i → N (s i).1 (s i).2 M → Q (i + 1) ∧ Flo.Ab ((s (i + 1)).1 - ((s i).1 * c - (s i).2 * d + g * x i)) L ∧ Flo.Ab ((s (i + 1)).2 - ((s i).1 * d + (s i).2 * c + h * x i)) L) :
    ∀ i, i ≤ n → Q i ∧ N ((s i).1 - (zt c d g h x i).1) ((s i).2 - (zt c d g h x i).2) ((i : Rat) * (3 / 2 * L) * (1 + (i : Rat) / 100000)) ∧ N (s i).1 (s i).2 M := by
  have hG : 0 ≤ ra g + ra h := by have := ra_nonneg g; have := ra_nonneg h; grind
  have toM : ∀ i, i ≤ n → N ((s i).1 - (zt c d g h x i).1) ((s i).2 - (zt c d g h x i).2) ((i : Rat) * (3 / 2 * L) * (1 + (i : Rat) / 100000)) → N (s i).1 (s i).2 M := by
    intro i hi e
    have hz := zt_N c d g h x hp i (by omega)
    refine ((e.add hz).eq (by grind) (by grind)).mono ?_
    have hin : (i : Rat) ≤ (n : Rat) := by exact_mod_cast hi
    have hi2 : (i : Rat) ≤ 2000 := by
      have : ((i : Nat) : Rat) ≤ ((2000 : Nat) : Rat) := by exact_mod_cast (by omega : i ≤ 2000)
      exact this
    have hi0 : (0 : Rat) ≤ (i : Rat) := by exact_mod_cast Nat.zero_le i
    have f : 1 + (i : Rat) / 100000 ≤ 51 / 50 := by grind
    have a1 := Rat.mul_le_mul_of_nonneg_right hin (show 0 ≤ 3 / 2 * L by grind)
    have a2 := Rat.mul_nonneg hi0 (show 0 ≤ 3 / 2 * L by grind)
    have a3 := Rat.mul_le_mul_of_nonneg_left f a2
    have b1 := Rat.mul_le_mul_of_nonneg_left (hX i hi) hG
    have b2 := Rat.mul_nonneg hG (psum_nonneg x i)
    have b3 := Rat.mul_le_mul_of_nonneg_left f b2
    grind
  intro i
  induction i with
  | zero =>
    intro hi
    have e : N ((s 0).1 - (zt c d g h x 0).1) ((s 0).2 - (zt c d g h x 0).2) (((0 : Nat) : Rat) * (3 / 2 * L) * (1 + ((0 : Nat) : Rat) / 100000)) := by
      rw [h0]
      simp only [zt]
      have : ((0 : Nat) : Rat) * (3 / 2 * L) * (1 + ((0 : Nat) : Rat) / 100000) = 0 := by simp
      rw [this]
      exact N.zero.eq (by grind) (by grind)
    exact ⟨q0, e, toM 0 hi e⟩
  | succ i ih =>
    intro hi
    obtain ⟨q, e, hs⟩ := ih (by omega)
    obtain ⟨q', l1, l2⟩ := hstep i (by omega) q hs
    have e' : N ((s (i + 1)).1 - (zt c d g h x (i + 1)).1) ((s (i + 1)).2 - (zt c d g h x (i + 1)).2) (((i + 1 : Nat) : Rat) * (3 / 2 * L) * (1 + ((i + 1 : Nat) : Rat) / 100000)) := by
      have k := (e.mul (show (0 : Rat) ≤ 1 + 1 / 200000 by grind) (pole_T hp)).add (N.parts l1 l2)
      refine (k.eq ?_ ?_).mono ?_
      · simp only [zt]; grind
      · simp only [zt]; grind
      · have hgr := grow i (by omega)
        have hi0 : (0 : Rat) ≤ (i : Rat) := by exact_mod_cast Nat.zero_le i
        have a2 := Rat.mul_nonneg hi0 (show 0 ≤ 3 / 2 * L by grind)
        have a3 := Rat.mul_le_mul_of_nonneg_left hgr a2
        have h2 : ((i + 1 : Nat) : Rat) = (i : Rat) + 1 := by exact_mod_cast rfl
        have a4 := Rat.mul_nonneg (show 0 ≤ 3 / 2 * L by grind) (show (0 : Rat) ≤ ((i : Rat) + 1) / 100000 by grind)
        rw [h2] at a3 ⊢
        grind
    exact ⟨q', e', toM (i + 1) hi e'⟩

end Go.Proofs.Ytlhhcchncobmhaa

/- Plain facts: a number of moderate size, divided by its size, has a size near 1, and multiplied by its size it is near itself.
   Conditions: those that each statement names. No program stands in it. -/
namespace Go.Proofs.Ytlhhcchncobmhaa
set_option linter.unusedSimpArgs false
set_option linter.unusedVariables false
open Go

/-- the law's own test, where what is left is at most 340 units of 'u S' -/
theorem small_of (a b p q k d1 d2 s : Nat) (w1 w2 w3 w4 : World) (h1 : Moderate a b) (i1 : floatBits .sub .f64 p a = some d1) (j1 : floatBits .sub .f64 q b = some d2) (r1 : floatBits .add .f64 (labs d1) (labs d2) = some s) (r2 : Flo.Nm s)
    (hhigh : Flo.W s ≤ 340 * (Flo.u * (Flo.W (labs a) + Flo.W (labs b)))) (hk : Flo.Nm k) (hk44 : Flo.W k = Flo.pw (-((44 : Nat) : Int))) :
    (FloatKind.f64.format.order (fres w3 .add .f64 (labs (fres w1 .sub .f64 p a)) (labs (fres w2 .sub .f64 q b))) (fres w4 .mul .f64 (szd a b) k) == some .lt ||
      FloatKind.f64.format.order (fres w3 .add .f64 (labs (fres w1 .sub .f64 p a)) (labs (fres w2 .sub .f64 q b))) (fres w4 .mul .f64 (szd a b) k) == some .eq) = true := by
  obtain ⟨ax, bx, fa, fb, s1, s2, nla, nlb⟩ := h1
  have na := Nm_of_fin fa
  have nb := Nm_of_fin fb
  have u0 := Flo.u_pos
  have u1 := Flo.u_le
  have p201 := Flo.pw_pos (-201)
  generalize hS : Flo.W (labs a) + Flo.W (labs b) = S at *
  have hS0 : 0 ≤ S := by grind
  have huS0 := Rat.mul_nonneg (Rat.le_of_lt u0) hS0
  have huS : Flo.u * S ≤ S / 1048576 := by
    have := Rat.mul_le_mul_of_nonneg_right u1 hS0; grind
  have huuS : Flo.u * (Flo.u * S) ≤ (Flo.u * S) / 1048576 := by
    have := Rat.mul_le_mul_of_nonneg_right u1 huS0; grind
  have het : Flo.et ≤ Flo.u * (Flo.u * S) := by
    have k1 := Rat.mul_le_mul_of_nonneg_left s1 (Rat.le_of_lt u0)
    have k3 := Rat.mul_le_mul_of_nonneg_left k1 (Rat.le_of_lt u0)
    rw [show Flo.u = Flo.pw (-53) from rfl, ← Flo.pw_add, ← Flo.pw_add] at k3
    have k2 : Flo.pw (-1074) ≤ Flo.pw (-53 + (-53 + -201)) := Flo.pw_le (by omega)
    unfold Flo.et; rw [show Flo.u = Flo.pw (-53) from rfl]; grind
  have hbig : 32 * Flo.pw 201 < Flo.pw 1023 := by
    have e1 : Flo.pw 206 = 32 * Flo.pw 201 := by rw [show (206 : Int) = 5 + 201 from rfl, Flo.pw_add, show Flo.pw 5 = 32 from Flo.pw_nat 5]
    have e2 : Flo.pw 206 < Flo.pw 1023 := Flo.pw_lt (by omega)
    grind
  have et0 := Flo.et_pos
  -- the bound
  have hsz := szd_eq a b ax bx na nb
  obtain ⟨sz, o1, o2, o3⟩ := Flo.d_add (labs a) (labs b) nla nlb S ⟨by rw [hS]; grind, by rw [hS]; exact Rat.le_refl⟩ (by grind)
  rw [hsz] at o1
  simp only [Option.some.injEq] at o1
  rw [o1] at *
  rw [hS] at o3
  have e44 : Flo.W k = 512 * Flo.u := by
    rw [hk44, show (-((44 : Nat) : Int)) = 9 + -53 from rfl, Flo.pw_add, show Flo.pw 9 = 512 from Flo.pw_nat 9]; rfl
  have hkA : Flo.Ab (Flo.W k) (512 * Flo.u) := by rw [e44]; unfold Flo.Ab; grind
  have hszA : Flo.Ab (Flo.W sz) (2 * S) := ((o3.add (show Flo.Ab S S from ⟨by grind, by grind⟩)).eq (show Flo.W sz - S + S = Flo.W sz by grind)).mono (by grind)
  obtain ⟨k', t1, t2, t3⟩ := Flo.d_mul sz k o2 hk (2 * S * (512 * Flo.u)) (hszA.mul hkA) (by grind)
  have hlow : 500 * (Flo.u * S) ≤ Flo.W k' := by
    rw [e44] at t3
    have m1 : S - 2 * (Flo.u * S) ≤ Flo.W sz := by unfold Flo.Ab at o3; grind
    have m2 := Rat.mul_le_mul_of_nonneg_right m1 (show (0 : Rat) ≤ 512 * Flo.u by grind)
    unfold Flo.Ab at t3
    grind
  have fr1 : fres w1 .sub .f64 p a = d1 := by unfold fres; rw [i1]
  have fr2 : fres w2 .sub .f64 q b = d2 := by unfold fres; rw [j1]
  have fr3 : fres w3 .add .f64 (labs d1) (labs d2) = s := by unfold fres; rw [r1]
  have fr4 : fres w4 .mul .f64 sz k = k' := by unfold fres; rw [t1]
  rw [fr1, fr2, fr3, fr4, show FloatKind.f64.format = Ieee.double from rfl, Bool.or_eq_true, beq_iff_eq, beq_iff_eq]
  have o := Flo.order_num Ieee.double s k' r2 t2
  rw [o.1, o.2.1]
  show Flo.W s < Flo.W k' ∨ Flo.W s = Flo.W k'
  have : Flo.W s ≤ Flo.W k' := by grind
  grind


theorem labs_mod (x : Nat) (hx : x < 2 ^ 64) (h : Flo.Nm x) : x % signBit = labs x := by
  obtain ⟨s, m, p, hr⟩ := h
  have hm := mod_read x
  rw [show FloatKind.f64.decode x = _ from hr] at hm
  obtain ⟨n', j', l1, l2⟩ := labs_read hx hr
  have e : 2 * Ieee.double.signWeight = 2 ^ 64 := by decide
  have hl : labs x < 2 ^ 64 := by
    unfold labs
    split
    · unfold Op.negFloat
      exact Nat.xor_lt_two_pow hx (by decide)
    · split
      · decide
      · exact hx
  exact Flo.read_inj Ieee.double (show Ieee.double.read _ = _ from hm) l1 (by have := Nat.mod_le x signBit; omega) (by omega) l2.symm

/-- a number of moderate size by its size -/
theorem unit_quo (a b : Nat) (h : Moderate a b) : ∃ e f S, divD a b (szd a b) 0 = some (e, f) ∧ Flo.Nm e ∧ Flo.Nm f ∧ S = Flo.W (labs a) + Flo.W (labs b) ∧ S = ra (Flo.W a) + ra (Flo.W b) ∧ 0 < S ∧ S ≤ Flo.pw 201 ∧ Flo.et ≤ Flo.u * (Flo.u * S) ∧ Flo.Nm (szd a b) ∧
    Flo.Ab (Flo.W (szd a b) - S) (2 * (Flo.u * S)) ∧ Flo.Ab (Flo.W e * Flo.W (szd a b) - Flo.W a) (124 * (Flo.u * S)) ∧ Flo.Ab (Flo.W f * Flo.W (szd a b) - Flo.W b) (124 * (Flo.u * S)) ∧ Flo.Ab (Flo.W a) S ∧ Flo.Ab (Flo.W b) S := by
  obtain ⟨ax, bx, fa, fb, s1, s2, na', nb'⟩ := h
  have na := Nm_of_fin fa
  have nb := Nm_of_fin fb
  have hsz := szd_eq a b ax bx na nb
  have u0 := Flo.u_pos
  have u1 := Flo.u_le
  have et0 := Flo.et_pos
  have p201 := Flo.pw_pos (-201)
  have la := (labs_num a ax na).2
  have lb := (labs_num b bx nb).2
  have a0 := ra_nonneg (Flo.W a)
  have b0 := ra_nonneg (Flo.W b)
  have haS : Flo.Ab (Flo.W a) (Flo.W (labs a) + Flo.W (labs b)) := (ra_ab _).mono (by rw [la, lb]; grind)
  have hbS : Flo.Ab (Flo.W b) (Flo.W (labs a) + Flo.W (labs b)) := (ra_ab _).mono (by rw [la, lb]; grind)
  have hSe : Flo.W (labs a) + Flo.W (labs b) = ra (Flo.W a) + ra (Flo.W b) := by rw [la, lb]
  generalize hS : Flo.W (labs a) + Flo.W (labs b) = S at *
  have hS0 : 0 < S := by grind
  have huS0 := Rat.mul_nonneg (Rat.le_of_lt u0) (Rat.le_of_lt hS0)
  have huS : Flo.u * S ≤ S / 1048576 := by
    have := Rat.mul_le_mul_of_nonneg_right u1 (Rat.le_of_lt hS0); grind
  have huuS : Flo.u * (Flo.u * S) ≤ (Flo.u * S) / 1048576 := by
    have := Rat.mul_le_mul_of_nonneg_right u1 huS0; grind
  have het : Flo.et ≤ Flo.u * (Flo.u * S) := by
    have k1 := Rat.mul_le_mul_of_nonneg_left s1 (Rat.le_of_lt u0)
    have k3 := Rat.mul_le_mul_of_nonneg_left k1 (Rat.le_of_lt u0)
    rw [show Flo.u = Flo.pw (-53) from rfl, ← Flo.pw_add, ← Flo.pw_add] at k3
    have k2 : Flo.pw (-1074) ≤ Flo.pw (-53 + (-53 + -201)) := Flo.pw_le (by omega)
    unfold Flo.et; rw [show Flo.u = Flo.pw (-53) from rfl]; grind
  have het1 : Flo.et ≤ Flo.u / 2 := by
    have k2 : Flo.pw (-1074) ≤ Flo.pw (-54) := Flo.pw_le (by omega)
    have k3 : Flo.pw (-53) = 2 * Flo.pw (-54) := by rw [← Flo.pw_succ]; rfl
    unfold Flo.et; rw [show Flo.u = Flo.pw (-53) from rfl]; grind
  have hbig : 32 * Flo.pw 201 < Flo.pw 1022 := by
    have e1 : Flo.pw 206 = 32 * Flo.pw 201 := by rw [show (206 : Int) = 5 + 201 from rfl, Flo.pw_add, show Flo.pw 5 = 32 from Flo.pw_nat 5]
    have e2 : Flo.pw 206 < Flo.pw 1022 := Flo.pw_lt (by omega)
    grind
  have h32 : 32 < Flo.pw 1022 := by
    have e1 : Flo.pw 5 = 32 := Flo.pw_nat 5
    have e2 : Flo.pw 5 < Flo.pw 1022 := Flo.pw_lt (by omega)
    grind
  have h23 := Flo.pw_lt (a := 1022) (b := 1023) (by omega)
  obtain ⟨sz, o1, o2, o3⟩ := Flo.d_add (labs a) (labs b) na' nb' S ⟨by rw [hS]; grind, by rw [hS]; exact Rat.le_refl⟩ (by grind)
  rw [hsz] at o1
  simp only [Option.some.injEq] at o1
  rw [← o1, hS] at o3
  rw [← o1] at o2
  have o4 : Flo.Ab (Flo.W (szd a b) - S) (2 * (Flo.u * S)) := o3.mono (by grind)
  have hC : 0 < Flo.W (szd a b) := by unfold Flo.Ab at o4; grind
  have hCl : S / 2 ≤ Flo.W (szd a b) := by unfold Flo.Ab at o4; grind
  have hCh : Flo.W (szd a b) ≤ 2 * S := by unfold Flo.Ab at o4; grind
  have hT : S / Flo.W (szd a b) * Flo.W (szd a b) = S := by grind
  have hT2 : S / Flo.W (szd a b) ≤ 2 := by
    refine Rat.le_of_mul_le_mul_right (c := Flo.W (szd a b)) ?_ hC
    rw [hT]; grind
  have hT1 : 1 / 2 ≤ S / Flo.W (szd a b) := by
    refine Rat.le_of_mul_le_mul_right (c := Flo.W (szd a b)) ?_ hC
    rw [hT]; grind
  have z0 : Flo.W 0 = 0 := zero_num.2
  have hge : absGe (szd a b) 0 = true := (absGe_iff _ _ o2 zero_num.1).2 (by rw [z0]; have := ra_nonneg (Flo.W (szd a b)); unfold ra at *; grind)
  have kC := Rat.mul_le_mul_of_nonneg_left hCl (Rat.le_of_lt u0)
  have kT := Rat.mul_le_mul_of_nonneg_left hT1 (Rat.le_of_lt u0)
  obtain ⟨e, f, q1, q2, q3, q4, q5, q6, q7⟩ := Flo.quo_ge a b (szd a b) 0 na nb o2 zero_num.1 S (S / Flo.W (szd a b)) (Flo.W (szd a b)) (.inl rfl) hC (by grind) (by rw [z0]; unfold Flo.Ab; grind) haS hbS (by grind) hT (by grind) (by grind) (by grind) (by grind) hge
  rw [z0] at q6 q7
  refine ⟨e, f, S, divD_of_main a b _ 0 e f na nb o2 zero_num.1 q2 q3 ?_ q1, q2, q3, rfl, hSe, hS0, s2, het, o2, o4, q6.eq (by grind), q7.eq (by grind), haS, hbS⟩
  have := ra_nonneg (Flo.W 0)
  have : ra (Flo.W (szd a b)) = Flo.W (szd a b) := by unfold ra; rw [if_neg (by grind)]
  grind

/-- ITS SIZE IS NEAR 1 -/
theorem unit_size (a b e f : Nat) (h : Moderate a b) (hd : divD a b (szd a b) 0 = some (e, f)) (he : e < 2 ^ 64) (hf : f < 2 ^ 64) :
    ∃ d1 d2, floatBits .sub .f64 (szd e f) 4607182418800017408 = some d1 ∧ floatBits .sub .f64 4607182418800017408 (szd e f) = some d2 ∧ Flo.Nm d1 ∧ Flo.Nm d2 ∧ Flo.W d1 ≤ 300 * Flo.u ∧ Flo.W d2 ≤ 300 * Flo.u ∧ Flo.Nm e ∧ Flo.Nm f := by
  obtain ⟨e', f', S, hd', ne, nf, -, hSe, hS0, s2, het, nz, g0, g1, g2, haS, hbS⟩ := unit_quo a b h
  rw [hd] at hd'
  simp only [Option.some.injEq, Prod.mk.injEq] at hd'
  obtain ⟨rfl, rfl⟩ := hd'
  generalize Flo.W (szd a b) = C at *
  have u0 := Flo.u_pos
  have u1 := Flo.u_le
  have et0 := Flo.et_pos
  have huS0 := Rat.mul_nonneg (Rat.le_of_lt u0) (Rat.le_of_lt hS0)
  have huS : Flo.u * S ≤ S / 1048576 := by
    have := Rat.mul_le_mul_of_nonneg_right u1 (Rat.le_of_lt hS0); grind
  have huu : Flo.u * Flo.u ≤ Flo.u / 1048576 := by
    have := Rat.mul_le_mul_of_nonneg_right u1 (Rat.le_of_lt u0); grind
  have hC0 : 0 < C := by unfold Flo.Ab at g0; grind
  have hetu : Flo.et ≤ Flo.u * Flo.u := by
    have k2 : Flo.pw (-1074) ≤ Flo.pw (-53 + -53) := Flo.pw_le (by omega)
    rw [Flo.pw_add] at k2
    unfold Flo.et; rw [show Flo.u = Flo.pw (-53) from rfl]; grind
  have le := labs_num e he ne
  have lf := labs_num f hf nf
  have e0 := ra_nonneg (Flo.W e)
  have f0 := ra_nonneg (Flo.W f)
  have ram : ∀ q, ra q * C = ra (q * C) := by
    intro q
    unfold ra
    by_cases hq : q < 0
    · rw [if_pos hq, if_pos (by have := Rat.mul_pos (show 0 < -q by grind) hC0; grind)]; grind
    · rw [if_neg hq, if_neg (by have := Rat.mul_nonneg (show 0 ≤ q by grind) (Rat.le_of_lt hC0); grind)]
  have rad : ∀ x y B, Flo.Ab (x - y) B → Flo.Ab (ra x - ra y) B := by
    intro x y B hxy
    unfold Flo.Ab ra at *
    split <;> split <;> grind
  have k1 := rad _ _ _ g1
  have k2 := rad _ _ _ g2
  rw [← ram] at k1 k2
  have k3 : Flo.Ab ((ra (Flo.W e) + ra (Flo.W f) - 1) * C) (252 * Flo.u * C) := by
    have hb : 250 * (Flo.u * S) ≤ 252 * Flo.u * C := by
      unfold Flo.Ab at g0
      have := Rat.mul_le_mul_of_nonneg_left (show S - 2 * (Flo.u * S) ≤ C by grind) (show 0 ≤ 252 * Flo.u by grind)
      have k := Rat.mul_le_mul_of_nonneg_left huS (show 0 ≤ 504 * Flo.u by grind)
      grind
    exact ((((k1.add k2).add g0.neg).eq (by grind)).mono (by grind))
  have k4 := k3.div hC0 (Rat.le_refl (a := C))
  generalize hZ : ra (Flo.W e) + ra (Flo.W f) = Z at *
  have b1023 : 4 < Flo.pw 1023 := by
    have e1 : Flo.pw 2 = 4 := Flo.pw_nat 2
    have e2 : Flo.pw 2 < Flo.pw 1023 := Flo.pw_lt (by omega)
    grind
  have hZ2 : Flo.Ab Z 2 := by unfold Flo.Ab at *; grind
  obtain ⟨z, z1, z2, z3⟩ := Flo.d_add (labs e) (labs f) le.1 lf.1 2 (hZ2.eq (by rw [le.2, lf.2, hZ])) (by grind)
  have ez := szd_eq e f he hf ne nf
  rw [z1] at ez
  simp only [Option.some.injEq] at ez
  rw [le.2, lf.2, hZ] at z3
  rw [← ez]
  have o1 : Flo.W 4607182418800017408 = 1 := by have := one_num.2; rw [this]; exact Flo.pw_zero
  have z4 : Flo.Ab (Flo.W z - 1) (255 * Flo.u) := (((z3.add k4).eq (show Flo.W z - Z + (Z - 1) = Flo.W z - 1 by grind)).mono (by grind))
  obtain ⟨d1, a1, a2, a3⟩ := Flo.d_sub z 4607182418800017408 z2 one_num.1 (255 * Flo.u) (z4.eq (by rw [o1])) (by grind)
  obtain ⟨d2, c1, c2, c3⟩ := Flo.d_sub 4607182418800017408 z one_num.1 z2 (255 * Flo.u) (z4.neg.eq (by rw [o1]; grind)) (by grind)
  rw [o1] at a3 c3
  refine ⟨d1, d2, a1, c1, a2, c2, ?_, ?_, ne, nf⟩
  · unfold Flo.Ab at *; grind
  · unfold Flo.Ab at *; grind

/-- MULTIPLIED BY THE SIZE IT IS NEAR THE NUMBER -/
theorem unit_back (a b e f : Nat) (h : Moderate a b) (hd : divD a b (szd a b) 0 = some (e, f)) :
    ∃ p q d1 d2 s, floatBits .mul .f64 e (szd a b) = some p ∧ floatBits .mul .f64 f (szd a b) = some q ∧ floatBits .sub .f64 p a = some d1 ∧ floatBits .sub .f64 q b = some d2 ∧ floatBits .add .f64 (labs d1) (labs d2) = some s ∧ Flo.Nm s ∧
      Flo.W s ≤ 340 * (Flo.u * (Flo.W (labs a) + Flo.W (labs b))) := by
  obtain ⟨e', f', S, hd', ne, nf, hSl, hSe, hS0, s2, het, nz, g0, g1, g2, haS, hbS⟩ := unit_quo a b h
  rw [hd] at hd'
  simp only [Option.some.injEq, Prod.mk.injEq] at hd'
  obtain ⟨rfl, rfl⟩ := hd'
  obtain ⟨ax, bx, fa, fb, s1, -, nla, nlb⟩ := h
  have na := Nm_of_fin fa
  have nb := Nm_of_fin fb
  have u0 := Flo.u_pos
  have u1 := Flo.u_le
  have et0 := Flo.et_pos
  have huS0 := Rat.mul_nonneg (Rat.le_of_lt u0) (Rat.le_of_lt hS0)
  have huS : Flo.u * S ≤ S / 1048576 := by
    have := Rat.mul_le_mul_of_nonneg_right u1 (Rat.le_of_lt hS0); grind
  have huuS : Flo.u * (Flo.u * S) ≤ (Flo.u * S) / 1048576 := by
    have := Rat.mul_le_mul_of_nonneg_right u1 huS0; grind
  have hbig : 32 * Flo.pw 201 < Flo.pw 1023 := by
    have e1 : Flo.pw 206 = 32 * Flo.pw 201 := by rw [show (206 : Int) = 5 + 201 from rfl, Flo.pw_add, show Flo.pw 5 = 32 from Flo.pw_nat 5]
    have e2 : Flo.pw 206 < Flo.pw 1023 := Flo.pw_lt (by omega)
    grind
  have m1 : Flo.Ab (Flo.W e * Flo.W (szd a b)) (2 * S) := ((g1.add haS).eq (show _ = Flo.W e * Flo.W (szd a b) by grind)).mono (by grind)
  have m2 : Flo.Ab (Flo.W f * Flo.W (szd a b)) (2 * S) := ((g2.add hbS).eq (show _ = Flo.W f * Flo.W (szd a b) by grind)).mono (by grind)
  obtain ⟨p, p1, p2, p3⟩ := Flo.d_mul e (szd a b) ne nz (2 * S) m1 (by grind)
  obtain ⟨q, q1, q2, q3⟩ := Flo.d_mul f (szd a b) nf nz (2 * S) m2 (by grind)
  have p64 : p < 2 ^ 64 := by have := floatBits_wf p1; simpa [Lit.wf] using this
  have q64 : q < 2 ^ 64 := by have := floatBits_wf q1; simpa [Lit.wf] using this
  have P : Flo.Ab (Flo.W p - Flo.W a) (127 * (Flo.u * S)) := ((p3.add g1).eq (by grind)).mono (by grind)
  have Q : Flo.Ab (Flo.W q - Flo.W b) (127 * (Flo.u * S)) := ((q3.add g2).eq (by grind)).mono (by grind)
  obtain ⟨d1, i1, i2, i3, i4, i5, i6⟩ := rest_ok p a p2 na p64 S 127 (by grind) (by grind) P s2 het (Rat.le_of_lt hS0)
  obtain ⟨d2, j1, j2, j3, j4, j5, j6⟩ := rest_ok q b q2 nb q64 S 127 (by grind) (by grind) Q s2 het (Rat.le_of_lt hS0)
  obtain ⟨s, r1, r2, r3⟩ := Flo.d_add (labs d1) (labs d2) i4 j4 (256 * (Flo.u * S)) ⟨by grind, by grind⟩ (by grind)
  refine ⟨p, q, d1, d2, s, p1, q1, i1, j1, r1, r2, ?_⟩
  rw [← hSl]
  unfold Flo.Ab at r3
  grind

theorem fA_lt {op : BinOp} {a b : Option Nat} {e : Nat} (h : fA op .f64 a b = some e) : e < 2 ^ 64 := by
  cases a with
  | none => cases h
  | some a =>
    cases b with
    | none => cases h
    | some b =>
      have h' : floatBits op .f64 a b = some e := h
      have := floatBits_wf h'
      simpa [Lit.wf] using this
theorem divD_lt {a b c d e f : Nat} (h : divD a b c d = some (e, f)) : e < 2 ^ 64 ∧ f < 2 ^ 64 := by
  unfold divD at h
  split at h
  · split at h
    · rename_i e' f' hq
      split at h
      · simp only [Option.some.injEq, Prod.mk.injEq] at h
        obtain ⟨rfl, rfl⟩ := h
        unfold qA at hq
        split at hq
        · simp only [Prod.mk.injEq] at hq
          exact ⟨fA_lt hq.1, fA_lt hq.2⟩
        · simp only [Prod.mk.injEq] at hq
          exact ⟨fA_lt hq.1, fA_lt hq.2⟩
      · cases h
    · cases h
  · cases h
theorem le_of_W {a b : Nat} (ha : Flo.Nm a) (hb : Flo.Nm b) (h : Flo.W a ≤ Flo.W b) : (FloatKind.f64.format.order a b == some .lt || FloatKind.f64.format.order a b == some .eq) = true := by
  have o := Flo.order_num Ieee.double a b ha hb
  rw [show FloatKind.f64.format = Ieee.double from rfl, Bool.or_eq_true, beq_iff_eq, beq_iff_eq, o.1, o.2.1]
  show Flo.W a < Flo.W b ∨ Flo.W a = Flo.W b
  grind

end Go.Proofs.Ytlhhcchncobmhaa

/- HalfLife: the powers of a valid pole times the gain stay bounded; the walks, the program's and the model's.
   Conditions: those that each statement names. -/
namespace Go.Proofs.Ytlhhcchncobmhaa
set_option linter.unusedSimpArgs false
set_option linter.unusedVariables false
open Go Go.RowKit

def zH (m : M4) : Nat → Nat × Nat
  | 0 => (m.gr, m.gi)
  | n + 1 => (mulSre (zH m n).1 (zH m n).2 m.pr m.pi, mulSim (zH m n).1 (zH m n).2 m.pr m.pi)
theorem gain_le {m : M4} (h : m.ok) : ra (S m.gr) ≤ 1024 ∧ ra (S m.gi) ≤ 1024 := by
  obtain ⟨h1, h2, h3, h4, -, h6, h7⟩ := Valid.parts h
  have n1024 : Flo.Nm 4652218415073722368 ∧ Flo.W 4652218415073722368 = 1024 := by
    have h := Flo.int_double 1024 (by omega)
    rw [show floatOfInt .f64 1024 = 4652218415073722368 from by decide] at h
    exact h
  obtain ⟨a1, a2⟩ := wid_num (Sm_of h3)
  obtain ⟨b1, b2⟩ := wid_num (Sm_of h4)
  have la := labs_num _ (wid_lt m.gr) a1
  have lb := labs_num _ (wid_lt m.gi) b1
  have c1 := (leB_iff la.1 n1024.1).1 h6
  have c2 := (leB_iff lb.1 n1024.1).1 h7
  rw [la.2, a2, n1024.2] at c1
  rw [lb.2, b2, n1024.2] at c2
  exact ⟨c1, c2⟩
structure PartH (m : M4) (z : Nat × Nat) : Prop where
  p1 : ∃ e D K, PartOk .sub z.1 m.pr z.2 m.pi e D K
  p2 : ∃ e D K, PartOk .add z.1 m.pi z.2 m.pr e D K
  n1 : Sm (mulSre z.1 z.2 m.pr m.pi)
  n2 : Sm (mulSim z.1 z.2 m.pr m.pi)
  e1 : Flo.Ab (S (mulSre z.1 z.2 m.pr m.pi) - (S z.1 * S m.pr - S z.2 * S m.pi)) 1
  e2 : Flo.Ab (S (mulSim z.1 z.2 m.pr m.pi) - (S z.1 * S m.pi + S z.2 * S m.pr)) 1
theorem part_h (m : M4) (hm : m.ok) (z : Nat × Nat) (h1 : Sm z.1) (h2 : Sm z.2) (hN : N (S z.1) (S z.2) 6000) : PartH m z := by
  obtain ⟨n1, n2, n3, n4⟩ := hm.nums
  obtain ⟨q1, q2⟩ := hm.pole
  obtain ⟨r1, r2⟩ := hN.ab
  have l20 : (1000000 : Rat) ≤ Flo.pw 120 := by
    have e : Flo.pw 20 = 1048576 := Flo.pw_nat 20
    have l : Flo.pw 20 ≤ Flo.pw 120 := Flo.pw_le (by omega)
    grind
  have l25 : (1000000 : Rat) ≤ Flo.pw 125 := by
    have l : Flo.pw 120 ≤ Flo.pw 125 := Flo.pw_le (by omega)
    grind
  have k1 : Flo.Ab (S z.1 * S m.pr) 12000 := (r1.mul q1).mono (by grind)
  have k2 : Flo.Ab (S z.2 * S m.pi) 12000 := (r2.mul q2).mono (by grind)
  have k3 : Flo.Ab (S z.1 * S m.pi) 12000 := (r1.mul q2).mono (by grind)
  have k4 : Flo.Ab (S z.2 * S m.pr) 12000 := (r2.mul q1).mono (by grind)
  have P1 := part_sub z.1 m.pr z.2 m.pi h1 n1 h2 n2 12000 24000 k1 k2 ((k1.sub k2).mono (by grind)) (by grind) (by grind)
  have P2 := part_add z.1 m.pi z.2 m.pr h1 n2 h2 n1 12000 24000 k3 k4 ((k3.add k4).mono (by grind)) (by grind) (by grind)
  have ve := Flo.v_eq
  have es1 := small'.es1
  have hv : Flo.v = 1 / 16777216 := by grind
  exact ⟨⟨_, _, _, P1⟩, ⟨_, _, _, P2⟩, P1.num, P2.num, P1.near.mono (by rw [hv]; grind), P2.near.mono (by rw [hv]; grind)⟩

def sH (m : M4) : Nat → Rat × Rat
  | 0 => (0, 0)
  | i + 1 => (S (zH m i).1, S (zH m i).2)
def QH (m : M4) : Nat → Prop
  | 0 => True
  | i + 1 => Sm (zH m i).1 ∧ Sm (zH m i).2
def xH (i : Nat) : Rat := if i = 0 then 1 else 0
theorem psum_H : ∀ i, psum xH i ≤ 1
  | 0 => by simp [psum]; grind
  | 1 => by simp [psum, xH, ra]; grind
  | i + 2 => by
    have h := psum_H (i + 1)
    show psum xH (i + 1) + ra (xH (i + 1)) ≤ 1
    have : ra (xH (i + 1)) = 0 := by simp [xH, ra]
    rw [this]; grind
theorem zH_ok (m : M4) (hm : m.ok) : ∀ n, n ≤ 1999 → Sm (zH m n).1 ∧ Sm (zH m n).2 ∧ N (S (zH m n).1) (S (zH m n).2) 6000 := by
  intro n hn
  obtain ⟨g1, g2⟩ := gain_le hm
  obtain ⟨n1, n2, n3, n4⟩ := hm.nums
  have t := traj (S m.pr) (S m.pi) (S m.gr) (S m.gi) xH (Valid.square hm) (sH m) rfl 1 6000 1 2000 (Nat.le_refl _) (by grind) (fun i _ => psum_H i)
    (by have e : ((2000 : Nat) : Rat) = 2000 := rfl
        rw [e]; grind) (QH m) trivial (fun i hi hq hN => by
      cases i with
      | zero =>
        refine ⟨⟨n3, n4⟩, ?_, ?_⟩
        · show Flo.Ab (S m.gr - (0 * S m.pr - 0 * S m.pi + S m.gr * xH 0)) 1
          have : xH 0 = 1 := rfl
          rw [this]; unfold Flo.Ab; constructor <;> grind
        · show Flo.Ab (S m.gi - (0 * S m.pi + 0 * S m.pr + S m.gi * xH 0)) 1
          have : xH 0 = 1 := rfl
          rw [this]; unfold Flo.Ab; constructor <;> grind
      | succ j =>
        have P := part_h m hm (zH m j) hq.1 hq.2 hN
        have x0 : xH (j + 1) = 0 := by simp [xH]
        refine ⟨⟨P.n1, P.n2⟩, ?_, ?_⟩
        · exact P.e1.eq (by rw [x0]; show _ = S (mulSre (zH m j).1 (zH m j).2 m.pr m.pi) - (S (zH m j).1 * S m.pr - S (zH m j).2 * S m.pi + S m.gr * 0); grind)
        · exact P.e2.eq (by rw [x0]; show _ = S (mulSim (zH m j).1 (zH m j).2 m.pr m.pi) - (S (zH m j).1 * S m.pi + S (zH m j).2 * S m.pr + S m.gi * 0); grind))
  obtain ⟨q, -, h⟩ := t (n + 1) (by omega)
  exact ⟨q.1, q.2, h⟩
theorem zH_part (m : M4) (hm : m.ok) (n : Nat) (hn : n ≤ 1999) : PartH m (zH m n) := by
  obtain ⟨a, b, c⟩ := zH_ok m hm n hn
  exact part_h m hm _ a b c
theorem zH_num (m : M4) (hm : m.ok) : ∀ n, n ≤ 2000 → Sm (zH m n).1 ∧ Sm (zH m n).2
  | 0, _ => ⟨hm.nums.2.2.1, hm.nums.2.2.2⟩
  | n + 1, h => ⟨(zH_part m hm n (by omega)).n1, (zH_part m hm n (by omega)).n2⟩

/-! ### the test, and what the functions answer -/
def szH (z : Nat × Nat) : Nat := szd (wid z.1) (wid z.2)
def twH (z : Nat × Nat) : Nat := opB .mul .f64 4611686018427387904 (szH z)
def hitH (m : M4) (n : Nat) : Bool := leB (twH (zH m n)) (szH (m.gr, m.gi))
theorem sz_H {a b : Nat} (ha : Sm a) (hb : Sm b) : floatBits .add .f64 (labs (wid a)) (labs (wid b)) = some (szH (a, b)) ∧ floatBits .add .f64 (wid a % signBit) (wid b % signBit) = some (szH (a, b)) ∧ Calm .mul .f64 4611686018427387904 (szH (a, b)) := by
  have na := (wid_num ha).1
  have nb := (wid_num hb).1
  have h := szd_eq (wid a) (wid b) (wid_lt a) (wid_lt b) na nb
  have lm := labs_num _ (wid_lt a) na
  have ln := labs_num _ (wid_lt b) nb
  refine ⟨h, by rw [labs_mod _ (wid_lt a) na, labs_mod _ (wid_lt b) nb]; exact h, ?_⟩
  have aa := single_abs ha
  have bb := single_abs hb
  obtain ⟨r, r1, r2, -⟩ := Flo.d_add (labs (wid a)) (labs (wid b)) lm.1 ln.1 (2 * Flo.pw 128) (by
    rw [lm.2, ln.2, (wid_num ha).2, (wid_num hb).2]
    have := ra_le aa
    have := ra_le bb
    have := ra_nonneg (S a)
    have := ra_nonneg (S b)
    unfold Flo.Ab; constructor <;> grind) (by
    have e : Flo.pw 129 = 2 * Flo.pw 128 := by rw [← Flo.pw_succ]; rfl
    have l : Flo.pw 129 < Flo.pw 1023 := Flo.pw_lt (by omega)
    grind)
  rw [h] at r1
  injection r1 with r1
  have n2 : Flo.Nm 4611686018427387904 := ⟨_, _, _, Flo.read_two⟩
  obtain ⟨q, hq⟩ := mul_some n2 (show Flo.Nm (szH (a, b)) from by unfold szH; rw [r1]; exact r2)
  exact (Calm.of hq).1

def HalfR (m : M4) (most : Nat) (r : Int) (ok : Bool) : Prop :=
  (∃ n : Nat, ok = true ∧ r = (n : Int) ∧ 1 ≤ n ∧ n ≤ most ∧ hitH m n = true ∧ ∀ j, 1 ≤ j → j < n → hitH m j = false) ∨
  (ok = false ∧ (∀ j, 1 ≤ j → j ≤ most → hitH m j = false) ∧ r = 0)
def HalfP (m : M4) (most : Nat) (w : World) (e : Ending) (w' : World) : Prop := ∃ r ok, e = .returned (.tuple #[.int .i64 r, .bool ok]) ∧ HalfR m most r ok ∧ Nw w w'
def HalfI (m : M4) (most : Nat) (w : World) (z n : Value) (wr : World) : Prop :=
  ∃ k : Nat, k ≤ most ∧ n = .int .i64 ((k : Int) + 1) ∧ z = .complex .f32 (zH m k).1 (zH m k).2 ∧ (∀ j, 1 ≤ j → j ≤ k → hitH m j = false) ∧ Nw w wr ∧
    wr.cell? ⟨w.heap.size, 0, none⟩ = some (.complex .f32 m.pr m.pi) ∧ wr.cell? ⟨w.heap.size, 1, none⟩ = some (.complex .f32 m.gr m.gi)

theorem implSize_calm (a b : Nat) (w : World) (ha : Sm a) (hb : Sm b) :
    Calls Try.prog 74 #[.complex .f64 (wid a) (wid b)] w fun e w' => e = .returned (.float .f64 (szH (a, b))) ∧ w = w' := by
  have h := (sz_H ha hb).2.1
  have r1 : ∀ w, fres w .add .f64 (wid a % signBit) (wid b % signBit) = szH (a, b) := fun w => by unfold fres; rw [h]
  have r2 : fdr .add .f64 (wid a % signBit) (wid b % signBit) = 0 := by unfold fdr; rw [h]; rfl
  go_enter Try.func74, Try.ntmps74
  go_wp2_with (go_at_call 101; refine (abs_any _ _ (wid_lt _)).mono ?_; rintro e w' ⟨rfl, rfl⟩)
  go_ret
  exact ⟨rfl, rfl⟩
theorem specSize_calm (a b : Nat) (w : World) (ha : Sm a) (hb : Sm b) :
    Calls Try.prog 38 #[.complex .f64 (wid a) (wid b)] w fun e w' => e = .returned (.float .f64 (szH (a, b))) ∧ w = w' := by
  have h := (sz_H ha hb).1
  have r1 : ∀ w, fres w .add .f64 (labs (wid a)) (labs (wid b)) = szH (a, b) := fun w => by unfold fres; rw [h]
  have r2 : fdr .add .f64 (labs (wid a)) (labs (wid b)) = 0 := by unfold fdr; rw [h]; rfl
  go_enter Try.func38, Try.ntmps38
  go_wp2_with (go_at_call 80; refine (l1Abs_any _ _).mono ?_; rintro e w' ⟨rfl, rfl⟩)
  go_ret
  exact ⟨rfl, rfl⟩
theorem specMul_calm (a b c d : Nat) (w : World) (h1 : Calm .mul .f64 a c) (h2 : Calm .mul .f64 b d) (h3 : Calm .sub .f64 (opB .mul .f64 a c) (opB .mul .f64 b d))
    (h4 : Calm .mul .f64 a d) (h5 : Calm .mul .f64 b c) (h6 : Calm .add .f64 (opB .mul .f64 a d) (opB .mul .f64 b c)) :
    Calls Try.prog 29 #[.complex .f64 a b, .complex .f64 c d] w fun e w' =>
      e = .returned (.complex .f64 (opB .sub .f64 (opB .mul .f64 a c) (opB .mul .f64 b d)) (opB .add .f64 (opB .mul .f64 a d) (opB .mul .f64 b c))) ∧ w = w' := by
  have r1 := h1.res
  have r2 := h2.res
  have r3 := h3.res
  have r4 := h4.res
  have r5 := h5.res
  have r6 := h6.res
  have q1 := h1.fdr
  have q2 := h2.fdr
  have q3 := h3.fdr
  have q4 := h4.fdr
  have q5 := h5.fdr
  have q6 := h6.fdr
  clear h1 h2 h3 h4 h5 h6
  go_enter Try.func29, Try.ntmps29
  go_wp2
  all_goals (go_ret; exact ⟨rfl, rfl⟩)
end Go.Proofs.Ytlhhcchncobmhaa

/- The walks of slices.Clone over a body's modes.
   Conditions: those that each statement names. -/
namespace Go.Proofs.Ytlhhcchncobmhaa
set_option linter.unusedSimpArgs false
set_option linter.unusedVariables false
open Go Go.RowKit

theorem Nw.grown {a w w1 : World} {row : Option Nat} (h : Nw a w) (hg : w.grownBy w1 row) (hr : ∀ q, row = some q → a.heap.size ≤ q) : Nw a w1 :=
  ⟨hg.os.trans h.os, hg.tape.trans h.tape, hg.output.trans h.output, Nat.le_trans h.size hg.size, fun i hi hne => (hg.block i (Nat.lt_of_lt_of_le hi h.size) (fun e => by have := hr i e.symm; omega)).trans (h.block i hi hne)⟩

def RowP (ms : List M4) (w : World) (e : Ending) (w' : World) : Prop :=
  ∃ v : Value, e = .returned v ∧ w'.ownsRow w.heap.size 61 2 v ms.length (cellsM ms) ∧ Nw w w'

set_option maxRecDepth 100000 in
theorem clone_modes (ms : List M4) (n bm : Nat) (v : Value) (hn : ms.length = n) (hn64 : n ≤ 64) (w : World)
    (hm : w.ownsRow bm 61 2 v n (cellsM ms)) :
    Calls Try.prog 93 #[v] w (RowP ms w) := by
  obtain ⟨va, vc, rfl⟩ := own_shape' hm
  have Hm := Lib.hid hm
  have Hn := Lib.hid hn
  clear hm hn
  go_enter Try.func93, Try.ntmps93
  have q0 : ∀ (w : World) (a : Option Addr) (n c n' c' : Nat), (binOp .eql 23 (.slice a n c) (.slice none n' c')).run Try.prog w = .ok (.bool a.isNone) w := fun w a n c n' c' => Lib.run_eql_slice_nil w _ _ a n c n' c' Try.underlying23
  obtain ⟨i0, hi, hz0, hz1, hz2⟩ := info_parts info_mode
  rcases Hm.out.2 with ⟨h1, h2⟩ | ⟨g, cap, cur, h1, hb, hg, hc, hmx, hs, ht⟩
  · cases h1
    have hms : ms = [] := List.eq_nil_of_length_eq_zero (by rw [Hn.out])
    subst hms
    go_wp2_with fail
    go_ret
    exact ⟨_, rfl, World.ownsRow_nil _ _ _ _, Nw.refl _⟩
  · cases h1
    have Hbel := Lib.hid ((Nw.refl w).alloc (.cells #[] 61 (0, 0)))
    clear hb hg hc hmx hs ht
    go_wp2_with (at_builtin; refine wpList_append_own _ rfl _ _ 23 rfl w.heap.size 61 i0 (.agg #[.complex .f32 0 0, .complex .f32 0 0]) 2 16 Try.underlying23 hi hz0 hz1 hz2 rfl (by decide) _ _ _ rfl (World.ownsRow_made w #[] 0 (Nat.le_refl _) (Nat.zero_le _) rfl) ⟨g, 0, none⟩ n vc (cellsM ms) rfl ?qc1 ?qc2 ?qc3 ?qc4 ?qc5 ?qc6 ?_)
    case qc1 => rw [cellsM_len, Hn.out]
    case qc2 =>
      intro j u hj
      have hj' : j < n * 2 := by
        have := (List.getElem?_eq_some_iff.1 hj).1
        rw [cellsM_len, Hn.out] at this
        exact this
      have c1 := Hm.out.cellAt j hj'
      rw [hj] at c1
      rw [show (⟨g, 0, none⟩ : Addr).add j = ⟨g, j, none⟩ from by simp [Addr.add]; first | done | (intro h; omega)]
      exact Lib.cell?_alloc_some _ c1
    case qc3 =>
      intro u hu
      obtain ⟨m, _, hu⟩ := List.mem_flatMap.1 hu
      simp [M4.cells] at hu
      rcases hu with rfl | rfl <;> rfl
    case qc4 => unfold maxLen; omega
    case qc5 => omega
    case qc6 => simp
    · intro v' w1 hown hgrow hnil
      have Hown := Lib.hid hown
      have Hgr := Lib.hid (Hbel.out.grown hgrow (fun q hq => by simp [Value.ownBlock] at hq; omega))
      clear hown hgrow hnil
      go_wp2
      go_ret
      exact ⟨v', rfl, by have h := Hown.out; simpa [Hn.out] using h, Hgr.out⟩

end Go.Proofs.Ytlhhcchncobmhaa

/- The walks of HalfLife, the program's and the model's, of a valid mode.
   Conditions: those that each statement names. -/
namespace Go.Proofs.Ytlhhcchncobmhaa
set_option linter.unusedSimpArgs false
set_option linter.unusedVariables false
open Go Go.RowKit

theorem half_no {m : M4} {most : Nat} (h : ∀ j, 1 ≤ j → j ≤ most → hitH m j = false) : HalfR m most 0 false := .inr ⟨rfl, h, rfl⟩

set_option maxRecDepth 100000 in
theorem implHalf_ok (m : M4) (hm : m.ok) (most : Nat) (h1 : 1 ≤ most) (h2 : most ≤ 2000) (w : World) :
    Calls Try.prog 78 #[.agg #[.complex .f32 m.pr m.pi, .complex .f32 m.gr m.gi], .int .i64 (most : Int)] w (HalfP m most w) := by
  obtain ⟨pr, pi, gr, gi⟩ := m
  simp only
  have Hm := Lib.hid hm
  obtain ⟨n1, n2, n3, n4⟩ := hm.nums
  clear hm
  go_enter Try.func78, Try.ntmps78
  go_wp2_with fail
  refine (implIsMode_valid pr pi gr gi _ Hm.out).mono ?_
  rintro e w1 ⟨rfl, g1⟩
  have c0 : w1.cell? ⟨w.heap.size, 0, none⟩ = some (.complex .f32 pr pi) := by rw [g1.cell (by simp)]; simp
  have c1 : w1.cell? ⟨w.heap.size, 1, none⟩ = some (.complex .f32 gr gi) := by rw [g1.cell (by simp)]; simp
  have N1 := Lib.hid (show Nw w w1 from ((Nw.refl w).alloc _).trans g1)
  clear g1
  go_wp2_with fail
  refine (isSteps_ok most h2 _).mono ?_
  rintro e w2 ⟨rfl, rfl⟩
  go_wp2_with fail
  refine (implWiden_fin gr gi _ n3 n4).mono ?_
  rintro e w3 ⟨rfl, rfl⟩
  go_wp2_with fail
  refine (implSize_calm gr gi _ n3 n4).mono ?_
  rintro e w4 ⟨rfl, rfl⟩
  go_wp2_with fail
  go_loopw [7, 8] (fun z n wr => HalfI ⟨pr, pi, gr, gi⟩ most w z n wr) (fun _ n _ => most + 2 - (intOf n).toNat)
  case atStart => exact ⟨0, by omega, rfl, rfl, fun j hj hk => by omega, N1.out, c0, c1⟩
  case round =>
    obtain ⟨k, hk, rfl, rfl, hno, hN, d0, d1⟩ := hrel
    have Hno := Lib.hid hno
    have Nr := Lib.hid hN
    clear hno hN c0 c1
    by_cases hlt : k < most
    · have P := Lib.hid (zH_part ⟨pr, pi, gr, gi⟩ Hm.out k (by omega))
      have Z := Lib.hid (zH_num ⟨pr, pi, gr, gi⟩ Hm.out k (by omega))
      have sz := sz_H P.out.n1 P.out.n2
      have q1 := sz.2.2.res
      have q2 := sz.2.2.fdr
      clear sz
      go_wp2_with fail
      refine (implMulSingle_ok _ _ pr pi _ Z.out.1 Z.out.2 n1 n2 P.out.p1 P.out.p2).mono ?_
      rintro e w5 ⟨rfl, rfl⟩
      go_wp2_with fail
      refine (implWiden_fin _ _ _ P.out.n1 P.out.n2).mono ?_
      rintro e w6 ⟨rfl, rfl⟩
      go_wp2_with fail
      refine (implSize_calm _ _ _ P.out.n1 P.out.n2).mono ?_
      rintro e w7 ⟨rfl, rfl⟩
      cases hh : hitH ⟨pr, pi, gr, gi⟩ (k + 1) with
      | true =>
        have hh' : (FloatKind.f64.format.order (opB .mul .f64 4611686018427387904 (szH (mulSre (zH ⟨pr, pi, gr, gi⟩ k).1 (zH ⟨pr, pi, gr, gi⟩ k).2 pr pi, mulSim (zH ⟨pr, pi, gr, gi⟩ k).1 (zH ⟨pr, pi, gr, gi⟩ k).2 pr pi))) (szH (gr, gi)) == some .lt || FloatKind.f64.format.order (opB .mul .f64 4611686018427387904 (szH (mulSre (zH ⟨pr, pi, gr, gi⟩ k).1 (zH ⟨pr, pi, gr, gi⟩ k).2 pr pi, mulSim (zH ⟨pr, pi, gr, gi⟩ k).1 (zH ⟨pr, pi, gr, gi⟩ k).2 pr pi))) (szH (gr, gi)) == some .eq) = true := hh
        go_wp2_with fail
        all_goals
          go_ret2
          exact ⟨_, _, rfl, .inl ⟨k + 1, rfl, by rw [show ((k + 1 : Nat) : Int) = (k : Int) + 1 from by omega], by omega, by omega, hh, fun j h1 h2 => Hno.out j h1 (by omega)⟩, Nr.out⟩
      | false =>
        have hh' : (FloatKind.f64.format.order (opB .mul .f64 4611686018427387904 (szH (mulSre (zH ⟨pr, pi, gr, gi⟩ k).1 (zH ⟨pr, pi, gr, gi⟩ k).2 pr pi, mulSim (zH ⟨pr, pi, gr, gi⟩ k).1 (zH ⟨pr, pi, gr, gi⟩ k).2 pr pi))) (szH (gr, gi)) == some .lt || FloatKind.f64.format.order (opB .mul .f64 4611686018427387904 (szH (mulSre (zH ⟨pr, pi, gr, gi⟩ k).1 (zH ⟨pr, pi, gr, gi⟩ k).2 pr pi, mulSim (zH ⟨pr, pi, gr, gi⟩ k).1 (zH ⟨pr, pi, gr, gi⟩ k).2 pr pi))) (szH (gr, gi)) == some .eq) = false := hh
        go_wp2_with fail
        all_goals
          go_roundw
          case rel =>
            refine ⟨k + 1, by omega, by rw [show ((k + 1 : Nat) : Int) + 1 = (k : Int) + 1 + 1 from by omega], rfl, fun j h1 h2 => ?_, Nr.out, d0, d1⟩
            by_cases he : j = k + 1
            · rw [he]; exact hh
            · exact Hno.out j h1 (by omega)
          case measure => simp only [intOf]; omega
    · obtain rfl : k = most := by omega
      go_wp2_with fail
      all_goals
        go_ret2
        exact ⟨_, _, rfl, half_no Hno.out, Nr.out⟩

end Go.Proofs.Ytlhhcchncobmhaa

/- The walk of NarrowModes of what was widened.
   Conditions: those that each statement names. -/
namespace Go.Proofs.Ytlhhcchncobmhaa
set_option linter.unusedSimpArgs false
set_option linter.unusedVariables false
open Go Go.RowKit

def narM (m : M4) : M4 := ⟨Flo.nar (wid m.pr), Flo.nar (wid m.pi), Flo.nar (wid m.gr), Flo.nar (wid m.gi)⟩
theorem ab_1024 {m : M4} (h : m.ok) : Flo.Ab (S m.pr) 1024 ∧ Flo.Ab (S m.pi) 1024 ∧ Flo.Ab (S m.gr) 1024 ∧ Flo.Ab (S m.gi) 1024 := by
  obtain ⟨p1, p2⟩ := h.pole
  obtain ⟨g1, g2⟩ := gain_le h
  have f : ∀ x : Rat, ra x ≤ 1024 → Flo.Ab x 1024 := by
    intro x hx
    have := ra_ab x
    unfold Flo.Ab at *
    grind
  exact ⟨p1.mono (by decide), p2.mono (by decide), f _ g1, f _ g2⟩
theorem narM_ok {m : M4} (h : m.ok) : (narM m).ok := by
  obtain ⟨s1, s2, s3, s4⟩ := h.nums
  obtain ⟨b1, b2, b3, b4⟩ := ab_1024 h
  obtain ⟨-, -, n1, w1⟩ := wid_nar_wid s1 b1
  obtain ⟨-, -, n2, w2⟩ := wid_nar_wid s2 b2
  obtain ⟨-, -, n3, w3⟩ := wid_nar_wid s3 b3
  obtain ⟨-, -, n4, w4⟩ := wid_nar_wid s4 b4
  obtain ⟨-, -, -, -, h5, h6, h7⟩ := Valid.parts h
  show modeB _ _ _ _ labs = true
  unfold modeB narM
  simp only
  rw [w1, w2, w3, w4, (fin_iff' .f32 _).2 n1, (fin_iff' .f32 _).2 n2, (fin_iff' .f32 _).2 n3, (fin_iff' .f32 _).2 n4, h5, h6, h7]
  rfl
def mixN (ws : List M4) (k n : Nat) : List M4 := ws.take k ++ List.replicate (n - k) ⟨0, 0, 0, 0⟩
theorem cellsM_app (a b : List M4) : cellsM (a ++ b) = cellsM a ++ cellsM b := by simp [cellsM]
theorem cellsM_zero : ∀ n, cellsM (List.replicate n ⟨0, 0, 0, 0⟩) = List.replicate (n * 2) (.complex .f32 0 0)
  | 0 => rfl
  | n + 1 => by
    rw [List.replicate_succ, show (n + 1) * 2 = n * 2 + 2 from by omega, List.replicate_succ, List.replicate_succ, ← cellsM_zero n]
    rfl
theorem mixN_zero (ws : List M4) (n : Nat) : cellsM (mixN ws 0 n) = List.replicate (n * 2) (.complex .f32 0 0) := by
  unfold mixN
  rw [List.take_zero, List.nil_append, Nat.sub_zero, cellsM_zero]
theorem mixN_full (ws : List M4) (n : Nat) (h : ws.length = n) : mixN ws n n = ws := by
  unfold mixN
  rw [Nat.sub_self, List.replicate_zero, List.append_nil, List.take_of_length_le (by omega)]
theorem mixN_set (ws : List M4) (k n : Nat) (m : M4) (hk : k < n) (hn : ws.length = n) (h : ws[k]? = some m) :
    ((cellsM (mixN ws k n)).set (k * 2) (.complex .f32 m.pr m.pi)).set (k * 2 + 1) (.complex .f32 m.gr m.gi) = cellsM (mixN ws (k + 1) n) := by
  obtain ⟨hk', he⟩ := List.getElem?_eq_some_iff.1 h
  have hl : (cellsM (ws.take k)).length = k * 2 := by rw [cellsM_len, List.length_take]; omega
  unfold mixN
  rw [show n - k = (n - (k + 1)) + 1 from by omega, List.replicate_succ, List.take_succ_eq_append_getElem hk', he, cellsM_app, cellsM_app, cellsM_app]
  rw [List.set_append_right _ _ (by omega), hl, Nat.sub_self]
  rw [List.set_append_right _ _ (by omega), hl, show k * 2 + 1 - k * 2 = 1 from by omega, List.append_assoc]
  congr 1

def NarI (ms : List M4) (B g br bb n : Nat) (bv : Value) (w : World) (i : Value) (wr : World) : Prop :=
  ∃ k : Nat, k ≤ n ∧ i = .int .i64 (k : Int) ∧ wr.ownsRow B 61 2 (.slice (some ⟨g, 0, none⟩) n n) n (cellsM (mixN (ms.map narM) k n)) ∧ Has1 wr br (.slice none 0 0) ∧ Has1 wr bb bv ∧ Nw w wr
def NarP (ms : List M4) (w : World) (e : Ending) (w' : World) : Prop :=
  ∃ v, e = .returned (.tuple #[.agg #[v], .bool true]) ∧ w'.ownsRow w.heap.size 61 2 v ms.length (cellsM (ms.map narM)) ∧ Nw w w'

set_option maxRecDepth 100000 in
set_option maxHeartbeats 3200000 in
theorem narrowModes_ok (ms : List M4) (hms : ∀ m ∈ ms, m.ok) (n bm : Nat) (v : Value) (hq : ms.length = n) (hq16 : n ≤ 16) (w : World)
    (hm : w.ownsRow bm 124 2 v n (cellsW (ms.map widenM))) :
    Calls Try.prog 42 #[v] w (NarP ms w) := by
  obtain ⟨va, vc, rfl⟩ := own_shape' hm
  obtain ⟨i0, hi, hz0, hz1, hz2⟩ := info_parts info_mode
  have hare := widen_are (by omega) hms
  have Hare := Lib.hid hare
  have Hm := Lib.hid hm
  have Hq := Lib.hid hq
  have Hbox := Lib.hid (Has1.new w 69 (.slice none 0 0))
  have Hn0 := Lib.hid ((Nw.refl w).alloc (.cells #[.slice none 0 0] 69 (0, 0)))
  have Hm0 := Lib.hid (own_nw hm Hn0.out)
  clear hm hq hare
  go_enter Try.func42, Try.ntmps42
  go_wp2_with fail
  refine (implAreWide_any (ms.map widenM) (fun m hm => by obtain ⟨m', -, rfl⟩ := List.mem_map.1 hm; exact widenM_bits m') n bm _ (by simp [Hq.out]) (by omega) _ Hm0.out).mono ?_
  rintro e w1 ⟨rfl, n1⟩
  rw [Hare.out]
  have Hb1 := Lib.hid (Hbox.out.nw n1)
  have Hn1 := Lib.hid (Hn0.out.trans n1)
  clear n1
  have hlt1 : w.heap.size < w1.heap.size := Hb1.out.1
  have hs1 := Hn1.out.size
  go_wp2_with (first
    | (at_make; refine wpList_make_full _ rfl _ _ 23 rfl w.heap.size 61 i0 (.agg #[.complex .f32 0 0, .complex .f32 0 0]) 2 Try.underlying23 hi hz0 hz1 _ _ _ _ n rfl rfl rfl rfl (by rw [hz2]; omega) (by unfold maxLen; omega) hs1 ?_))
  intro w3 hown3 hgrow3
  have Hs3 := Lib.hid (show w3.ownsRow w.heap.size 61 2 (.slice (some ⟨w1.heap.size, 0, none⟩) n n) n (cellsM (mixN (ms.map narM) 0 n)) from by
    rw [mixN_zero, ← toList_madeCells_two]
    exact hown3)
  have Hb3 := Lib.hid (Hb1.out.nw hgrow3)
  have Hn3 := Lib.hid (Hn1.out.trans hgrow3)
  have hlt3 : w1.heap.size < w3.heap.size := (Hs3.out.lt _ rfl).2
  clear hown3 hgrow3
  have Hs4 := Lib.hid (Hs3.out.alloc (.cells #[.slice (some ⟨w1.heap.size, 0, none⟩) n n] 69 (0, 0)))
  have Hb4 := Lib.hid (Hb3.out.alloc (.cells #[.slice (some ⟨w1.heap.size, 0, none⟩) n n] 69 (0, 0)))
  have Hx4 := Lib.hid (Has1.new w3 69 (.slice (some ⟨w1.heap.size, 0, none⟩) n n))
  have Hn4 := Lib.hid (Hn3.out.alloc (.cells #[.slice (some ⟨w1.heap.size, 0, none⟩) n n] 69 (0, 0)))
  go_wp2_with fail
  go_loopw [17] (fun i wr => NarI ms w.heap.size w1.heap.size w.heap.size w3.heap.size n (.slice (some ⟨w1.heap.size, 0, none⟩) n n) w i wr) (fun i _ => n - (intOf i).toNat)
  case atStart => exact ⟨0, by omega, rfl, Hs4.out, Hb4.out, Hx4.out, Hn4.out⟩
  case round =>
    obtain ⟨k, hk, rfl, hst, hrs, hbx, hnw⟩ := hrel
    have Hst := Lib.hid hst
    have Hrs := Lib.hid hrs
    have Hbx := Lib.hid hbx
    have Hnw := Lib.hid hnw
    clear hst hrs hbx hnw
    by_cases hlt : k < n
    · obtain ⟨m, hmk⟩ : ∃ m, ms[k]? = some m := ⟨ms[k]'(by rw [Hq.out]; exact hlt), List.getElem?_eq_getElem _⟩
      have Hmr := Lib.hid (own_nw Hm.out Hnw.out)
      obtain ⟨g, cap, hv, hcap, hmax, hgs, e1, e2⟩ := own_wide Hmr.out (m := widenM m) (by rw [List.getElem?_map, hmk]; rfl) (by simp [Hq.out])
      cases hv
      simp only [widenM] at e1 e2
      have Hmk := Lib.hid hmk
      have Hmo := Lib.hid (hms m (List.mem_of_getElem? hmk))
      clear hmk
      unfold maxLen at hmax
      go_upto_region 7 with fail
      have K1 := Lib.hid (new2 wr 124 (.complex .f64 (wid m.pr) (wid m.pi)) (.complex .f64 (wid m.gr) (wid m.gi)))
      have K2 := Lib.hid (Hst.out.alloc (.cells #[.complex .f64 (wid m.pr) (wid m.pi), .complex .f64 (wid m.gr) (wid m.gi)] 124 (0, 0)))
      have K3 := Lib.hid (Hrs.out.alloc (.cells #[.complex .f64 (wid m.pr) (wid m.pi), .complex .f64 (wid m.gr) (wid m.gi)] 124 (0, 0)))
      have K4 := Lib.hid (Hbx.out.alloc (.cells #[.complex .f64 (wid m.pr) (wid m.pi), .complex .f64 (wid m.gr) (wid m.gi)] 124 (0, 0)))
      have K5 := Lib.hid (Hnw.out.alloc (.cells #[.complex .f64 (wid m.pr) (wid m.pi), .complex .f64 (wid m.gr) (wid m.gi)] 124 (0, 0)))
      clear e1 e2
      obtain ⟨w4, hw4⟩ : ∃ w4, w4 = wr.alloc (.cells #[.complex .f64 (wid m.pr) (wid m.pi), .complex .f64 (wid m.gr) (wid m.gi)] 124 (0, 0)) := ⟨_, rfl⟩
      rw [← hw4] at K1 K2 K3 K4 K5
      rw [← hw4]
      clear hw4
      obtain ⟨⟨l0, -⟩, ⟨l1, -⟩⟩ := two_at K1.out
      obtain ⟨b0, b1, b2⟩ := K4.out
      obtain ⟨n1, n2, n3, n4⟩ := Hmo.out.nums
      obtain ⟨a1, a2, a3, a4⟩ := ab_1024 Hmo.out
      obtain ⟨p1, p2, -, -⟩ := wid_nar_wid n1 a1
      obtain ⟨q1, q2, -, -⟩ := wid_nar_wid n2 a2
      obtain ⟨r1, r2, -, -⟩ := wid_nar_wid n3 a3
      obtain ⟨t1, t2, -, -⟩ := wid_nar_wid n4 a4
      refine wp_region_still_tail 10 (by kernel_rfl) (by kernel_rfl) ?_
      simp only [List.take_succ_cons, List.take_zero, List.drop_succ_cons, List.drop_zero]
      still_step
      still_step
      still_step
      still_step
      still_step
      still_call ((implNarrow_ok _ _ _ _ _ p1 q1 p2 q2).mono fun _ _ h => ⟨h.1, h.2.symm⟩)
      still_step
      still_step
      still_call ((implNarrow_ok _ _ _ _ _ r1 t1 r2 t2).mono fun _ _ h => ⟨h.1, h.2.symm⟩)
      still_step
      refine wpStill_nil ?_
      change wpList _ _ _ _ _ (w4.drewN 1)
      have G2 := Lib.hid (own_nw K2.out ((Nw.refl w4).draw 1))
      have G3 := Lib.hid (K3.out.draw 1)
      have G4 := Lib.hid (K4.out.draw 1)
      have G5 := Lib.hid (K5.out.draw 1)
      clear l0 l1 b0 b1 b2 p1 p2 q1 q2 r1 r2 t1 t2
      generalize w4.drewN 1 = w5 at *
      have e4 := G2.out.frozenAt (k * 2)
      have e5 := G2.out.frozenAt (k * 2 + 1)
      obtain ⟨s1, s2⟩ := G2.out.stored (k * 2) (.complex .f32 (Flo.nar (wid m.pr)) (Flo.nar (wid m.pi)))
      obtain ⟨s3, s4⟩ := s1.stored (k * 2 + 1) (.complex .f32 (Flo.nar (wid m.gr)) (Flo.nar (wid m.gi)))
      have em := mixN_set (ms.map narM) k n (narM m) hlt (by simp [Hq.out]) (by rw [List.getElem?_map, Hmk.out]; rfl)
      simp only [narM] at em
      rw [em] at s3
      have Hfin := Lib.hid s3
      have Hrs' := Lib.hid ((G3.out.set (p := ⟨w1.heap.size, k * 2, none⟩) (by show w1.heap.size ≠ w.heap.size; omega) (.complex .f32 (Flo.nar (wid m.pr)) (Flo.nar (wid m.pi)))).set (p := ⟨w1.heap.size, k * 2 + 1, none⟩) (by show w1.heap.size ≠ w.heap.size; omega) (.complex .f32 (Flo.nar (wid m.gr)) (Flo.nar (wid m.gi))))
      have Hbx' := Lib.hid ((G4.out.set (p := ⟨w1.heap.size, k * 2, none⟩) (by show w1.heap.size ≠ w3.heap.size; omega) (.complex .f32 (Flo.nar (wid m.pr)) (Flo.nar (wid m.pi)))).set (p := ⟨w1.heap.size, k * 2 + 1, none⟩) (by show w1.heap.size ≠ w3.heap.size; omega) (.complex .f32 (Flo.nar (wid m.gr)) (Flo.nar (wid m.gi))))
      have Hnw' := Lib.hid ((G5.out.set (p := ⟨w1.heap.size, k * 2, none⟩) (by show w.heap.size ≤ w1.heap.size; omega) (.complex .f32 (Flo.nar (wid m.pr)) (Flo.nar (wid m.pi)))).set (p := ⟨w1.heap.size, k * 2 + 1, none⟩) (by show w.heap.size ≤ w1.heap.size; omega) (.complex .f32 (Flo.nar (wid m.gr)) (Flo.nar (wid m.gi))))
      have hlw : (cellsM (mixN (ms.map narM) k n)).length = n * 2 := by rw [cellsM_len]; simp [mixN]; have := Hq.out; omega
      obtain ⟨z1, c1⟩ : ∃ z, (cellsM (mixN (ms.map narM) k n))[k * 2]? = some z := ⟨_, List.getElem?_eq_getElem (by omega)⟩
      obtain ⟨z2, c2⟩ : ∃ z, (cellsM (mixN (ms.map narM) k n))[k * 2 + 1]? = some z := ⟨_, List.getElem?_eq_getElem (by omega)⟩
      have d1 := G2.out.cellAt (k * 2) (by omega)
      have d2 := s1.cellAt (k * 2 + 1) (by omega)
      have d3 := s1.frozenAt (k * 2 + 1)
      rw [c1] at d1
      rw [List.getElem?_set_ne (by omega), c2] at d2
      clear s1 s2 s3 s4 em c1 c2
      go_wp2_with fail
      go_roundw
      case rel => exact ⟨k + 1, by omega, by rw [show ((k + 1 : Nat) : Int) = (k : Int) + 1 from by omega], Hfin.out, Hrs'.out, Hbx'.out, Hnw'.out⟩
      case measure => simp only [intOf]; omega
    · obtain rfl : k = n := by omega
      obtain ⟨b0, b1, b2⟩ := Hbx.out
      have hfull := Hst.out
      rw [mixN_full _ _ (by simp [Hq.out])] at hfull
      have Hfull := Lib.hid hfull
      clear hfull
      go_wp2_with fail
      refine (implIsBody_ok (ms.map narM) (fun m hm => by obtain ⟨m', h', rfl⟩ := List.mem_map.1 hm; exact narM_ok (hms m' h')) k w.heap.size _ (by simp [Hq.out]) hq16 _ Hfull.out).mono ?_
      rintro e w6 ⟨rfl, n6⟩
      have Hx6 := Lib.hid (Hbx.out.nw n6)
      have Hr6 := Lib.hid (Hrs.out.nw n6)
      have Hn6 := Lib.hid (Hnw.out.trans n6)
      have Hf6 := Lib.hid (own_nw Hfull.out n6)
      clear n6 b0 b1 b2
      obtain ⟨b0, b1, b2⟩ := Hx6.out
      obtain ⟨r0, r1, r2⟩ := Hr6.out
      go_wp2_with fail
      have d0 := (Hr6.out.put (.slice (some ⟨w1.heap.size, 0, none⟩) k k)).2.1
      exact bodyPost_ret (v := .tuple #[.agg #[.slice (some ⟨w1.heap.size, 0, none⟩) k k], .bool true]) (by simp [results, Try.results42, go_sem, d0]) rfl
        ⟨_, rfl, by rw [Hq.out]; exact own_sete Hf6.out (by simp [Value.ownBlock]; omega) _, Hn6.out.set (by show w.heap.size ≤ w.heap.size; omega) _⟩

end Go.Proofs.Ytlhhcchncobmhaa

/- The walks of MakeInput (any samples), MakeSameWide, and the law's sameModes.
   Conditions: those that each statement names. -/
namespace Go.Proofs.Ytlhhcchncobmhaa
set_option linter.unusedSimpArgs false
set_option linter.unusedVariables false
open Go Go.RowKit

def InpI (B : Nat) (w0 : World) (a : Option Addr) (len cap c base : Nat) (v i : Value) (wr : World) : Prop :=
  ∃ (k : Nat) (xs : List Nat), i = .int .i64 (k : Int) ∧ k + xs.length ≤ 9 ∧ At B w0 a len cap c wr ∧ wr.ownsRow base 31 1 v xs.length (cellsS xs) ∧ base ≤ wr.heap.size
def InpP (B : Nat) (w0 : World) (a : Option Addr) (len cap c base : Nat) (e : Ending) (w' : World) : Prop :=
  ∃ (xs : List Nat) (v : Value), e = .returned v ∧ xs.length ≤ 9 ∧ w'.ownsRow base 31 1 v xs.length (cellsS xs) ∧ At B w0 a len cap c w'
set_option maxHeartbeats 1600000 in
theorem l2Input_at (B : Nat) (w0 : World) (a : Option Addr) (len cap c : Nat) (w : World) (hc : At B w0 a len cap c w) :
    Calls Try.prog 82 #[.pointer (some ⟨c, 0, none⟩)] w (InpP B w0 a len cap c w.heap.size) := by
  obtain ⟨i0, hi, hz0, hz1, hz2⟩ := info_parts info_f32
  have hcs : c < w.heap.size := hc.1.2.1
  have hBc : B ≤ c := hc.1.1
  have hw0 : w0.heap.size ≤ w.heap.size := hc.2.size
  have L0 := Lib.hid (World.ownsRow_lit (base := w.heap.size) (e := 31) (size := 1) w #[] 0 (Nat.le_refl _) (by decide) rfl)
  have H0 := Lib.hid (hc.alloc (.cells #[] 31 (0, 0)))
  have s0 : (w.alloc (.cells #[] 31 (0, 0))).heap.size = w.heap.size + 1 := by simp
  clear hc
  go_enter Try.func82, Try.ntmps82
  go_wp2_with fail
  refine (below_at _ _ _ _ _ _ _ (by omega) (by omega) _ H0.out.here).mono ?_
  rintro e w1 ⟨x, x0, x1, rfl, hc1⟩
  have Hs1 := Lib.hid (show w.heap.size ≤ w1.heap.size from by have := hc1.2.size; omega)
  have R1 := Lib.hid (own_kp L0.out hc1.2 hcs)
  have H1 := Lib.hid (show At B w0 a len cap c w1 from ⟨hc1.1, H0.out.2.trans hc1.2⟩)
  clear hc1
  go_wp2_with fail
  go_loopw [3, 4] (fun v i wr => InpI B w0 a len cap c w.heap.size v i wr) (fun _ i _ => (intOf i).toNat)
  case atStart => exact ⟨x.toNat, [], by rw [Int.toNat_of_nonneg x0], by simp; omega, H1.out, R1.out, Hs1.out⟩
  case round =>
    obtain ⟨k, xs, rfl, hk, hat, hown, hbase⟩ := hrel
    obtain ⟨va, vn, vc, rfl⟩ := own_shape hown
    have hlen : vn = xs.length := by
      obtain ⟨ta, tc, ht⟩ := own_shape' hown
      cases ht; rfl
    subst hlen
    have Hat := Lib.hid hat
    have Hown := Lib.hid hown
    clear hat hown
    by_cases hk0 : 0 < k
    · go_wp2_with fail
      refine (l1Some_at _ _ _ _ _ _ _ Hat.out.here).mono ?_
      rintro e w2 ⟨y, rfl, hy, hc2⟩
      have H2 := Lib.hid (show At B w0 a len cap c w2 from ⟨hc2.1, Hat.out.2.trans hc2.2⟩)
      have R2 := Lib.hid (own_kp Hown.out hc2.2 hcs)
      have s2 : w.heap.size ≤ w2.heap.size := by have := hc2.2.size; omega
      clear hc2
      go_wp2_with fail
      refine (once_at _ _ _ _ _ _ _ (by omega) (by omega) _ (H2.out.here.draw _)).mono ?_
      rintro e w3 ⟨b, rfl, hc3⟩
      have H3 := Lib.hid (show At B w0 a len cap c w3 from ⟨hc3.1, H2.out.2.trans hc3.2⟩)
      have R3 := Lib.hid (own_kp R2.out hc3.2 hcs)
      have s3 : w.heap.size ≤ w3.heap.size := by have := hc3.2.size; omega
      clear hc3
      obtain ⟨y3, hy3⟩ : ∃ y3, y3 = fcv w2 .f64 y .f32 := ⟨_, rfl⟩
      rw [← hy3]
      clear hy3
      go_upto_if 17 with fail
      go_cut [5] (fun u wx => (∃ z, u = .float .f32 z) ∧ At B w0 a len cap c wx ∧ wx.ownsRow w.heap.size 31 1 (.slice va xs.length vc) xs.length (cellsS xs) ∧ w.heap.size ≤ wx.heap.size)
      case first =>
        cases b
        · go_wp2_with fail
          go_meet
          exact ⟨⟨_, rfl⟩, H3.out, R3.out, s3⟩
        · go_wp2_with fail
          refine (l1Any_at _ _ _ _ _ _ _ H3.out.here).mono ?_
          rintro e w4 ⟨z, rfl, hz, hc4⟩
          have H4 := Lib.hid (show At B w0 a len cap c w4 from ⟨hc4.1, H3.out.2.trans hc4.2⟩)
          have R4 := Lib.hid (own_kp R3.out hc4.2 hcs)
          have s4 : w.heap.size ≤ w4.heap.size := by have := hc4.2.size; omega
          clear hc4
          go_wp2_with fail
          go_meet
          exact ⟨⟨_, rfl⟩, H4.out.draw _, own_nw R4.out ((Nw.refl _).draw _), s4⟩
      case rest =>
        obtain ⟨⟨z, rfl⟩, h5, r5, s5⟩ := hcut
        have H5 := Lib.hid h5
        have R5 := Lib.hid r5
        clear h5 r5
        go_wp2_with (at_builtin; refine wpList_append_own _ rfl _ _ 28 rfl w.heap.size 31 i0 (.float .f32 0) 1 4 Try.underlying28 hi hz0 hz1 hz2 rfl (by decide) _ _ _ rfl (R5.out.alloc _) ⟨wc.heap.size, 0, none⟩ 1 1 [.float .f32 z] rfl rfl ?c1 ?c2 ?c3 ?c4 ?c5 ?_)
        case c1 =>
          intro j u hj
          match j, hj with
          | 0, hj => simp at hj; subst hj; simp [Addr.add]
        case c2 => intro u hu; simp at hu; subst hu; rfl
        case c3 => unfold maxLen; omega
        case c4 => omega
        case c5 => simp; omega
        · intro v' w6 hown6 hgrow _
          have hrow : ∀ q, (Value.slice va xs.length vc).ownBlock = some q → w.heap.size ≤ q := fun q hq => own_ge R5.out q hq
          have Hc6 := Lib.hid ((H5.out.alloc _).grown hgrow hrow hcs (by omega) (by omega))
          have Hs6 := Lib.hid (show w.heap.size ≤ w6.heap.size from by have := hgrow.size; simp at *; omega)
          rw [show cellsS xs ++ [Value.float .f32 z] = cellsS (xs ++ [z]) from by simp [cellsS], show xs.length + 1 = (xs ++ [z]).length from by simp] at hown6
          have Hown6 := Lib.hid hown6
          clear hown6 hgrow hrow
          go_wp2_with fail
          go_roundw
          case rel => exact ⟨k - 1, xs ++ [z], by rw [show ((k - 1 : Nat) : Int) = (k : Int) - 1 from by omega], by simp; omega, Hc6.out, Hown6.out, Hs6.out⟩
          case measure => simp only [intOf]; omega
    · go_wp2_with fail
      go_ret
      exact ⟨xs, .slice va xs.length vc, rfl, by omega, Hown.out, Hat.out⟩
def MadeI (w : World) (e : Ending) (w' : World) : Prop := ∃ (xs : List Nat) (v : Value), e = .returned v ∧ xs.length ≤ 9 ∧ w'.ownsRow w.heap.size 31 1 v xs.length (cellsS xs) ∧ Nw w w'
theorem makeInput_any (a : Option Addr) (len cap : Nat) (w : World) (hb : Bys w.heap.size a len w) :
    Calls Try.prog 40 #[.slice a len cap] w (MadeI w) := by
  have Hb := Lib.hid hb
  clear hb
  go_enter Try.func40, Try.ntmps40
  go_wp2_with fail
  refine (l01New_any _ _ _ _ Hb.out).mono ?_
  rintro e w1 ⟨rfl, hat⟩
  have Hn1 := Lib.hid (show Nw w w1 from hat.2.nw (by simp))
  have Hat := Lib.hid hat
  clear hat
  go_wp2_with fail
  refine (l2Input_at _ _ _ _ _ _ _ Hat.out.here).mono ?_
  rintro e w2 ⟨xs, v, rfl, hxs, hown, hc2⟩
  have Hn2 := Lib.hid (show Nw w w2 from ⟨hc2.2.os.trans Hn1.out.os, hc2.2.tape.trans Hn1.out.tape, hc2.2.output.trans Hn1.out.output, Nat.le_trans Hn1.out.size hc2.2.size,
    fun k hk hne => (hc2.2.block k (Nat.lt_of_lt_of_le hk Hn1.out.size) (fun e => by cases e; omega)).trans (Hn1.out.block k hk hne)⟩)
  have Hown := Lib.hid (own_base hown Hn1.out.size)
  clear hc2 hown
  go_wp2_with fail
  go_ret
  exact ⟨xs, v, rfl, hxs, Hown.out, Hn2.out⟩

/-! ### two rows of numbers that are the same -/
def SamWI (n : Nat) (w : World) (i : Value) (wr : World) : Prop := ∃ k : Nat, k ≤ n ∧ i = .int .i64 (k : Int) ∧ Nw w wr
theorem sameWide_ok (xs ys : List Nat) (n b1 b2 : Nat) (v1 v2 : Value) (h1 : xs.length = n) (h2 : ys.length = n) (hn : n ≤ 100000) (he : xs.map (fab .f64) = ys.map (fab .f64)) (w : World)
    (o1 : w.ownsRow b1 49 1 v1 n (cellsF xs)) (o2 : w.ownsRow b2 49 1 v2 n (cellsF ys)) :
    Calls Try.prog 48 #[v1, v2] w (TestP true w) := by
  obtain ⟨a1, c1, rfl⟩ := own_shape' o1
  obtain ⟨a2, c2, rfl⟩ := own_shape' o2
  have O1 := Lib.hid o1
  have O2 := Lib.hid o2
  have H := Lib.hid (And.intro h1 (And.intro h2 he))
  clear o1 o2 h1 h2 he
  go_enter Try.func48, Try.ntmps48
  go_wp2_with fail
  go_loopw [13] (fun i wr => SamWI n w i wr) (fun i _ => n - (intOf i).toNat)
  case atStart => exact ⟨0, by omega, rfl, Nw.refl _⟩
  case round =>
    obtain ⟨k, hk, rfl, hnw⟩ := hrel
    have Hnw := Lib.hid hnw
    clear hnw
    by_cases hlt : k < n
    · obtain ⟨x, hx⟩ : ∃ x, xs[k]? = some x := ⟨xs[k]'(by rw [H.out.1]; exact hlt), List.getElem?_eq_getElem _⟩
      obtain ⟨y, hy⟩ : ∃ y, ys[k]? = some y := ⟨ys[k]'(by rw [H.out.2.1]; exact hlt), List.getElem?_eq_getElem _⟩
      have hxy : fab .f64 x = fab .f64 y := by
        have := congrArg (fun l => l[k]?) H.out.2.2
        simp only [List.getElem?_map, hx, hy, Option.map_some, Option.some.injEq] at this
        exact this
      obtain ⟨g1, cap1, hv1, hcap1, hmax1, hg1, e1⟩ := own_f64 (own_nw O1.out Hnw.out) hx H.out.1.symm
      obtain ⟨g2, cap2, hv2, hcap2, hmax2, hg2, e2⟩ := own_f64 (own_nw O2.out Hnw.out) hy H.out.2.1.symm
      cases hv1
      cases hv2
      have Hs := Lib.hid (show sameB x y = true from sameB_fab hxy)
      unfold maxLen at hmax1 hmax2
      have C := Lib.hid (fun w => (l8Same_any x y w))
      rw [Hs.out] at C
      clear hx hy hxy
      go_wp2_with fail
      go_quiet (first
        | (go_at_call 67; exact quiet_eq (C.out _)))
      go_wp2_with fail
      go_roundw
      case rel => exact ⟨k + 1, by omega, by rw [show ((k + 1 : Nat) : Int) = (k : Int) + 1 from by omega], Hnw.out.draw _⟩
      case measure => simp only [intOf]; omega
    · go_wp2_with fail
      go_ret
      exact ⟨rfl, Hnw.out⟩

set_option maxHeartbeats 1600000 in
theorem sameModes_ok (ms ns : List M4) (n b1 b2 : Nat) (v1 v2 : Value) (h1 : ms.length = n) (h2 : ns.length = n) (hn : n ≤ 100) (hf : ∀ m ∈ ms, m.Fin) (hg : ∀ m ∈ ns, m.Fin)
    (he : ∀ (k : Nat) m m', ms[k]? = some m → ns[k]? = some m' → wid m.pr = wid m'.pr ∧ wid m.pi = wid m'.pi ∧ wid m.gr = wid m'.gr ∧ wid m.gi = wid m'.gi) (w : World)
    (o1 : w.ownsRow b1 61 2 v1 n (cellsM ms)) (o2 : w.ownsRow b2 61 2 v2 n (cellsM ns)) :
    Calls Try.prog 47 #[v1, v2] w (TestP true w) := by
  obtain ⟨a1, c1, rfl⟩ := own_shape' o1
  obtain ⟨a2, c2, rfl⟩ := own_shape' o2
  have O1 := Lib.hid o1
  have O2 := Lib.hid o2
  have H := Lib.hid (And.intro h1 (And.intro h2 (And.intro hf (And.intro hg he))))
  clear o1 o2 h1 h2 hf hg he
  go_enter Try.func47, Try.ntmps47
  go_wp2_with fail
  go_loopw [13] (fun i wr => SamWI n w i wr) (fun i _ => n - (intOf i).toNat)
  case atStart => exact ⟨0, by omega, rfl, Nw.refl _⟩
  case round =>
    obtain ⟨k, hk, rfl, hnw⟩ := hrel
    have Hnw := Lib.hid hnw
    clear hnw
    by_cases hlt : k < n
    · obtain ⟨m, hm⟩ : ∃ x, ms[k]? = some x := ⟨ms[k]'(by rw [H.out.1]; exact hlt), List.getElem?_eq_getElem _⟩
      obtain ⟨m', hm'⟩ : ∃ y, ns[k]? = some y := ⟨ns[k]'(by rw [H.out.2.1]; exact hlt), List.getElem?_eq_getElem _⟩
      obtain ⟨q1, q2, q3, q4⟩ := H.out.2.2.2.2 k m m' hm hm'
      obtain ⟨f1, f2, f3, f4⟩ := H.out.2.2.1 m (List.mem_of_getElem? hm)
      obtain ⟨g1, g2, g3, g4⟩ := H.out.2.2.2.1 m' (List.mem_of_getElem? hm')
      obtain ⟨g1', cap1, hv1, hcap1, hmax1, hg1, e1, e2⟩ := own_mode (own_nw O1.out Hnw.out) hm H.out.1.symm
      obtain ⟨g2', cap2, hv2, hcap2, hmax2, hg2, e3, e4⟩ := own_mode (own_nw O2.out Hnw.out) hm' H.out.2.1.symm
      cases hv1
      cases hv2
      unfold maxLen at hmax1 hmax2
      have cx : ∀ (a b : Nat) (_ : Sm a) (_ : Sm b) (w : World), (convert 59 41 (.complex .f32 a b)).run Try.prog w = .ok (.complex .f64 (wid a) (wid b)) w := by
        intro a b ha hb w
        rw [run_convert_cx w 59 41 .f32 .f64 a b (by rw [Try.underlying59]; rfl) Try.underlying41, fcv_up ha, fcv_up hb, fcd_up ha, fcd_up hb]
        rfl
      have x1 := cx m.pr m.pi f1 f2
      have x2 := cx m.gr m.gi f3 f4
      have x3 := cx m'.pr m'.pi g1 g2
      have x4 := cx m'.gr m'.gi g3 g4
      have C1 := Lib.hid (fun w => makeSameComplex_any (wid m.pr) (wid m.pi) (wid m'.pr) (wid m'.pi) w)
      rw [q1, q2, sameB_self, sameB_self] at C1
      have C2 := Lib.hid (fun w => makeSameComplex_any (wid m.gr) (wid m.gi) (wid m'.gr) (wid m'.gi) w)
      rw [q3, q4, sameB_self, sameB_self] at C2
      rw [q1, q2] at x1
      rw [q3, q4] at x2
      clear hm hm' cx f1 f2 f3 f4 g1 g2 g3 g4 q1 q2 q3 q4
      go_wp2_with fail
      go_quiet (first
        | (go_at_call 21; with_reducible exact quiet_eq (C1.out _))
        | (go_at_call 21; with_reducible exact quiet_eq (C2.out _)))
      go_wp2_with fail
      go_roundw
      case rel => exact ⟨k + 1, by omega, by rw [show ((k + 1 : Nat) : Int) = (k : Int) + 1 from by omega], Hnw.out.draw _⟩
      case measure => simp only [intOf]; omega
    · go_wp2_with fail
      go_ret
      exact ⟨rfl, Hnw.out⟩

end Go.Proofs.Ytlhhcchncobmhaa

/- What a proof of a law over one slice of bytes begins with: the argument, opened.
   Conditions: those that each statement names. -/
namespace Go.Proofs.Ytlhhcchncobmhaa
set_option linter.unusedSimpArgs false
set_option linter.unusedVariables false
open Go Go.ChangeShapes Go.WideShapes Go.ChangeAt Go.RowKit

theorem own : ownKnob Try.prog.godebug = none := by kernel_rfl
theorem laidOut : laidOutB Try.prog = true := by kernel_rfl

/-- WHAT THE WALK IS TOLD OF A SLICE OF INTEGERS THAT CAME IN: it is nil; or it leads to a row of 'cap' cells, the numbers 'zs' (the first 'len' are its elements, the rest its spare room), each fitting its kind. -/
def IsRow (k : IntKind) (w : World) (a : Option Addr) (len cap : Nat) (zs : List Int) : Prop :=
  (a = none ∧ len = 0 ∧ cap = 0 ∧ zs = []) ∨
  ∃ x, a = some x ∧ len ≤ cap ∧ cap ≤ maxLen ∧ zs.length = cap ∧ (∀ i, i < zs.length → w.cell? (x.add i) = some (.int k (zs.getD i 0))) ∧ ∀ n ∈ zs, (Lit.int k n).wf = true


theorem cell_lt {w : World} {p : Addr} {v : Value} (h : w.cell? p = some v) : p.block < w.heap.size ∧ p.spot = none := by
  unfold World.cell? at h
  split at h
  · rename_i c _ _ hb
    have hs : p.spot.isSome = false := by
      cases hp : p.spot.isSome
      · rfl
      · rw [hp] at h; simp at h
    refine ⟨?_, by simpa using hs⟩
    rcases Nat.lt_or_ge p.block w.heap.size with g | g
    · exact g
    · rw [Array.getElem?_eq_none g] at hb; cases hb
  · cases h

theorem bys_of_row {w : World} {a : Option Addr} {len cap : Nat} {zs : List Int} (h : IsRow .u8 w a len cap zs) (hl : len ≤ 140737488351232) : Bys w.heap.size a len w := by
  refine ⟨hl, ?_⟩
  rcases h with ⟨rfl, rfl, _, _⟩ | ⟨x, rfl, hlc, hcm, hz, hcell, hwf⟩
  · exact .inl rfl
  · by_cases h0 : len = 0
    · exact .inl h0
    · right
      have c0 := hcell 0 (by omega)
      have e0 : x.add 0 = x := by unfold Addr.add; rw [if_pos rfl]
      rw [e0] at c0
      obtain ⟨hb, hs⟩ := cell_lt c0
      refine ⟨x.block, x.off, by cases x; simp at hs; subst hs; rfl, hb, fun k hk => ?_⟩
      have hc := hcell k (by omega)
      have hmem : zs.getD k 0 ∈ zs := by
        rw [List.getD_eq_getElem?_getD, List.getElem?_eq_getElem (by omega), Option.getD_some]
        exact List.getElem_mem _
      have hw := hwf _ hmem
      have hadd : x.add k = ⟨x.block, x.off + k, none⟩ := by
        unfold Addr.add; split
        · rename_i h0; subst h0; cases x; simp at hs; subst hs; rfl
        · rfl
      rw [hadd] at hc
      generalize zs.getD k 0 = z at hw hc
      have hz2 : 0 ≤ z ∧ z ≤ 255 := by simpa [Lit.wf, IntKind.min, IntKind.max, IntKind.signed, IntKind.bits, Int.le_sub_one_iff] using hw
      exact ⟨z.toNat, by omega, by rw [hc]; congr 2; omega⟩

end Go.Proofs.Ytlhhcchncobmhaa

/- An argument that is a slice of samples, opened; the walks of sameFloat, toFloat32S and eqFloat32S.
   Conditions: those that each statement names. -/
namespace Go.Proofs.Ytlhhcchncobmhaa
set_option linter.unusedSimpArgs false
set_option linter.unusedVariables false
open Go Go.ChangeShapes Go.WideShapes Go.ChangeAt Go.RowKit

theorem trod_float {H : Type} {enc : TypeId × Value → H} {P : Program} {w : World} {base : Nat} {spare : Nat → Bool} {held : Bool} {fuel : Nat} {t : TypeId} {cs : List Value} {x : DataW H × List MemPlace} {k : FloatKind}
    (ht : P.underlying t = some (.float k)) (h : DataW.trod enc P w base spare held fuel t cs = some x) : ∃ n, cs = [.float k n] ∧ (Lit.float k n).wf = true := by
  cases fuel with
  | zero => simp [DataW.trod] at h
  | succ n =>
    unfold DataW.trod at h
    rw [ht] at h
    split at h <;> simp_all
theorem open_floats {H : Type} {enc : TypeId × Value → H} {P : Program} {w : World} {base : Nat} {spare : Nat → Bool} {held : Bool} {fuel : Nat} {t e : TypeId} {cs : List Value} {x : DataW H × List MemPlace} {k : FloatKind}
    (ht : P.underlying t = some (.slice e)) (he : P.underlying e = some (.float k)) (hc : P.cellsOf e = 1) (h : DataW.trod enc P w base spare held fuel t cs = some x) :
    cs = [.slice none 0 0] ∨ ∃ (a : Addr) (len cap : Nat), cs = [.slice (some a) len cap] ∧ len ≤ cap ∧ cap ≤ maxLen ∧ ∀ i, i < len → ∃ b, w.cell? (a.add i) = some (.float k b) ∧ (Lit.float k b).wf = true := by
  rcases DataW.trod_slice ht h with ⟨h0, _⟩ | ⟨a, len, cap, elems, rest, n, _, rfl, rfl, hb, hl, hm, hlen, hel, hsp, hns⟩
  · exact .inl h0
  · refine .inr ⟨a, len, cap, rfl, hl, hm, fun i hi => ?_⟩
    have h1 := hel i hi
    rw [List.getElem?_eq_getElem (by omega), hc, Nat.mul_one, Option.bind_eq_some_iff] at h1
    obtain ⟨cs', hcs, hy'⟩ := h1
    obtain ⟨m, rfl, hw⟩ := trod_float he hy'
    exact ⟨m, cell_of_cells?_one hcs, hw⟩

/-- WHAT THE WALK IS TOLD OF A SLICE OF SAMPLES: its numbers, below the block B -/
def Fls (B : Nat) (a : Option Addr) (len : Nat) (zs : List Nat) (w : World) : Prop :=
  zs.length = len ∧ (∀ z ∈ zs, z < 2 ^ 32) ∧ (len = 0 ∨ ∃ b o, a = some ⟨b, o, none⟩ ∧ b < B ∧ ∀ (k : Nat) x, zs[k]? = some x → w.cell? ⟨b, o + k, none⟩ = some (.float .f32 x))
theorem Fls.nw {B : Nat} {a : Option Addr} {len : Nat} {zs : List Nat} {w w' : World} (h : Fls B a len zs w) (hB : B ≤ w.heap.size) (hn : Nw w w') : Fls B a len zs w' := by
  obtain ⟨h1, h2, h3⟩ := h
  refine ⟨h1, h2, ?_⟩
  rcases h3 with h0 | ⟨b, o, rfl, hb, hc⟩
  · exact .inl h0
  · exact .inr ⟨b, o, rfl, hb, fun k x hx => by rw [hn.cell (by show b < w.heap.size; omega)]; exact hc k x hx⟩
theorem Fls.at {B : Nat} {a : Option Addr} {len : Nat} {zs : List Nat} {w : World} (h : Fls B a len zs w) {k x : Nat} (hx : zs[k]? = some x) :
    ∃ b o, a = some ⟨b, o, none⟩ ∧ b < B ∧ w.cell? ⟨b, o + k, none⟩ = some (.float .f32 x) := by
  obtain ⟨h1, h2, h3⟩ := h
  have := (List.getElem?_eq_some_iff.1 hx).1
  rcases h3 with h0 | ⟨b, o, rfl, hb, hc⟩
  · omega
  · exact ⟨b, o, rfl, hb, hc k x hx⟩
theorem fls_of {w : World} {a : Addr} {len : Nat} (h : ∀ i, i < len → ∃ b, w.cell? (a.add i) = some (.float .f32 b) ∧ (Lit.float .f32 b).wf = true) : ∃ zs, Fls w.heap.size (some a) len zs w := by
  have hz : ∀ n, n ≤ len → ∃ zs : List Nat, zs.length = n ∧ ∀ (k : Nat) x, zs[k]? = some x → w.cell? (a.add k) = some (.float .f32 x) ∧ x < 2 ^ 32 := by
    intro n
    induction n with
    | zero => intro _; exact ⟨[], rfl, fun k x hx => by simp at hx⟩
    | succ n ih =>
      intro hn
      obtain ⟨zs, hl, hk⟩ := ih (by omega)
      obtain ⟨b, hb, hw⟩ := h n (by omega)
      refine ⟨zs ++ [b], by simp [hl], fun k x hx => ?_⟩
      by_cases hkn : k < n
      · exact hk k x (by rwa [List.getElem?_append_left (by omega)] at hx)
      · rw [List.getElem?_append_right (by omega)] at hx
        have hk0 : k - zs.length = 0 := by
          have := (List.getElem?_eq_some_iff.1 hx).1
          simp at this; omega
        rw [hk0] at hx
        simp at hx
        subst hx
        obtain rfl : k = n := by omega
        exact ⟨hb, by simpa [Lit.wf] using hw⟩
  obtain ⟨zs, hl, hk⟩ := hz len (Nat.le_refl _)
  refine ⟨zs, hl, fun z hz => ?_, ?_⟩
  · obtain ⟨i, hi⟩ := List.getElem?_of_mem hz
    exact (hk i z hi).2
  · by_cases h0 : len = 0
    · exact .inl h0
    · right
      obtain ⟨b, hb, -⟩ := h 0 (by omega)
      have e0 : a.add 0 = a := by unfold Addr.add; rw [if_pos rfl]
      rw [e0] at hb
      obtain ⟨h1, h2⟩ := cell_lt hb
      refine ⟨a.block, a.off, by cases a; simp at h2; subst h2; rfl, h1, fun k x hx => ?_⟩
      have := (hk k x hx).1
      have hadd : a.add k = ⟨a.block, a.off + k, none⟩ := by
        unfold Addr.add; split
        · rename_i h0; subst h0; cases a; simp at h2; subst h2; rfl
        · rfl
      rwa [hadd] at this

/-! ### sameFloat -/
theorem one_quoF (a : Nat) (h : nan64 a = false) : ∃ r, floatBits .quo .f64 4607182418800017408 a = some r := by
  have h1 : Ieee.double.read 4607182418800017408 = .number false 4503599627370496 (-52) := by decide
  have h : (Ieee.double.read a).isNaN = false := h
  show ∃ r, Ieee.double.div 4607182418800017408 a = some r
  unfold Ieee.Format.div
  rw [h1]
  cases hd : Ieee.double.read a with
  | number s m p => by_cases hm : m = 0 <;> simp [Ieee.Datum.quotient, hm]
  | infinity s => exact ⟨_, rfl⟩
  | nan s f => rw [hd] at h; simp [Ieee.Datum.isNaN] at h

def fillF (zs : List Nat) (n k : Nat) : List Nat := zs.take k ++ List.replicate (n - k) 0
theorem fillF_zero (zs : List Nat) (n : Nat) : fillF zs n 0 = List.replicate n 0 := by simp [fillF]
theorem fillF_full (zs : List Nat) (n : Nat) (h : zs.length = n) : fillF zs n n = zs := by subst h; simp [fillF]
theorem fillF_set (zs : List Nat) (n k x : Nat) (hx : zs[k]? = some x) (hl : zs.length = n) : (cellsS (fillF zs n k)).set k (.float .f32 x) = cellsS (fillF zs n (k + 1)) := by
  obtain ⟨h, he⟩ := List.getElem?_eq_some_iff.1 hx
  unfold fillF
  rw [List.take_succ_eq_append_getElem h, he, show n - k = (n - (k + 1)) + 1 from by omega, List.replicate_succ]
  simp only [cellsS, List.map_append, List.map_cons, List.map_nil, List.append_assoc, List.singleton_append]
  rw [List.set_append_right _ _ (by simp; omega)]
  simp [Nat.min_eq_left (Nat.le_of_lt h)]
theorem fillF_cell (zs : List Nat) (n k : Nat) (h : k < n) (hl : zs.length = n) : (cellsS (fillF zs n k))[k]? = some (.float .f32 0) := by
  unfold fillF cellsS
  rw [List.getElem?_map, List.getElem?_append_right (by simp; omega)]
  simp [List.getElem?_replicate]
  omega

def CopyI (B g n : Nat) (zs : List Nat) (w : World) (i : Value) (wr : World) : Prop :=
  ∃ k : Nat, k ≤ n ∧ i = .int .i64 (k : Int) ∧ wr.ownsRow B 31 1 (.slice (some ⟨g, 0, none⟩) n n) n (cellsS (fillF zs n k)) ∧ Nw w wr
def CopyP (zs : List Nat) (n : Nat) (w : World) (e : Ending) (w' : World) : Prop :=
  ∃ g : Nat, e = .returned (.slice (some ⟨g, 0, none⟩) n n) ∧ w'.ownsRow w.heap.size 31 1 (.slice (some ⟨g, 0, none⟩) n n) n (cellsS zs) ∧ Nw w w'

theorem widen_sameF (x : Nat) (w1 w2 : World) : sameF (fcv w1 .f32 x .f64) (fcv w2 .f32 x .f64) = true :=
  sameF_fab (by rw [fab_wide, fab_wide])
def CountI (n : Nat) (w : World) (i : Value) (wr : World) : Prop := ∃ k : Nat, k ≤ n ∧ i = .int .i64 (k : Int) ∧ Nw w wr

end Go.Proofs.Ytlhhcchncobmhaa

/- The walks of EnergyOf, the program's and the model's: the sum of the squares, but for the bits of NaN; of finite samples it is a number.
   Conditions: those that each statement names. -/
namespace Go.Proofs.Ytlhhcchncobmhaa
set_option linter.unusedSimpArgs false
set_option linter.unusedVariables false
open Go Go.RowKit

/-- the sum of the squares, but for the bits of NaN -/
def enA (zs : List Nat) : Option Nat := zs.foldl (fun s x => fA .add .f64 s (fA .mul .f64 (wA x) (wA x))) (fab .f64 0)
theorem enA_take (zs : List Nat) (k x : Nat) (h : zs[k]? = some x) : enA (zs.take (k + 1)) = fA .add .f64 (enA (zs.take k)) (fA .mul .f64 (wA x) (wA x)) := by
  obtain ⟨hk, he⟩ := List.getElem?_eq_some_iff.1 h
  unfold enA
  rw [List.take_succ_eq_append_getElem hk, List.foldl_append, he]; rfl

def EnI (zs : List Nat) (n : Nat) (w : World) (y i : Value) (wr : World) : Prop :=
  ∃ k s : Nat, k ≤ n ∧ i = .int .i64 (k : Int) ∧ y = .float .f64 s ∧ fab .f64 s = enA (zs.take k) ∧ Nw w wr
def EnP (zs : List Nat) (w : World) (e : Ending) (w' : World) : Prop := ∃ s, e = .returned (.float .f64 s) ∧ fab .f64 s = enA zs ∧ Nw w w'

end Go.Proofs.Ytlhhcchncobmhaa

/- The energy of finite samples is a number: plain facts, and the walk of EnergyOf that says its bits.
   Conditions: those that each statement names. -/
namespace Go.Proofs.Ytlhhcchncobmhaa
set_option linter.unusedSimpArgs false
set_option linter.unusedVariables false
open Go Go.RowKit

/-! ### the energy of finite samples is a number -/
def enB : Rat := Flo.pw 260
theorem en_step (s x : Nat) (k : Nat) (hk : k ≤ 1000) (hs : Flo.Nm s) (hb : Flo.Ab (Flo.W s) ((k : Rat) * enB)) (hx : Sm x) :
    ∃ r, fA .add .f64 (some s) (fA .mul .f64 (wA x) (wA x)) = some r ∧ Flo.Nm r ∧ Flo.Ab (Flo.W r) (((k + 1 : Nat) : Rat) * enB) := by
  obtain ⟨n, v⟩ := wid_num hx
  have hwa : wA x = some (wid x) := by unfold wA; rw [show nan32 x = false from by obtain ⟨s, m, p, h⟩ := hx; unfold nan32; rw [show FloatKind.f32.decode x = _ from h]; rfl]; rfl
  have a := single_abs hx
  have hm := a.mul a
  have e256 : Flo.pw 128 * Flo.pw 128 = Flo.pw 256 := by rw [← Flo.pw_add]; rfl
  rw [e256, ← v] at hm
  have l1 : Flo.pw 256 < Flo.pw 1023 := Flo.pw_lt (by omega)
  have l2 : Flo.pw 260 = 16 * Flo.pw 256 := by rw [show (260 : Int) = 4 + 256 from rfl, Flo.pw_add, show Flo.pw 4 = 16 from Flo.pw_nat 4]
  have l3 : Flo.pw 280 < Flo.pw 1023 := Flo.pw_lt (by omega)
  have l4 : Flo.pw 280 = 1048576 * Flo.pw 260 := by rw [show (280 : Int) = 20 + 260 from rfl, Flo.pw_add, show Flo.pw 20 = 1048576 from Flo.pw_nat 20]
  have p0 : 1 ≤ Flo.pw 256 := by rw [← Flo.pw_zero]; exact Flo.pw_le (by omega)
  have u1 := Flo.u_le
  have u0 := Flo.u_pos
  have e0 := Flo.et_pos
  have eu : Flo.et ≤ Flo.u := Flo.pw_le (by omega)
  obtain ⟨r1, q1, q2, q3⟩ := Flo.d_mul (wid x) (wid x) n n _ hm l1
  have k0 : (0 : Rat) ≤ (k : Rat) := by exact_mod_cast Nat.zero_le k
  have k1 : (k : Rat) ≤ 1000 := by
    have : ((k : Nat) : Rat) ≤ ((1000 : Nat) : Rat) := by exact_mod_cast hk
    exact this
  have u2 : Flo.u ≤ 1 / 1048576 := by grind
  have hP := Rat.mul_le_mul_of_nonneg_left u2 (show (0 : Rat) ≤ Flo.pw 256 by grind)
  have hr1 : Flo.Ab (Flo.W r1) (2 * Flo.pw 256) := ((q3.add hm).eq (by grind)).mono (by grind)
  have hsum : Flo.Ab (Flo.W s + Flo.W r1) ((k : Rat) * enB + 2 * Flo.pw 256) := hb.add hr1
  have hkb : (k : Rat) * enB ≤ 1000 * enB := Rat.mul_le_mul_of_nonneg_right k1 (by unfold enB; grind)
  unfold enB at *
  obtain ⟨r2, t1, t2, t3⟩ := Flo.d_add s r1 hs q2 _ hsum (by grind)
  refine ⟨r2, ?_, t2, ?_⟩
  · rw [hwa]
    show fA .add .f64 (some s) (floatBits .mul .f64 (wid x) (wid x)) = _
    rw [q1]
    exact t1
  · have hB : 0 ≤ (k : Rat) * Flo.pw 260 + 2 * Flo.pw 256 := hsum.nonneg
    have hu := Rat.mul_le_mul_of_nonneg_left u2 hB
    have e1 : ((k + 1 : Nat) : Rat) = (k : Rat) + 1 := by push_cast; rfl
    rw [e1]
    refine ((t3.add hsum).eq (by grind)).mono ?_
    grind
theorem en_fold : ∀ (zs : List Nat) (s k : Nat), k + zs.length ≤ 1000 → Flo.Nm s → Flo.Ab (Flo.W s) ((k : Rat) * enB) → (∀ x ∈ zs, Sm x) → ∃ r, zs.foldl (fun s x => fA .add .f64 s (fA .mul .f64 (wA x) (wA x))) (some s) = some r ∧ Flo.Nm r
  | [], s, k, _, hs, _, _ => ⟨s, rfl, hs⟩
  | x :: zs, s, k, hk, hs, hb, hx => by
    simp only [List.length_cons] at hk
    obtain ⟨r, h1, h2, h3⟩ := en_step s x k (by omega) hs hb (hx x (List.mem_cons_self ..))
    rw [List.foldl_cons, h1]
    exact en_fold zs r (k + 1) (by omega) h2 h3 (fun y hy => hx y (List.mem_cons_of_mem _ hy))
theorem zero_double : Flo.Nm 0 ∧ Flo.W 0 = 0 := by
  have h : Ieee.double.read 0 = .number false 0 (-1074) := by decide
  refine ⟨⟨_, _, _, h⟩, ?_⟩
  rw [show Flo.W 0 = _ from Flo.V_eq h, Flo.val_zero]
/-- the energy's bits -/
def enN (zs : List Nat) : Nat := (enA zs).getD 0
theorem en_num (zs : List Nat) (hl : zs.length ≤ 1000) (hx : ∀ x ∈ zs, Sm x) : enA zs = some (enN zs) ∧ Flo.Nm (enN zs) := by
  have h0 : fab .f64 0 = some 0 := fab_some (by decide)
  obtain ⟨r, h1, h2⟩ := en_fold zs 0 0 (by omega) zero_double.1 (by rw [zero_double.2]; unfold enB; have := Flo.pw_pos 260; constructor <;> grind) hx
  have e : enA zs = some r := by unfold enA; rw [h0]; exact h1
  unfold enN
  rw [e]
  exact ⟨rfl, h2⟩
theorem fab_eq {k : FloatKind} {s r : Nat} (h : fab k s = some r) : s = r := by
  unfold fab at h
  split at h
  · cases h
  · injection h
end Go.Proofs.Ytlhhcchncobmhaa

/- Absolute values of single precision: the walk of absoluteSingle.
   Conditions: those that each statement names. -/
namespace Go.Proofs.Ytlhhcchncobmhaa
set_option linter.unusedSimpArgs false
set_option linter.unusedVariables false
open Go Go.RowKit

theorem implAbs_wide (x : Nat) (hx : nan32 x = false) (w : World) :
    Calls Try.prog 125 #[.float .f32 x] w fun e w' => (∃ p, e = .returned (.float .f32 p) ∧ Tw p (labs (wid x))) ∧ w = w' := by
  have a1 := fcv_wide hx
  have a2 := fcd_wide hx
  have a3 := fun w => (tw_abs hx w).2
  have a3 := a3 w
  have lt := wid_lt x
  go_enter Try.func125, Try.ntmps125
  go_wp2_with (go_at_call 101; refine (abs_any _ _ lt).mono ?_; rintro e w' ⟨rfl, rfl⟩)
  all_goals (go_ret; exact ⟨⟨_, rfl, (tw_abs hx _).1⟩, rfl⟩)
theorem nan_abs {z : Nat} (h : nan64 z = true) (w : World) : nan32 (fcv w .f64 (z % signBit) .f32) = true := by
  unfold nan64 at h
  have hm := mod_read z
  cases hd : FloatKind.f64.decode z with
  | number s m p => rw [hd] at h; cases h
  | infinity s => rw [hd] at h; cases h
  | nan s f =>
    rw [hd] at hm
    unfold fcv
    rw [if_neg (by decide), hm]
    exact nan_conv _ _ _
theorem nan_order {k : FloatKind} {z : Nat} (h : (k.decode z).isNaN = true) (b : Nat) : (k.format.order z b == some .gt) = false := by
  unfold Ieee.Format.order
  unfold FloatKind.decode at h
  cases hd : k.format.read z <;> rw [hd] at h <;> simp [Ieee.Datum.isNaN] at h
  simp [Ieee.Datum.order]
theorem nan_labs {z : Nat} (h : nan64 z = true) : labs z = z := by
  have h0 : FloatKind.f64.format.order z 0 = none := by
    unfold Ieee.Format.order
    unfold nan64 FloatKind.decode at h
    cases hd : FloatKind.f64.format.read z <;> rw [hd] at h <;> simp [Ieee.Datum.isNaN] at h
    simp [Ieee.Datum.order]
  unfold labs; rw [h0]; simp
theorem implAbs_nan (x : Nat) (hx : nan32 x = true) (h32 : x < 2 ^ 32) (w : World) :
    Calls Try.prog 125 #[.float .f32 x] w fun e w' => (∃ p, e = .returned (.float .f32 p) ∧ nan32 p = true) ∧ Nw w w' := by
  have lt := fun w => fcv_wf w .f32 x .f64 (show x < 2 ^ FloatKind.f32.format.width from h32)
  have hn := fun w => nan_wide hx w
  go_enter Try.func125, Try.ntmps125
  go_wp2_with (go_at_call 101; refine (abs_any _ _ (lt _)).mono ?_; rintro e w' ⟨rfl, rfl⟩)
  all_goals (go_ret; exact ⟨⟨_, rfl, nan_abs (hn _) _⟩, ⟨rfl, rfl, rfl, Nat.le_refl _, fun _ _ _ => rfl⟩⟩)

end Go.Proofs.Ytlhhcchncobmhaa

/- The law FnExactPeakOf, proved: for every slice of samples PeakOf answers as its model does, and leaves it as it was.
   Conditions: none beyond the statement's own. -/
namespace Go.Proofs.Ytlhhcchncobmhaa
set_option linter.unusedSimpArgs false
set_option linter.unusedVariables false
open Go Go.RowKit

/-- the greatest absolute value so far, as the model has it -/
def pk1 (b x : Nat) : Nat := if nan32 x then b else if FloatKind.f64.format.order (labs (wid x)) b == some .gt then labs (wid x) else b
def pkB (zs : List Nat) : Nat := zs.foldl pk1 0
theorem pkB_take (zs : List Nat) (k x : Nat) (h : zs[k]? = some x) : pkB (zs.take (k + 1)) = pk1 (pkB (zs.take k)) x := by
  obtain ⟨hk, he⟩ := List.getElem?_eq_some_iff.1 h
  unfold pkB
  rw [List.take_succ_eq_append_getElem hk, List.foldl_append, he]; rfl
theorem pk1_nan {b x : Nat} (h : nan32 x = true) : pk1 b x = b := by unfold pk1; rw [h]; rfl
theorem pk1_up {b x : Nat} (h : nan32 x = false) (g : (FloatKind.f64.format.order (labs (wid x)) b == some .gt) = true) : pk1 b x = labs (wid x) := by unfold pk1; rw [h, g]; rfl
theorem pk1_stay {b x : Nat} (h : nan32 x = false) (g : (FloatKind.f64.format.order (labs (wid x)) b == some .gt) = false) : pk1 b x = b := by unfold pk1; rw [h, g]; rfl

def PkS (zs : List Nat) (n : Nat) (w : World) (y i : Value) (wr : World) : Prop :=
  ∃ k p : Nat, k ≤ n ∧ i = .int .i64 (k : Int) ∧ y = .float .f64 (pkB (zs.take k)) ∧ Tw p (pkB (zs.take k)) ∧ Nw w wr
def PkI (zs : List Nat) (n : Nat) (w : World) (y i : Value) (wr : World) : Prop :=
  ∃ k p : Nat, k ≤ n ∧ i = .int .i64 (k : Int) ∧ y = .float .f32 p ∧ Tw p (pkB (zs.take k)) ∧ Nw w wr
def PkP (zs : List Nat) (w : World) (e : Ending) (w' : World) : Prop := ∃ p, e = .returned (.float .f32 p) ∧ Tw p (pkB zs) ∧ Nw w w'

theorem tw_again {p b : Nat} (h : Tw p b) (w : World) : Tw (fcv w .f64 b .f32) b ∧ fcd .f64 b .f32 = 0 := by
  rcases h with ⟨m, i, n, j, h1, h2, h3⟩ | ⟨h1, h2⟩
  · exact tw_narrow h1 h2 h3.symm w
  · exact tw_narrow_inf h2 w

end Go.Proofs.Ytlhhcchncobmhaa

/- Plain facts: a product with a factor from 0 to 1 is no greater; squares and sums of squares grow with the parts; a damped pole stays valid. No program stands in it.
   Conditions: those that each statement names. -/
namespace Go.Proofs.Ytlhhcchncobmhaa
set_option linter.unusedSimpArgs false
set_option linter.unusedVariables false
open Go

namespace Flo
theorem val_ra (s : Bool) (m : Nat) (p : Int) : ra (val s m p) = (m : Rat) * pw p := by
  have h := mag_nonneg m p
  unfold ra val
  cases s
  · simp only [Bool.false_eq_true, if_false]; rw [if_neg (by grind)]; grind
  · simp only [if_true]
    split <;> grind
theorem mul_mono (f : Ieee.Format) (he : 2 ≤ f.exponentBits) (x y x' y' : Nat) (hx : IsNum f x) (hy : IsNum f y) (hx' : IsNum f x') (hy' : IsNum f y') (h : ra (V f x * V f y) ≤ ra (V f x' * V f y')) (hB : ra (V f x' * V f y') < pw (top f)) :
    ∃ r r', f.mul x y = some r ∧ f.mul x' y' = some r' ∧ IsNum f r ∧ IsNum f r' ∧ ra (V f r) ≤ ra (V f r') := by
  obtain ⟨s, m, i, hx⟩ := hx
  obtain ⟨t, n, j, hy⟩ := hy
  obtain ⟨s', m', i', hx'⟩ := hx'
  obtain ⟨t', n', j', hy'⟩ := hy'
  rw [V_eq hx, V_eq hy, V_eq hx', V_eq hy', ← val_mul, ← val_mul, val_ra, val_ra] at h
  rw [V_eq hx', V_eq hy', ← val_mul, val_ra] at hB
  obtain ⟨a, b, c, d, k1, k2, k3⟩ := write_mono f he (s ^^ t) (s' ^^ t') (m * n) (m' * n') (i + j) (i' + j') h hB
  refine ⟨_, _, ?_, ?_, ⟨_, _, _, k1⟩, ⟨_, _, _, k2⟩, ?_⟩
  · unfold Ieee.Format.mul; rw [hx, hy]; rfl
  · unfold Ieee.Format.mul; rw [hx', hy']; rfl
  · rw [V_eq k1, V_eq k2, val_ra, val_ra]; exact k3
theorem add_mono (f : Ieee.Format) (he : 2 ≤ f.exponentBits) (x y x' y' : Nat) (hx : IsNum f x) (hy : IsNum f y) (hx' : IsNum f x') (hy' : IsNum f y') (h : ra (V f x + V f y) ≤ ra (V f x' + V f y')) (hB : ra (V f x' + V f y') < pw (top f)) :
    ∃ r r', f.add x y = some r ∧ f.add x' y' = some r' ∧ IsNum f r ∧ IsNum f r' ∧ ra (V f r) ≤ ra (V f r') := by
  obtain ⟨s, m, i, hx⟩ := hx
  obtain ⟨t, n, j, hy⟩ := hy
  obtain ⟨s', m', i', hx'⟩ := hx'
  obtain ⟨t', n', j', hy'⟩ := hy'
  obtain ⟨q, k, b, h3, h4⟩ := sum_val s t m n i j
  obtain ⟨q', k', b', h3', h4'⟩ := sum_val s' t' m' n' i' j'
  rw [V_eq hx, V_eq hy, V_eq hx', V_eq hy', ← h4, ← h4', val_ra, val_ra] at h
  rw [V_eq hx', V_eq hy', ← h4', val_ra] at hB
  obtain ⟨a, b1, c, d, k1, k2, k3⟩ := write_mono f he q q' k k' b b' h hB
  refine ⟨_, _, ?_, ?_, ⟨_, _, _, k1⟩, ⟨_, _, _, k2⟩, ?_⟩
  · unfold Ieee.Format.add; rw [hx, hy, h3]; rfl
  · unfold Ieee.Format.add; rw [hx', hy', h3']; rfl
  · rw [V_eq k1, V_eq k2, val_ra, val_ra]; exact k3
/-- a product that the format has is exact -/
theorem mul_fix (f : Ieee.Format) (he : 2 ≤ f.exponentBits) (x y z : Nat) (hx : IsNum f x) (hy : IsNum f y) (hz : IsNum f z) (h : ra (V f x * V f y) = ra (V f z)) (hB : ra (V f z) < pw (top f)) :
    ∃ r, f.mul x y = some r ∧ IsNum f r ∧ V f r = V f x * V f y := by
  obtain ⟨s, m, i, hx⟩ := hx
  obtain ⟨t, n, j, hy⟩ := hy
  obtain ⟨q, k, e, hz⟩ := hz
  obtain ⟨b1, b2, -⟩ := read_bound f he z q k e hz
  rw [V_eq hx, V_eq hy, V_eq hz, ← val_mul, val_ra, val_ra] at h
  rw [V_eq hz, val_ra] at hB
  obtain ⟨m', p', k1, k2, k3, k4⟩ := write_exact f he (s ^^ t) (m * n) (i + j) k e h b1 b2 (by rw [h]; exact hB)
  refine ⟨_, ?_, ⟨_, _, _, k1⟩, ?_⟩
  · unfold Ieee.Format.mul; rw [hx, hy]; rfl
  · rw [V_eq k1, V_eq hx, V_eq hy, ← val_mul]; unfold val; rw [k4]
/-- a number's product with itself is not below 0 -/
theorem self_pos (f : Ieee.Format) (he : 2 ≤ f.exponentBits) (x : Nat) (hx : IsNum f x) (hB : ra (V f x * V f x) < pw (top f)) : ∃ r, f.mul x x = some r ∧ 0 ≤ V f r := by
  obtain ⟨s, m, i, hx⟩ := hx
  rw [V_eq hx, ← val_mul, val_ra] at hB
  obtain ⟨a, b, c, d, k1, k2, k3⟩ := write_mono f he (s ^^ s) (s ^^ s) (m * m) (m * m) (i + i) (i + i) (Rat.le_refl) hB
  refine ⟨f.write (.number (s ^^ s) (m * m) (i + i)), ?_, ?_⟩
  · unfold Ieee.Format.mul; rw [hx]; rfl
  · rw [V_eq k1]; unfold val; rw [show (s ^^ s) = false by cases s <;> rfl]; have := mag_nonneg a b; simp only [Bool.false_eq_true, if_false]; grind
end Flo

theorem ra_mul (a b : Rat) : ra (a * b) = ra a * ra b := by
  have le_of : ∀ q : Rat, ¬ q < 0 → 0 ≤ q := fun q h => by grind
  by_cases ha : a < 0 <;> by_cases hb : b < 0
  · have := Rat.mul_pos (show 0 < -a by grind) (show 0 < -b by grind)
    unfold ra
    rw [if_neg (by grind), if_pos ha, if_pos hb]; grind
  · have := Rat.mul_nonneg (show 0 ≤ -a by grind) (le_of b hb)
    unfold ra
    rw [if_pos ha, if_neg hb]
    split <;> grind
  · have := Rat.mul_nonneg (le_of a ha) (show 0 ≤ -b by grind)
    unfold ra
    rw [if_neg ha, if_pos hb]
    split <;> grind
  · have := Rat.mul_nonneg (le_of a ha) (le_of b hb)
    unfold ra
    rw [if_neg (by grind), if_neg ha, if_neg hb]
theorem ra_pos {q : Rat} (h : 0 ≤ q) : ra q = q := by unfold ra; rw [if_neg (by grind)]
theorem sm_mag {b : Nat} (h : Sm b) : ra (S b) < Flo.pw 129 := by
  have h1 := ra_le (single_abs h)
  have h2 : Flo.pw 128 < Flo.pw 129 := Flo.pw_lt (by omega)
  grind

/-- a factor from 0 to 1 makes no part greater -/
theorem damp_part (q t : Nat) (hq : Sm q) (ht : Sm t) (h0 : 0 ≤ S t) (h1 : S t ≤ 1) (hb : ra (S q) ≤ 4) :
    Calm .mul .f32 q t ∧ Sm (opB .mul .f32 q t) ∧ ra (S (opB .mul .f32 q t)) ≤ ra (S q) := by
  have n1 : Sm 1065353216 ∧ S 1065353216 = 1 := by
    have h : Ieee.single.read 1065353216 = .number false 8388608 (-23) := by decide
    refine ⟨⟨_, _, _, h⟩, ?_⟩
    rw [show S 1065353216 = _ from Flo.V_eq h]
    unfold Flo.val
    have := Flo.pw_neg_mul 23
    rw [show Flo.pw 23 = 8388608 from Flo.pw_nat 23] at this
    simp only [Bool.false_eq_true, if_false]
    have e2 : ((8388608 : Nat) : Rat) = 8388608 := rfl
    rw [e2]; grind
  have l1 : (4 : Rat) < Flo.pw 127 := by
    have : Flo.pw 2 < Flo.pw 127 := Flo.pw_lt (by omega)
    rw [show Flo.pw 2 = 4 from Flo.pw_nat 2] at this
    exact this
  have hqn := ra_nonneg (S q)
  have hm := Rat.mul_le_mul_of_nonneg_left h1 hqn
  obtain ⟨r, r', e1, e2, e3, e4, e5⟩ := Flo.mul_mono Ieee.single (by decide) q t q 1065353216 hq ht hq n1.1
    (by rw [ra_mul, ra_mul, ra_pos (show 0 ≤ Flo.V Ieee.single t from h0), show Flo.V Ieee.single 1065353216 = 1 from n1.2, ra_pos (show (0:Rat) ≤ 1 by grind)]; exact hm)
    (by rw [ra_mul, show Flo.V Ieee.single 1065353216 = 1 from n1.2, ra_pos (show (0:Rat) ≤ 1 by grind), show Flo.top Ieee.single = 127 from by decide]; show ra (S q) * 1 < _; grind)
  obtain ⟨z, z1, z2, z3⟩ := Flo.mul_fix Ieee.single (by decide) q 1065353216 q hq n1.1 hq
    (by rw [show Flo.V Ieee.single 1065353216 = 1 from n1.2, show Flo.V Ieee.single q * 1 = Flo.V Ieee.single q by grind])
    (by rw [show Flo.top Ieee.single = 127 from by decide]; show ra (S q) < _; grind)
  rw [e2] at z1
  cases z1
  rw [z3, show Flo.V Ieee.single 1065353216 = 1 from n1.2, show Flo.V Ieee.single q * 1 = Flo.V Ieee.single q by grind] at e5
  obtain ⟨c1, b1⟩ := Calm.of (show floatBits .mul .f32 q t = some r from e1)
  rw [b1]
  exact ⟨c1, e3, e5⟩

/-- squares grow with the numbers -/
theorem square_part (p q : Nat) (hp : Sm p) (hq : Sm q) (h : ra (S p) ≤ ra (S q)) (hb : ra (S q) ≤ 4) :
    Calm .mul .f32 p p ∧ Calm .mul .f32 q q ∧ Sm (opB .mul .f32 p p) ∧ Sm (opB .mul .f32 q q) ∧ ra (S (opB .mul .f32 p p)) ≤ ra (S (opB .mul .f32 q q)) := by
  have l1 : (16 : Rat) < Flo.pw 127 := by
    have : Flo.pw 4 < Flo.pw 127 := Flo.pw_lt (by omega)
    rw [show Flo.pw 4 = 16 from Flo.pw_nat 4] at this
    exact this
  have a0 := ra_nonneg (S p)
  have b0 := ra_nonneg (S q)
  have k1 := Rat.mul_le_mul_of_nonneg_left h a0
  have k2 := Rat.mul_le_mul_of_nonneg_right h b0
  have k3 := Rat.mul_le_mul_of_nonneg_left hb b0
  obtain ⟨r, r', e1, e2, e3, e4, e5⟩ := Flo.mul_mono Ieee.single (by decide) p p q q hp hp hq hq
    (by rw [ra_mul, ra_mul]; show ra (S p) * ra (S p) ≤ ra (S q) * ra (S q); grind)
    (by rw [ra_mul, show Flo.top Ieee.single = 127 from by decide]; show ra (S q) * ra (S q) < _; grind)
  obtain ⟨c1, b1⟩ := Calm.of (show floatBits .mul .f32 p p = some r from e1)
  obtain ⟨c2, b2⟩ := Calm.of (show floatBits .mul .f32 q q = some r' from e2)
  rw [b1, b2]
  exact ⟨c1, c2, e3, e4, e5⟩

/-- the sum of the squares grows with the parts -/
theorem sqr_mono (a b c d : Nat) (ha : Sm a) (hb : Sm b) (hc : Sm c) (hd : Sm d) (h1 : ra (S a) ≤ ra (S c)) (h2 : ra (S b) ≤ ra (S d)) (hc4 : ra (S c) ≤ 4) (hd4 : ra (S d) ≤ 4) :
    ra (Flo.W (sqr (wid a) (wid b))) ≤ ra (Flo.W (sqr (wid c) (wid d))) := by
  obtain ⟨na, va⟩ := wid_num ha
  obtain ⟨nb, vb⟩ := wid_num hb
  obtain ⟨nc, vc⟩ := wid_num hc
  obtain ⟨nd, vd⟩ := wid_num hd
  have l1 : (64 : Rat) < Flo.pw 1023 := by
    have : Flo.pw 6 < Flo.pw 1023 := Flo.pw_lt (by omega)
    rw [show Flo.pw 6 = 64 from Flo.pw_nat 6] at this
    exact this
  have sqm : ∀ x y : Nat, Flo.Nm x → Flo.Nm y → ra (Flo.W x) ≤ ra (Flo.W y) → ra (Flo.W y) ≤ 4 →
      ∃ r r', floatBits .mul .f64 x x = some r ∧ floatBits .mul .f64 y y = some r' ∧ Flo.Nm r ∧ Flo.Nm r' ∧ 0 ≤ Flo.W r ∧ 0 ≤ Flo.W r' ∧ Flo.W r ≤ Flo.W r' ∧ Flo.W r' ≤ 17 := by
    intro x y nx ny h h4
    have a0 := ra_nonneg (Flo.W x)
    have b0 := ra_nonneg (Flo.W y)
    have k1 := Rat.mul_le_mul_of_nonneg_left h a0
    have k2 := Rat.mul_le_mul_of_nonneg_right h b0
    have k3 := Rat.mul_le_mul_of_nonneg_left h4 b0
    obtain ⟨r, r', e1, e2, e3, e4, e5⟩ := Flo.mul_mono Ieee.double (by decide) x x y y nx nx ny ny
      (by rw [ra_mul, ra_mul]; show ra (Flo.W x) * ra (Flo.W x) ≤ ra (Flo.W y) * ra (Flo.W y); grind)
      (by rw [ra_mul, Flo.top_double]; show ra (Flo.W y) * ra (Flo.W y) < _; grind)
    obtain ⟨q, q1, q2⟩ := Flo.self_pos Ieee.double (by decide) x nx (by rw [ra_mul, Flo.top_double]; show ra (Flo.W x) * ra (Flo.W x) < _; grind)
    obtain ⟨q', q1', q2'⟩ := Flo.self_pos Ieee.double (by decide) y ny (by rw [ra_mul, Flo.top_double]; show ra (Flo.W y) * ra (Flo.W y) < _; grind)
    rw [e1] at q1
    rw [e2] at q1'
    cases q1
    cases q1'
    obtain ⟨r2, d1, d2, d3⟩ := Flo.d_mul y y ny ny 16 ⟨by have := ra_mul (Flo.W y) (Flo.W y); have := ra_ab (Flo.W y * Flo.W y); unfold Flo.Ab at this; grind, by have := ra_mul (Flo.W y) (Flo.W y); have := ra_ab (Flo.W y * Flo.W y); unfold Flo.Ab at this; grind⟩ (by grind)
    rw [show floatBits .mul .f64 y y = some r' from e2] at d1
    cases d1
    have u1 := Flo.u_le
    have eu : Flo.et ≤ Flo.u := Flo.pw_le (by omega)
    have hy2 : Flo.W y * Flo.W y ≤ 16 := by have := ra_mul (Flo.W y) (Flo.W y); have := ra_ab (Flo.W y * Flo.W y); unfold Flo.Ab at this; grind
    refine ⟨r, r', e1, e2, e3, e4, q2, q2', ?_, ?_⟩
    · rw [ra_pos q2, ra_pos q2'] at e5; exact e5
    · unfold Flo.Ab at d3; grind
  obtain ⟨r1, r1', a1, a2, a3, a4, a5, a6, a7, a8⟩ := sqm (wid a) (wid c) na nc (by rw [va, vc]; exact h1) (by rw [vc]; exact hc4)
  obtain ⟨r2, r2', b1, b2, b3, b4, b5, b6, b7, b8⟩ := sqm (wid b) (wid d) nb nd (by rw [vb, vd]; exact h2) (by rw [vd]; exact hd4)
  obtain ⟨r, r', e1, e2, e3, e4, e5⟩ := Flo.add_mono Ieee.double (by decide) r1 r2 r1' r2' a3 b3 a4 b4
    (by show ra (Flo.W r1 + Flo.W r2) ≤ ra (Flo.W r1' + Flo.W r2'); rw [ra_pos (by grind), ra_pos (by grind)]; grind)
    (by rw [Flo.top_double]; show ra (Flo.W r1' + Flo.W r2') < _; rw [ra_pos (by grind)]; grind)
  have f1 : sqr (wid a) (wid b) = r := by
    unfold sqr; rw [a1, b1]; simp only [Option.getD_some]; rw [show floatBits .add .f64 r1 r2 = some r from e1]; rfl
  have f2 : sqr (wid c) (wid d) = r' := by
    unfold sqr; rw [a2, b2]; simp only [Option.getD_some]; rw [show floatBits .add .f64 r1' r2' = some r' from e2]; rfl
  rw [f1, f2]
  exact e5
end Go.Proofs.Ytlhhcchncobmhaa

/- Plain facts: ringing in single precision and in double precision stays near exact ringing. No program stands in it.
   Conditions: those that each statement names. -/
namespace Go.Proofs.Ytlhhcchncobmhaa
set_option linter.unusedSimpArgs false
set_option linter.unusedVariables false
open Go

/-! ### one mode -/
def st1 (m : M4) (x : Nat → Nat) : Nat → Nat × Nat
  | 0 => (0, 0)
  | i + 1 => stepS m (st1 m x i) (x i)
def st1D (m : M4) (x : Nat → Nat) : Nat → Nat × Nat
  | 0 => (0, 0)
  | i + 1 => stepD m (st1D m x i) (wid (x i))
theorem zip_map (f : M4 → Nat × Nat → Nat × Nat) (g : M4 → Nat × Nat) : ∀ ms : List M4, List.zipWith f ms (ms.map g) = ms.map fun m => f m (g m)
  | [] => rfl
  | m :: ms => by simp [zip_map f g ms]
theorem stAt_map (ms : List M4) (x : Nat → Nat) : ∀ i, stAt ms x i = ms.map fun m => st1 m x i
  | 0 => rfl
  | i + 1 => by
    simp only [stAt, stepAll, stAt_map ms x i]
    exact zip_map (fun m s => stepS m s (x i)) (fun m => st1 m x i) ms
theorem stDAt_map (ms : List M4) (x : Nat → Nat) : ∀ i, stDAt ms x i = ms.map fun m => st1D m x i
  | 0 => rfl
  | i + 1 => by
    simp only [stDAt, stepAllD, stDAt_map ms x i]
    exact zip_map (fun m s => stepD m s (wid (x i))) (fun m => st1D m x i) ms

def gm (m : M4) : Rat := ra (S m.gr) + ra (S m.gi)
theorem gm_nonneg (m : M4) : 0 ≤ gm m := by unfold gm; have := ra_nonneg (S m.gr); have := ra_nonneg (S m.gi); grind
/-- bounds, by the product P of a mode's gain and the input's sum -/
def bM' (P : Rat) : Rat := 26 / 25 * P + 60000 * Flo.es
def bM (P : Rat) : Rat := 21 / 20 * P + 65536 * Flo.es
def bL (P : Rat) : Rat := (2 * bM P + 2 * P) * Flo.v + (bM P + bM' P + P) * Flo.v / 1024 + 6 * Flo.es
theorem bL_le (P : Rat) (hP : 0 ≤ P) : 0 ≤ bL P ∧ bL P ≤ 42 / 10 * (P * Flo.v) + 7 * Flo.es := by
  have ve := Flo.v_eq
  have hv : Flo.v = 1 / 16777216 := by grind
  have e0 := Flo.es_pos
  unfold bL bM bM'
  rw [hv]
  constructor <;> grind
theorem bM'_ok (P : Rat) (hP : 0 ≤ P) (n : Nat) (hn : n ≤ 2000) : 51 / 50 * (P + (n : Rat) * (3 / 2 * bL P)) ≤ bM' P := by
  obtain ⟨h0, h1⟩ := bL_le P hP
  have hn1 : (n : Rat) ≤ 2000 := by
    have : ((n : Nat) : Rat) ≤ ((2000 : Nat) : Rat) := by exact_mod_cast hn
    exact this
  have hn0 : (0 : Rat) ≤ (n : Rat) := by exact_mod_cast Nat.zero_le n
  have k := Rat.mul_le_mul_of_nonneg_right hn1 (show 0 ≤ 3 / 2 * bL P by grind)
  have ve := Flo.v_eq
  have hv : Flo.v = 1 / 16777216 := by grind
  have e0 := Flo.es_pos
  rw [hv] at h1
  unfold bM'
  grind

theorem bounds_110 (P : Rat) (hP : 0 ≤ P) (h : P ≤ Flo.pw 100) : bM' P ≤ Flo.pw 110 ∧ bM P ≤ Flo.pw 110 ∧ P ≤ Flo.pw 110 := by
  have l : Flo.pw 110 = 1024 * Flo.pw 100 := by rw [show (110 : Int) = 10 + 100 from rfl, Flo.pw_add, show Flo.pw 10 = 1024 from Flo.pw_nat 10]
  have o : 1 ≤ Flo.pw 100 := by rw [← Flo.pw_zero]; exact Flo.pw_le (by omega)
  have es1 := small'.es1
  have e0 := Flo.es_pos
  unfold bM bM'
  refine ⟨by grind, by grind, by grind⟩

theorem inner_le (x : Nat → Rat) (X : Rat) (n i : Nat) (hi : i < n) (hX : ∀ i, i ≤ n → psum x i ≤ X) : ra (x i) ≤ X := by
  have h := hX (i + 1) (by omega)
  have := psum_nonneg x i
  simp only [psum] at h
  grind

/-- what one step needs, from the bound on the state -/
theorem step_in (m : M4) (hm : m.ok) (a b y X : Rat) (hy : ra y ≤ X) (hN : N a b (bM' (gm m * X))) :
    Flo.Ab (a * S m.pr - b * S m.pi) (bM (gm m * X)) ∧ Flo.Ab (a * S m.pi + b * S m.pr) (bM (gm m * X)) ∧ Flo.Ab (S m.gr * y) (gm m * X) ∧ Flo.Ab (S m.gi * y) (gm m * X) ∧ 0 ≤ gm m * X := by
  have hX0 : 0 ≤ X := by have := ra_nonneg y; grind
  have hP := Rat.mul_nonneg (gm_nonneg m) hX0
  have e0 := Flo.es_pos
  have k := (hN.mul (show (0 : Rat) ≤ 1 + 1 / 200000 by grind) (pole_T (Valid.square hm))).mono (show bM' (gm m * X) * (1 + 1 / 200000) ≤ bM (gm m * X) by unfold bM' bM; grind)
  have g := (N.gain (S m.gr) (S m.gi) y).mono (show (ra (S m.gr) + ra (S m.gi)) * ra y ≤ gm m * X from Rat.mul_le_mul_of_nonneg_left hy (gm_nonneg m))
  exact ⟨k.ab.1, k.ab.2, g.ab.1, g.ab.2, hP⟩

theorem zero_single : Sm 0 ∧ S 0 = 0 := by
  have h : Ieee.single.read 0 = .number false 0 (-149) := by decide
  exact ⟨⟨_, _, _, h⟩, by rw [show S 0 = _ from Flo.V_eq h]; exact Flo.val_zero _ _⟩

theorem mode_single (m : M4) (hm : m.ok) (x : Nat → Nat) (n : Nat) (hn : n ≤ 2000) (hx : ∀ i, i < n → Sm (x i)) (X : Rat) (hX : ∀ i, i ≤ n → psum (fun j => S (x j)) i ≤ X) (hP : gm m * X ≤ Flo.pw 100) (hX0 : 0 ≤ X) :
    (∀ i, i ≤ n → (Sm (st1 m x i).1 ∧ Sm (st1 m x i).2) ∧ N (S (st1 m x i).1 - (zt (S m.pr) (S m.pi) (S m.gr) (S m.gi) (fun j => S (x j)) i).1) (S (st1 m x i).2 - (zt (S m.pr) (S m.pi) (S m.gr) (S m.gi) (fun j => S (x j)) i).2) ((i : Rat) * (3 / 2 * bL (gm m * X)) * (1 + (i : Rat) / 100000)) ∧
      N (S (st1 m x i).1) (S (st1 m x i).2) (bM' (gm m * X))) ∧ ∀ i, i < n → StepOk m (st1 m x i) (x i) := by
  have hP0 := Rat.mul_nonneg (gm_nonneg m) hX0
  obtain ⟨t1, t2, t3⟩ := bounds_110 _ hP0 hP
  have l2 := Flo.pw_le (show (110 : Int) ≤ 112 by omega)
  have one : ∀ i, i < n → (Sm (st1 m x i).1 ∧ Sm (st1 m x i).2) → N (S (st1 m x i).1) (S (st1 m x i).2) (bM' (gm m * X)) → StepOk m (st1 m x i) (x i) ∧ (Sm (st1 m x (i + 1)).1 ∧ Sm (st1 m x (i + 1)).2) ∧
      Flo.Ab (S (st1 m x (i + 1)).1 - (S (st1 m x i).1 * S m.pr - S (st1 m x i).2 * S m.pi + S m.gr * S (x i))) (bL (gm m * X)) ∧ Flo.Ab (S (st1 m x (i + 1)).2 - (S (st1 m x i).1 * S m.pi + S (st1 m x i).2 * S m.pr + S m.gi * S (x i))) (bL (gm m * X)) := by
    intro i hi q hN
    obtain ⟨k1, k2, k3, k4, -⟩ := step_in m hm _ _ (S (x i)) X (inner_le (fun j => S (x j)) X n i hi hX) hN
    obtain ⟨a1, a2, a3, a4, a5⟩ := step_ok m hm (st1 m x i) (x i) q.1 q.2 (hx i hi) (bM' (gm m * X)) (bM (gm m * X)) (gm m * X) hN.ab.1 hN.ab.2 k1 k2 k3 k4 t1 (by grind) (by grind)
    exact ⟨a1, ⟨a2, a3⟩, a4.mono (by unfold bL; exact Rat.le_refl), a5.mono (by unfold bL; exact Rat.le_refl)⟩
  have tr := traj (S m.pr) (S m.pi) (S m.gr) (S m.gi) (fun j => S (x j)) (Valid.square hm) (fun i => (S (st1 m x i).1, S (st1 m x i).2)) (by simp only [st1]; rw [zero_single.2]) X (bM' (gm m * X)) (bL (gm m * X)) n hn (bL_le _ hP0).1 hX (bM'_ok _ hP0 n hn) (fun i => Sm (st1 m x i).1 ∧ Sm (st1 m x i).2) ⟨zero_single.1, zero_single.1⟩ (fun i hi q hN => (one i hi q hN).2)
  exact ⟨tr, fun i hi => (one i hi (tr i (by omega)).1 (tr i (by omega)).2.2).1⟩

theorem mode_double (m : M4) (hm : m.ok) (x : Nat → Nat) (n : Nat) (hn : n ≤ 2000) (hx : ∀ i, i < n → Sm (x i)) (X : Rat) (hX : ∀ i, i ≤ n → psum (fun j => S (x j)) i ≤ X) (hP : gm m * X ≤ Flo.pw 100) (hX0 : 0 ≤ X) :
    (∀ i, i ≤ n → (Flo.Nm (st1D m x i).1 ∧ Flo.Nm (st1D m x i).2) ∧ N (Flo.W (st1D m x i).1 - (zt (S m.pr) (S m.pi) (S m.gr) (S m.gi) (fun j => S (x j)) i).1) (Flo.W (st1D m x i).2 - (zt (S m.pr) (S m.pi) (S m.gr) (S m.gi) (fun j => S (x j)) i).2) ((i : Rat) * (3 / 2 * bL (gm m * X)) * (1 + (i : Rat) / 100000)) ∧
      N (Flo.W (st1D m x i).1) (Flo.W (st1D m x i).2) (bM' (gm m * X))) ∧ ∀ i, i < n → StepDOk m (st1D m x i) (wid (x i)) := by
  have hP0 := Rat.mul_nonneg (gm_nonneg m) hX0
  obtain ⟨t1, t2, t3⟩ := bounds_110 _ hP0 hP
  have l2 := Flo.pw_le (show (110 : Int) ≤ 112 by omega)
  have one : ∀ i, i < n → (Flo.Nm (st1D m x i).1 ∧ Flo.Nm (st1D m x i).2) → N (Flo.W (st1D m x i).1) (Flo.W (st1D m x i).2) (bM' (gm m * X)) → StepDOk m (st1D m x i) (wid (x i)) ∧ (Flo.Nm (st1D m x (i + 1)).1 ∧ Flo.Nm (st1D m x (i + 1)).2) ∧
      Flo.Ab (Flo.W (st1D m x (i + 1)).1 - (Flo.W (st1D m x i).1 * S m.pr - Flo.W (st1D m x i).2 * S m.pi + S m.gr * S (x i))) (bL (gm m * X)) ∧ Flo.Ab (Flo.W (st1D m x (i + 1)).2 - (Flo.W (st1D m x i).1 * S m.pi + Flo.W (st1D m x i).2 * S m.pr + S m.gi * S (x i))) (bL (gm m * X)) := by
    intro i hi q hN
    obtain ⟨k1, k2, k3, k4, -⟩ := step_in m hm _ _ (S (x i)) X (inner_le (fun j => S (x j)) X n i hi hX) hN
    obtain ⟨nx, vx⟩ := wid_num (hx i hi)
    rw [← vx] at k3 k4
    obtain ⟨a1, a2, a3, a4, a5⟩ := stepD_ok m hm (st1D m x i) (wid (x i)) q.1 q.2 nx (bM' (gm m * X)) (bM (gm m * X)) (gm m * X) hN.ab.1 hN.ab.2 k1 k2 k3 k4 t1 (by grind) (by grind)
    rw [vx] at a4 a5
    exact ⟨a1, ⟨a2, a3⟩, a4.mono (by unfold bL; exact Rat.le_refl), a5.mono (by unfold bL; exact Rat.le_refl)⟩
  have tr := traj (S m.pr) (S m.pi) (S m.gr) (S m.gi) (fun j => S (x j)) (Valid.square hm) (fun i => (Flo.W (st1D m x i).1, Flo.W (st1D m x i).2)) (by simp only [st1D]; rw [zero_num.2]) X (bM' (gm m * X)) (bL (gm m * X)) n hn (bL_le _ hP0).1 hX (bM'_ok _ hP0 n hn) (fun i => Flo.Nm (st1D m x i).1 ∧ Flo.Nm (st1D m x i).2) ⟨zero_num.1, zero_num.1⟩ (fun i hi q hN => (one i hi q hN).2)
  exact ⟨tr, fun i hi => (one i hi (tr i (by omega)).1 (tr i (by omega)).2.2).1⟩

end Go.Proofs.Ytlhhcchncobmhaa

/- Equal numbers, 0 and -0 alike: every operation takes equal numbers to equal numbers; what is read decides what an operation gives. No program stands in it.
   Conditions: none beyond those that each statement names. -/
namespace Go.Proofs.Ytlhhcchncobmhaa
set_option linter.unusedSimpArgs false
set_option linter.unusedVariables false
open Go
namespace Flo
open Ieee

def Zr (f : Format) (a : Nat) : Prop := ∃ s p, f.read a = .number s 0 p
/-- the same bits, or two zeros -/
def Ev (f : Format) (a b : Nat) : Prop := a = b ∨ (Zr f a ∧ Zr f b)
theorem Ev.refl (f : Format) (a : Nat) : Ev f a a := .inl rfl
theorem Ev.symm {f : Format} {a b : Nat} (h : Ev f a b) : Ev f b a := by
  rcases h with rfl | ⟨h1, h2⟩
  · exact .inl rfl
  · exact .inr ⟨h2, h1⟩
theorem Ev.trans {f : Format} {a b c : Nat} (h : Ev f a b) (k : Ev f b c) : Ev f a c := by
  rcases h with rfl | ⟨h1, h2⟩
  · exact k
  · rcases k with rfl | ⟨k1, k2⟩
    · exact .inr ⟨h1, h2⟩
    · exact .inr ⟨h1, k2⟩
theorem Ev.zr {f : Format} {a b : Nat} (h : Ev f a b) (k : Zr f b) : Zr f a := by
  rcases h with rfl | ⟨h1, h2⟩
  · exact k
  · exact h1
def EvO (f : Format) : Option Nat → Option Nat → Prop
  | none, none => True
  | some a, some b => Ev f a b
  | _, _ => False
theorem EvO.refl (f : Format) (a : Option Nat) : EvO f a a := by cases a <;> simp [EvO, Ev.refl]
theorem EvO.trans {f : Format} {a b c : Option Nat} (h : EvO f a b) (k : EvO f b c) : EvO f a c := by
  cases a <;> cases b <;> cases c <;> simp only [EvO] at * <;> first | trivial | contradiction | exact Ev.trans h k
theorem EvO.getD {f : Format} {a b : Option Nat} (h : EvO f a b) : Ev f (a.getD 0) (b.getD 0) := by
  cases a <;> cases b <;> simp only [EvO] at h <;> first | contradiction | exact Ev.refl f _ | exact h

theorem write_zero (f : Format) (s : Bool) (p : Int) : Zr f (f.write (.number s 0 p)) := by
  refine ⟨s, f.leastPlace, ?_⟩
  show f.read (f.nearest s 0 p) = _
  have : f.nearest s 0 p = f.word s 0 := by unfold Format.nearest; simp
  rw [this, zero_read]

/-- of equal numbers other than 0 the same word is written -/
theorem write_same (f : Format) (s : Bool) (m n : Nat) (p q : Int) (hm : m ≠ 0) (h : (m : Rat) * pw p = (n : Rat) * pw q) : f.write (.number s m p) = f.write (.number s n q) := by
  have hn : n ≠ 0 := by
    intro hn; subst hn
    exact hm (mag_zero (by rw [h]; simp))
  show f.nearest s m p = f.nearest s n q
  rw [nearest_eq f s m p hm, nearest_eq f s n q hn]
  have z1 := size_pw m p hm
  have z2 := size_pw n q hn
  have l1 : p + (m.log2 : Int) < q + n.log2 + 1 := lt_of_pw_lt (by grind)
  have l2 : q + (n.log2 : Int) < p + m.log2 + 1 := lt_of_pw_lt (by grind)
  have hl : lastOf f m p = lastOf f n q := by unfold lastOf; omega
  have k1 := kept_mono f s s m n p q hm hn (by rw [h]; exact Rat.le_refl)
  have k2 := kept_mono f s s n m q p hn hm (by rw [h]; exact Rat.le_refl)
  rw [hl] at k1 k2
  have hp := pw_pos (lastOf f n q)
  have e1 : keptOf f s m p ≤ keptOf f s n q := le_nat_of _ _ (lastOf f n q) (by grind)
  have e2 : keptOf f s n q ≤ keptOf f s m p := le_nat_of _ _ (lastOf f n q) (by grind)
  have e3 : keptOf f s m p = keptOf f s n q := by omega
  unfold rungOf
  rw [hl, e3]

theorem write_ev (f : Format) (s t : Bool) (m n : Nat) (p q : Int) (h : val s m p = val t n q) : Ev f (f.write (.number s m p)) (f.write (.number t n q)) := by
  have hm0 := mag_nonneg m p
  have hn0 := mag_nonneg n q
  by_cases hm : m = 0
  · subst hm
    have hn : n = 0 := by
      rw [val_zero] at h
      apply mag_zero (p := q)
      unfold val at h
      cases t <;> simp at h <;> grind
    subst hn
    exact .inr ⟨write_zero f s p, write_zero f t q⟩
  · have hmp : 0 < (m : Rat) * pw p := by
      rcases Classical.em ((m : Rat) * pw p ≤ 0) with h0 | h0
      · exact absurd (mag_zero h0) hm
      · grind
    have hst : s = t := by
      unfold val at h
      cases s <;> cases t <;> simp at h <;> first | rfl | (exfalso; grind)
    subst hst
    left
    apply write_same f s m n p q hm
    unfold val at h
    cases s <;> simp at h <;> grind

/-! ### the operations -/
theorem sum_zero (f : Format) (s t : Bool) (p q : Int) (d : Datum) : EvO f ((Datum.sum (.number s 0 p) d).map f.write) ((Datum.sum (.number t 0 q) d).map f.write) := by
  cases d with
  | nan a b => simp [Datum.sum, EvO]
  | infinity a => simp [Datum.sum, EvO, Ev.refl]
  | number u n j =>
    obtain ⟨a, k, b, h1, h2⟩ := sum_val s u 0 n p j
    obtain ⟨a', k', b', h1', h2'⟩ := sum_val t u 0 n q j
    rw [h1, h1']
    show Ev f _ _
    apply write_ev
    rw [h2, h2', val_zero, val_zero]
theorem sum_comm (a b : Datum) : a.sum b = b.sum a := by
  cases a <;> cases b <;> simp only [Datum.sum]
  · rename_i s m i t n j
    congr 2
    · rw [Int.min_comm, Int.add_comm]
      split <;> simp [Bool.and_comm]
    · rw [Int.min_comm, Int.add_comm]
    · exact Int.min_comm _ _
  · rename_i s t
    by_cases h : s = t
    · subst h; rfl
    · rw [if_neg h, if_neg (fun e => h e.symm)]
theorem add_ev_left (f : Format) (x x' y : Nat) (h : Ev f x x') : EvO f (f.add x y) (f.add x' y) := by
  rcases h with rfl | ⟨⟨s, p, h1⟩, ⟨t, q, h2⟩⟩
  · exact EvO.refl f _
  · unfold Format.add; rw [h1, h2]; exact sum_zero f s t p q _
theorem add_comm' (f : Format) (x y : Nat) : f.add x y = f.add y x := by unfold Format.add; rw [sum_comm]
theorem add_ev (f : Format) (x x' y y' : Nat) (h : Ev f x x') (k : Ev f y y') : EvO f (f.add x y) (f.add x' y') :=
  (add_ev_left f x x' y h).trans (by rw [add_comm' f x' y, add_comm' f x' y']; exact add_ev_left f y y' x' k)
theorem sub_ev (f : Format) (x x' y y' : Nat) (h : Ev f x x') (k : Ev f y y') : EvO f (f.sub x y) (f.sub x' y') := by
  refine EvO.trans (b := f.sub x' y) ?_ ?_
  · rcases h with rfl | ⟨⟨s, p, h1⟩, ⟨t, q, h2⟩⟩
    · exact EvO.refl f _
    · unfold Format.sub; rw [h1, h2]; exact sum_zero f s t p q _
  · rcases k with rfl | ⟨⟨s, p, h1⟩, ⟨t, q, h2⟩⟩
    · exact EvO.refl f _
    · unfold Format.sub; rw [h1, h2]
      show EvO f ((Datum.sum _ (.number (!s) 0 p)).map f.write) ((Datum.sum _ (.number (!t) 0 q)).map f.write)
      rw [sum_comm, sum_comm (f.read x')]
      exact sum_zero f _ _ p q _
theorem product_comm (a b : Datum) : a.product b = b.product a := by
  cases a <;> cases b <;> simp only [Datum.product, Bool.xor_comm, Nat.mul_comm, Int.add_comm]
theorem mul_comm' (f : Format) (x y : Nat) : f.mul x y = f.mul y x := by unfold Format.mul; rw [product_comm]
theorem mul_ev_left (f : Format) (x x' y : Nat) (h : Ev f x x') : EvO f (f.mul x y) (f.mul x' y) := by
  rcases h with rfl | ⟨⟨s, p, h1⟩, ⟨t, q, h2⟩⟩
  · exact EvO.refl f _
  · unfold Format.mul; rw [h1, h2]
    cases f.read y with
    | nan a b => simp [Datum.product, EvO]
    | infinity a => simp [Datum.product, EvO]
    | number u n j =>
      simp only [Datum.product, Nat.zero_mul, Option.map_some]
      exact .inr ⟨write_zero f _ _, write_zero f _ _⟩
theorem mul_ev (f : Format) (x x' y y' : Nat) (h : Ev f x x') (k : Ev f y y') : EvO f (f.mul x y) (f.mul x' y') :=
  (mul_ev_left f x x' y h).trans (by rw [mul_comm' f x' y, mul_comm' f x' y']; exact mul_ev_left f y y' x' k)
theorem mul_zr {f : Format} {x y : Nat} (h : Zr f x) (k : IsNum f y) : ∃ r, f.mul x y = some r ∧ Zr f r := by
  obtain ⟨s, p, h⟩ := h
  obtain ⟨t, n, j, k⟩ := k
  refine ⟨_, by unfold Format.mul; rw [h, k]; simp only [Datum.product, Nat.zero_mul]; rfl, write_zero f _ _⟩
theorem add_zr {f : Format} {x y : Nat} (h : Zr f x) (k : Zr f y) : ∃ r, f.add x y = some r ∧ Zr f r := by
  obtain ⟨s, p, h⟩ := h
  obtain ⟨t, q, k⟩ := k
  obtain ⟨a, c, b, h1, h2⟩ := sum_val s t 0 0 p q
  rw [val_zero, val_zero] at h2
  have hc : c = 0 := by
    apply mag_zero (p := b)
    unfold val at h2
    have := mag_nonneg c b
    cases a <;> simp at h2 <;> grind
  subst hc
  exact ⟨_, by unfold Format.add; rw [h, k, h1]; rfl, write_zero f _ _⟩
theorem sub_zr {f : Format} {x y : Nat} (h : Zr f x) (k : Zr f y) : ∃ r, f.sub x y = some r ∧ Zr f r := by
  obtain ⟨s, p, h⟩ := h
  obtain ⟨t, q, k⟩ := k
  obtain ⟨a, c, b, h1, h2⟩ := sum_val s (!t) 0 0 p q
  rw [val_zero, val_zero] at h2
  have hc : c = 0 := by
    apply mag_zero (p := b)
    unfold val at h2
    have := mag_nonneg c b
    cases a <;> simp at h2 <;> grind
  subst hc
  exact ⟨_, by unfold Format.sub; rw [h, k]; show (Datum.sum _ (.number (!t) 0 q)).map f.write = _; rw [h1]; rfl, write_zero f _ _⟩

/-- what is read is written, and read, as it is -/
theorem read_back (f : Format) (hbi : f.binade ≤ f.infRung) {b : Nat} {s : Bool} {m : Nat} {p : Int} (h : f.read b = .number s m p) : f.read (f.write (.number s m p)) = .number s m p := by
  have hb := bin_pos f
  have hbb : f.binade = 2 ^ f.fractionBits := rfl
  by_cases hm : m = 0
  · subst hm
    have hp : p = f.leastPlace := by
      unfold Format.read at h
      simp only at h
      split at h
      · injection h with a b c; exact c.symm
      · split at h
        · injection h with a b c; omega
        · split at h <;> cases h
    subst hp
    show f.read (f.nearest s 0 f.leastPlace) = _
    have : f.nearest s 0 f.leastPlace = f.word s 0 := by unfold Format.nearest; simp
    rw [this, zero_read]
  · -- the rung
    obtain ⟨r, hr, hrd⟩ : ∃ r, r < f.infRung ∧ (if r < f.binade then Datum.number s r f.leastPlace else .number s (f.binade + r % f.binade) (f.leastPlace + (r / f.binade - 1 : Nat))) = .number s m p := by
      unfold Format.read at h
      simp only at h
      by_cases h1 : b % f.signWeight < f.binade
      · rw [if_pos h1] at h
        injection h with a1 a2 a3
        refine ⟨b % f.signWeight, ?_, by rw [if_pos h1, a2, a3]⟩
        omega
      · rw [if_neg h1] at h
        by_cases h2 : b % f.signWeight < f.infRung
        · rw [if_pos h2] at h
          injection h with a1 a2 a3
          exact ⟨b % f.signWeight, h2, by rw [if_neg h1, a2, a3]⟩
        · rw [if_neg h2] at h
          split at h <;> cases h
    have hw : f.write (.number s m p) = f.word s r := by
      show f.nearest s m p = _
      rw [nearest_eq f s m p hm]
      by_cases h1 : r < f.binade
      · rw [if_pos h1] at hrd
        injection hrd with a1 a2 a3
        subst a2; subst a3
        have hl : lastOf f r f.leastPlace = f.leastPlace := by
          have : r.log2 < f.fractionBits := (Nat.log2_lt hm).2 (by rw [← hbb]; exact h1)
          unfold lastOf; omega
        have hk : keptOf f s r f.leastPlace = r := by
          unfold keptOf; rw [hl]; simp [Toward.cut, Nat.mod_one]
        unfold rungOf
        rw [hl, hk, Int.sub_self, Int.toNat_zero, Nat.zero_mul, Nat.zero_add, Nat.min_eq_left (Nat.le_of_lt hr)]
      · rw [if_neg h1] at hrd
        injection hrd with a1 a2 a3
        have hlt := Nat.mod_lt r hb
        have hlog : m.log2 = f.fractionBits := by
          have h3 : m < 2 ^ (f.fractionBits + 1) := by rw [Nat.pow_succ, ← hbb]; omega
          have h4 : 2 ^ f.fractionBits ≤ m := by rw [← hbb]; omega
          have h5 := (Nat.log2_lt hm).2 h3
          have h6 := (Nat.le_log2 hm).2 h4
          omega
        have hl : lastOf f m p = p := by unfold lastOf; omega
        have hk : keptOf f s m p = m := by
          unfold keptOf; rw [hl]; simp [Toward.cut, Nat.mod_one]
        have hdiv := Nat.div_add_mod r f.binade
        have hq : 1 ≤ r / f.binade := Nat.div_pos (by omega) hb
        unfold rungOf
        rw [hl, hk]
        have e1 : (p - f.leastPlace).toNat = r / f.binade - 1 := by omega
        rw [e1]
        have e2 : (r / f.binade - 1) * f.binade + m = r := by
          rw [Nat.sub_mul, Nat.one_mul, ← a2]
          have e3 : r / f.binade * f.binade = f.binade * (r / f.binade) := Nat.mul_comm _ _
          have e4 : f.binade ≤ f.binade * (r / f.binade) := Nat.le_mul_of_pos_right _ hq
          omega
        rw [e2, Nat.min_eq_left (Nat.le_of_lt hr)]
    rw [hw, read_word f s hr]
    exact hrd
end Flo
end Go.Proofs.Ytlhhcchncobmhaa

/- Plain facts: a number of single precision with its sign turned.
   Conditions: those that each statement names. No program stands in it. -/
namespace Go.Proofs.Ytlhhcchncobmhaa
set_option linter.unusedSimpArgs false
set_option linter.unusedVariables false
open Go

abbrev ng (b : Nat) : Nat := Op.negFloat .f32 b
theorem ng_eq (b : Nat) : ng b = b ^^^ 2 ^ 31 := rfl
theorem ng_ng (b : Nat) : ng (ng b) = b := by rw [ng_eq, ng_eq, Nat.xor_assoc, Nat.xor_self, Nat.xor_zero]
theorem ng_mod (b : Nat) : ng b % 2 ^ 31 = b % 2 ^ 31 := by
  rw [ng_eq, Nat.xor_mod_two_pow]
  simp
theorem ng_bit (b : Nat) : (ng b / 2 ^ 31 % 2 == 1) = !(b / 2 ^ 31 % 2 == 1) := by
  have h1 := Nat.testBit_xor b (2 ^ 31) 31
  have h2 : (2 ^ 31 : Nat).testBit 31 = true := by decide
  rw [h2] at h1
  rw [Nat.testBit_eq_decide_div_mod_eq, Nat.testBit_eq_decide_div_mod_eq] at h1
  rw [ng_eq]
  have e : ∀ z : Nat, (z == 1) = decide (z = 1) := fun z => by by_cases hz : z = 1 <;> simp [hz]
  rw [e, e, h1]
  cases decide (b / 2 ^ 31 % 2 = 1) <;> rfl
theorem ng_read (b : Nat) {s : Bool} {m : Nat} {p : Int} (h : Ieee.single.read b = .number s m p) : Ieee.single.read (ng b) = .number (!s) m p := by
  have hsw : Ieee.single.signWeight = 2 ^ 31 := rfl
  unfold Ieee.Format.read at h ⊢
  rw [hsw] at h ⊢
  simp only [ng_mod, ng_bit] at h ⊢
  split at h
  · rename_i g; cases h; rw [if_pos g]
  · rename_i g
    split at h
    · rename_i g2; cases h; rw [if_neg g, if_pos g2]
    · split at h <;> cases h
theorem ng_val {b : Nat} (h : Sm b) : Sm (ng b) ∧ S (ng b) = - S b := by
  obtain ⟨s, m, p, h⟩ := h
  refine ⟨⟨_, _, _, ng_read b h⟩, ?_⟩
  rw [show S (ng b) = Flo.val (!s) m p from Flo.V_eq (ng_read b h), show S b = Flo.val s m p from Flo.V_eq h]
  unfold Flo.val
  cases s <;> simp <;> grind
end Go.Proofs.Ytlhhcchncobmhaa

/- Plain facts on the energy and the peak of finite samples: the peak is at least each sample's absolute value, and one's own; the energy is at least each square.
   Conditions: those that each statement names. No program stands in it. -/
namespace Go.Proofs.Ytlhhcchncobmhaa
set_option linter.unusedSimpArgs false
set_option linter.unusedVariables false
open Go

theorem sm_nn {b : Nat} (h : Sm b) : nan32 b = false := by
  obtain ⟨s, m, p, h⟩ := h
  unfold nan32
  rw [show FloatKind.f32.decode b = _ from h]; rfl

namespace Flo
open Ieee
theorem add_ge (x y : Nat) (hx : Nm x) (hy : Nm y) (x0 : 0 ≤ W x) (y0 : 0 ≤ W y) (hB : W x + W y < pw 1023) : ∃ r, floatBits .add .f64 x y = some r ∧ Nm r ∧ W x ≤ W r := by
  obtain ⟨s, m, i, hx⟩ := hx
  obtain ⟨t, n, j, hy⟩ := hy
  have ex : W x = val s m i := V_eq hx
  have ey : W y = val t n j := V_eq hy
  rw [ex] at x0 hB ⊢
  rw [ey] at y0 hB
  obtain ⟨q, k, b, h3, h4⟩ := sum_val s t m n i j
  have he : floatBits .add .f64 x y = some (Ieee.double.write (.number q k b)) := by
    show Ieee.double.add x y = _
    unfold Format.add
    rw [hx, hy, h3]; rfl
  have rx : ra (val s m i) = val s m i := by unfold ra; rw [if_neg (by grind)]
  have rq : ra (val q k b) = val q k b := by unfold ra; rw [if_neg (by rw [h4]; grind)]
  rw [val_ra] at rx rq
  obtain ⟨m', p', n', q', k1, k2, k3⟩ := write_mono Ieee.double (by decide) s q m k i b (by rw [rx, rq, h4]; grind) (by rw [rq, h4, top_double]; exact hB)
  have k0 := read_back Ieee.double (by decide) hx
  rw [k0] at k1
  injection k1 with _ e1 e2
  rw [← e1, ← e2] at k3
  refine ⟨_, he, ⟨_, _, _, k2⟩, ?_⟩
  rw [show W (Ieee.double.write (.number q k b)) = _ from V_eq k2]
  cases q with
  | false =>
    unfold val at rx ⊢
    simp only [Bool.false_eq_true, if_false] at rx ⊢
    grind
  | true =>
    have hk : (k : Rat) * pw b = 0 := by
      have a1 := mag_nonneg k b
      have : val true k b = -((k : Rat) * pw b) := by unfold val; simp; grind
      grind
    have k0' : k = 0 := mag_zero (p := b) (by grind)
    obtain ⟨z1, z2, z3⟩ := write_zero Ieee.double true b
    subst k0'
    rw [k2] at z3
    injection z3 with _ e3 e4
    subst e3
    rw [val_zero] at h4 ⊢
    grind
end Flo

/-- the square of a sample, in double precision -/
def sqB (x : Nat) : Nat := (floatBits .mul .f64 (wid x) (wid x)).getD 0
theorem sq_ok {x : Nat} (hx : Sm x) : floatBits .mul .f64 (wid x) (wid x) = some (sqB x) ∧ Flo.Nm (sqB x) ∧ 0 ≤ Flo.W (sqB x) ∧ Flo.W (sqB x) ≤ 2 * Flo.pw 256 := by
  obtain ⟨n, v⟩ := wid_num hx
  have a := single_abs hx
  have hm := a.mul a
  have e256 : Flo.pw 128 * Flo.pw 128 = Flo.pw 256 := by rw [← Flo.pw_add]; rfl
  rw [e256, ← v] at hm
  have l1 : Flo.pw 256 < Flo.pw 1023 := Flo.pw_lt (by omega)
  have p0 : 1 ≤ Flo.pw 256 := by rw [← Flo.pw_zero]; exact Flo.pw_le (by omega)
  have u1 := Flo.u_le
  have u0 := Flo.u_pos
  have eu : Flo.et ≤ Flo.u := Flo.pw_le (by omega)
  obtain ⟨r1, q1, q2, q3⟩ := Flo.d_mul (wid x) (wid x) n n _ hm l1
  have u2 : Flo.u ≤ 1 / 1048576 := by grind
  have hP := Rat.mul_le_mul_of_nonneg_left u2 (show (0 : Rat) ≤ Flo.pw 256 by grind)
  have hr1 : Flo.Ab (Flo.W r1) (2 * Flo.pw 256) := ((q3.add hm).eq (by grind)).mono (by grind)
  have e : sqB x = r1 := by unfold sqB; rw [q1]; rfl
  obtain ⟨r, g1, g2⟩ := Flo.self_pos Ieee.double (by decide) (wid x) n (by
    show ra (Flo.W (wid x) * Flo.W (wid x)) < _
    rw [Flo.top_double]
    have := ra_le hm
    grind)
  have e2 : r = r1 := by
    have : some r = some r1 := g1.symm.trans q1
    injection this
  rw [e]
  exact ⟨q1, q2, by rw [← e2]; exact g2, hr1.2⟩

theorem en_one (s x : Nat) (k : Nat) (hk : k ≤ 1000) (hs : Flo.Nm s) (h0 : 0 ≤ Flo.W s) (hb : Flo.W s ≤ (k : Rat) * enB) (hx : Sm x) :
    ∃ r, fA .add .f64 (some s) (fA .mul .f64 (wA x) (wA x)) = some r ∧ Flo.Nm r ∧ Flo.W r ≤ ((k + 1 : Nat) : Rat) * enB ∧ Flo.W s ≤ Flo.W r ∧ Flo.W (sqB x) ≤ Flo.W r := by
  obtain ⟨q1, q2, q3, q4⟩ := sq_ok hx
  have hwa : wA x = some (wid x) := by unfold wA; rw [sm_nn hx]; rfl
  obtain ⟨r, a1, a2, a3⟩ := en_step s x k hk hs ⟨by have h1 : (0 : Rat) ≤ (k : Rat) * enB := (by grind); grind, hb⟩ hx
  have e0 : fA .add .f64 (some s) (fA .mul .f64 (wA x) (wA x)) = floatBits .add .f64 s (sqB x) := by
    rw [hwa]
    show fA .add .f64 (some s) (floatBits .mul .f64 (wid x) (wid x)) = _
    rw [q1]; rfl
  have k1 : (k : Rat) ≤ 1000 := by
    have : ((k : Nat) : Rat) ≤ ((1000 : Nat) : Rat) := by exact_mod_cast hk
    exact this
  have l3 : Flo.pw 280 < Flo.pw 1023 := Flo.pw_lt (by omega)
  have l4 : Flo.pw 280 = 1048576 * Flo.pw 260 := by rw [show (280 : Int) = 20 + 260 from rfl, Flo.pw_add, show Flo.pw 20 = 1048576 from Flo.pw_nat 20]
  have l2 : Flo.pw 260 = 16 * Flo.pw 256 := by rw [show (260 : Int) = 4 + 256 from rfl, Flo.pw_add, show Flo.pw 4 = 16 from Flo.pw_nat 4]
  have p0 := Flo.pw_pos 260
  have hkb : (k : Rat) * enB ≤ 1000 * enB := Rat.mul_le_mul_of_nonneg_right k1 (by unfold enB; grind)
  have hB : Flo.W s + Flo.W (sqB x) < Flo.pw 1023 := by unfold enB at *; grind
  obtain ⟨r1, b1, b2, b3⟩ := Flo.add_ge s (sqB x) hs q2 h0 q3 hB
  obtain ⟨r2, c1, c2, c3⟩ := Flo.add_ge (sqB x) s q2 hs q3 h0 (by grind)
  have c1' : floatBits .add .f64 s (sqB x) = some r2 := by
    have := Flo.add_comm' Ieee.double s (sqB x)
    exact (show floatBits .add .f64 s (sqB x) = floatBits .add .f64 (sqB x) s from this).trans c1
  rw [e0, b1] at a1
  rw [b1] at c1'
  injection a1 with a1
  injection c1' with c1'
  subst a1; subst c1'
  exact ⟨r1, by rw [e0, b1], a2, a3.2, b3, c3⟩
theorem en_ge : ∀ (zs : List Nat) (s k : Nat), k + zs.length ≤ 1000 → Flo.Nm s → 0 ≤ Flo.W s → Flo.W s ≤ (k : Rat) * enB → (∀ x ∈ zs, Sm x) →
    ∃ r, zs.foldl (fun s x => fA .add .f64 s (fA .mul .f64 (wA x) (wA x))) (some s) = some r ∧ Flo.Nm r ∧ Flo.W s ≤ Flo.W r ∧ ∀ x ∈ zs, Flo.W (sqB x) ≤ Flo.W r
  | [], s, k, _, hs, _, _, _ => ⟨s, rfl, hs, Rat.le_refl, fun x hx => by simp at hx⟩
  | x :: zs, s, k, hk, hs, h0, hb, hx => by
    simp only [List.length_cons] at hk
    obtain ⟨r, h1, h2, h3, h4, h5⟩ := en_one s x k (by omega) hs h0 hb (hx x (List.mem_cons_self ..))
    rw [List.foldl_cons, h1]
    obtain ⟨r', g1, g2, g3, g4⟩ := en_ge zs r (k + 1) (by omega) h2 (by grind) h3 (fun y hy => hx y (List.mem_cons_of_mem _ hy))
    refine ⟨r', g1, g2, by grind, fun y hy => ?_⟩
    rcases List.mem_cons.1 hy with rfl | hy
    · grind
    · exact g4 y hy
theorem en_all (zs : List Nat) (hl : zs.length ≤ 1000) (hx : ∀ x ∈ zs, Sm x) : 0 ≤ Flo.W (enN zs) ∧ ∀ x ∈ zs, Flo.W (sqB x) ≤ Flo.W (enN zs) := by
  have h0 : fab .f64 0 = some 0 := fab_some (by decide)
  obtain ⟨r, h1, h2, h3, h4⟩ := en_ge zs 0 0 (by omega) zero_double.1 (by rw [zero_double.2]; exact Rat.le_refl) (by rw [zero_double.2]; unfold enB; have := Flo.pw_pos 260; grind) hx
  have e : enN zs = r := by unfold enN enA; rw [h0, h1]; rfl
  rw [zero_double.2] at h3
  rw [e]
  exact ⟨h3, h4⟩

/-! ### the peak -/
theorem pk_fold : ∀ (zs : List Nat) (b : Nat), Flo.Nm b → 0 ≤ Flo.W b → (∀ x ∈ zs, Sm x) →
    Flo.Nm (zs.foldl pk1 b) ∧ Flo.W b ≤ Flo.W (zs.foldl pk1 b) ∧ (∀ x ∈ zs, ra (S x) ≤ Flo.W (zs.foldl pk1 b)) ∧ (Flo.W (zs.foldl pk1 b) = Flo.W b ∨ ∃ x ∈ zs, Flo.W (zs.foldl pk1 b) = ra (S x))
  | [], b, hb, _, _ => ⟨hb, Rat.le_refl, fun x hx => by simp at hx, .inl rfl⟩
  | x :: zs, b, hb, h0, hx => by
    have sx := hx x (List.mem_cons_self ..)
    obtain ⟨n, v⟩ := wid_num sx
    have la := labs_num (wid x) (wid_lt x) n
    rw [v] at la
    have o := Flo.order_num Ieee.double (labs (wid x)) b la.1 hb
    have step : Flo.Nm (pk1 b x) ∧ Flo.W b ≤ Flo.W (pk1 b x) ∧ ra (S x) ≤ Flo.W (pk1 b x) ∧ (Flo.W (pk1 b x) = Flo.W b ∨ Flo.W (pk1 b x) = ra (S x)) := by
      cases hg : (FloatKind.f64.format.order (labs (wid x)) b == some .gt) with
      | true =>
        rw [pk1_up (sm_nn sx) hg]
        have := o.2.2.1 (show FloatKind.f64.format.order (labs (wid x)) b = some .gt by simpa using hg)
        have h2 : Flo.W b < Flo.W (labs (wid x)) := this
        rw [la.2] at h2 ⊢
        exact ⟨la.1, by grind, Rat.le_refl, .inr rfl⟩
      | false =>
        rw [pk1_stay (sm_nn sx) hg]
        have h1 : ¬ Ieee.double.order (labs (wid x)) b = some .gt := show ¬ FloatKind.f64.format.order (labs (wid x)) b = some .gt by simpa using hg
        rw [o.2.2] at h1
        have h2 : ¬ Flo.W b < Flo.W (labs (wid x)) := h1
        rw [la.2] at h2
        exact ⟨hb, Rat.le_refl, by grind, .inl rfl⟩
    obtain ⟨s1, s2, s3, s4⟩ := step
    rw [List.foldl_cons]
    obtain ⟨g1, g2, g3, g4⟩ := pk_fold zs (pk1 b x) s1 (by grind) (fun y hy => hx y (List.mem_cons_of_mem _ hy))
    refine ⟨g1, by grind, fun y hy => ?_, ?_⟩
    · rcases List.mem_cons.1 hy with rfl | hy
      · grind
      · exact g3 y hy
    · rcases g4 with g | ⟨y, hy, g⟩
      · rcases s4 with h | h
        · exact .inl (by rw [g, h])
        · exact .inr ⟨x, List.mem_cons_self .., by rw [g, h]⟩
      · exact .inr ⟨y, List.mem_cons_of_mem _ hy, g⟩
/-- the peak's word, of finite samples -/
theorem peak_ok (zs : List Nat) (p : Nat) (hx : ∀ x ∈ zs, Sm x) (h : Tw p (pkB zs)) : Sm p ∧ 0 ≤ S p ∧ (∀ x ∈ zs, ra (S x) ≤ S p) ∧ (zs = [] ∧ S p = 0 ∨ ∃ x ∈ zs, S p = ra (S x)) := by
  obtain ⟨h1, h2, h3, h4⟩ := pk_fold zs 0 zero_double.1 (by rw [zero_double.2]; exact Rat.le_refl) hx
  have hb : pkB zs = zs.foldl pk1 0 := rfl
  rw [← hb] at h1 h2 h3 h4
  rw [zero_double.2] at h2 h4
  obtain ⟨m, i, n, j, e1, e2, e3⟩ : ∃ m i n j, Ieee.single.read p = .number false m i ∧ Ieee.double.read (pkB zs) = .number false n j ∧ (m : Rat) * Flo.pw i = (n : Rat) * Flo.pw j := by
    rcases h with h | ⟨_, k⟩
    · exact h
    · obtain ⟨s, m, i, g⟩ := h1
      rw [g] at k; cases k
  have ev : S p = Flo.W (pkB zs) := by
    rw [show S p = _ from Flo.V_eq e1, show Flo.W (pkB zs) = _ from Flo.V_eq e2]
    unfold Flo.val; rw [e3]
  rw [ev]
  refine ⟨⟨_, _, _, e1⟩, h2, h3, ?_⟩
  rcases h4 with g | g
  · cases zs with
    | nil => exact .inl ⟨rfl, g⟩
    | cons x zs =>
      right
      refine ⟨x, List.mem_cons_self .., ?_⟩
      have := h3 x (List.mem_cons_self ..)
      have := ra_nonneg (S x)
      grind
  · exact .inr g
/-- the peak's square is no greater than the energy -/
theorem peak_sq (zs : List Nat) (p : Nat) (hl : zs.length ≤ 1000) (hx : ∀ x ∈ zs, Sm x) (h : Tw p (pkB zs)) : ∃ r, floatBits .mul .f64 (wid p) (wid p) = some r ∧ Flo.Nm r ∧ Flo.W r ≤ Flo.W (enN zs) := by
  obtain ⟨sp, p0, p1, p2⟩ := peak_ok zs p hx h
  obtain ⟨q1, q2, q3, q4⟩ := sq_ok sp
  refine ⟨sqB p, q1, q2, ?_⟩
  obtain ⟨e0, e1⟩ := en_all zs hl hx
  have key : ∀ x, Sm x → S p = ra (S x) → Flo.W (sqB p) ≤ Flo.W (sqB x) := by
    intro x hx hv
    obtain ⟨n, v⟩ := wid_num sp
    obtain ⟨n', v'⟩ := wid_num hx
    have l1 : Flo.pw 256 < Flo.pw 1023 := Flo.pw_lt (by omega)
    have a := single_abs hx
    have hm := a.mul a
    have e256 : Flo.pw 128 * Flo.pw 128 = Flo.pw 256 := by rw [← Flo.pw_add]; rfl
    rw [e256] at hm
    obtain ⟨r, r', g1, g2, g3, g4, g5⟩ := Flo.mul_mono Ieee.double (by decide) (wid p) (wid p) (wid x) (wid x) n n n' n' (by
      show ra (Flo.W (wid p) * Flo.W (wid p)) ≤ ra (Flo.W (wid x) * Flo.W (wid x))
      rw [v, v', ra_mul, ra_mul, hv]
      have : ra (ra (S x)) = ra (S x) := by have := ra_nonneg (S x); generalize ra (S x) = y at *; unfold ra; rw [if_neg (by grind)]
      rw [this]; exact Rat.le_refl) (by
      show ra (Flo.W (wid x) * Flo.W (wid x)) < _
      rw [v', Flo.top_double]
      have := ra_le hm
      grind)
    obtain ⟨t1, t2, t3, t4⟩ := sq_ok hx
    have i1 : r = sqB p := by
      have : some r = some (sqB p) := g1.symm.trans q1
      injection this
    have i2 : r' = sqB x := by
      have : some r' = some (sqB x) := g2.symm.trans t1
      injection this
    subst i1; subst i2
    have a1 : ra (Flo.W (sqB p)) = Flo.W (sqB p) := by unfold ra; rw [if_neg (by grind)]
    have a2 : ra (Flo.W (sqB x)) = Flo.W (sqB x) := by unfold ra; rw [if_neg (by grind)]
    have g6 : ra (Flo.W (sqB p)) ≤ ra (Flo.W (sqB x)) := g5
    rw [a1, a2] at g6
    exact g6
  rcases p2 with ⟨rfl, hz⟩ | ⟨x, hxm, hv⟩
  · have k := key 0 ⟨false, 0, -149, by decide⟩ (by
      rw [hz, show S 0 = 0 from by rw [show S 0 = _ from Flo.V_eq (show Ieee.single.read 0 = .number false 0 (-149) by decide), Flo.val_zero]]
      unfold ra; simp)
    have z : sqB 0 = 0 := by decide
    rw [z, zero_double.2] at k
    grind
  · have := key x (hx x hxm) hv
    have := e1 x hxm
    grind

/-! ### what the law asks of the peak -/
def hitB (p x : Nat) : Bool := FloatKind.f32.format.order x p == some .eq || FloatKind.f32.format.order (Op.negFloat .f32 x) p == some .eq
def metB (xs : List Nat) (p k : Nat) : Bool := decide (xs.length = 0) || (xs.take k).any (hitB p)
theorem metB_step (xs : List Nat) (p k x : Nat) (h : xs[k]? = some x) : metB xs p (k + 1) = (metB xs p k || hitB p x) := by
  obtain ⟨hk, he⟩ := List.getElem?_eq_some_iff.1 h
  unfold metB
  rw [List.take_succ_eq_append_getElem hk, he, List.any_append]
  simp [Bool.or_assoc]

theorem gt32_no {x p : Nat} (hx : Sm x) (hp : Sm p) (h : S x ≤ S p) : (FloatKind.f32.format.order x p == some .gt) = false := by
  have o := Flo.order_num Ieee.single x p hx hp
  cases hg : (FloatKind.f32.format.order x p == some .gt) with
  | false => rfl
  | true =>
    exfalso
    have := o.2.2.1 (show FloatKind.f32.format.order x p = some .gt by simpa using hg)
    have h2 : S p < S x := this
    grind
theorem eq32_yes {x p : Nat} (hx : Sm x) (hp : Sm p) (h : S x = S p) : (FloatKind.f32.format.order x p == some .eq) = true := by
  have o := Flo.order_num Ieee.single x p hx hp
  have := o.2.1.2 h
  simpa using (show FloatKind.f32.format.order x p = some .eq from this)
/-- what the law's loop finds -/
theorem peak_law (xs : List Nat) (p : Nat) (hx : ∀ x ∈ xs, Sm x) (h : Tw p (pkB xs)) :
    (∀ x ∈ xs, (FloatKind.f32.format.order x p == some .gt) = false ∧ (FloatKind.f32.format.order (Op.negFloat .f32 x) p == some .gt) = false) ∧ metB xs p xs.length = true ∧ (xs.length = 0 → (FloatKind.f32.format.order p 0 == some .eq) = true) := by
  obtain ⟨sp, p0, p1, p2⟩ := peak_ok xs p hx h
  have z0 : Sm 0 ∧ S 0 = 0 := ⟨⟨false, 0, -149, by decide⟩, by rw [show S 0 = _ from Flo.V_eq (show Ieee.single.read 0 = .number false 0 (-149) by decide), Flo.val_zero]⟩
  refine ⟨fun x hxm => ?_, ?_, fun h0 => ?_⟩
  · obtain ⟨n1, n2⟩ := ng_val (hx x hxm)
    have r := ra_ab (S x)
    have := p1 x hxm
    unfold Flo.Ab at r
    exact ⟨gt32_no (hx x hxm) sp (by grind), gt32_no n1 sp (by rw [n2]; grind)⟩
  · rcases p2 with ⟨rfl, -⟩ | ⟨x, hxm, hv⟩
    · rfl
    · unfold metB
      rw [List.take_length, Bool.or_eq_true, List.any_eq_true]
      refine .inr ⟨x, hxm, ?_⟩
      unfold hitB
      rw [Bool.or_eq_true]
      obtain ⟨n1, n2⟩ := ng_val (hx x hxm)
      rcases ra_or (S x) with g | g
      · exact .inl (eq32_yes (hx x hxm) sp (by rw [hv]; exact g))
      · exact .inr (eq32_yes n1 sp (by rw [n2, hv, g]; grind))
  · have e0 : xs = [] := List.eq_nil_of_length_eq_zero h0
    subst e0
    rcases p2 with ⟨-, hz⟩ | ⟨x, hxm, -⟩
    · exact eq32_yes sp z0.1 (by rw [hz, z0.2])
    · simp at hxm
/-- nine more -/
theorem en_more (xs : List Nat) (hl : xs.length ≤ 900) (hx : ∀ x ∈ xs, Sm x) : floatBits .add .f64 (enN xs) 4621256167635550208 = some (enN (xs ++ [1077936128])) ∧ (FloatKind.f64.format.order (enN (xs ++ [1077936128])) (enN (xs ++ [1077936128])) == some .eq) = true := by
  have h3 : Sm 1077936128 := ⟨false, 12582912, -22, by decide⟩
  have hx3 : ∀ x ∈ xs ++ [1077936128], Sm x := fun x h => by
    rcases List.mem_append.1 h with h | h
    · exact hx x h
    · simp at h; subst h; exact h3
  obtain ⟨a1, a2⟩ := en_num xs (by omega) hx
  obtain ⟨b1, b2⟩ := en_num (xs ++ [1077936128]) (by simp; omega) hx3
  refine ⟨?_, ?_⟩
  · have e : enA (xs ++ [1077936128]) = fA .add .f64 (enA xs) (fA .mul .f64 (wA 1077936128) (wA 1077936128)) := by
      unfold enA
      rw [List.foldl_append]; rfl
    rw [a1, b1] at e
    have e9 : fA .mul .f64 (wA 1077936128) (wA 1077936128) = some 4621256167635550208 := by decide
    rw [e9] at e
    exact e.symm
  · rw [order_self]
    obtain ⟨s, m, p, h⟩ := b2
    rw [show FloatKind.f64.decode _ = _ from h]; rfl

end Go.Proofs.Ytlhhcchncobmhaa
