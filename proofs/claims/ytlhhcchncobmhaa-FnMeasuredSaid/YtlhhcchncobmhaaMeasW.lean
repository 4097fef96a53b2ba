/- The walks of FitSquares for any numbers, and of MeasureMode of a valid mode.
   Conditions: those that each statement names. -/
import Derived.Test.YtlhhcchncobmhaaMeasN
import Derived.Test.YtlhhcchncobmhaaDrift
import Derived.Test.YtlhhcchncobmhaaHas
import Derived.Deep.RegionHeld3
namespace Go.Proofs.Ytlhhcchncobmhaa
set_option linter.unusedSimpArgs false
set_option linter.unusedVariables false
open Go Go.RowKit

theorem nwm_drew {w0 w : World} (h : Nw w0 w) : Nw w0 w.drew := h.draw 1
theorem nwm_drewN {w0 w : World} (h : Nw w0 w) {n : Nat} : Nw w0 (w.drewN n) := h.draw n
def SumAnyI (n : Nat) (w : World) (s i : Value) (wr : World) : Prop := ∃ k x y : Nat, k ≤ n ∧ i = .int .i64 (k : Int) ∧ s = .complex .f64 x y ∧ Wz (x, y) ∧ Nw w wr
set_option maxRecDepth 100000 in
theorem sumConj_any (us bs : List (Nat × Nat)) (n : Nat) (hn : us.length = n) (hbn : bs.length = n) (hn2 : n ≤ 2000) (va vb : Value) (w : World) (ha : RowZ w va us) (hb : RowZ w vb bs) :
    Calls Try.prog 72 #[va, vb] w fun e w' => ∃ x y, e = .returned (.complex .f64 x y) ∧ Wz (x, y) ∧ Nw w w' := by
  obtain ⟨a, capa, rfl, hcapa, hmaxa, hca⟩ := ha
  obtain ⟨b, capb, rfl, hcapb, hmaxb, hcb⟩ := hb
  rw [hn] at hcapa ⊢
  rw [hbn] at hcapb ⊢
  have Ha := Lib.hid hca
  have Hb := Lib.hid hcb
  have Hn := Lib.hid (And.intro hn hbn)
  unfold maxLen at hmaxa hmaxb
  clear hca hcb hn hbn
  go_enter Try.func72, Try.ntmps72
  go_wp2_with fail
  go_loopw [5, 9] (fun s i wr => SumAnyI n w s i wr) (fun _ i _ => n - (intOf i).toNat)
  case atStart => exact ⟨0, 0, 0, by omega, rfl, rfl, ⟨by decide, by decide⟩, Nw.refl _⟩
  case round =>
    obtain ⟨k, z1, z2, hk, rfl, rfl, hz, hnw⟩ := hrel
    have Hz := Lib.hid hz
    have Hnw := Lib.hid hnw
    clear hz hnw
    by_cases hlt : k < n
    · obtain ⟨x, hx⟩ := getZ (zs := us) (k := k) (by rw [Hn.out.1]; exact hlt)
      obtain ⟨y, hy⟩ := getZ (zs := bs) (k := k) (by rw [Hn.out.2]; exact hlt)
      rcases Ha.out with h0 | ⟨ga, offa, rfl, hga, hca⟩
      · rw [h0] at hx; simp at hx
      rcases Hb.out with h0 | ⟨gb, offb, rfl, hgb, hcb⟩
      · rw [h0] at hy; simp at hy
      have Hc := Lib.hid (fun W => conj_any y.1 y.2 W)
      have hk3 : (k : Int) < (n : Int) := by omega
      go_upto_region 5 with fail
      have Keep := Lib.hid (show ∀ W, Nw w W → W.cell? ⟨ga, offa + k, none⟩ = some (.complex .f64 x.1 x.2) ∧ W.cell? ⟨gb, offb + k, none⟩ = some (.complex .f64 y.1 y.2) from fun W hW => ⟨(hW.cell (p := ⟨ga, offa + k, none⟩) hga).trans (hca k x hx), (hW.cell (p := ⟨gb, offb + k, none⟩) hgb).trans (hcb k y hy)⟩)
      clear hx hy hca hcb
      refine wp_region_held_drew (S := fun w' => w'.cell? ⟨ga, offa + k, none⟩ = some (.complex .f64 x.1 x.2) ∧ w'.cell? ⟨gb, offb + k, none⟩ = some (.complex .f64 y.1 y.2)) (by kernel_rfl) ?_ (fun hHeld => ?_)
      · ((try dsimp only) ; refine Keep.out _ ?_ ; (repeat (first | with_reducible exact Hnw.out | with_reducible apply nwm_drew | with_reducible apply nwm_drewN)) ; done)
      refine wpAnyH_take (i := 0) (oi := _) (v := ?_) rfl (by kernel_rfl) (by kernel_rfl) (by kernel_rfl) (fun _ _ _ h => h) (_root_.Or.inl ⟨by rfl, ?_⟩) (by assumption) ?_
      rotate_left
      · intro w hSw
        (try dsimp only at hSw)
        go_simp
        all_goals with_reducible rfl
      try simp only [Act.put, List.setIfInBounds_toArray, List.set_cons_zero, List.set_cons_succ]
      refine wpAnyH_take (i := 1) (oi := _) (v := ?_) rfl (by kernel_rfl) (by kernel_rfl) (by kernel_rfl) (fun _ _ _ h => h) (_root_.Or.inl ⟨by rfl, ?_⟩) (by assumption) ?_
      rotate_left
      · intro w hSw
        (try dsimp only at hSw)
        go_simp
        all_goals with_reducible rfl
      try simp only [Act.put, List.setIfInBounds_toArray, List.set_cons_zero, List.set_cons_succ]
      refine wpAnyH_take (i := 2) (oi := _) (v := ?_) rfl (by kernel_rfl) (by kernel_rfl) (by kernel_rfl) (fun _ _ _ h => h) (_root_.Or.inl ⟨by rfl, ?_⟩) (by assumption) ?_
      rotate_left
      · intro w hSw
        (try dsimp only at hSw)
        go_simp
        all_goals with_reducible rfl
      try simp only [Act.put, List.setIfInBounds_toArray, List.set_cons_zero, List.set_cons_succ]
      refine wpAnyH_take (i := 3) (oi := _) (v := ?_) rfl (by kernel_rfl) (by kernel_rfl) (by kernel_rfl) (fun _ _ _ h => h) (_root_.Or.inl ⟨by rfl, ?_⟩) (by assumption) ?_
      rotate_left
      · intro w hSw
        (try dsimp only at hSw)
        go_simp
        all_goals with_reducible rfl
      try simp only [Act.put, List.setIfInBounds_toArray, List.set_cons_zero, List.set_cons_succ]
      refine wpAnyH_take (i := 4) (oi := _) (v := ?_) rfl (by kernel_rfl) (by kernel_rfl) (by kernel_rfl) (fun _ _ _ h => h) (_root_.Or.inl ⟨by rfl, ?_⟩) (by assumption) ?_
      rotate_left
      · intro w hSw
        (try dsimp only at hSw)
        go_simp
        all_goals with_reducible rfl
      try simp only [Act.put, List.setIfInBounds_toArray, List.set_cons_zero, List.set_cons_succ]
      refine wpAnyH_take (i := 5) (oi := _) (v := ?_) rfl (by kernel_rfl) (by kernel_rfl) (by kernel_rfl) (fun _ _ _ h => h) (_root_.Or.inl ⟨by rfl, ?_⟩) (by assumption) ?_
      rotate_left
      · intro w hSw
        (try dsimp only at hSw)
        go_simp
        all_goals with_reducible rfl
      try simp only [Act.put, List.setIfInBounds_toArray, List.set_cons_zero, List.set_cons_succ]
      refine wpAnyH_take (i := 6) (oi := _) (v := ?_) rfl (by kernel_rfl) (by kernel_rfl) (by kernel_rfl) (fun _ _ _ h => h) (_root_.Or.inl ⟨by rfl, ?_⟩) (by assumption) ?_
      rotate_left
      · intro w hSw
        (try dsimp only at hSw)
        go_simp
        all_goals with_reducible rfl
      try simp only [Act.put, List.setIfInBounds_toArray, List.set_cons_zero, List.set_cons_succ]
      refine wpAnyH_take (i := 7) (oi := _) (v := ?_) rfl (by kernel_rfl) (by kernel_rfl) (by kernel_rfl) (fun _ _ _ h => h) (_root_.Or.inl ⟨by rfl, ?_⟩) (by assumption) ?_
      rotate_left
      · intro w hSw
        (try dsimp only at hSw)
        go_simp
        all_goals with_reducible rfl
      try simp only [Act.put, List.setIfInBounds_toArray, List.set_cons_zero, List.set_cons_succ]
      refine wpAnyH_take (i := 8) (oi := _) (v := ?_) rfl (by kernel_rfl) (by kernel_rfl) (by kernel_rfl) (fun _ _ _ h => h) (_root_.Or.inl ⟨by rfl, ?_⟩) (by assumption) ?_
      rotate_left
      · intro w hSw
        (try dsimp only at hSw)
        go_simp
        all_goals with_reducible rfl
      try simp only [Act.put, List.setIfInBounds_toArray, List.set_cons_zero, List.set_cons_succ]
      refine wpAnyH_ready (rs := [9]) (by kernel_rfl) (by simp) ?_
      refine AllReadyH.cons (o := _) rfl (fun K hK => ?_) AllReadyH.nil
      go_simp
      go_at_call 99
      refine (Hc.out _).mono ?_
      rintro e w4 ⟨rfl, rfl⟩
      go_wp2_with fail
      refine hK.out _ _ ?_ (fun hHeld => ?_)
      · ((try dsimp only) ; refine Keep.out _ ?_ ; (repeat (first | with_reducible exact Hnw.out | with_reducible apply nwm_drew | with_reducible apply nwm_drewN)) ; done)
      clear hK K
      try simp only [Act.put, List.setIfInBounds_toArray, List.set_cons_zero, List.set_cons_succ]
      refine wpAnyH_ready (rs := [10]) (by kernel_rfl) (by simp) ?_
      refine AllReadyH.cons (o := _) rfl (fun K hK => ?_) AllReadyH.nil
      go_simp
      go_at_call 22
      refine (implMul_any _ _ _ _ _).mono ?_
      rintro e w5 ⟨p, q, n5, rfl, rfl, -, -, hp64, hq64⟩
      go_wp2_with fail
      refine hK.out _ _ ?_ (fun hHeld => ?_)
      · ((try dsimp only) ; refine Keep.out _ ?_ ; (repeat (first | with_reducible exact Hnw.out | with_reducible apply nwm_drew | with_reducible apply nwm_drewN)) ; done)
      clear hK K
      try simp only [Act.put, List.setIfInBounds_toArray, List.set_cons_zero, List.set_cons_succ]
      refine wpAnyH_ready (rs := [11]) (by kernel_rfl) (by simp) ?_
      refine AllReadyH.cons (o := _) rfl (fun K hK => ?_) AllReadyH.nil
      go_simp
      refine hK.out _ _ ?_ (fun hHeld => ?_)
      · ((try dsimp only) ; refine Keep.out _ ?_ ; (repeat (first | with_reducible exact Hnw.out | with_reducible apply nwm_drew | with_reducible apply nwm_drewN)) ; done)
      clear hK K
      try simp only [Act.put, List.setIfInBounds_toArray, List.set_cons_zero, List.set_cons_succ]
      refine wpAnyH_take (i := 12) (oi := _) (v := ?_) rfl (by kernel_rfl) (by kernel_rfl) (by kernel_rfl) (fun _ _ _ h => h) (_root_.Or.inl ⟨by rfl, ?_⟩) (by assumption) ?_
      rotate_left
      · intro w hSw
        (try dsimp only at hSw)
        go_simp
        all_goals with_reducible rfl
      try simp only [Act.put, List.setIfInBounds_toArray, List.set_cons_zero, List.set_cons_succ]
      refine wpAnyH_done (by kernel_rfl) ?_ _
      go_wp2_with fail
      go_roundw
      case rel =>
        refine ⟨k + 1, _, _, by omega, by rw [show ((k + 1 : Nat) : Int) = (k : Int) + 1 from by omega], rfl, ⟨fres_wf _ _ _ _ _, fres_wf _ _ _ _ _⟩, ?_⟩
        (repeat (first | with_reducible exact Hnw.out | with_reducible apply nwm_drew | with_reducible apply nwm_drewN))
      case measure => simp only [intOf]; omega
    · obtain rfl : k = n := by omega
      go_wp2_with fail
      go_ret
      exact ⟨_, _, rfl, Hz.out, Hnw.out⟩

def FitA (w : World) (e : Ending) (w' : World) : Prop := ∃ x y b, e = .returned (.tuple #[.complex .f64 x y, .bool b]) ∧ Nw w w'
theorem divV_shape (a b c d : Nat) : ∃ x y o, divV (divD a b c d) = .tuple #[.complex .f64 x y, .bool o] := by
  cases divD a b c d with
  | none => exact ⟨_, _, _, rfl⟩
  | some z => exact ⟨_, _, _, rfl⟩
set_option maxRecDepth 100000 in
theorem fitSquares_any (zs : List (Nat × Nat)) (n : Nat) (hn : zs.length = n) (h2 : 2 ≤ n) (hn2 : n ≤ 2000) (v : Value) (w : World) (h : RowZ w v zs) :
    Calls Try.prog 31 #[v] w (FitA w) := by
  obtain ⟨va, cap, rfl, hcap, hmax, hcell⟩ := h
  rw [hn] at hcap ⊢
  have hzne : ¬ zs = [] := by intro e; rw [e] at hn; simp at hn; omega
  rcases hcell with hcell | ⟨g, off, rfl, hg, hc⟩
  · exact absurd hcell hzne
  obtain ⟨m, hm⟩ : ∃ m, m = n - 1 := ⟨_, rfl⟩
  have l1 : (zs.drop 1).length = m := by rw [List.length_drop, hn, hm]
  have l2 : (zs.take m).length = m := by rw [List.length_take, hn]; omega
  have R1 := Lib.hid (show RowZ w (.slice (some ⟨g, off + 1, none⟩) m (cap - 1)) (zs.drop 1) from by
    have := rowz_piece hc hn hcap hmax hg 1 m (by omega)
    rwa [List.take_of_length_le (by rw [l1]; exact Nat.le_refl _)] at this)
  have R2 := Lib.hid (show RowZ w (.slice (some ⟨g, off, none⟩) m cap) (zs.take m) from by
    have := rowz_piece hc hn hcap hmax hg 0 m (by omega)
    simpa using this)
  have C1 := Lib.hid (fun W (hW : Nw w W) => sumConj_any (zs.drop 1) (zs.take m) m l1 l2 (by omega) _ _ W (R1.out.nw hW) (R2.out.nw hW))
  have C2 := Lib.hid (fun W (hW : Nw w W) => sumConj_any (zs.take m) (zs.take m) m l2 l2 (by omega) _ _ W (R2.out.nw hW) (R2.out.nw hW))
  have hmi : (n : Int) - 1 = (m : Int) := by omega
  have hmn : n - 1 = m := hm.symm
  have hn2i : ¬ (n : Int) < 2 := by omega
  have hn3i : ¬ (2000 : Int) < (n : Int) := by omega
  have hc1 : ¬ cap = 1 := by omega
  have hm0 : (0 : Int) ≤ (m : Int) := by omega
  have hmc : (m : Int) ≤ (cap : Int) := by omega
  have h1n : (1 : Int) ≤ (n : Int) := by omega
  unfold maxLen at hmax
  clear hc hzne l1 l2 hn hm
  go_enter Try.func31, Try.ntmps31
  go_wp2_with fail
  refine (C1.out _ (Nw.refl _)).mono ?_
  rintro e w1 ⟨x1, y1, rfl, wz1, n1⟩
  have N1 := Lib.hid n1
  clear n1
  go_wp2_with fail
  refine (C2.out _ N1.out).mono ?_
  rintro e w2 ⟨x2, y2, rfl, wz2, n2⟩
  have N2 := Lib.hid (N1.out.trans n2)
  clear n2
  go_wp2_with fail
  refine (implDiv_any x1 y1 x2 y2 _ wz1.1 wz1.2 wz2.1 wz2.2).mono ?_
  rintro e w3 ⟨rfl, m3, rfl⟩
  obtain ⟨x3, y3, o3, h3⟩ := divV_shape x1 y1 x2 y2
  rw [h3]
  clear h3
  go_wp2_with fail
  go_ret2
  exact ⟨_, _, _, rfl, N2.out.draw _⟩

/-- the recording of a mode is fitted: told where pole and gain are not too small -/
theorem fitM (p s : Nat × Nat) (zs : List (Nat × Nat)) (n : Nat) (hn : zs.length = n) (h2 : 2 ≤ n) (hn2 : n ≤ 41) (hr : Ringing (fabC p) (fabC s) zs) (v : Value) (w : World) (h : RowZ w v zs) :
    Calls Try.prog 31 #[v] w fun e w' => ∃ x y b, e = .returned (.tuple #[.complex .f64 x y, .bool b]) ∧ (Fair p s → FitTold p (3900 * Flo.u) (x, y)) ∧ Nw w w' := by
  by_cases F : Fair p s
  · obtain rfl := ringing_list F zs n hn (by omega) hr
    obtain ⟨s1, s2, sr, q1, q2, q3, q4⟩ := fitS_told F n h2 hn2
    refine (fitSquares_ok _ n hn h2 (by omega) s1 s2 sr q1 q2 q3 v w h).mono ?_
    rintro e w' ⟨rfl, n1⟩
    exact ⟨_, _, _, rfl, fun _ => q4, n1⟩
  · refine (fitSquares_any zs n hn h2 (by omega) v w h).mono ?_
    rintro e w' ⟨x, y, b, rfl, n1⟩
    exact ⟨_, _, _, rfl, fun f => absurd f F, n1⟩

def errV (w1 w2 w3 : World) (x y p q : Nat) : Nat := fres w3 .add .f64 (fres w1 .sub .f64 x p % signBit) (fres w2 .sub .f64 y q % signBit)
def MeasP (m : M4) (n : Nat) (w : World) (e : Ending) (w' : World) : Prop :=
  ∃ (h : Int) (x y d : Nat) (w1 w2 w3 : World), e = .returned (.tuple #[.agg #[.int .i64 h, .complex .f64 x y, .float .f64 (errV w1 w2 w3 x y (wid m.pr) (wid m.pi)), .float .f64 d], .bool true]) ∧ 0 ≤ h ∧ h ≤ (n : Int) ∧
    Flo.Nm d ∧ Flo.W d ≤ ((n : Rat) + 2) * gm m * (7 / 8) * Flo.pw (-20) + Flo.pw (-120) ∧ (Fair (polM m) (gaiM m) → FitTold (polM m) (3900 * Flo.u) (x, y)) ∧ Nw w w'
theorem half_in {m : M4} {n : Nat} {r : Int} {ok : Bool} (h : HalfR m n r ok) : 0 ≤ r ∧ r ≤ (n : Int) := by
  rcases h with ⟨k, -, rfl, -, hk, -⟩ | ⟨-, -, rfl⟩
  · omega
  · omega

theorem new4 (w : World) (T : TypeId) (v0 v1 v2 v3 : Value) : HasC (w.alloc (.cells #[v0, v1, v2, v3] T (0, 0))) w.heap.size [v0, v1, v2, v3] := by
  refine ⟨by simp, fun k v hk => ?_⟩
  match k, hk with
  | 0, hk => simp at hk; subst hk; exact ⟨by go_simp, by go_simp⟩
  | 1, hk => simp at hk; subst hk; exact ⟨by go_simp, by go_simp⟩
  | 2, hk => simp at hk; subst hk; exact ⟨by go_simp, by go_simp⟩
  | 3, hk => simp at hk; subst hk; exact ⟨by go_simp, by go_simp⟩
  | k + 4, hk => simp at hk
theorem four_at {w : World} {b : Nat} {v0 v1 v2 v3 : Value} (h : HasC w b [v0, v1, v2, v3]) :
    (w.cell? ⟨b, 0, none⟩ = some v0 ∧ w.frozen? ⟨b, 0, none⟩ = false) ∧ (w.cell? ⟨b, 1, none⟩ = some v1 ∧ w.frozen? ⟨b, 1, none⟩ = false) ∧ (w.cell? ⟨b, 2, none⟩ = some v2 ∧ w.frozen? ⟨b, 2, none⟩ = false) ∧
    (w.cell? ⟨b, 3, none⟩ = some v3 ∧ w.frozen? ⟨b, 3, none⟩ = false) :=
  ⟨h.2 0 _ rfl, h.2 1 _ rfl, h.2 2 _ rfl, h.2 3 _ rfl⟩

set_option maxHeartbeats 3200000 in
set_option maxRecDepth 100000 in
theorem measure_ok (m : M4) (hm : m.ok) (n : Nat) (h2 : 2 ≤ n) (hn : n ≤ 41) (w : World) :
    Calls Try.prog 37 #[.agg #[.complex .f32 m.pr m.pi, .complex .f32 m.gr m.gi], .int .i64 (n : Int)] w (MeasP m n w) := by
  obtain ⟨pr, pi, gr, gi⟩ := m
  simp only
  have Hm := Lib.hid hm
  obtain ⟨k1, k2, k3, k4⟩ := meas_ring ⟨pr, pi, gr, gi⟩ hm n (by omega)
  obtain ⟨s1, s2, s3, s4⟩ := hm.nums
  have HS := Lib.hid (show Sm pr ∧ Sm pi ∧ Sm gr ∧ Sm gi from ⟨s1, s2, s3, s4⟩)
  have Dr := Lib.hid (fun (bm bi : Nat) (v iv : Value) (W : World) h1 h2 => driftOf_ok [⟨pr, pi, gr, gi⟩] (by intro m' h'; simp at h'; rw [h']; exact hm) [1065353216] n 1 bm bi v iv rfl (by omega) (by simp) (by omega) _ k4 W h1 h2 k1 k2 k3)
  have Hh := Lib.hid (fun W => implHalf_ok ⟨pr, pi, gr, gi⟩ hm n (by omega) (by omega) W)
  clear hm k1 k2 k3 k4 s1 s2 s3 s4
  have hn1 : ¬ (n : Int) < 1 := by omega
  obtain ⟨W1, hW1⟩ : ∃ W, W = w.alloc (.cells #[.complex .f32 pr pi, .complex .f32 gr gi] 61 (0, 0)) := ⟨_, rfl⟩
  obtain ⟨W2, hW2⟩ : ∃ W, W = W1.alloc (.cells #[.int .i64 0, .complex .f64 0 0, .float .f64 0, .float .f64 0] 64 (0, 0)) := ⟨_, rfl⟩
  have z1 : W1.heap.size = w.heap.size + 1 := by rw [hW1]; simp
  have z2 : W2.heap.size = w.heap.size + 1 + 1 := by rw [hW2]; simp [z1]
  obtain ⟨W3, hW3⟩ : ∃ W, W = W2.alloc (.cells #[.complex .f32 pr pi, .complex .f32 gr gi] 61 (0, 0)) := ⟨_, rfl⟩
  have z3 : W3.heap.size = w.heap.size + 1 + 1 + 1 := by rw [hW3]; simp [z2]
  obtain ⟨W4, hW4⟩ : ∃ W, W = W3.alloc (.cells #[.float .f32 1065353216] 31 (0, 0)) := ⟨_, rfl⟩
  have B1 : HasC W1 w.heap.size [.complex .f32 pr pi, .complex .f32 gr gi] := by rw [hW1]; exact new2 _ _ _ _
  have B2 : HasC W2 (w.heap.size + 1) [.int .i64 0, .complex .f64 0 0, .float .f64 0, .float .f64 0] := by rw [hW2, ← z1]; exact new4 _ _ _ _ _ _
  have R3 : W3.ownsRow 0 61 2 (.slice (some ⟨w.heap.size + 1 + 1, 0, none⟩) 1 1) 1 (cellsM [⟨pr, pi, gr, gi⟩]) := by
    rw [hW3, ← z2]; exact World.ownsRow_lit (base := 0) (e := 61) (size := 2) W2 #[.complex .f32 pr pi, .complex .f32 gr gi] 1 (Nat.zero_le _) (by decide) rfl
  have R4 : W4.ownsRow 0 31 1 (.slice (some ⟨w.heap.size + 1 + 1 + 1, 0, none⟩) 1 1) 1 (cellsS [1065353216]) := by
    rw [hW4, ← z3]; exact World.ownsRow_lit (base := 0) (e := 31) (size := 1) W3 #[.float .f32 1065353216] 1 (Nat.zero_le _) (by decide) rfl
  have N4 : Nw w W4 := by rw [hW4, hW3, hW2, hW1]; exact ((((Nw.refl w).alloc _).alloc _).alloc _).alloc _
  have M4 := Lib.hid (show HasC W4 w.heap.size [.complex .f32 pr pi, .complex .f32 gr gi] from by rw [hW4, hW3, hW2]; exact ((B1.alloc _).alloc _).alloc _)
  have P4 := Lib.hid (show HasC W4 (w.heap.size + 1) [.int .i64 0, .complex .f64 0 0, .float .f64 0, .float .f64 0] from by rw [hW4, hW3]; exact (B2.alloc _).alloc _)
  have Rm := Lib.hid (show W4.ownsRow 0 61 2 (.slice (some ⟨w.heap.size + 1 + 1, 0, none⟩) 1 1) 1 (cellsM [⟨pr, pi, gr, gi⟩]) from by rw [hW4]; exact R3.alloc _)
  have Rs := Lib.hid R4
  have Nx := Lib.hid N4
  have E4 := Lib.hid (show W4 = (((w.alloc (.cells #[.complex .f32 pr pi, .complex .f32 gr gi] 61 (0, 0))).alloc (.cells #[.int .i64 0, .complex .f64 0 0, .float .f64 0, .float .f64 0] 64 (0, 0))).alloc (.cells #[.complex .f32 pr pi, .complex .f32 gr gi] 61 (0, 0))).alloc (.cells #[.float .f32 1065353216] 31 (0, 0)) from by rw [hW4, hW3, hW2, hW1])
  clear hW1 hW2 hW3 hW4 z1 z2 z3 B1 B2 R3 R4 N4
  go_enter Try.func37, Try.ntmps37
  go_wp2_with fail
  rw [← E4.out]
  refine (Dr.out _ _ _ _ _ Rm.out Rs.out).mono ?_
  rintro e w1 ⟨d, rfl, nd, wd, n1⟩
  have Hd := Lib.hid (And.intro nd wd)
  have M5 := Lib.hid (M4.out.nw n1)
  have P5 := Lib.hid (P4.out.nw n1)
  have N5 := Lib.hid (Nx.out.trans n1)
  clear nd wd n1
  obtain ⟨⟨c0, f0⟩, ⟨c1, f1⟩⟩ := two_at M5.out
  go_wp2_with fail
  refine (Hh.out _).mono ?_
  rintro e w2 ⟨h, hb, rfl, hr, n2⟩
  have Hr := Lib.hid (half_in hr)
  have M6 := Lib.hid (M5.out.nw n2)
  have P6 := Lib.hid (P5.out.nw n2)
  have N6 := Lib.hid (N5.out.trans n2)
  clear hr n2 c0 f0 c1 f1
  obtain ⟨⟨c0, f0⟩, ⟨c1, f1⟩⟩ := two_at M6.out
  go_wp2_with fail
  refine (implWiden_fin pr pi _ HS.out.1 HS.out.2.1).mono ?_
  rintro e w3 ⟨rfl, rfl⟩
  go_wp2_with fail
  refine (implWiden_fin gr gi _ HS.out.2.2.1 HS.out.2.2.2).mono ?_
  rintro e w4 ⟨rfl, rfl⟩
  go_wp2_with fail
  refine (ringMode_any (wid pr) (wid pi) (wid gr) (wid gi) n ⟨wid_lt _, wid_lt _⟩ ⟨wid_lt _, wid_lt _⟩ (by omega) _).mono ?_
  rintro e w5 ⟨v, zs, rfl, hzl, hown, hring, n5⟩
  have R7 := Lib.hid (RowZ.of_own hown hzl)
  have Hz := Lib.hid (And.intro hzl hring)
  have P7 := Lib.hid (P6.out.nw n5)
  have N7 := Lib.hid (N6.out.trans n5)
  clear hown hzl hring n5 c0 f0 c1 f1
  go_wp2_with fail
  refine (fitM (polM ⟨pr, pi, gr, gi⟩) (gaiM ⟨pr, pi, gr, gi⟩) zs n Hz.out.1 h2 hn Hz.out.2 _ _ R7.out).mono ?_
  rintro e w6 ⟨x, y, fb, rfl, hfit, n6⟩
  have Hf := Lib.hid hfit
  have P8 := Lib.hid (P7.out.nw n6)
  have N8 := Lib.hid (N7.out.trans n6)
  clear hfit n6
  go_wp2_with fail
  refine (implSize_any _ _ _ (fres_wf _ _ _ _ _) (fres_wf _ _ _ _ _)).mono ?_
  rintro e w7 ⟨rfl, q7, rfl⟩
  obtain ⟨er, her⟩ : ∃ er, er = fres (w6.drewN (fdr BinOp.sub FloatKind.f64 x (wid pr) + fdr BinOp.sub FloatKind.f64 y (wid pi))) BinOp.add FloatKind.f64 (fres w6 BinOp.sub FloatKind.f64 x (wid pr) % signBit) (fres (w6.drewN (fdr BinOp.sub FloatKind.f64 x (wid pr))) BinOp.sub FloatKind.f64 y (wid pi) % signBit) := ⟨_, rfl⟩
  rw [← her]
  have Er := Lib.hid her
  clear her
  have P9 := Lib.hid ((P8.out.draw (fdr BinOp.sub FloatKind.f64 x (wid pr) + fdr BinOp.sub FloatKind.f64 y (wid pi))).draw q7)
  have N9 := Lib.hid ((N8.out.draw (fdr BinOp.sub FloatKind.f64 x (wid pr) + fdr BinOp.sub FloatKind.f64 y (wid pi))).draw q7)
  generalize ((w6.drewN (fdr BinOp.sub FloatKind.f64 x (wid pr) + fdr BinOp.sub FloatKind.f64 y (wid pi))).drewN q7) = w8 at *
  obtain ⟨⟨c0, f0⟩, ⟨c1, f1⟩, ⟨c2, f2⟩, ⟨c3, f3⟩⟩ := four_at P9.out
  obtain ⟨⟨d0, -⟩, ⟨d1, -⟩, ⟨d2, -⟩, ⟨d3, -⟩⟩ := four_at (((((P9.out.set 0 (.int .i64 h)).set 1 (.complex .f64 x y)).set 2 (.float .f64 er)).set 3 (.float .f64 d)) : HasC _ (w.heap.size + 1) [.int .i64 h, .complex .f64 x y, .float .f64 er, .float .f64 d])
  go_wp2_with fail
  exact bodyPost_ret (v := .tuple #[.agg #[.int .i64 h, .complex .f64 x y, .float .f64 er, .float .f64 d], .bool true]) (by simp [results, Try.results37, go_sem, d0, d1, d2, d3]) rfl
    ⟨h, x, y, d, _, _, _, by rw [Er.out]; rfl, Hr.out.1, Hr.out.2, Hd.out.1, Hd.out.2, Hf.out, (((N9.out.set (p := ⟨w.heap.size + 1, 0, none⟩) (by show w.heap.size ≤ w.heap.size + 1; omega) _).set (p := ⟨w.heap.size + 1, 1, none⟩) (by show w.heap.size ≤ w.heap.size + 1; omega) _).set (p := ⟨w.heap.size + 1, 2, none⟩) (by show w.heap.size ≤ w.heap.size + 1; omega) _).set (p := ⟨w.heap.size + 1, 3, none⟩) (by show w.heap.size ≤ w.heap.size + 1; omega) _⟩

end Go.Proofs.Ytlhhcchncobmhaa
