/- Texts of a proof, put together: RoomB, RoomC, Row, Fls, En, EnN, Loud, LoudS.
   Conditions: those that each statement names. -/
import Derived.Test.YtfgofmcpgfofaaaKFnLoudest4
import Derived.ProofKit
import Derived.OpenShut
import Derived.ShutString
import Derived.ChangeOld
/- The walks of the products of weights, of weighed modes, RoomBody and RingRoom.
   Conditions: those that each statement names. -/
namespace Go.Proofs.Ytfgofmcpgfofaaa
open Go Go.RowKit

theorem mulW_range (xs ys : List Nat) (n : Nat) (h : xs.length = n) (h2 : ys.length = n) : (List.range n).map (fun k => opB .mul .f32 (inputOf xs k) (inputOf ys k)) = mulW xs ys := by
  subst h
  apply List.ext_getElem?
  intro i
  unfold mulW
  rw [List.getElem?_zipWith]
  by_cases hi : i < xs.length
  · have hj : i < ys.length := by omega
    simp [hi, hj, inputOf]
  · simp [hi, show xs.length ≤ i from by omega]

set_option maxRecDepth 100000 in
set_option maxHeartbeats 1600000 in
theorem multiplySamples_ok (xs ys : List Nat) (n bi bj : Nat) (v u : Value) (hx : xs.length = n) (hy : ys.length = n) (hn : n ≤ 64) (w : World)
    (hi : w.ownsRow bi 49 1 v n (cellsS xs)) (hj : w.ownsRow bj 49 1 u n (cellsS ys)) (wx : ∀ x ∈ xs, Wt x) (wy : ∀ x ∈ ys, Wt x) :
    Calls Try.prog 122 #[v, u] w (RowF (mulW xs ys) n w) := by
  obtain ⟨va, vc, rfl⟩ := own_shape' hi
  obtain ⟨ua, uc, rfl⟩ := own_shape' hj
  obtain ⟨f0, hf, hfz0, hfz1, hfz2⟩ := info_parts info_f32
  have Hi := Lib.hid hi
  have Hj := Lib.hid hj
  have Hx := Lib.hid (And.intro hx (And.intro hy (And.intro wx wy)))
  clear hi hj hx hy wx wy
  go_enter Try.func122, Try.ntmps122
  go_wp2_with (first
    | (at_make; refine wpList_make_full _ rfl _ _ 47 rfl w.heap.size 49 f0 (.float .f32 0) 1 Try.underlying47 hf hfz0 hfz1 _ _ _ _ n rfl rfl rfl rfl (by rw [hfz2]; omega) (by unfold maxLen; omega) (Nat.le_refl _) ?_))
  intro w3 hown3 hgrow3
  obtain ⟨f, hF⟩ : ∃ f : Nat → Nat, f = fun k => opB .mul .f32 (inputOf xs k) (inputOf ys k) := ⟨_, rfl⟩
  have O3 := Lib.hid (show w3.ownsRow w.heap.size 49 1 (.slice (some ⟨w.heap.size, 0, none⟩) n n) n (cellsS (fillL f n 0)) from by
    rw [toList_madeCells_one] at hown3
    rw [fillL_zero]
    simpa [cellsS] using hown3)
  have N3 := Lib.hid (show Nw w w3 from hgrow3)
  clear hown3 hgrow3
  go_wp2_with fail
  go_loopw [12] (fun i wr => FillI w.heap.size w.heap.size n f w i wr) (fun i _ => n - (intOf i).toNat)
  case atStart => exact ⟨0, by omega, rfl, O3.out, N3.out⟩
  case round =>
    obtain ⟨k, hk, rfl, how, hnw⟩ := hrel
    have Ow := Lib.hid how
    have Nr := Lib.hid hnw
    clear how hnw
    by_cases hlt : k < n
    · obtain ⟨x, hxk⟩ : ∃ x, xs[k]? = some x := ⟨xs[k]'(by rw [Hx.out.1]; exact hlt), List.getElem?_eq_getElem _⟩
      obtain ⟨y, hyk⟩ : ∃ y, ys[k]? = some y := ⟨ys[k]'(by rw [Hx.out.2.1]; exact hlt), List.getElem?_eq_getElem _⟩
      obtain ⟨g, cap, hv, hcap, hmax, hgs, e0⟩ := own_sample (own_nw Hi.out Nr.out) hxk Hx.out.1.symm
      cases hv
      obtain ⟨g', cap', hv, hcap', hmax', hgs', e0'⟩ := own_sample (own_nw Hj.out Nr.out) hyk Hx.out.2.1.symm
      cases hv
      have hcx := (wt_mul x y (Hx.out.2.2.1 x (List.mem_of_getElem? hxk)) (Hx.out.2.2.2 y (List.mem_of_getElem? hyk))).1
      have hrun := fun w => hcx.runs (P := Try.prog) (.inr (.inr rfl)) 49 w
      have hset := Ow.out.stored k (.float .f32 (f k))
      rw [fillL_set f n k hlt] at hset
      have hin : f k = opB .mul .f32 x y := by rw [hF]; unfold inputOf; simp only [List.getD_eq_getElem?_getD, hxk, hyk]; rfl
      rw [hin] at hset
      have F := Lib.hid hset.1
      have N2 := Lib.hid (Nr.out.set (p := ⟨w.heap.size, k, none⟩) (by show w.heap.size ≤ w.heap.size; omega) (.float .f32 (opB .mul .f32 x y)))
      unfold maxLen at hmax hmax'
      clear hset hxk hyk hcx hin
      go_wp2_with fail
      refine wp_region_still_tail 11 (by kernel_rfl) (by kernel_rfl) ?_
      simp only [List.take_succ_cons, List.take_zero, List.drop_succ_cons, List.drop_zero]
      repeat still_step
      refine wpStill_nil ?_
      change wpList _ _ _ _ _ (wr.drewN 1)
      have Ow2 := Lib.hid (own_nw Ow.out ((Nw.refl wr).draw 1))
      have e1 := Ow2.out.cellAt k (by omega)
      rw [fillL_cell _ n k hlt] at e1
      have e2 := Ow2.out.frozenAt k
      have F' := Lib.hid (show ((wr.drewN 1).setCell ⟨w.heap.size, k, none⟩ (.float .f32 (opB .mul .f32 x y))).ownsRow w.heap.size 49 1 (.slice (some ⟨w.heap.size, 0, none⟩) n n) n (cellsS (fillL f n (k + 1))) from own_nw F.out ((Nw.refl _).draw 1))
      have N2' := Lib.hid (show Nw w ((wr.drewN 1).setCell ⟨w.heap.size, k, none⟩ (.float .f32 (opB .mul .f32 x y))) from N2.out.draw 1)
      clear hrun e0 e0'
      generalize wr.drewN 1 = wr2 at *
      go_wp2_with fail
      go_roundw
      case rel => exact ⟨k + 1, by omega, by rw [show ((k + 1 : Nat) : Int) = (k : Int) + 1 from by omega], F'.out, N2'.out⟩
      case measure => simp only [intOf]; omega
    · obtain rfl : k = n := by omega
      have hm := mulW_range xs ys k Hx.out.1 Hx.out.2.1
      go_wp2_with fail
      go_ret
      exact ⟨_, rfl, by have h := Ow.out; rw [fillL_full, hF, hm] at h; exact h, Nr.out⟩

/-! ### weighed modes -/
def weighK (ms : List M4) (ws : List Nat) (k : Nat) : List M4 := (weighL ms ws).take k ++ ms.drop k
theorem weighK_zero (ms : List M4) (ws : List Nat) : weighK ms ws 0 = ms := by simp [weighK]
theorem weighK_full (ms : List M4) (ws : List Nat) (n : Nat) (h : ms.length = n) (hw : ws.length = n) : weighK ms ws n = weighL ms ws := by
  unfold weighK
  rw [List.take_of_length_le (by rw [weighL_len ms ws (by omega)]; omega), List.drop_of_length_le (by omega), List.append_nil]
theorem weighK_len (ms : List M4) (ws : List Nat) (k : Nat) (h : ws.length = ms.length) : (weighK ms ws k).length = ms.length := by
  unfold weighK; simp [weighL_len ms ws h]; omega
theorem weighK_at (ms : List M4) (ws : List Nat) (k : Nat) (m : M4) (hl : ws.length = ms.length) (h : ms[k]? = some m) : (weighK ms ws k)[k]? = some m := by
  obtain ⟨hk, he⟩ := List.getElem?_eq_some_iff.1 h
  have hlen : ((weighL ms ws).take k).length = k := by rw [List.length_take, weighL_len ms ws hl]; omega
  unfold weighK
  rw [List.getElem?_append_right (by omega), hlen, Nat.sub_self, List.getElem?_drop, Nat.add_zero, h]
theorem weighK_set (ms : List M4) (ws : List Nat) (k : Nat) (m : M4) (x : Nat) (hl : ws.length = ms.length) (h : ms[k]? = some m) (hx : ws[k]? = some x) : (weighK ms ws k).set k (weighM x m) = weighK ms ws (k + 1) := by
  obtain ⟨hk, he⟩ := List.getElem?_eq_some_iff.1 h
  have hat := weighL_at ms ws k m x h hx
  obtain ⟨hka, hae⟩ := List.getElem?_eq_some_iff.1 hat
  have hlen : ((weighL ms ws).take k).length = k := by rw [List.length_take, weighL_len ms ws hl]; omega
  unfold weighK
  rw [List.take_succ_eq_append_getElem hka, hae, List.drop_eq_getElem_cons hk, he, List.set_append_right _ _ (by omega), hlen, Nat.sub_self]
  simp
theorem cellsM_setg (l : List M4) (k : Nat) (m m' : M4) (h : l[k]? = some m) (hg : m'.pr = m.pr ∧ m'.pi = m.pi) :
    (cellsM l).set (k * 2 + 1) (.complex .f32 m'.gr m'.gi) = cellsM (l.set k m') := by
  induction l generalizing k with
  | nil => simp at h
  | cons x l ih =>
    cases k with
    | zero =>
      simp at h
      subst h
      simp [cellsM, M4.cells, hg.1, hg.2]
    | succ k =>
      have hk := ih k (by simpa using h)
      simp only [cellsM, List.flatMap_cons, List.set_cons_succ] at *
      rw [show (k + 1) * 2 + 1 = k * 2 + 1 + 2 from by omega]
      simp only [M4.cells, List.cons_append, List.nil_append, List.set_cons_succ]
      rw [hk]

def WeighI (ms : List M4) (ws : List Nat) (n base : Nat) (v : Value) (w : World) (i : Value) (wr : World) : Prop :=
  ∃ k : Nat, k ≤ n ∧ i = .int .i64 (k : Int) ∧ wr.ownsRow base 38 2 v n (cellsM (weighK ms ws k)) ∧ Nw w wr

set_option maxRecDepth 100000 in
set_option maxHeartbeats 1600000 in
theorem weighModes_ok (ms : List M4) (hms : ∀ m ∈ ms, m.ok) (ws : List Nat) (n bm bi : Nat) (v u : Value) (hn : ms.length = n) (hw : ws.length = n) (hn16 : n ≤ 16) (hwt : ∀ x ∈ ws, Wt x) (w : World)
    (hm : w.ownsRow bm 38 2 v n (cellsM ms)) (hi : w.ownsRow bi 49 1 u n (cellsS ws)) :
    Calls Try.prog 123 #[v, u] w (RowP (weighL ms ws) w) := by
  obtain ⟨va, vc, rfl⟩ := own_shape' hm
  obtain ⟨ua, uc, rfl⟩ := own_shape' hi
  have Hm := Lib.hid hm
  have Hi := Lib.hid hi
  have Hs := Lib.hid (And.intro hms (And.intro hn (And.intro hw hwt)))
  have hl : ws.length = ms.length := by omega
  have Hl := Lib.hid hl
  clear hm hi hms hn hw hwt hl
  go_enter Try.func123, Try.ntmps123
  go_wp2_with fail
  refine (clone_modes ms n bm _ Hs.out.2.1 (by omega) _ Hm.out).mono ?_
  rintro e w1 ⟨v1, rfl, own1, n1⟩
  obtain ⟨va1, vc1, rfl⟩ := own_shape' own1
  rw [Hs.out.2.1] at own1 ⊢
  have O1 := Lib.hid own1
  have N1 := Lib.hid n1
  clear own1 n1
  go_wp2_with fail
  go_loopw [12] (fun i wr => WeighI ms ws n w.heap.size (.slice va1 n vc1) w i wr) (fun i _ => n - (intOf i).toNat)
  case atStart => exact ⟨0, by omega, rfl, by rw [weighK_zero]; exact O1.out, N1.out⟩
  case round =>
    obtain ⟨k, hk, rfl, own, hN⟩ := hrel
    have Ow := Lib.hid own
    have Nr := Lib.hid hN
    clear own hN
    by_cases hlt : k < n
    · obtain ⟨m, hmk⟩ : ∃ m, ms[k]? = some m := ⟨ms[k]'(by rw [Hs.out.2.1]; exact hlt), List.getElem?_eq_getElem _⟩
      obtain ⟨x, hxk⟩ : ∃ x, ws[k]? = some x := ⟨ws[k]'(by rw [Hs.out.2.2.1]; exact hlt), List.getElem?_eq_getElem _⟩
      obtain ⟨g, cap, hv, hcap, hmax, hgs, e1, e2⟩ := own_mode (own_nw Hm.out Nr.out) hmk Hs.out.2.1.symm
      cases hv
      obtain ⟨g1, cap1, hv, hcap1, hmax1, hgs1, e3⟩ := own_sample (own_nw Hi.out Nr.out) hxk Hs.out.2.2.1.symm
      cases hv
      obtain ⟨g2, cap2, hv, hcap2, hmax2, hgs2, -, -⟩ := own_mode Ow.out (weighK_at ms ws k m Hl.out hmk) (by rw [weighK_len ms ws k Hl.out, Hs.out.2.1])
      cases hv
      have Hmk := Lib.hid (And.intro hmk hxk)
      have Hmo := Lib.hid (Hs.out.1 m (List.mem_of_getElem? hmk))
      have Hxo := Lib.hid (Hs.out.2.2.2 x (List.mem_of_getElem? hxk))
      unfold maxLen at hmax hmax1 hmax2
      clear hmk hxk
      have K1 := Lib.hid (HasMode.new wr 38 m.pr m.pi m.gr m.gi)
      have K2 := Lib.hid (Ow.out.alloc (.cells #[.complex .f32 m.pr m.pi, .complex .f32 m.gr m.gi] 38 (0, 0)))
      have K3 := Lib.hid (show (wr.alloc (.cells #[.complex .f32 m.pr m.pi, .complex .f32 m.gr m.gi] 38 (0, 0))).cell? ⟨g1, k, none⟩ = some (.float .f32 x) from Lib.cell?_alloc_some _ e3)
      have K5 := Lib.hid (Nr.out.alloc (.cells #[.complex .f32 m.pr m.pi, .complex .f32 m.gr m.gi] 38 (0, 0)))
      go_wp2_with fail
      obtain ⟨w4, hw4⟩ : ∃ w4, w4 = wr.alloc (.cells #[.complex .f32 m.pr m.pi, .complex .f32 m.gr m.gi] 38 (0, 0)) := ⟨_, rfl⟩
      rw [← hw4] at K1 K2 K3 K5
      rw [← hw4]
      clear hw4 e1 e2 e3
      obtain ⟨l0, l1, l2, l3, l4⟩ := K1.out
      have k3 := K3.out
      obtain ⟨c1, c2⟩ := weighM_calm m x Hmo.out Hxo.out
      refine wp_region_still_tail 9 (by kernel_rfl) (by kernel_rfl) ?_
      simp only [List.take_succ_cons, List.take_zero, List.drop_succ_cons, List.drop_zero]
      repeat still_step
      still_call ((implScale_ok _ _ _ _ c1 c2).mono fun _ _ h => ⟨h.1, h.2.symm⟩)
      refine wpStill_nil ?_
      change wpList _ _ _ _ _ (w4.drewN 1)
      have G2 := Lib.hid (own_nw K2.out ((Nw.refl w4).draw 1))
      have G5 := Lib.hid (K5.out.draw 1)
      have hs4 := (K2.out.lt _ rfl)
      clear l0 l1 l2 l3 l4 k3 c1 c2
      generalize w4.drewN 1 = w5 at *
      have e3 := G2.out.cellAt (k * 2 + 1) (by omega)
      have hc := (cellsM_at _ k m (weighK_at ms ws k m Hl.out Hmk.out.1)).2
      rw [show 2 * k + 1 = k * 2 + 1 from by omega] at hc
      rw [hc] at e3
      have e4 := G2.out.frozenAt (k * 2 + 1)
      have hset := G2.out.stored (k * 2 + 1) (.complex .f32 (weighM x m).gr (weighM x m).gi)
      rw [cellsM_setg (weighK ms ws k) k m (weighM x m) (weighK_at ms ws k m Hl.out Hmk.out.1) ⟨rfl, rfl⟩, weighK_set ms ws k m x Hl.out Hmk.out.1 Hmk.out.2] at hset
      have hfin : WeighI ms ws n w.heap.size (.slice (some ⟨g2, 0, none⟩) n vc1) w (.int .i64 ((k : Int) + 1)) (w5.setCell ⟨g2, k * 2 + 1, none⟩ (.complex .f32 (opB .mul .f32 m.gr x) (opB .mul .f32 m.gi x))) :=
        ⟨k + 1, by omega, by rw [show ((k + 1 : Nat) : Int) = (k : Int) + 1 from by omega], hset.1, G5.out.set (by show w.heap.size ≤ g2; exact hs4.1) _⟩
      have Hfin := Lib.hid hfin
      clear hfin hset hc
      go_wp2_with fail
      go_roundw
      case rel => exact Hfin.out
      case measure => simp only [intOf]; omega
    · obtain rfl : k = n := by omega
      have hwl := weighL_len ms ws Hl.out
      go_wp2_with fail
      go_ret
      refine ⟨_, rfl, ?_, Nr.out⟩
      have h := Ow.out
      rw [weighK_full ms ws k Hs.out.2.1 Hs.out.2.2.1] at h
      rw [hwl, Hs.out.2.1]
      exact h
end Go.Proofs.Ytfgofmcpgfofaaa

/- The walks of RoomBody and RingRoom.
   Conditions: those that each statement names. -/
namespace Go.Proofs.Ytfgofmcpgfofaaa
open Go Go.RowKit

set_option maxRecDepth 100000 in
set_option maxHeartbeats 3200000 in
theorem roomBody_ok (ms : List M4) (rows : List (List Nat)) (q P b bs s t : Nat) (rs re : List Nat) (mv sv : Value) (w : World) (h : RoomV ms rows q P b bs mv sv w) (hs : rows[s]? = some rs) (he : rows[t]? = some re) :
    Calls Try.prog 94 #[.agg #[mv, sv], .int .i64 (s : Int), .int .i64 (t : Int)] w (DampP q (weighL ms (mulW rs re)) w) := by
  obtain ⟨ma, mc, rfl⟩ := own_shape' h.om
  obtain ⟨sa, sc, rfl⟩ := h.rs.shape
  have hP16 := h.hP16
  have hq16 := h.hq16
  have ee := h.hP
  rw [ee] at h ⊢
  have N0 := Lib.hid (((Nw.refl w).alloc (.cells #[.slice ma q mc, .slice sa P sc] 71 (0, 0))).alloc (.cells #[.slice none 0 0] 45 (0, 0)))
  have B0 := Lib.hid ((Has2.new w 71 (.slice ma q mc) (.slice sa P sc)).alloc (.cells #[.slice none 0 0] 45 (0, 0)))
  have D0 := Lib.hid (Has1.new (w.alloc (.cells #[.slice ma q mc, .slice sa P sc] 71 (0, 0))) 45 (.slice none 0 0))
  rw [show (w.alloc (.cells #[.slice ma q mc, .slice sa P sc] 71 (0, 0))).heap.size = w.heap.size + 1 from by simp] at D0
  have H := Lib.hid h
  have hsP : s < P := by have := (List.getElem?_eq_some_iff.1 hs).1; omega
  have heP : t < P := by have := (List.getElem?_eq_some_iff.1 he).1; omega
  have ds : decide (s < P) = true := by simp [hsP]
  have de : decide (t < P) = true := by simp [heP]
  have E := Lib.hid (And.intro ee (And.intro hs he))
  clear h ee hs he
  go_enter Try.func94, Try.ntmps94
  obtain ⟨b0, b1, b2, b3, b4⟩ := B0.out
  go_wp2_with fail
  refine (isRoom_ok ms rows q P b bs _ _ _ (H.out.nw N0.out)).mono ?_
  rintro e w1 ⟨rfl, n1⟩
  have B1 := Lib.hid (B0.out.nw n1)
  have D1 := Lib.hid (D0.out.nw n1)
  have N1 := Lib.hid (N0.out.trans n1)
  clear n1 b0 b1 b2 b3 b4
  obtain ⟨b0, b1, b2, b3, b4⟩ := B1.out
  go_wp2_with fail
  refine (isPlace_ok _ sa P sc s (by omega) (by omega) _).mono ?_
  rw [ds]
  rintro e w2 ⟨rfl, n2⟩
  have B2 := Lib.hid (B1.out.nw n2)
  have D2 := Lib.hid (D1.out.nw n2)
  have N2 := Lib.hid (N1.out.trans n2)
  clear n2 b0 b1 b2 b3 b4
  obtain ⟨b0, b1, b2, b3, b4⟩ := B2.out
  go_wp2_with fail
  refine (isPlace_ok _ sa P sc t (by omega) (by omega) _).mono ?_
  rw [de]
  rintro e w3 ⟨rfl, n3⟩
  have B3 := Lib.hid (B2.out.nw n3)
  have D3 := Lib.hid (D2.out.nw n3)
  have N3 := Lib.hid (N2.out.trans n3)
  have H3 := Lib.hid (H.out.nw N3.out)
  clear n3 b0 b1 b2 b3 b4
  obtain ⟨g, cap, ra, rc, hv, hcap, hmax, hgs, e1, own1⟩ := H3.out.rs.at E.out.1.symm E.out.2.1
  cases hv
  obtain ⟨g2, cap2, ta, tc, hv, hcap2, hmax2, hgs2, e2, own2⟩ := H3.out.rs.at E.out.1.symm E.out.2.2
  cases hv
  have O1 := Lib.hid own1
  have O2 := Lib.hid own2
  have L1 := Lib.hid (And.intro (H3.out.rs.lens rs (List.mem_of_getElem? E.out.2.1)) (H3.out.rs.lens re (List.mem_of_getElem? E.out.2.2)))
  have W1 := Lib.hid (And.intro (H3.out.wt rs (List.mem_of_getElem? E.out.2.1)) (H3.out.wt re (List.mem_of_getElem? E.out.2.2)))
  unfold maxLen at hmax hmax2
  clear own1 own2
  obtain ⟨b0, b1, b2, b3, b4⟩ := B3.out
  go_wp2_with fail
  refine wp_region_still_tail 10 (by kernel_rfl) (by kernel_rfl) ?_
  simp only [List.take_succ_cons, List.take_zero, List.drop_succ_cons, List.drop_zero]
  repeat still_step
  refine wpStill_nil ?_
  change wpList _ _ _ _ _ (w3.drewN 1)
  have N4 := Lib.hid (N3.out.draw 1)
  have B4 := Lib.hid (B3.out.draw 1)
  have D4 := Lib.hid (D3.out.draw 1)
  have M4' := Lib.hid (H3.out.nw ((Nw.refl w3).draw 1))
  have O1' := Lib.hid (own_nw O1.out ((Nw.refl w3).draw 1))
  have O2' := Lib.hid (own_nw O2.out ((Nw.refl w3).draw 1))
  clear b0 b1 b2 b3 b4 e1 e2
  generalize w3.drewN 1 = w4 at *
  go_wp2_with fail
  refine (multiplySamples_ok rs re q _ _ _ _ L1.out.1 L1.out.2 (by omega) _ O1'.out O2'.out W1.out.1 W1.out.2).mono ?_
  rintro e w5 ⟨v5, rfl, own5, n5⟩
  obtain ⟨pa, pc, rfl⟩ := own_shape' own5
  have O5 := Lib.hid own5
  have N5 := Lib.hid (N4.out.trans n5)
  have B5 := Lib.hid (B4.out.nw n5)
  have D5 := Lib.hid (D4.out.nw n5)
  have M5 := Lib.hid (M4'.out.nw n5)
  clear own5 n5
  obtain ⟨b0, b1, b2, b3, b4⟩ := B5.out
  have hwl := mulW_len rs re (L1.out.1.trans L1.out.2.symm)
  go_wp2_with fail
  refine (weighModes_ok ms M5.out.ok (mulW rs re) q b _ _ _ M5.out.hq (hwl.trans L1.out.1) hq16 (mulW_wt rs re W1.out.1 W1.out.2) _ M5.out.om O5.out).mono ?_
  rintro e w6 ⟨v6, rfl, own6, n6⟩
  obtain ⟨pa6, pc6, rfl⟩ := own_shape' own6
  have hl6 := weighL_len ms (mulW rs re) (by rw [hwl, L1.out.1, M5.out.hq])
  rw [hl6, M5.out.hq] at own6 ⊢
  have hl6' := hl6.trans M5.out.hq
  have N6 := Lib.hid ((N5.out.trans n6).alloc (.cells #[.slice pa6 q pc6] 45 (0, 0)))
  have O6 := Lib.hid (own6.alloc (.cells #[.slice pa6 q pc6] 45 (0, 0)))
  have D6 := Lib.hid ((D5.out.nw n6).alloc (.cells #[.slice pa6 q pc6] 45 (0, 0)))
  have E6 := Lib.hid (Has1.new w6 45 (.slice pa6 q pc6))
  have hs6 : w.heap.size + 2 ≤ w5.heap.size := by have := D5.out.1; omega
  clear own6 n6 b0 b1 b2 b3 b4
  obtain ⟨f0, f1, f2⟩ := E6.out
  go_wp2_with fail
  refine (implIsBody_ok (weighL ms (mulW rs re)) (weighL_ok ms _ M5.out.ok (mulW_wt rs re W1.out.1 W1.out.2)) q _ _ hl6' hq16 _ O6.out).mono ?_
  rintro e w7 ⟨rfl, n7⟩
  have N7 := Lib.hid (N6.out.trans n7)
  have O7 := Lib.hid (own_nw O6.out n7)
  have D7 := Lib.hid (D6.out.nw n7)
  have E7 := Lib.hid (E6.out.nw n7)
  clear n7 f0 f1 f2
  obtain ⟨f0, f1, f2⟩ := E7.out
  obtain ⟨d0, d1, d2⟩ := D7.out
  go_wp2_with fail
  exact bodyPost_ret (v := .tuple #[.agg #[.slice pa6 q pc6], .bool true]) (by simp [results, Try.results94, go_sem, d0, d1, d2]) rfl ⟨_, rfl, own_base (own_set O7.out (by show w.heap.size + 1 < w5.heap.size; omega) _) (by omega), N7.out.set (by show w.heap.size ≤ w.heap.size + 1; omega) _⟩

/-- .. and where a place is missing -/
theorem roomBody_no (ms : List M4) (rows : List (List Nat)) (q P b bs s t : Nat) (mv sv : Value) (w : World) (h : RoomV ms rows q P b bs mv sv w) (hs : s ≤ 64) (hsP : ¬ s < P) :
    Calls Try.prog 94 #[.agg #[mv, sv], .int .i64 (s : Int), .int .i64 (t : Int)] w fun e w' => e = .returned (.tuple #[.agg #[.slice none 0 0], .bool false]) ∧ Nw w w' := by
  obtain ⟨ma, mc, rfl⟩ := own_shape' h.om
  obtain ⟨sa, sc, rfl⟩ := h.rs.shape
  have hP16 := h.hP16
  have hq16 := h.hq16
  have ee := h.hP
  rw [ee] at h ⊢
  have N0 := Lib.hid (((Nw.refl w).alloc (.cells #[.slice ma q mc, .slice sa P sc] 71 (0, 0))).alloc (.cells #[.slice none 0 0] 45 (0, 0)))
  have B0 := Lib.hid ((Has2.new w 71 (.slice ma q mc) (.slice sa P sc)).alloc (.cells #[.slice none 0 0] 45 (0, 0)))
  have D0 := Lib.hid (Has1.new (w.alloc (.cells #[.slice ma q mc, .slice sa P sc] 71 (0, 0))) 45 (.slice none 0 0))
  rw [show (w.alloc (.cells #[.slice ma q mc, .slice sa P sc] 71 (0, 0))).heap.size = w.heap.size + 1 from by simp] at D0
  have H := Lib.hid h
  have ds : decide (s < P) = false := by simp [hsP]
  clear h ee
  go_enter Try.func94, Try.ntmps94
  obtain ⟨b0, b1, b2, b3, b4⟩ := B0.out
  go_wp2_with fail
  refine (isRoom_ok ms rows q P b bs _ _ _ (H.out.nw N0.out)).mono ?_
  rintro e w1 ⟨rfl, n1⟩
  have B1 := Lib.hid (B0.out.nw n1)
  have D1 := Lib.hid (D0.out.nw n1)
  have N1 := Lib.hid (N0.out.trans n1)
  clear n1 b0 b1 b2 b3 b4
  obtain ⟨b0, b1, b2, b3, b4⟩ := B1.out
  go_wp2_with fail
  refine (isPlace_ok _ sa P sc s (by omega) (by omega) _).mono ?_
  rw [ds]
  rintro e w2 ⟨rfl, n2⟩
  have D2 := Lib.hid (D1.out.nw n2)
  have N2 := Lib.hid (N1.out.trans n2)
  clear n2 b0 b1 b2 b3 b4
  obtain ⟨d0, d1, d2⟩ := D2.out
  go_wp2_with fail
  exact bodyPost_ret (v := .tuple #[.agg #[.slice none 0 0], .bool false]) (by simp [results, Try.results94, go_sem, d0, d1, d2]) rfl ⟨rfl, N2.out.set (by show w.heap.size ≤ w.heap.size + 1; omega) _⟩

/-! ### RingRoom -/
set_option maxRecDepth 100000 in
theorem ringRoom_ok (ms : List M4) (rows : List (List Nat)) (q P b bs s t p n bi : Nat) (rs re xs : List Nat) (mv sv iv : Value) (w : World) (h : RoomV ms rows q P b bs mv sv w) (hs : rows[s]? = some rs) (he : rows[t]? = some re)
    (hp : xs.length = p) (hxl : p ≤ 1048576) (hn : n ≤ 2000) (hi : w.ownsRow bi 49 1 iv p (cellsS xs)) (hok : RingOk (weighL ms (mulW rs re)) (inputOf xs) n) :
    Calls Try.prog 51 #[.agg #[mv, sv], .int .i64 (s : Int), .int .i64 (t : Int), iv, .int .i64 (n : Int)] w (RingP2 w.heap.size (ringS (weighL ms (mulW rs re)) (inputOf xs) n) n w) := by
  obtain ⟨ma, mc, rfl⟩ := own_shape' h.om
  obtain ⟨sa, sc, rfl⟩ := h.rs.shape
  obtain ⟨ia, ic, rfl⟩ := own_shape' hi
  have ee := h.hP
  have L1 := Lib.hid (And.intro (h.rs.lens rs (List.mem_of_getElem? hs)) (h.rs.lens re (List.mem_of_getElem? he)))
  have W1 := Lib.hid (mulW_wt rs re (h.wt rs (List.mem_of_getElem? hs)) (h.wt re (List.mem_of_getElem? he)))
  rw [ee] at h ⊢
  have N0 := Lib.hid ((Nw.refl w).alloc (.cells #[.slice ma q mc, .slice sa P sc] 71 (0, 0)))
  have B0 := Lib.hid (Has2.new w 71 (.slice ma q mc) (.slice sa P sc))
  have H := Lib.hid (h.nw N0.out)
  have I0 := Lib.hid (own_nw hi N0.out)
  have Hs := Lib.hid (And.intro hs (And.intro he (And.intro hp hok)))
  have hl6 : (weighL ms (mulW rs re)).length = q := by rw [weighL_len ms (mulW rs re) (by rw [mulW_len rs re (L1.out.1.trans L1.out.2.symm), L1.out.1, h.hq]), h.hq]
  have Hl := Lib.hid hl6
  have hq16 := h.hq16
  clear h hs he hp hok hi hl6 ee
  go_enter Try.func51, Try.ntmps51
  obtain ⟨b0, b1, b2, b3, b4⟩ := B0.out
  go_wp2_with fail
  refine (roomBody_ok ms rows q P b bs s t rs re _ _ _ H.out Hs.out.1 Hs.out.2.1).mono ?_
  rintro e w1 ⟨v1, rfl, own1, n1⟩
  obtain ⟨va, vc, rfl⟩ := own_shape' own1
  have N1 := Lib.hid ((N0.out.trans n1).alloc (.cells #[.slice va q vc] 45 (0, 0)))
  have O1 := Lib.hid (own1.alloc (.cells #[.slice va q vc] 45 (0, 0)))
  have I1 := Lib.hid ((own_nw I0.out n1).alloc (.cells #[.slice va q vc] 45 (0, 0)))
  have E1 := Lib.hid (Has1.new w1 45 (.slice va q vc))
  clear own1 n1 b0 b1 b2 b3 b4
  obtain ⟨f0, f1, f2⟩ := E1.out
  go_wp2_with fail
  refine (ringBody_some' (weighL ms (mulW rs re)) (weighL_ok ms _ H.out.ok W1.out) xs n q p _ _ _ _ Hl.out hq16 Hs.out.2.2.1 hxl hn _ O1.out I1.out Hs.out.2.2.2).mono ?_
  rintro e w2 ⟨g2, rfl, own2, n2⟩
  have N2 := Lib.hid (N1.out.trans n2)
  have O2 := Lib.hid (own_base own2 N1.out.size)
  clear own2 n2
  go_wp2_with fail
  go_ret2
  exact ⟨g2, rfl, O2.out, N2.out⟩

theorem ringRoom_no (ms : List M4) (rows : List (List Nat)) (q P b bs s t : Nat) (mv sv iv nv : Value) (w : World) (h : RoomV ms rows q P b bs mv sv w) (hs : s ≤ 64) (hsP : ¬ s < P) :
    Calls Try.prog 51 #[.agg #[mv, sv], .int .i64 (s : Int), .int .i64 (t : Int), iv, nv] w fun e w' => e = .returned (.tuple #[.slice none 0 0, .bool false]) ∧ Nw w w' := by
  obtain ⟨ma, mc, rfl⟩ := own_shape' h.om
  obtain ⟨sa, sc, rfl⟩ := h.rs.shape
  have ee := h.hP
  rw [ee] at h ⊢
  have N0 := Lib.hid ((Nw.refl w).alloc (.cells #[.slice ma q mc, .slice sa P sc] 71 (0, 0)))
  have B0 := Lib.hid (Has2.new w 71 (.slice ma q mc) (.slice sa P sc))
  have H := Lib.hid (h.nw N0.out)
  clear h ee
  go_enter Try.func51, Try.ntmps51
  obtain ⟨b0, b1, b2, b3, b4⟩ := B0.out
  go_wp2_with fail
  refine (roomBody_no ms rows q P b bs s t _ _ _ H.out hs hsP).mono ?_
  rintro e w1 ⟨rfl, n1⟩
  have N1 := Lib.hid ((N0.out.trans n1).alloc (.cells #[.slice none 0 0] 45 (0, 0)))
  clear n1
  go_wp2_with fail
  go_ret2
  exact ⟨rfl, N1.out⟩
end Go.Proofs.Ytfgofmcpgfofaaa

/- What a proof of a law over one slice of bytes begins with: the argument, opened.
   Conditions: those that each statement names. -/
namespace Go.Proofs.Ytfgofmcpgfofaaa
open Go Go.ChangeShapes Go.WideShapes Go.ChangeAt Go.RowKit

theorem own : ownKnob Try.prog.godebug = none := by kernel_rfl
theorem laidOut : laidOutB Try.prog = true := by kernel_rfl

/-- WHAT THE WALK IS TOLD OF A SLICE OF INTEGERS THAT CAME IN: it is nil; or it leads to a row of 'cap' cells, the numbers 'zs' (the first 'len' are its elements, the rest its spare room), each fitting its kind. -/
def IsRow (k : IntKind) (w : World) (a : Option Addr) (len cap : Nat) (zs : List Int) : Prop :=
  (a = none ∧ len = 0 ∧ cap = 0 ∧ zs = []) ∨
  ∃ x, a = some x ∧ len ≤ cap ∧ cap ≤ maxLen ∧ zs.length = cap ∧ (∀ i, i < zs.length → w.cell? (x.add i) = some (.int k (zs.getD i 0))) ∧ ∀ n ∈ zs, (Lit.int k n).wf = true


theorem cell_lt {w : World} {p : Addr} {v : Value} (h : w.cell? p = some v) : p.block < w.heap.size ∧ p.spot = none := by
  unfold World.cell? at h
  split at h
  · rename_i c _ _ hb
    have hs : p.spot.isSome = false := by
      cases hp : p.spot.isSome
      · rfl
      · rw [hp] at h; simp at h
    refine ⟨?_, by simpa using hs⟩
    rcases Nat.lt_or_ge p.block w.heap.size with g | g
    · exact g
    · rw [Array.getElem?_eq_none g] at hb; cases hb
  · cases h

theorem bys_of_row {w : World} {a : Option Addr} {len cap : Nat} {zs : List Int} (h : IsRow .u8 w a len cap zs) (hl : len ≤ 140737488351232) : Bys w.heap.size a len w := by
  refine ⟨hl, ?_⟩
  rcases h with ⟨rfl, rfl, _, _⟩ | ⟨x, rfl, hlc, hcm, hz, hcell, hwf⟩
  · exact .inl rfl
  · by_cases h0 : len = 0
    · exact .inl h0
    · right
      have c0 := hcell 0 (by omega)
      have e0 : x.add 0 = x := by unfold Addr.add; rw [if_pos rfl]
      rw [e0] at c0
      obtain ⟨hb, hs⟩ := cell_lt c0
      refine ⟨x.block, x.off, by cases x; simp at hs; subst hs; rfl, hb, fun k hk => ?_⟩
      have hc := hcell k (by omega)
      have hmem : zs.getD k 0 ∈ zs := by
        rw [List.getD_eq_getElem?_getD, List.getElem?_eq_getElem (by omega), Option.getD_some]
        exact List.getElem_mem _
      have hw := hwf _ hmem
      have hadd : x.add k = ⟨x.block, x.off + k, none⟩ := by
        unfold Addr.add; split
        · rename_i h0; subst h0; cases x; simp at hs; subst hs; rfl
        · rfl
      rw [hadd] at hc
      generalize zs.getD k 0 = z at hw hc
      have hz2 : 0 ≤ z ∧ z ≤ 255 := by simpa [Lit.wf, IntKind.min, IntKind.max, IntKind.signed, IntKind.bits, Int.le_sub_one_iff] using hw
      exact ⟨z.toNat, by omega, by rw [hc]; congr 2; omega⟩

end Go.Proofs.Ytfgofmcpgfofaaa

/- An argument that is a slice of samples, opened; the walks of sameFloat, toFloat32S and eqFloat32S.
   Conditions: those that each statement names. -/
namespace Go.Proofs.Ytfgofmcpgfofaaa
open Go Go.ChangeShapes Go.WideShapes Go.ChangeAt Go.RowKit

theorem trod_float {H : Type} {enc : TypeId × Value → H} {P : Program} {w : World} {base : Nat} {spare : Nat → Bool} {held : Bool} {fuel : Nat} {t : TypeId} {cs : List Value} {x : DataW H × List MemPlace} {k : FloatKind}
    (ht : P.underlying t = some (.float k)) (h : DataW.trod enc P w base spare held fuel t cs = some x) : ∃ n, cs = [.float k n] ∧ (Lit.float k n).wf = true := by
  cases fuel with
  | zero => simp [DataW.trod] at h
  | succ n =>
    unfold DataW.trod at h
    rw [ht] at h
    split at h <;> simp_all
theorem open_floats {H : Type} {enc : TypeId × Value → H} {P : Program} {w : World} {base : Nat} {spare : Nat → Bool} {held : Bool} {fuel : Nat} {t e : TypeId} {cs : List Value} {x : DataW H × List MemPlace} {k : FloatKind}
    (ht : P.underlying t = some (.slice e)) (he : P.underlying e = some (.float k)) (hc : P.cellsOf e = 1) (h : DataW.trod enc P w base spare held fuel t cs = some x) :
    cs = [.slice none 0 0] ∨ ∃ (a : Addr) (len cap : Nat), cs = [.slice (some a) len cap] ∧ len ≤ cap ∧ cap ≤ maxLen ∧ ∀ i, i < len → ∃ b, w.cell? (a.add i) = some (.float k b) ∧ (Lit.float k b).wf = true := by
  rcases DataW.trod_slice ht h with ⟨h0, _⟩ | ⟨a, len, cap, elems, rest, n, _, rfl, rfl, hb, hl, hm, hlen, hel, hsp, hns⟩
  · exact .inl h0
  · refine .inr ⟨a, len, cap, rfl, hl, hm, fun i hi => ?_⟩
    have h1 := hel i hi
    rw [List.getElem?_eq_getElem (by omega), hc, Nat.mul_one, Option.bind_eq_some_iff] at h1
    obtain ⟨cs', hcs, hy'⟩ := h1
    obtain ⟨m, rfl, hw⟩ := trod_float he hy'
    exact ⟨m, cell_of_cells?_one hcs, hw⟩

/-- WHAT THE WALK IS TOLD OF A SLICE OF SAMPLES: its numbers, below the block B -/
def Fls (B : Nat) (a : Option Addr) (len : Nat) (zs : List Nat) (w : World) : Prop :=
  zs.length = len ∧ (∀ z ∈ zs, z < 2 ^ 32) ∧ (len = 0 ∨ ∃ b o, a = some ⟨b, o, none⟩ ∧ b < B ∧ ∀ (k : Nat) x, zs[k]? = some x → w.cell? ⟨b, o + k, none⟩ = some (.float .f32 x))
theorem Fls.nw {B : Nat} {a : Option Addr} {len : Nat} {zs : List Nat} {w w' : World} (h : Fls B a len zs w) (hB : B ≤ w.heap.size) (hn : Nw w w') : Fls B a len zs w' := by
  obtain ⟨h1, h2, h3⟩ := h
  refine ⟨h1, h2, ?_⟩
  rcases h3 with h0 | ⟨b, o, rfl, hb, hc⟩
  · exact .inl h0
  · exact .inr ⟨b, o, rfl, hb, fun k x hx => by rw [hn.cell (by show b < w.heap.size; omega)]; exact hc k x hx⟩
theorem Fls.at {B : Nat} {a : Option Addr} {len : Nat} {zs : List Nat} {w : World} (h : Fls B a len zs w) {k x : Nat} (hx : zs[k]? = some x) :
    ∃ b o, a = some ⟨b, o, none⟩ ∧ b < B ∧ w.cell? ⟨b, o + k, none⟩ = some (.float .f32 x) := by
  obtain ⟨h1, h2, h3⟩ := h
  have := (List.getElem?_eq_some_iff.1 hx).1
  rcases h3 with h0 | ⟨b, o, rfl, hb, hc⟩
  · omega
  · exact ⟨b, o, rfl, hb, hc k x hx⟩
theorem fls_of {w : World} {a : Addr} {len : Nat} (h : ∀ i, i < len → ∃ b, w.cell? (a.add i) = some (.float .f32 b) ∧ (Lit.float .f32 b).wf = true) : ∃ zs, Fls w.heap.size (some a) len zs w := by
  have hz : ∀ n, n ≤ len → ∃ zs : List Nat, zs.length = n ∧ ∀ (k : Nat) x, zs[k]? = some x → w.cell? (a.add k) = some (.float .f32 x) ∧ x < 2 ^ 32 := by
    intro n
    induction n with
    | zero => intro _; exact ⟨[], rfl, fun k x hx => by simp at hx⟩
    | succ n ih =>
      intro hn
      obtain ⟨zs, hl, hk⟩ := ih (by omega)
      obtain ⟨b, hb, hw⟩ := h n (by omega)
      refine ⟨zs ++ [b], by simp [hl], fun k x hx => ?_⟩
      by_cases hkn : k < n
      · exact hk k x (by rwa [List.getElem?_append_left (by omega)] at hx)
      · rw [List.getElem?_append_right (by omega)] at hx
        have hk0 : k - zs.length = 0 := by
          have := (List.getElem?_eq_some_iff.1 hx).1
          simp at this; omega
        rw [hk0] at hx
        simp at hx
        subst hx
        obtain rfl : k = n := by omega
        exact ⟨hb, by simpa [Lit.wf] using hw⟩
  obtain ⟨zs, hl, hk⟩ := hz len (Nat.le_refl _)
  refine ⟨zs, hl, fun z hz => ?_, ?_⟩
  · obtain ⟨i, hi⟩ := List.getElem?_of_mem hz
    exact (hk i z hi).2
  · by_cases h0 : len = 0
    · exact .inl h0
    · right
      obtain ⟨b, hb, -⟩ := h 0 (by omega)
      have e0 : a.add 0 = a := by unfold Addr.add; rw [if_pos rfl]
      rw [e0] at hb
      obtain ⟨h1, h2⟩ := cell_lt hb
      refine ⟨a.block, a.off, by cases a; simp at h2; subst h2; rfl, h1, fun k x hx => ?_⟩
      have := (hk k x hx).1
      have hadd : a.add k = ⟨a.block, a.off + k, none⟩ := by
        unfold Addr.add; split
        · rename_i h0; subst h0; cases a; simp at h2; subst h2; rfl
        · rfl
      rwa [hadd] at this

/-! ### sameFloat -/
theorem one_quoF (a : Nat) (h : nan64 a = false) : ∃ r, floatBits .quo .f64 4607182418800017408 a = some r := by
  have h1 : Ieee.double.read 4607182418800017408 = .number false 4503599627370496 (-52) := by decide
  have h : (Ieee.double.read a).isNaN = false := h
  show ∃ r, Ieee.double.div 4607182418800017408 a = some r
  unfold Ieee.Format.div
  rw [h1]
  cases hd : Ieee.double.read a with
  | number s m p => by_cases hm : m = 0 <;> simp [Ieee.Datum.quotient, hm]
  | infinity s => exact ⟨_, rfl⟩
  | nan s f => rw [hd] at h; simp [Ieee.Datum.isNaN] at h

theorem sameFloat_any (a b : Nat) (w : World) :
    Calls Try.prog 58 #[.float .f64 a, .float .f64 b] w fun e w' => e = .returned (.bool (sameF a b)) ∧ w = w' := by
  have o1 := order_self .f64 a
  have o2 := order_self .f64 b
  cases ha : nan64 a
  all_goals cases hb : nan64 b
  all_goals rw [show (FloatKind.f64.decode a).isNaN = _ from ha] at o1; rw [show (FloatKind.f64.decode b).isNaN = _ from hb] at o2
  case false.false =>
    obtain ⟨r, hr⟩ := one_quoF a ha
    obtain ⟨s, hs⟩ := one_quoF b hb
    have r1 : ∀ w, fres w .quo .f64 4607182418800017408 a = r := fun w => by unfold fres; rw [hr]
    have r2 : ∀ w, fres w .quo .f64 4607182418800017408 b = s := fun w => by unfold fres; rw [hs]
    have d1 : fdr .quo .f64 4607182418800017408 a = 0 := by unfold fdr; rw [hr]; rfl
    have d2 : fdr .quo .f64 4607182418800017408 b = 0 := by unfold fdr; rw [hs]; rfl
    go_enter Try.func58, Try.ntmps58
    go_wp2
    all_goals (go_ret; refine ⟨by simp_all [sameF], ?_⟩; first | rfl | (exfalso; simp_all))
  all_goals
    go_enter Try.func58, Try.ntmps58
    go_wp2
    all_goals (go_ret; refine ⟨by simp_all [sameF], ?_⟩; first | rfl | (exfalso; simp_all))

def fillF (zs : List Nat) (n k : Nat) : List Nat := zs.take k ++ List.replicate (n - k) 0
theorem fillF_zero (zs : List Nat) (n : Nat) : fillF zs n 0 = List.replicate n 0 := by simp [fillF]
theorem fillF_full (zs : List Nat) (n : Nat) (h : zs.length = n) : fillF zs n n = zs := by subst h; simp [fillF]
theorem fillF_set (zs : List Nat) (n k x : Nat) (hx : zs[k]? = some x) (hl : zs.length = n) : (cellsS (fillF zs n k)).set k (.float .f32 x) = cellsS (fillF zs n (k + 1)) := by
  obtain ⟨h, he⟩ := List.getElem?_eq_some_iff.1 hx
  unfold fillF
  rw [List.take_succ_eq_append_getElem h, he, show n - k = (n - (k + 1)) + 1 from by omega, List.replicate_succ]
  simp only [cellsS, List.map_append, List.map_cons, List.map_nil, List.append_assoc, List.singleton_append]
  rw [List.set_append_right _ _ (by simp; omega)]
  simp [Nat.min_eq_left (Nat.le_of_lt h)]
theorem fillF_cell (zs : List Nat) (n k : Nat) (h : k < n) (hl : zs.length = n) : (cellsS (fillF zs n k))[k]? = some (.float .f32 0) := by
  unfold fillF cellsS
  rw [List.getElem?_map, List.getElem?_append_right (by simp; omega)]
  simp [List.getElem?_replicate]
  omega

def CopyI (B g n : Nat) (zs : List Nat) (w : World) (i : Value) (wr : World) : Prop :=
  ∃ k : Nat, k ≤ n ∧ i = .int .i64 (k : Int) ∧ wr.ownsRow B 49 1 (.slice (some ⟨g, 0, none⟩) n n) n (cellsS (fillF zs n k)) ∧ Nw w wr
def CopyP (zs : List Nat) (n : Nat) (w : World) (e : Ending) (w' : World) : Prop :=
  ∃ g : Nat, e = .returned (.slice (some ⟨g, 0, none⟩) n n) ∧ w'.ownsRow w.heap.size 49 1 (.slice (some ⟨g, 0, none⟩) n n) n (cellsS zs) ∧ Nw w w'

set_option maxRecDepth 100000 in
theorem toFloat32S_ok (B : Nat) (a : Option Addr) (n cap : Nat) (zs : List Nat) (hn : n ≤ 1048576) (w : World) (hB : B ≤ w.heap.size) (hf : Fls B a n zs w) :
    Calls Try.prog 60 #[.slice a n cap] w (CopyP zs n w) := by
  obtain ⟨f0, hf0, hfz0, hfz1, hfz2⟩ := info_parts info_f32
  have Hf := Lib.hid hf
  clear hf
  go_enter Try.func60, Try.ntmps60
  go_wp2_with (first
    | (at_make; refine wpList_make_full _ rfl _ _ 47 rfl w.heap.size 49 f0 (.float .f32 0) 1 Try.underlying47 hf0 hfz0 hfz1 _ _ _ _ n rfl rfl rfl rfl (by rw [hfz2]; omega) (by unfold maxLen; omega) (Nat.le_refl _) ?_))
  intro w3 hown3 hgrow3
  have O3 := Lib.hid (show w3.ownsRow w.heap.size 49 1 (.slice (some ⟨w.heap.size, 0, none⟩) n n) n (cellsS (fillF zs n 0)) from by
    rw [toList_madeCells_one] at hown3
    rw [fillF_zero]
    simpa [cellsS] using hown3)
  have N3 := Lib.hid (show Nw w w3 from hgrow3)
  clear hown3 hgrow3
  go_wp2_with fail
  go_loopw [4] (fun i wr => CopyI w.heap.size w.heap.size n zs w i wr) (fun i _ => n - (intOf i).toNat)
  case atStart => exact ⟨0, by omega, rfl, O3.out, N3.out⟩
  case round =>
    obtain ⟨k, hk, rfl, how, hnw⟩ := hrel
    have Ow := Lib.hid how
    have Nr := Lib.hid hnw
    clear how hnw
    by_cases hlt : k < n
    · obtain ⟨x, hxk⟩ : ∃ x, zs[k]? = some x := ⟨zs[k]'(by rw [Hf.out.1]; exact hlt), List.getElem?_eq_getElem _⟩
      obtain ⟨b, o, rfl, hbB, e0⟩ := (Hf.out.nw hB Nr.out).at hxk
      have e1 := Ow.out.cellAt k (by omega)
      rw [fillF_cell zs n k hlt Hf.out.1] at e1
      have e2 := Ow.out.frozenAt k
      have hset := Ow.out.stored k (.float .f32 x)
      rw [fillF_set zs n k x hxk Hf.out.1] at hset
      have F := Lib.hid hset.1
      have N2 := Lib.hid (Nr.out.set (p := ⟨w.heap.size, k, none⟩) (by show w.heap.size ≤ w.heap.size; omega) (.float .f32 x))
      clear hset hxk
      go_wp2_with fail
      go_roundw
      case rel => exact ⟨k + 1, by omega, by rw [show ((k + 1 : Nat) : Int) = (k : Int) + 1 from by omega], F.out, N2.out⟩
      case measure => simp only [intOf]; omega
    · obtain rfl : k = n := by omega
      go_wp2_with fail
      go_ret
      exact ⟨_, rfl, by have h := Ow.out; rw [fillF_full zs _ Hf.out.1] at h; exact h, Nr.out⟩

theorem widen_sameF (x : Nat) (w1 w2 : World) : sameF (fcv w1 .f32 x .f64) (fcv w2 .f32 x .f64) = true :=
  sameF_fab (by rw [fab_wide, fab_wide])
def CountI (n : Nat) (w : World) (i : Value) (wr : World) : Prop := ∃ k : Nat, k ≤ n ∧ i = .int .i64 (k : Int) ∧ Nw w wr

set_option maxHeartbeats 6400000 in
set_option maxRecDepth 100000 in
theorem eqFloat32S_ok (zs : List Nat) (n b1 b2 : Nat) (v u : Value) (hl : zs.length = n) (hn : n ≤ 1048576) (w : World) (h1 : w.ownsRow b1 49 1 v n (cellsS zs)) (h2 : w.ownsRow b2 49 1 u n (cellsS zs)) :
    Calls Try.prog 54 #[v, u] w fun e w' => e = .returned (.bool true) ∧ Nw w w' := by
  obtain ⟨va, vc, rfl⟩ := own_shape' h1
  obtain ⟨ua, uc, rfl⟩ := own_shape' h2
  have H1 := Lib.hid h1
  have H2 := Lib.hid h2
  have Hl := Lib.hid hl
  clear h1 h2 hl
  go_enter Try.func54, Try.ntmps54
  go_wp2_with fail
  go_loopw [5] (fun i wr => CountI n w i wr) (fun i _ => n - (intOf i).toNat)
  case atStart => exact ⟨0, by omega, rfl, Nw.refl _⟩
  case round =>
    obtain ⟨k, hk, rfl, hN⟩ := hrel
    have Nr := Lib.hid hN
    clear hN
    by_cases hlt : k < n
    · obtain ⟨x, hxk⟩ : ∃ x, zs[k]? = some x := ⟨zs[k]'(by rw [Hl.out]; exact hlt), List.getElem?_eq_getElem _⟩
      obtain ⟨g1, cap1, hv1, hcap1, hmax1, -, e1⟩ := own_sample (own_nw H1.out Nr.out) hxk Hl.out.symm
      obtain ⟨g2, cap2, hv2, hcap2, hmax2, -, e2⟩ := own_sample (own_nw H2.out Nr.out) hxk Hl.out.symm
      cases hv1
      cases hv2
      unfold maxLen at hmax1 hmax2
      clear hxk
      go_upto_region 6 with fail
      go_region_with (first | (go_at_call 58; refine (sameFloat_any _ _ _).mono ?_; rintro e w5 ⟨rfl, rfl⟩; rw [widen_sameF]))
      all_goals
        go_wp2_with fail
        go_roundw
        case rel => exact ⟨k + 1, by omega, by rw [show ((k + 1 : Nat) : Int) = (k : Int) + 1 from by omega], Nr.out.trans ⟨rfl, rfl, rfl, Nat.le_refl _, fun _ _ _ => rfl⟩⟩
        case measure => simp only [intOf]; omega
    · obtain rfl : k = n := by omega
      go_wp2_with fail
      go_ret
      exact ⟨rfl, Nr.out⟩

end Go.Proofs.Ytfgofmcpgfofaaa

/- The walks of EnergyOf, the program's and the model's: the sum of the squares, but for the bits of NaN; of finite samples it is a number.
   Conditions: those that each statement names. -/
namespace Go.Proofs.Ytfgofmcpgfofaaa
open Go Go.RowKit

/-- the sum of the squares, but for the bits of NaN -/
def enA (zs : List Nat) : Option Nat := zs.foldl (fun s x => fA .add .f64 s (fA .mul .f64 (wA x) (wA x))) (fab .f64 0)
theorem enA_take (zs : List Nat) (k x : Nat) (h : zs[k]? = some x) : enA (zs.take (k + 1)) = fA .add .f64 (enA (zs.take k)) (fA .mul .f64 (wA x) (wA x)) := by
  obtain ⟨hk, he⟩ := List.getElem?_eq_some_iff.1 h
  unfold enA
  rw [List.take_succ_eq_append_getElem hk, List.foldl_append, he]; rfl

def EnI (zs : List Nat) (n : Nat) (w : World) (y i : Value) (wr : World) : Prop :=
  ∃ k s : Nat, k ≤ n ∧ i = .int .i64 (k : Int) ∧ y = .float .f64 s ∧ fab .f64 s = enA (zs.take k) ∧ Nw w wr
def EnP (zs : List Nat) (w : World) (e : Ending) (w' : World) : Prop := ∃ s, e = .returned (.float .f64 s) ∧ fab .f64 s = enA zs ∧ Nw w w'

theorem implEnergy_ok (zs : List Nat) (n b : Nat) (v : Value) (hl : zs.length = n) (hn : n ≤ 1048576) (w : World) (h : w.ownsRow b 49 1 v n (cellsS zs)) :
    Calls Try.prog 52 #[v] w (EnP zs w) := by
  obtain ⟨va, vc, rfl⟩ := own_shape' h
  have H := Lib.hid h
  have Hl := Lib.hid hl
  clear h hl
  go_enter Try.func52, Try.ntmps52
  go_wp2_with fail
  go_loopw [3, 8] (fun y i wr => EnI zs n w y i wr) (fun _ i _ => n - (intOf i).toNat)
  case atStart => exact ⟨0, 0, by omega, rfl, rfl, rfl, Nw.refl _⟩
  case round =>
    obtain ⟨k, s, hk, rfl, rfl, hs, hN⟩ := hrel
    have Hs := Lib.hid hs
    have Nr := Lib.hid hN
    clear hs hN
    by_cases hlt : k < n
    · obtain ⟨x, hxk⟩ : ∃ x, zs[k]? = some x := ⟨zs[k]'(by rw [Hl.out]; exact hlt), List.getElem?_eq_getElem _⟩
      obtain ⟨g1, cap1, hv1, hcap1, hmax1, -, e1⟩ := own_sample (own_nw H.out Nr.out) hxk Hl.out.symm
      cases hv1
      unfold maxLen at hmax1
      have Hxk := Lib.hid hxk
      clear hxk
      go_wp2_with fail
      go_roundw
      case rel => exact ⟨k + 1, _, by omega, by rw [show ((k + 1 : Nat) : Int) = (k : Int) + 1 from by omega], rfl, by rw [enA_take zs k x Hxk.out, ← Hs.out, fab_fres, fab_fres, fab_wide, fab_wide], Nr.out.trans ⟨rfl, rfl, rfl, Nat.le_refl _, fun _ _ _ => rfl⟩⟩
      case measure => simp only [intOf]; omega
    · obtain rfl : k = n := by omega
      go_wp2_with fail
      go_ret
      exact ⟨s, rfl, by have h := Hs.out; rwa [List.take_of_length_le (by rw [Hl.out]; exact Nat.le_refl _)] at h, Nr.out⟩

theorem specEnergy_ok (zs : List Nat) (n b : Nat) (v : Value) (hl : zs.length = n) (hn : n ≤ 1048576) (w : World) (h : w.ownsRow b 49 1 v n (cellsS zs)) :
    Calls Try.prog 59 #[v] w (EnP zs w) := by
  obtain ⟨va, vc, rfl⟩ := own_shape' h
  have H := Lib.hid h
  have Hl := Lib.hid hl
  clear h hl
  go_enter Try.func59, Try.ntmps59
  go_wp2_with fail
  go_loopw [3, 8] (fun y i wr => EnI zs n w y i wr) (fun _ i _ => n - (intOf i).toNat)
  case atStart => exact ⟨0, 0, by omega, rfl, rfl, rfl, Nw.refl _⟩
  case round =>
    obtain ⟨k, s, hk, rfl, rfl, hs, hN⟩ := hrel
    have Hs := Lib.hid hs
    have Nr := Lib.hid hN
    clear hs hN
    by_cases hlt : k < n
    · obtain ⟨x, hxk⟩ : ∃ x, zs[k]? = some x := ⟨zs[k]'(by rw [Hl.out]; exact hlt), List.getElem?_eq_getElem _⟩
      obtain ⟨g1, cap1, hv1, hcap1, hmax1, -, e1⟩ := own_sample (own_nw H.out Nr.out) hxk Hl.out.symm
      cases hv1
      unfold maxLen at hmax1
      have Hxk := Lib.hid hxk
      clear hxk
      go_wp2_with fail
      go_roundw
      case rel => exact ⟨k + 1, _, by omega, by rw [show ((k + 1 : Nat) : Int) = (k : Int) + 1 from by omega], rfl, by rw [enA_take zs k x Hxk.out, ← Hs.out, fab_fres, fab_fres, fab_wide, fab_wide], Nr.out.trans ⟨rfl, rfl, rfl, Nat.le_refl _, fun _ _ _ => rfl⟩⟩
      case measure => simp only [intOf]; omega
    · obtain rfl : k = n := by omega
      go_wp2_with fail
      go_ret
      exact ⟨s, rfl, by have h := Hs.out; rwa [List.take_of_length_le (by rw [Hl.out]; exact Nat.le_refl _)] at h, Nr.out⟩

end Go.Proofs.Ytfgofmcpgfofaaa

/- The energy of finite samples is a number: plain facts, and the walk of EnergyOf that says its bits.
   Conditions: those that each statement names. -/
namespace Go.Proofs.Ytfgofmcpgfofaaa
open Go Go.RowKit

/-! ### the energy of finite samples is a number -/
def enB : Rat := Flo.pw 260
theorem en_step (s x : Nat) (k : Nat) (hk : k ≤ 1000) (hs : Flo.Nm s) (hb : Flo.Ab (Flo.W s) ((k : Rat) * enB)) (hx : Sm x) :
    ∃ r, fA .add .f64 (some s) (fA .mul .f64 (wA x) (wA x)) = some r ∧ Flo.Nm r ∧ Flo.Ab (Flo.W r) (((k + 1 : Nat) : Rat) * enB) := by
  obtain ⟨n, v⟩ := wid_num hx
  have hwa : wA x = some (wid x) := by unfold wA; rw [show nan32 x = false from by obtain ⟨s, m, p, h⟩ := hx; unfold nan32; rw [show FloatKind.f32.decode x = _ from h]; rfl]; rfl
  have a := single_abs hx
  have hm := a.mul a
  have e256 : Flo.pw 128 * Flo.pw 128 = Flo.pw 256 := by rw [← Flo.pw_add]; rfl
  rw [e256, ← v] at hm
  have l1 : Flo.pw 256 < Flo.pw 1023 := Flo.pw_lt (by omega)
  have l2 : Flo.pw 260 = 16 * Flo.pw 256 := by rw [show (260 : Int) = 4 + 256 from rfl, Flo.pw_add, show Flo.pw 4 = 16 from Flo.pw_nat 4]
  have l3 : Flo.pw 280 < Flo.pw 1023 := Flo.pw_lt (by omega)
  have l4 : Flo.pw 280 = 1048576 * Flo.pw 260 := by rw [show (280 : Int) = 20 + 260 from rfl, Flo.pw_add, show Flo.pw 20 = 1048576 from Flo.pw_nat 20]
  have p0 : 1 ≤ Flo.pw 256 := by rw [← Flo.pw_zero]; exact Flo.pw_le (by omega)
  have u1 := Flo.u_le
  have u0 := Flo.u_pos
  have e0 := Flo.et_pos
  have eu : Flo.et ≤ Flo.u := Flo.pw_le (by omega)
  obtain ⟨r1, q1, q2, q3⟩ := Flo.d_mul (wid x) (wid x) n n _ hm l1
  have k0 : (0 : Rat) ≤ (k : Rat) := by exact_mod_cast Nat.zero_le k
  have k1 : (k : Rat) ≤ 1000 := by
    have : ((k : Nat) : Rat) ≤ ((1000 : Nat) : Rat) := by exact_mod_cast hk
    exact this
  have u2 : Flo.u ≤ 1 / 1048576 := by grind
  have hP := Rat.mul_le_mul_of_nonneg_left u2 (show (0 : Rat) ≤ Flo.pw 256 by grind)
  have hr1 : Flo.Ab (Flo.W r1) (2 * Flo.pw 256) := ((q3.add hm).eq (by grind)).mono (by grind)
  have hsum : Flo.Ab (Flo.W s + Flo.W r1) ((k : Rat) * enB + 2 * Flo.pw 256) := hb.add hr1
  have hkb : (k : Rat) * enB ≤ 1000 * enB := Rat.mul_le_mul_of_nonneg_right k1 (by unfold enB; grind)
  unfold enB at *
  obtain ⟨r2, t1, t2, t3⟩ := Flo.d_add s r1 hs q2 _ hsum (by grind)
  refine ⟨r2, ?_, t2, ?_⟩
  · rw [hwa]
    show fA .add .f64 (some s) (floatBits .mul .f64 (wid x) (wid x)) = _
    rw [q1]
    exact t1
  · have hB : 0 ≤ (k : Rat) * Flo.pw 260 + 2 * Flo.pw 256 := hsum.nonneg
    have hu := Rat.mul_le_mul_of_nonneg_left u2 hB
    have e1 : ((k + 1 : Nat) : Rat) = (k : Rat) + 1 := by push_cast; rfl
    rw [e1]
    refine ((t3.add hsum).eq (by grind)).mono ?_
    grind
theorem en_fold : ∀ (zs : List Nat) (s k : Nat), k + zs.length ≤ 1000 → Flo.Nm s → Flo.Ab (Flo.W s) ((k : Rat) * enB) → (∀ x ∈ zs, Sm x) → ∃ r, zs.foldl (fun s x => fA .add .f64 s (fA .mul .f64 (wA x) (wA x))) (some s) = some r ∧ Flo.Nm r
  | [], s, k, _, hs, _, _ => ⟨s, rfl, hs⟩
  | x :: zs, s, k, hk, hs, hb, hx => by
    simp only [List.length_cons] at hk
    obtain ⟨r, h1, h2, h3⟩ := en_step s x k (by omega) hs hb (hx x (List.mem_cons_self ..))
    rw [List.foldl_cons, h1]
    exact en_fold zs r (k + 1) (by omega) h2 h3 (fun y hy => hx y (List.mem_cons_of_mem _ hy))
theorem zero_double : Flo.Nm 0 ∧ Flo.W 0 = 0 := by
  have h : Ieee.double.read 0 = .number false 0 (-1074) := by decide
  refine ⟨⟨_, _, _, h⟩, ?_⟩
  rw [show Flo.W 0 = _ from Flo.V_eq h, Flo.val_zero]
/-- the energy's bits -/
def enN (zs : List Nat) : Nat := (enA zs).getD 0
theorem en_num (zs : List Nat) (hl : zs.length ≤ 1000) (hx : ∀ x ∈ zs, Sm x) : enA zs = some (enN zs) ∧ Flo.Nm (enN zs) := by
  have h0 : fab .f64 0 = some 0 := fab_some (by decide)
  obtain ⟨r, h1, h2⟩ := en_fold zs 0 0 (by omega) zero_double.1 (by rw [zero_double.2]; unfold enB; have := Flo.pw_pos 260; constructor <;> grind) hx
  have e : enA zs = some r := by unfold enA; rw [h0]; exact h1
  unfold enN
  rw [e]
  exact ⟨rfl, h2⟩
theorem fab_eq {k : FloatKind} {s r : Nat} (h : fab k s = some r) : s = r := by
  unfold fab at h
  split at h
  · cases h
  · injection h
/-- the walk: the energy's bits themselves -/
theorem implEnergy_num (zs : List Nat) (n b : Nat) (v : Value) (hl : zs.length = n) (hn : n ≤ 1000) (hx : ∀ x ∈ zs, Sm x) (w : World) (h : w.ownsRow b 49 1 v n (cellsS zs)) :
    Calls Try.prog 52 #[v] w fun e w' => e = .returned (.float .f64 (enN zs)) ∧ Nw w w' := by
  refine (implEnergy_ok zs n b v hl (by omega) w h).mono ?_
  rintro e w' ⟨s, rfl, hs, hn'⟩
  rw [(en_num zs (by omega) hx).1] at hs
  rw [fab_eq hs]
  exact ⟨rfl, hn'⟩

end Go.Proofs.Ytfgofmcpgfofaaa

/- The walk of LoudestEar over valid rooms: the place whose ringing has the greatest energy, the first of these.
   Conditions: those that each statement names. -/
namespace Go.Proofs.Ytfgofmcpgfofaaa
open Go Go.RowKit

/-! ### the loudest place -/
/-- E best is the greatest of the first k, and the first such -/
def Arg (E : Nat → Rat) (k best : Nat) : Prop := best < k ∧ ∀ j, j < k → E j ≤ E best ∧ (j < best → E j < E best)
theorem Arg.first (E : Nat → Rat) : Arg E 1 0 := ⟨by omega, fun j hj => by
  have h0 : j = 0 := by omega
  rw [h0]
  exact ⟨Rat.le_refl, fun h => by omega⟩⟩
theorem Arg.more {E : Nat → Rat} {k best : Nat} (h : Arg E k best) (hg : E best < E k) : Arg E (k + 1) k :=
  ⟨by omega, fun j hj => by
    by_cases hk : j < k
    · have := (h.2 j hk).1
      exact ⟨by grind, fun _ => by grind⟩
    · obtain rfl : j = k := by omega
      exact ⟨Rat.le_refl, fun h => by omega⟩⟩
theorem Arg.stay {E : Nat → Rat} {k best : Nat} (h : Arg E k best) (hg : ¬ E best < E k) : Arg E (k + 1) best :=
  ⟨by have := h.1; omega, fun j hj => by
    by_cases hk : j < k
    · exact h.2 j hk
    · obtain rfl : j = k := by omega
      exact ⟨by grind, fun h2 => by have := h.1; omega⟩⟩
theorem gt_iff {a b : Nat} (ha : Flo.Nm a) (hb : Flo.Nm b) : (FloatKind.f64.format.order a b == some .gt) = decide (Flo.W b < Flo.W a) := by
  have o := Flo.order_num Ieee.double a b ha hb
  rw [show FloatKind.f64.format = Ieee.double from rfl]
  by_cases h : Flo.W b < Flo.W a
  · rw [o.2.2.2 h]; simp [h]
  · have : ¬ Ieee.double.order a b = some .gt := fun e => h (o.2.2.1 e)
    simp [h, this]

/-- what a place's ringing is -/
def earS (ms : List M4) (rows : List (List Nat)) (s n : Nat) (xs : List Nat) (j : Nat) : List Nat := ringS (weighL ms (mulW (rows.getD s []) (rows.getD j []))) (inputOf xs) n
def earE (ms : List M4) (rows : List (List Nat)) (s n : Nat) (xs : List Nat) (j : Nat) : Nat := enN (earS ms rows s n xs j)
def topB (k z : Nat) : Nat := if k = 0 then 0 else z
theorem topB_pos {k z : Nat} (h : ¬ k = 0) : topB k z = z := by unfold topB; rw [if_neg h]
def LoudI (ms : List M4) (rows : List (List Nat)) (s n P : Nat) (xs : List Nat) (w : World) (best great i : Value) (wr : World) : Prop :=
  ∃ k bst : Nat, k ≤ P ∧ i = .int .i64 (k : Int) ∧ best = .int .i64 (bst : Int) ∧ great = .float .f64 (topB k (earE ms rows s n xs bst)) ∧ (k = 0 ∧ bst = 0 ∨ Arg (fun j => Flo.W (earE ms rows s n xs j)) k bst) ∧ Nw w wr
def LoudP (ms : List M4) (rows : List (List Nat)) (s n P : Nat) (xs : List Nat) (w : World) (e : Ending) (w' : World) : Prop :=
  ∃ bst : Nat, e = .returned (.tuple #[.int .i64 (bst : Int), .bool true]) ∧ Arg (fun j => Flo.W (earE ms rows s n xs j)) P bst ∧ Nw w w'

set_option maxRecDepth 100000 in
set_option maxHeartbeats 1600000 in
theorem loudestEar_ok (ms : List M4) (rows : List (List Nat)) (q P b bs s p n bi : Nat) (xs : List Nat) (mv sv iv : Value) (w : World) (h : RoomV ms rows q P b bs mv sv w) (hs : s < P)
    (hp : xs.length = p) (hxl : p ≤ 1048576) (hn : n ≤ 1000) (hi : w.ownsRow bi 49 1 iv p (cellsS xs)) (hok : ∀ j, j < P → RingOk (weighL ms (mulW (rows.getD s []) (rows.getD j []))) (inputOf xs) n ∧ ∀ x ∈ earS ms rows s n xs j, Sm x) :
    Calls Try.prog 49 #[.agg #[mv, sv], .int .i64 (s : Int), iv, .int .i64 (n : Int)] w (LoudP ms rows s n P xs w) := by
  obtain ⟨ma, mc, rfl⟩ := own_shape' h.om
  obtain ⟨sa, sc, rfl⟩ := h.rs.shape
  obtain ⟨ia, ic, rfl⟩ := own_shape' hi
  have ee := h.hP
  have hP16 := h.hP16
  have hn2 : n ≤ 2000 := by omega
  rw [ee] at h ⊢
  have N0 := Lib.hid ((Nw.refl w).alloc (.cells #[.slice ma q mc, .slice sa P sc] 71 (0, 0)))
  have B0 := Lib.hid (Has2.new w 71 (.slice ma q mc) (.slice sa P sc))
  have H := Lib.hid h
  have I0 := Lib.hid hi
  have Hok := Lib.hid hok
  have Hp := Lib.hid hp
  have E := Lib.hid ee
  have Gt := Lib.hid (fun j (hj : j < P) => (en_num (earS ms rows s n xs j) (by unfold earS ringS; simp; omega) (hok j hj).2).2)
  clear h hi hok hp ee
  go_enter Try.func49, Try.ntmps49
  obtain ⟨b0, b1, b2, b3, b4⟩ := B0.out
  go_wp2_with fail
  generalize w.alloc (.cells #[.slice ma q mc, .slice sa P sc] 71 (0, 0)) = w0 at *
  go_loopw [10, 11, 19] (fun best great i wr => LoudI ms rows s n P xs w best great i wr ∧ Nw w0 wr) (fun _ _ i _ => P - (intOf i).toNat)
  case atStart => exact ⟨⟨0, 0, by omega, rfl, rfl, rfl, .inl ⟨rfl, rfl⟩, N0.out⟩, Nw.refl _⟩
  case round =>
    obtain ⟨⟨k, bst, hk, rfl, rfl, rfl, harg, hnw⟩, hn0⟩ := hrel
    have Nr := Lib.hid (And.intro hnw hn0)
    have Ha := Lib.hid harg
    clear hnw hn0 harg b0 b1 b2 b3 b4
    have B1 := Lib.hid (B0.out.nw Nr.out.2)
    obtain ⟨b0, b1, b2, b3, b4⟩ := B1.out
    by_cases hlt : k < P
    · have hrs : rows[s]? = some (rows.getD s []) := by rw [List.getD_eq_getElem?_getD, List.getElem?_eq_getElem (by rw [E.out]; exact hs)]; rfl
      have hrk : rows[k]? = some (rows.getD k []) := by rw [List.getD_eq_getElem?_getD, List.getElem?_eq_getElem (by rw [E.out]; exact hlt)]; rfl
      have Hrs := Lib.hid (And.intro hrs hrk)
      clear hrs hrk
      go_wp2_with fail
      have g1 := H.out.nw Nr.out.1
      have g2 := own_nw I0.out Nr.out.1
      have g3 := (Hok.out k hlt).1
      have hr := ringRoom_ok ms rows q P b bs s k p n bi (rows.getD s []) (rows.getD k []) xs _ _ _ _ g1 Hrs.out.1 Hrs.out.2 Hp.out hxl hn2 g2 g3
      refine hr.mono ?_
      rintro e w2 ⟨g, rfl, own2, n2⟩
      have O2 := Lib.hid own2
      have N2 := Lib.hid (And.intro (Nr.out.1.trans n2) (Nr.out.2.trans n2))
      clear own2 n2
      go_wp2_with fail
      refine (implEnergy_num (earS ms rows s n xs k) n _ _ (by unfold earS ringS; simp) hn (Hok.out k hlt).2 _ O2.out).mono ?_
      rintro e w3 ⟨rfl, n3⟩
      have N3 := Lib.hid (And.intro (N2.out.1.trans n3) (N2.out.2.trans n3))
      clear n3
      rw [show enN (earS ms rows s n xs k) = earE ms rows s n xs k from rfl]
      rcases Ha.out with ⟨rfl, rfl⟩ | hA
      · go_wp2_with fail
        go_roundw
        case rel => exact ⟨⟨1, 0, by omega, rfl, rfl, rfl, .inr (Arg.first _), N3.out.1⟩, N3.out.2⟩
        case measure => simp only [intOf]; omega
      · have hk0 : ¬ k = 0 := by have := hA.1; omega
        have hkI : ¬ ((k : Int) = 0) := by omega
        have hgt := gt_iff (Gt.out k hlt) (Gt.out bst (by have := hA.1; omega))
        rw [show enN (earS ms rows s n xs k) = earE ms rows s n xs k from rfl, show enN (earS ms rows s n xs bst) = earE ms rows s n xs bst from rfl] at hgt
        rw [topB_pos hk0]
        by_cases hgE : Flo.W (earE ms rows s n xs bst) < Flo.W (earE ms rows s n xs k)
        · rw [decide_eq_true hgE] at hgt
          have hA2 := Lib.hid (hA.more (E := fun j => Flo.W (earE ms rows s n xs j)) hgE)
          go_wp2_with fail
          go_roundw
          case rel => exact ⟨⟨k + 1, k, by omega, by rw [show ((k + 1 : Nat) : Int) = (k : Int) + 1 from by omega], rfl, by rw [topB_pos (by omega)], .inr hA2.out, N3.out.1⟩, N3.out.2⟩
          case measure => simp only [intOf]; omega
        · rw [decide_eq_false hgE] at hgt
          have hA2 := Lib.hid (hA.stay (E := fun j => Flo.W (earE ms rows s n xs j)) hgE)
          go_wp2_with fail
          go_roundw
          case rel => exact ⟨⟨k + 1, bst, by omega, by rw [show ((k + 1 : Nat) : Int) = (k : Int) + 1 from by omega], rfl, by rw [topB_pos (by omega)], .inr hA2.out, N3.out.1⟩, N3.out.2⟩
          case measure => simp only [intOf]; omega
    · obtain rfl : k = P := by omega
      have hA : Arg (fun j => Flo.W (earE ms rows s n xs j)) k bst := by
        rcases Ha.out with ⟨h, _⟩ | h
        · omega
        · exact h
      have HA := Lib.hid hA
      clear hA
      go_wp2_with fail
      have hs0 : (0 : Int) < k := by omega
      go_quiet (fail)
      go_wp2_with fail
      go_ret2
      exact ⟨bst, by simp; omega, HA.out, Nr.out.1.draw _⟩

set_option maxRecDepth 100000 in
/-- .. and where the source is no place -/
theorem loudestEar_no (ms : List M4) (rows : List (List Nat)) (q b bs s : Nat) (mv sv iv nv : Value) (w : World) (h : RoomV ms rows q s b bs mv sv w) :
    Calls Try.prog 49 #[.agg #[mv, sv], .int .i64 (s : Int), iv, nv] w fun e w' => e = .returned (.tuple #[.int .i64 0, .bool false]) ∧ Nw w w' := by
  obtain ⟨ma, mc, rfl⟩ := own_shape' h.om
  obtain ⟨sa, sc, rfl⟩ := h.rs.shape
  have ee := h.hP
  have hs16 := h.hP16
  rw [ee] at h ⊢
  have N0 := Lib.hid ((Nw.refl w).alloc (.cells #[.slice ma q mc, .slice sa s sc] 71 (0, 0)))
  have B0 := Lib.hid (Has2.new w 71 (.slice ma q mc) (.slice sa s sc))
  have H := Lib.hid h
  clear h ee
  by_cases hP : s = 0
  · subst hP
    go_enter Try.func49, Try.ntmps49
    obtain ⟨b0, b1, b2, b3, b4⟩ := B0.out
    go_wp2_with fail
    go_loopw [10, 19] (fun l i wr => l = .int .i64 0 ∧ i = .int .i64 0 ∧ wr = w.alloc (.cells #[.slice ma q mc, .slice sa 0 sc] 71 (0, 0))) (fun _ i _ => 0)
    case atStart => exact ⟨rfl, rfl, rfl⟩
    case round =>
      obtain ⟨rfl, rfl, rfl⟩ := hrel
      go_wp2_with fail
      go_quiet (fail)
      go_wp2_with fail
      go_ret2
      exact ⟨rfl, N0.out.draw _⟩
  · have hPi : (0 : Int) < s := by omega
    go_enter Try.func49, Try.ntmps49
    obtain ⟨b0, b1, b2, b3, b4⟩ := B0.out
    go_wp2_with fail
    go_loopw [10, 19] (fun l i wr => l = .int .i64 0 ∧ i = .int .i64 0 ∧ wr = w.alloc (.cells #[.slice ma q mc, .slice sa s sc] 71 (0, 0))) (fun _ i _ => 0)
    case atStart => exact ⟨rfl, rfl, rfl⟩
    case round =>
      obtain ⟨rfl, rfl, rfl⟩ := hrel
      go_wp2_with fail
      have hr := ringRoom_no ms rows q s b bs s 0 _ _ iv nv _ (H.out.nw N0.out) (by omega) (by omega)
      rw [show (((0 : Nat) : Int)) = 0 from rfl] at hr
      refine hr.mono ?_
      rintro e w2 ⟨rfl, n2⟩
      have N2 := Lib.hid (N0.out.trans n2)
      clear n2
      go_wp2_with fail
      go_ret2
      exact ⟨rfl, N2.out⟩
end Go.Proofs.Ytfgofmcpgfofaaa

/- The walks of the model's IsRoom, and of its LoudestEar where the source is no place; of the laws' own bytes.
   Conditions: those that each statement names. -/
namespace Go.Proofs.Ytfgofmcpgfofaaa
open Go Go.RowKit

theorem sixteen_d : Flo.Nm 4625196817309499392 ∧ Flo.W 4625196817309499392 = 16 := by
  have h : Ieee.double.read 4625196817309499392 = .number false 4503599627370496 (-48) := by decide
  refine ⟨⟨_, _, _, h⟩, ?_⟩
  rw [show Flo.W 4625196817309499392 = _ from Flo.V_eq h]
  unfold Flo.val
  have := Flo.pw_neg_mul 48
  rw [show Flo.pw 48 = 281474976710656 from Flo.pw_nat 48] at this
  simp only [Bool.false_eq_true, if_false]
  have e2 : ((4503599627370496 : Nat) : Rat) = 4503599627370496 := rfl
  rw [e2]; grind
theorem wt_leB (x : Nat) (hx : Wt x) : (FloatKind.f64.format.order (labs (wid x)) 4625196817309499392 == some .lt || FloatKind.f64.format.order (labs (wid x)) 4625196817309499392 == some .eq) = true := by
  obtain ⟨n, v⟩ := wid_num hx.1
  obtain ⟨l, lv⟩ := labs_num _ (wid_lt x) n
  have := (leB_iff l sixteen_d.1).2 (by rw [lv, v, sixteen_d.2]; have := ra_one hx.2; grind)
  exact this

def RowJ (q : Nat) (w1 : World) (i : Value) (wr : World) : Prop := ∃ k : Nat, k ≤ q ∧ i = .int .i64 (k : Int) ∧ Nw w1 wr

set_option maxRecDepth 100000 in
set_option maxHeartbeats 1600000 in
theorem specIsRoom_ok (ms : List M4) (rows : List (List Nat)) (q P b bs : Nat) (mv sv : Value) (w : World) (h : RoomV ms rows q P b bs mv sv w) :
    Calls Try.prog 129 #[.agg #[mv, sv]] w (TestP true w) := by
  obtain ⟨ma, mc, rfl⟩ := own_shape' h.om
  obtain ⟨sa, sc, rfl⟩ := h.rs.shape
  have hP16 := h.hP16
  have e := h.hP
  rw [e] at h ⊢
  have N0 := Lib.hid ((Nw.refl w).alloc (.cells #[.slice ma q mc, .slice sa P sc] 71 (0, 0)))
  have B0 := Lib.hid (Has2.new w 71 (.slice ma q mc) (.slice sa P sc))
  have H := Lib.hid h
  have E := Lib.hid e
  have hq16 := h.hq16
  have hb : bodyB ms = true := (bodyB_iff ms).2 ⟨by rw [h.hq]; exact h.hq16, h.ok⟩
  clear h e
  go_enter Try.func129, Try.ntmps129
  obtain ⟨b0, b1, b2, b3, b4⟩ := B0.out
  go_wp2_with fail
  refine (specModes_fin ms q b _ H.out.hq (by omega) _ (own_nw H.out.om N0.out)).mono ?_
  rw [hb]
  rintro e w1 ⟨rfl, n1⟩
  have B1 := Lib.hid (B0.out.nw n1)
  have N1 := Lib.hid (N0.out.trans n1)
  clear n1 b0 b1 b2 b3 b4
  obtain ⟨b0, b1, b2, b3, b4⟩ := B1.out
  go_wp2_with fail
  go_loopw [20] (fun i wr => ValI P w i wr ∧ Nw w1 wr) (fun i _ => P - (intOf i).toNat)
  case atStart => exact ⟨⟨0, by omega, rfl, N1.out⟩, Nw.refl _⟩
  case round =>
    obtain ⟨⟨k, hk, rfl, hnw⟩, hn1⟩ := hrel
    obtain ⟨wo, hwo⟩ : ∃ wo, wo = wr := ⟨_, rfl⟩
    subst hwo
    have Nr := Lib.hid (And.intro hnw hn1)
    clear hnw hn1 b0 b1 b2 b3 b4
    by_cases hlt : k < P
    · obtain ⟨r, hr⟩ : ∃ r, rows[k]? = some r := ⟨rows[k]'(by rw [E.out]; exact hlt), List.getElem?_eq_getElem _⟩
      obtain ⟨g, cap, ra, rc, hv, hcap, hmax, hgs, e1, own⟩ := (H.out.rs.nw Nr.out.1).at E.out.symm hr
      cases hv
      have Hl := Lib.hid (H.out.rs.lens r (List.mem_of_getElem? hr))
      have Hw := Lib.hid (H.out.wt r (List.mem_of_getElem? hr))
      have Ow := Lib.hid own
      have B2 := Lib.hid (B1.out.nw Nr.out.2)
      obtain ⟨b0, b1, b2, b3, b4⟩ := B2.out
      unfold maxLen at hmax
      clear hr own
      go_wp2_with fail
      go_loopw [32] (fun i wx => RowJ q wo i wx) (fun i _ => q - (intOf i).toNat)
      case atStart => exact ⟨0, by omega, rfl, Nw.refl _⟩
      case round =>
        obtain ⟨j, hj, rfl, hnj⟩ := hrel
        have Nj := Lib.hid hnj
        clear hnj
        by_cases hlj : j < q
        · obtain ⟨x, hxk⟩ : ∃ x, r[j]? = some x := ⟨r[j]'(by rw [Hl.out]; exact hlj), List.getElem?_eq_getElem _⟩
          obtain ⟨g1, cap1, hv1, hcap1, hmax1, -, e2⟩ := own_sample (own_nw Ow.out Nj.out) hxk Hl.out.symm
          cases hv1
          have hw := Hw.out x (List.mem_of_getElem? hxk)
          have a1 := fcv_up hw.1
          have a2 := fcd_up hw.1
          have a3 := wt_leB x hw
          unfold maxLen at hmax1
          clear hxk hw
          go_wp2_with fail
          refine (l1Abs_any _ _).mono ?_
          rintro e w' ⟨rfl, rfl⟩
          go_wp2_with fail
          go_roundw
          case rel => exact ⟨j + 1, by omega, by rw [show ((j + 1 : Nat) : Int) = (j : Int) + 1 from by omega], Nj.out⟩
          case measure => simp only [intOf]; omega
        · go_wp2_with fail
          go_roundw
          case rel => exact ⟨⟨k + 1, by omega, by rw [show ((k + 1 : Nat) : Int) = (k : Int) + 1 from by omega], Nr.out.1.trans Nj.out⟩, Nr.out.2.trans Nj.out⟩
          case measure => simp only [intOf]; omega
    · go_wp2_with fail
      go_ret
      exact ⟨rfl, Nr.out.1⟩

theorem l4Place_ok (mv : Value) (sa : Option Addr) (P sc p : Nat) (hP : P ≤ 64) (hp : p ≤ 64) (w : World) :
    Calls Try.prog 130 #[.agg #[mv, .slice sa P sc], .int .i64 (p : Int)] w (TestP (decide (p < P)) w) := by
  have N0 := Lib.hid ((Nw.refl w).alloc (.cells #[mv, .slice sa P sc] 71 (0, 0)))
  have B0 := Lib.hid (Has2.new w 71 mv (.slice sa P sc))
  go_enter Try.func130, Try.ntmps130
  obtain ⟨b0, b1, b2, b3, b4⟩ := B0.out
  go_wp2_with fail
  go_ret
  exact ⟨by simp, N0.out⟩

theorem specRoomBody_no (ms : List M4) (rows : List (List Nat)) (q P b bs s t : Nat) (mv sv : Value) (w : World) (h : RoomV ms rows q P b bs mv sv w) (hs : s ≤ 64) (hsP : ¬ s < P) :
    Calls Try.prog 118 #[.agg #[mv, sv], .int .i64 (s : Int), .int .i64 (t : Int)] w fun e w' => e = .returned (.tuple #[.agg #[.slice none 0 0], .bool false]) ∧ Nw w w' := by
  obtain ⟨ma, mc, rfl⟩ := own_shape' h.om
  obtain ⟨sa, sc, rfl⟩ := h.rs.shape
  have hP16 := h.hP16
  have ee := h.hP
  rw [ee] at h ⊢
  have N0 := Lib.hid (((Nw.refl w).alloc (.cells #[.slice ma q mc, .slice sa P sc] 71 (0, 0))).alloc (.cells #[.slice none 0 0] 45 (0, 0)))
  have B0 := Lib.hid ((Has2.new w 71 (.slice ma q mc) (.slice sa P sc)).alloc (.cells #[.slice none 0 0] 45 (0, 0)))
  have D0 := Lib.hid (Has1.new (w.alloc (.cells #[.slice ma q mc, .slice sa P sc] 71 (0, 0))) 45 (.slice none 0 0))
  rw [show (w.alloc (.cells #[.slice ma q mc, .slice sa P sc] 71 (0, 0))).heap.size = w.heap.size + 1 from by simp] at D0
  have H := Lib.hid h
  have ds : decide (s < P) = false := by simp [hsP]
  clear h ee
  go_enter Try.func118, Try.ntmps118
  obtain ⟨b0, b1, b2, b3, b4⟩ := B0.out
  go_wp2_with fail
  refine (specIsRoom_ok ms rows q P b bs _ _ _ (H.out.nw N0.out)).mono ?_
  rintro e w1 ⟨rfl, n1⟩
  have B1 := Lib.hid (B0.out.nw n1)
  have D1 := Lib.hid (D0.out.nw n1)
  have N1 := Lib.hid (N0.out.trans n1)
  clear n1 b0 b1 b2 b3 b4
  obtain ⟨b0, b1, b2, b3, b4⟩ := B1.out
  go_wp2_with fail
  refine (l4Place_ok _ sa P sc s (by omega) (by omega) _).mono ?_
  rw [ds]
  rintro e w2 ⟨rfl, n2⟩
  have D2 := Lib.hid (D1.out.nw n2)
  have N2 := Lib.hid (N1.out.trans n2)
  clear n2 b0 b1 b2 b3 b4
  obtain ⟨d0, d1, d2⟩ := D2.out
  go_wp2_with fail
  exact bodyPost_ret (v := .tuple #[.agg #[.slice none 0 0], .bool false]) (by simp [results, Try.results118, go_sem, d0, d1, d2]) rfl ⟨rfl, N2.out.set (by show w.heap.size ≤ w.heap.size + 1; omega) _⟩

theorem specRingRoom_no (ms : List M4) (rows : List (List Nat)) (q P b bs s t : Nat) (mv sv iv nv : Value) (w : World) (h : RoomV ms rows q P b bs mv sv w) (hs : s ≤ 64) (hsP : ¬ s < P) :
    Calls Try.prog 93 #[.agg #[mv, sv], .int .i64 (s : Int), .int .i64 (t : Int), iv, nv] w fun e w' => e = .returned (.tuple #[.slice none 0 0, .bool false]) ∧ Nw w w' := by
  obtain ⟨ma, mc, rfl⟩ := own_shape' h.om
  obtain ⟨sa, sc, rfl⟩ := h.rs.shape
  have ee := h.hP
  rw [ee] at h ⊢
  have N0 := Lib.hid ((Nw.refl w).alloc (.cells #[.slice ma q mc, .slice sa P sc] 71 (0, 0)))
  have B0 := Lib.hid (Has2.new w 71 (.slice ma q mc) (.slice sa P sc))
  have H := Lib.hid (h.nw N0.out)
  clear h ee
  go_enter Try.func93, Try.ntmps93
  obtain ⟨b0, b1, b2, b3, b4⟩ := B0.out
  go_wp2_with fail
  refine (specRoomBody_no ms rows q P b bs s t _ _ _ H.out hs hsP).mono ?_
  rintro e w1 ⟨rfl, n1⟩
  have N1 := Lib.hid ((N0.out.trans n1).alloc (.cells #[.slice none 0 0] 45 (0, 0)))
  clear n1
  go_wp2_with fail
  go_ret2
  exact ⟨rfl, N1.out⟩

set_option maxRecDepth 100000 in
theorem specLoudest_no (ms : List M4) (rows : List (List Nat)) (q b bs s : Nat) (mv sv iv nv : Value) (w : World) (h : RoomV ms rows q s b bs mv sv w) :
    Calls Try.prog 50 #[.agg #[mv, sv], .int .i64 (s : Int), iv, nv] w fun e w' => e = .returned (.tuple #[.int .i64 0, .bool false]) ∧ Nw w w' := by
  obtain ⟨ma, mc, rfl⟩ := own_shape' h.om
  obtain ⟨sa, sc, rfl⟩ := h.rs.shape
  have ee := h.hP
  have hs16 := h.hP16
  rw [ee] at h ⊢
  have N0 := Lib.hid ((Nw.refl w).alloc (.cells #[.slice ma q mc, .slice sa s sc] 71 (0, 0)))
  have B0 := Lib.hid (Has2.new w 71 (.slice ma q mc) (.slice sa s sc))
  have H := Lib.hid h
  clear h ee
  by_cases hP : s = 0
  · subst hP
    go_enter Try.func50, Try.ntmps50
    obtain ⟨b0, b1, b2, b3, b4⟩ := B0.out
    go_wp2_with fail
    go_loopw [10, 19] (fun l i wr => l = .int .i64 0 ∧ i = .int .i64 0 ∧ wr = w.alloc (.cells #[.slice ma q mc, .slice sa 0 sc] 71 (0, 0))) (fun _ i _ => 0)
    case atStart => exact ⟨rfl, rfl, rfl⟩
    case round =>
      obtain ⟨rfl, rfl, rfl⟩ := hrel
      go_wp2_with fail
      go_quiet (fail)
      go_wp2_with fail
      go_ret2
      exact ⟨rfl, N0.out.draw _⟩
  · have hPi : (0 : Int) < s := by omega
    go_enter Try.func50, Try.ntmps50
    obtain ⟨b0, b1, b2, b3, b4⟩ := B0.out
    go_wp2_with fail
    go_loopw [10, 19] (fun l i wr => l = .int .i64 0 ∧ i = .int .i64 0 ∧ wr = w.alloc (.cells #[.slice ma q mc, .slice sa s sc] 71 (0, 0))) (fun _ i _ => 0)
    case atStart => exact ⟨rfl, rfl, rfl⟩
    case round =>
      obtain ⟨rfl, rfl, rfl⟩ := hrel
      go_wp2_with fail
      have hr := specRingRoom_no ms rows q s b bs s 0 _ _ iv nv _ (H.out.nw N0.out) (by omega) (by omega)
      rw [show (((0 : Nat) : Int)) = 0 from rfl] at hr
      refine hr.mono ?_
      rintro e w2 ⟨rfl, n2⟩
      have N2 := Lib.hid (N0.out.trans n2)
      clear n2
      go_wp2_with fail
      go_ret2
      exact ⟨rfl, N2.out⟩

/-! ### the laws' own bytes, once more -/
theorem at_fix (a : Option Addr) (len cap i : Nat) (hl : len ≤ 1048576) (hi : i ≤ 100) (w : World) (hb : Bys w.heap.size a len w) :
    ∃ z : Nat, z ≤ 255 ∧ Calls Try.prog 30 #[.slice a len cap, .int .i64 (i : Int)] w fun e w' => e = .returned (.int .i64 (z : Int)) ∧ w' = w := by
  by_cases hlt : i < len
  · rcases hb.2 with h00 | ⟨blk, off, rfl, hblk, hcell⟩
    · omega
    · obtain ⟨x, hx, hcx⟩ := hcell i hlt
      clear hcell hb
      refine ⟨x, hx, ?_⟩
      go_enter Try.func30, Try.ntmps30
      go_wp2
      go_ret
      exact ⟨rfl, rfl⟩
  · clear hb
    refine ⟨(i * 37 + len * 11) % 256, by omega, ?_⟩
    go_enter Try.func30, Try.ntmps30
    go_wp2
    go_ret
    exact ⟨ret_int' (show ((i : Int) * 37 + len * 11) % 256 = (((i * 37 + len * 11) % 256 : Nat) : Int) by omega), rfl⟩
end Go.Proofs.Ytfgofmcpgfofaaa
