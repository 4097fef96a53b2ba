/- The walk of RingDouble, where no NaN and no infinity is met: bit for bit.
   Conditions: those that each statement names. -/
import Derived.Test.YtlhhcchncobmhaaRingB
import Derived.Test.YtlhhcchncobmhaaStepD
import Derived.StillTailTactics
namespace Go.Proofs.Ytlhhcchncobmhaa
set_option linter.unusedSimpArgs false
set_option linter.unusedVariables false
open Go Go.RowKit

def stepAllD (ms : List M4) (ss : List (Nat × Nat)) (x : Nat) : List (Nat × Nat) := List.zipWith (fun m s => stepD m s x) ms ss
def outD (ss : List (Nat × Nat)) : Nat := ss.foldl (fun y s => opB .add .f64 y s.1) 0
def cellsD (ss : List (Nat × Nat)) : List Value := ss.map fun s => .complex .f64 s.1 s.2
def cellsF (xs : List Nat) : List Value := xs.map (Value.float .f64)
def SumDOk (ss : List (Nat × Nat)) : Prop := ∀ (k : Nat) s, ss[k]? = some s → Calm .add .f64 (outD (ss.take k)) s.1
theorem outD_take (ss : List (Nat × Nat)) (k : Nat) (s : Nat × Nat) (h : ss[k]? = some s) : outD (ss.take (k + 1)) = opB .add .f64 (outD (ss.take k)) s.1 := by
  obtain ⟨hk, he⟩ := List.getElem?_eq_some_iff.1 h
  rw [List.take_succ_eq_append_getElem hk, he]
  simp [outD, List.foldl_append]
def mixedD (ms : List M4) (ss : List (Nat × Nat)) (x k : Nat) : List (Nat × Nat) := (stepAllD ms ss x).take k ++ ss.drop k
theorem mixedD_at (ms : List M4) (ss : List (Nat × Nat)) (x k : Nat) (s : Nat × Nat) (hl : ms.length = ss.length) (h : ss[k]? = some s) : (cellsD (mixedD ms ss x k))[k]? = some (.complex .f64 s.1 s.2) := by
  have hk := (List.getElem?_eq_some_iff.1 h).1
  have hlen : ((stepAllD ms ss x).take k).length = k := by simp [stepAllD]; omega
  unfold mixedD cellsD
  rw [List.getElem?_map, List.getElem?_append_right (by omega), hlen, Nat.sub_self, List.getElem?_drop, Nat.add_zero, h]
  rfl
theorem stepAllD_at (ms : List M4) (ss : List (Nat × Nat)) (x k : Nat) (m : M4) (s : Nat × Nat) (hm : ms[k]? = some m) (hs : ss[k]? = some s) : (stepAllD ms ss x)[k]? = some (stepD m s x) := by
  unfold stepAllD; rw [List.getElem?_zipWith, hm, hs]
theorem mixedD_step (ms : List M4) (ss : List (Nat × Nat)) (x k : Nat) (m : M4) (s : Nat × Nat) (hm : ms[k]? = some m) (hs : ss[k]? = some s) :
    (cellsD (mixedD ms ss x k)).set k (.complex .f64 (stepD m s x).1 (stepD m s x).2) = cellsD (mixedD ms ss x (k + 1)) := by
  obtain ⟨hkm, -⟩ := List.getElem?_eq_some_iff.1 hm
  obtain ⟨hks, hse⟩ := List.getElem?_eq_some_iff.1 hs
  have hat := stepAllD_at ms ss x k m s hm hs
  obtain ⟨hka, hae⟩ := List.getElem?_eq_some_iff.1 hat
  unfold mixedD
  rw [List.take_succ_eq_append_getElem hka, hae, List.drop_eq_getElem_cons hks, hse]
  simp only [cellsD, List.map_append, List.map_cons, List.map_nil, List.append_assoc, List.singleton_append]
  rw [List.set_append_right _ _ (by simp [stepAllD]; omega)]
  simp [stepAllD, show k - min k (min ms.length ss.length) = 0 from by omega]
theorem mixedD_after (ms : List M4) (ss : List (Nat × Nat)) (x k : Nat) (m : M4) (s : Nat × Nat) (hm : ms[k]? = some m) (hs : ss[k]? = some s) :
    (cellsD (mixedD ms ss x (k + 1)))[k]? = some (.complex .f64 (stepD m s x).1 (stepD m s x).2) := by
  obtain ⟨hkm, -⟩ := List.getElem?_eq_some_iff.1 hm
  obtain ⟨hks, hse⟩ := List.getElem?_eq_some_iff.1 hs
  rw [← mixedD_step ms ss x k m s hm hs, List.getElem?_set_self]
  simp [cellsD, mixedD, stepAllD]; omega
theorem mixedD_full (ms : List M4) (ss : List (Nat × Nat)) (x : Nat) (hl : ms.length = ss.length) : mixedD ms ss x ms.length = stepAllD ms ss x := by
  unfold mixedD
  rw [List.take_of_length_le (by simp [stepAllD]; omega), List.drop_of_length_le (by omega), List.append_nil]

def stDAt (ms : List M4) (x : Nat → Nat) : Nat → List (Nat × Nat)
  | 0 => ms.map fun _ => (0, 0)
  | i + 1 => stepAllD ms (stDAt ms x i) (wid (x i))
theorem stDAt_len (ms : List M4) (x : Nat → Nat) : ∀ i, (stDAt ms x i).length = ms.length
  | 0 => by simp [stDAt]
  | i + 1 => by simp [stDAt, stepAllD, stDAt_len ms x i]
def RingDOk (ms : List M4) (x : Nat → Nat) (n : Nat) : Prop :=
  ∀ i, i < n → Sm (x i) ∧ (∀ (k : Nat) m s, ms[k]? = some m → (stDAt ms x i)[k]? = some s → StepDOk m s (wid (x i))) ∧ SumDOk (stDAt ms x (i + 1))
def ringD (ms : List M4) (x : Nat → Nat) (n : Nat) : List Nat := (List.range n).map fun i => outD (stDAt ms x (i + 1))

/-- the outputs when k steps are done, and the next one is y so far -/
def outsDAt (ms : List M4) (x : Nat → Nat) (n k y : Nat) : List Nat := ((ringD ms x n).take k ++ List.replicate (n - k) 0).set k y
theorem outsD_zero (ms : List M4) (x : Nat → Nat) (n : Nat) : cellsF (outsDAt ms x n 0 0) = List.replicate n (.float .f64 0) := by
  unfold outsDAt cellsF
  cases n <;> simp [List.replicate_succ]
theorem outsD_cell (ms : List M4) (x : Nat → Nat) (n k y : Nat) (h : k < n) : (cellsF (outsDAt ms x n k y))[k]? = some (.float .f64 y) := by
  unfold outsDAt cellsF
  rw [List.getElem?_map, List.getElem?_set_self (by simp [ringD]; omega)]; rfl
theorem outsD_set (ms : List M4) (x : Nat → Nat) (n k y z : Nat) : (cellsF (outsDAt ms x n k y)).set k (.float .f64 z) = cellsF (outsDAt ms x n k z) := by
  unfold outsDAt cellsF
  rw [List.map_set, List.set_set, List.map_set]
theorem outsD_next (ms : List M4) (x : Nat → Nat) (n k : Nat) (h : k < n) : outsDAt ms x n k (outD (stDAt ms x (k + 1))) = outsDAt ms x n (k + 1) 0 := by
  have hk : k < (ringD ms x n).length := by simpa [ringD] using h
  have hv : (ringD ms x n)[k] = outD (stDAt ms x (k + 1)) := by simp [ringD]
  unfold outsDAt
  rw [List.take_succ_eq_append_getElem hk, hv, show n - k = (n - (k + 1)) + 1 from by omega, List.replicate_succ]
  rw [List.set_append_right _ _ (by simp [ringD]; omega)]
  have e : k - ((ringD ms x n).take k).length = 0 := by simp [ringD]; omega
  rw [e, List.set_cons_zero, List.append_assoc, List.singleton_append]
  rw [List.set_append_right _ _ (by simp [ringD]; omega)]
  have e2 : k + 1 - ((ringD ms x n).take k).length = 1 := by simp [ringD]; omega
  rw [e2, List.set_cons_succ]
  congr 2
  cases hq : n - (k + 1) <;> simp [List.replicate_succ]
theorem outsD_full (ms : List M4) (x : Nat → Nat) (n : Nat) : outsDAt ms x n n 0 = ringD ms x n := by
  unfold outsDAt; rw [List.take_of_length_le (by simp [ringD]), Nat.sub_self, List.replicate_zero, List.append_nil, List.set_eq_of_length_le (by simp [ringD])]

theorem info_c128 : (Try.prog.info? 41).map (fun i => (i.zero, i.size, i.bytes)) = some (some (.complex .f64 0 0), 1, 16) := by kernel_rfl
theorem info_f64 : (Try.prog.info? 49).map (fun i => (i.zero, i.size, i.bytes)) = some (some (.float .f64 0), 1, 8) := by kernel_rfl

/-- what holds at the head of a round: k steps are done; the states of the next one are done for the first j modes -/
def RingDI (B bb gs gu n q : Nat) (ms : List M4) (x : Nat → Nat) (bv : Value) (w : World) (k j y : Nat) (wr : World) : Prop :=
  wr.ownsRow B 41 1 (.slice (some ⟨gs, 0, none⟩) q q) q (cellsD (mixedD ms (stDAt ms x k) (wid (x k)) j)) ∧
    wr.ownsRow B 49 1 (.slice (some ⟨gu, 0, none⟩) n n) n (cellsF (outsDAt ms x n k y)) ∧ Has1 wr bb bv ∧ Nw w wr

def RingDP (B : Nat) (outs : List Nat) (w : World) (e : Ending) (w' : World) : Prop :=
  ∃ v : Value, e = .returned (.tuple #[v, .bool true]) ∧ w'.ownsRow B 49 1 v outs.length (cellsF outs) ∧ Nw w w'

def OutI (B bb gs gu n q : Nat) (ms : List M4) (x : Nat → Nat) (bv : Value) (w : World) (i : Value) (wr : World) : Prop :=
  ∃ k : Nat, k ≤ n ∧ i = .int .i64 (k : Int) ∧ RingDI B bb gs gu n q ms x bv w k 0 0 wr
def InI (B bb gs gu n q : Nat) (ms : List M4) (x : Nat → Nat) (bv : Value) (w : World) (k : Nat) (i : Value) (wr : World) : Prop :=
  ∃ j : Nat, j ≤ q ∧ i = .int .i64 (j : Int) ∧ RingDI B bb gs gu n q ms x bv w k j (outD ((stepAllD ms (stDAt ms x k) (wid (x k))).take j)) wr

set_option maxRecDepth 100000 in
set_option maxHeartbeats 12800000 in
theorem ringDouble_ok (ms : List M4) (hms : ∀ m ∈ ms, m.ok) (xs : List Nat) (n q bm bi : Nat) (v iv : Value) (hq : ms.length = q) (hq16 : q ≤ 16) (hxl : xs.length ≤ 1048576) (hn : n ≤ 2000) (w : World)
    (hm : w.ownsRow bm 61 2 v q (cellsM ms)) (hi : w.ownsRow bi 31 1 iv xs.length (cellsS xs)) (hok : RingDOk ms (inputOf xs) n) :
    Calls Try.prog 44 #[.agg #[v], iv, .int .i64 (n : Int)] w (RingDP w.heap.size (ringD ms (inputOf xs) n) w) := by
  obtain ⟨va, vc, rfl⟩ := own_shape' hm
  obtain ⟨ia, ic, rfl⟩ := own_shape' hi
  obtain ⟨j0, hj, hjz0, hjz1, hjz2⟩ := info_parts info_c128
  obtain ⟨f0, hf, hfz0, hfz1, hfz2⟩ := info_parts info_f64
  have hvlt : ∀ g, (Value.slice va q vc).ownBlock = some g → g < w.heap.size := fun g hg => (hm.lt g hg).2
  have Hvlt := Lib.hid hvlt
  have Hm := Lib.hid hm
  have Hi := Lib.hid hi
  have Hok := Lib.hid hok
  have Hq := Lib.hid hq
  have Hbox := Lib.hid (Has1.new w 69 (.slice va q vc))
  have Hn0 := Lib.hid ((Nw.refl w).alloc (.cells #[.slice va q vc] 69 (0, 0)))
  have Hm0 := Lib.hid (own_nw hm Hn0.out)
  clear hm hi hok hq hvlt
  go_enter Try.func44, Try.ntmps44
  go_wp2_with fail
  refine (implIsBody_ok ms hms q bm _ Hq.out hq16 _ Hm0.out).mono ?_
  rintro e w1 ⟨rfl, n1⟩
  have Hb1 := Lib.hid (Hbox.out.nw n1)
  have Hn1 := Lib.hid (Hn0.out.trans n1)
  clear n1
  go_wp2_with fail
  refine (isSteps_ok n hn _).mono ?_
  rintro e w2 ⟨rfl, rfl⟩
  obtain ⟨b0, b1, b2⟩ := Hb1.out
  have hs1 := Hn1.out.size
  have hb1lt : w.heap.size < w1.heap.size := b0
  go_wp2_with (first
    | (at_make; refine wpList_make_full _ rfl _ _ 43 rfl w.heap.size 41 j0 (.complex .f64 0 0) 1 Try.underlying43 hj hjz0 hjz1 _ _ _ _ q rfl rfl rfl rfl (by rw [hjz2]; omega) (by unfold maxLen; omega) hs1 ?_))
  intro w3 hown3 hgrow3
  have Hs3 := Lib.hid (show w3.ownsRow w.heap.size 41 1 (.slice (some ⟨w1.heap.size, 0, none⟩) q q) q (cellsD (mixedD ms (stDAt ms (inputOf xs) 0) (wid (inputOf xs 0)) 0)) from by
    rw [toList_madeCells_one] at hown3
    rw [show cellsD (mixedD ms (stDAt ms (inputOf xs) 0) (wid (inputOf xs 0)) 0) = List.replicate q (Value.complex .f64 0 0) from by simp only [mixedD, List.take_zero, List.nil_append, List.drop_zero, stDAt, cellsD, List.map_map, Function.comp_def]; rw [List.map_const', Hq.out]]
    exact hown3)
  have Hb3 := Lib.hid (Hb1.out.nw hgrow3)
  have Hn3 := Lib.hid (Hn1.out.trans hgrow3)
  have hs3 := Hn3.out.size
  have hlt3 : w1.heap.size < w3.heap.size := (Hs3.out.lt _ rfl).2
  clear hown3 hgrow3 b0 b1 b2
  go_wp2_with (first
    | (at_make; refine wpList_make_full _ rfl _ _ 77 rfl w.heap.size 49 f0 (.float .f64 0) 1 Try.underlying77 hf hfz0 hfz1 _ _ _ _ n rfl rfl rfl rfl (by rw [hfz2]; omega) (by unfold maxLen; omega) hs3 ?_))
  intro w4 hown4 hgrow4
  have Ho4 := Lib.hid (show w4.ownsRow w.heap.size 49 1 (.slice (some ⟨w3.heap.size, 0, none⟩) n n) n (cellsF (outsDAt ms (inputOf xs) n 0 0)) from by
    rw [toList_madeCells_one] at hown4
    rw [outsD_zero]
    exact hown4)
  have Hs4 := Lib.hid (own_nw Hs3.out hgrow4)
  have Hb4 := Lib.hid (Hb3.out.nw hgrow4)
  have Hn4 := Lib.hid (Hn3.out.trans hgrow4)
  clear hown4 hgrow4
  go_wp2_with fail
  go_loopw [30] (fun i wr => OutI w.heap.size w.heap.size w1.heap.size w3.heap.size n q ms (inputOf xs) (.slice va q vc) w i wr) (fun i _ => n - (intOf i).toNat)
  case atStart => exact ⟨0, by omega, rfl, Hs4.out, Ho4.out, Hb4.out, Hn4.out⟩
  case round =>
    obtain ⟨k, hk, rfl, hst, hou, hbx, hnw⟩ := hrel
    have Hst := Lib.hid hst
    have Hou := Lib.hid hou
    have Hbx := Lib.hid hbx
    have Hnw := Lib.hid hnw
    clear hst hou hbx hnw
    by_cases hlt : k < n
    · obtain ⟨wo, hwo⟩ : ∃ wo, wo = wr := ⟨_, rfl⟩
      subst hwo
      obtain ⟨b0, b1, b2⟩ := Hbx.out
      have Hk := Lib.hid (Hok.out k hlt)
      have hx := Hk.out.1
      have a1 := fcv_up hx
      have a2 := fcd_up hx
      have Hir := Lib.hid (own_nw Hi.out Hnw.out)
      clear hx
      go_wp2_with fail
      refine (sampleAt_any xs _ bi k _ rfl (by omega) hxl _ Hir.out).mono ?_
      rintro e w5 ⟨rfl, rfl⟩
      go_wp2_with fail
      go_loopw [40] (fun i wr => InI w.heap.size w.heap.size w1.heap.size w3.heap.size n q ms (inputOf xs) (.slice va q vc) w k i wr) (fun i _ => q - (intOf i).toNat)
      case atStart => exact ⟨0, by omega, rfl, Hst.out, Hou.out, Hbx.out, Hnw.out⟩
      case round =>
        obtain ⟨j, hj, rfl, hst, hou, hbx, hnw⟩ := hrel
        have Jst := Lib.hid hst
        have Jou := Lib.hid hou
        have Jbx := Lib.hid hbx
        have Jnw := Lib.hid hnw
        clear hst hou hbx hnw b1 b2
        by_cases hjt : j < q
        · obtain ⟨m, hmk⟩ : ∃ m, ms[j]? = some m := ⟨ms[j]'(by rw [Hq.out]; exact hjt), List.getElem?_eq_getElem _⟩
          obtain ⟨s, hsk⟩ : ∃ s, (stDAt ms (inputOf xs) k)[j]? = some s := ⟨(stDAt ms (inputOf xs) k)[j]'(by rw [stDAt_len, Hq.out]; exact hjt), List.getElem?_eq_getElem _⟩
          have Hmr := Lib.hid (own_nw Hm.out Jnw.out)
          obtain ⟨g, cap, hv, hcap, hmax, hgs, e1, e2⟩ := own_mode Hmr.out hmk Hq.out.symm
          cases hv
          have Hmk := Lib.hid hmk
          have Hsk := Lib.hid hsk
          have Hmo := Lib.hid (hms m (List.mem_of_getElem? hmk))
          clear hmk hsk
          unfold maxLen at hmax
          go_upto_region 12 with fail
          have K1 := Lib.hid (HasMode.new wr 61 m.pr m.pi m.gr m.gi)
          have K2 := Lib.hid (Jst.out.alloc (.cells #[.complex .f32 m.pr m.pi, .complex .f32 m.gr m.gi] 61 (0, 0)))
          have K3 := Lib.hid (Jou.out.alloc (.cells #[.complex .f32 m.pr m.pi, .complex .f32 m.gr m.gi] 61 (0, 0)))
          have K4 := Lib.hid (Jbx.out.alloc (.cells #[.complex .f32 m.pr m.pi, .complex .f32 m.gr m.gi] 61 (0, 0)))
          have K5 := Lib.hid (Jnw.out.alloc (.cells #[.complex .f32 m.pr m.pi, .complex .f32 m.gr m.gi] 61 (0, 0)))
          have hss := (Jst.out.lt _ rfl)
          have hoo := (Jou.out.lt _ rfl)
          clear e1 e2
          go_cut [] (fun wx => RingDI w.heap.size w.heap.size w1.heap.size w3.heap.size n q ms (inputOf xs) (.slice (some ⟨g, 0, none⟩) q vc) w k (j + 1) (outD ((stepAllD ms (stDAt ms (inputOf xs) k) (wid (inputOf xs k))).take j)) wx)
          case first =>
            obtain ⟨w4, hw4⟩ : ∃ w4, w4 = wr.alloc (.cells #[.complex .f32 m.pr m.pi, .complex .f32 m.gr m.gi] 61 (0, 0)) := ⟨_, rfl⟩
            rw [← hw4] at K1 K2 K3 K4 K5
            rw [← hw4]
            clear hw4
            obtain ⟨l0, l1, l2, l3, l4⟩ := K1.out
            have e3 := K2.out.cellAt j (by omega)
            rw [mixedD_at ms (stDAt ms (inputOf xs) k) (wid (inputOf xs k)) j s (stDAt_len ms (inputOf xs) k).symm Hsk.out] at e3
            have e4 := K2.out.frozenAt j
            have Hsd := Lib.hid (Hk.out.2.1 j m s Hmk.out Hsk.out)
            obtain ⟨n1, n2, n3, n4⟩ := Hmo.out.nums
            refine wp_region_still_tail 14 (by kernel_rfl) (by kernel_rfl) ?_
            simp only [List.take_succ_cons, List.take_zero, List.drop_succ_cons, List.drop_zero]
            still_step
            still_step
            still_step
            still_step
            still_call ((implWiden_fin _ _ _ n1 n2).mono fun _ _ h => ⟨h.1, h.2.symm⟩)
            still_step
            still_step
            still_call ((implWiden_fin _ _ _ n3 n4).mono fun _ _ h => ⟨h.1, h.2.symm⟩)
            still_step
            still_step
            still_step
            still_step
            still_step
            still_call ((stepDouble_ok m s (wid (inputOf xs k)) _ Hsd.out).mono fun _ _ h => ⟨h.1, h.2.symm⟩)
            refine wpStill_nil ?_
            change wpList _ _ _ _ _ (w4.drewN 1)
            have G2 := Lib.hid (own_nw K2.out ((Nw.refl w4).draw 1))
            have G3 := Lib.hid (own_nw K3.out ((Nw.refl w4).draw 1))
            have G4 := Lib.hid (K4.out.draw 1)
            have G5 := Lib.hid (K5.out.draw 1)
            have hs4 := (K2.out.lt _ rfl)
            clear e3 e4 l1 l2 l3 l4
            generalize w4.drewN 1 = w5 at *
            have e3 := G2.out.cellAt j (by omega)
            rw [mixedD_at ms (stDAt ms (inputOf xs) k) (wid (inputOf xs k)) j s (stDAt_len ms (inputOf xs) k).symm Hsk.out] at e3
            have e4 := G2.out.frozenAt j
            have hset := G2.out.stored j (.complex .f64 (stepD m s (wid (inputOf xs k))).1 (stepD m s (wid (inputOf xs k))).2)
            have hfin : RingDI w.heap.size w.heap.size w1.heap.size w3.heap.size n q ms (inputOf xs) (.slice (some ⟨g, 0, none⟩) q vc) w k (j + 1) (outD ((stepAllD ms (stDAt ms (inputOf xs) k) (wid (inputOf xs k))).take j)) (w5.setCell ⟨w1.heap.size, j, none⟩ (.complex .f64 (stepD m s (wid (inputOf xs k))).1 (stepD m s (wid (inputOf xs k))).2)) :=
              ⟨mixedD_step ms (stDAt ms (inputOf xs) k) (wid (inputOf xs k)) j m s Hmk.out Hsk.out ▸ hset.1, G3.out.kept hset.2 (.inr (fun e => by simp [Value.ownBlock] at e; omega)), G4.out.set (by show w1.heap.size ≠ w.heap.size; omega) _, G5.out.set (by show w.heap.size ≤ w1.heap.size; omega) _⟩
            have Hfin := Lib.hid hfin
            clear hfin hset
            go_wp2_with fail
            go_meet
            exact Hfin.out
          case rest =>
            obtain ⟨c1, c2, c3, c4⟩ := hcut
            have C1 := Lib.hid c1
            have C2 := Lib.hid c2
            have C3 := Lib.hid c3
            have C4 := Lib.hid c4
            clear c1 c2 c3 c4
            have e3 := C1.out.cellAt j (by omega)
            rw [mixedD_after ms (stDAt ms (inputOf xs) k) (wid (inputOf xs k)) j m s Hmk.out Hsk.out] at e3
            have e5 := C2.out.cellAt k (by omega)
            rw [outsD_cell ms (inputOf xs) n k _ hlt] at e5
            have e6 := C2.out.frozenAt k
            have hsk := stepAllD_at ms (stDAt ms (inputOf xs) k) (wid (inputOf xs k)) j m s Hmk.out Hsk.out
            have hcalm := Hk.out.2.2 j _ hsk
            rw [show (stDAt ms (inputOf xs) (k + 1)).take j = (stepAllD ms (stDAt ms (inputOf xs) k) (wid (inputOf xs k))).take j from rfl] at hcalm
            have r1 := hcalm.run (P := Try.prog) 49
            have Hout := Lib.hid (outD_take _ j _ hsk)
            clear hcalm hsk
            go_wp2_with fail
            refine wp_region_still_tail 10 (by kernel_rfl) (by kernel_rfl) ?_
            simp only [List.take_succ_cons, List.take_zero, List.drop_succ_cons, List.drop_zero]
            repeat still_step
            refine wpStill_nil ?_
            change wpList _ _ _ _ _ (wc.drewN 1)
            have G1 := Lib.hid (own_nw C1.out ((Nw.refl wc).draw 1))
            have G2 := Lib.hid (own_nw C2.out ((Nw.refl wc).draw 1))
            have G3 := Lib.hid (C3.out.draw 1)
            have G4 := Lib.hid (C4.out.draw 1)
            clear e3 e5 e6
            generalize wc.drewN 1 = w5 at *
            have e5 := G2.out.cellAt k (by omega)
            rw [outsD_cell ms (inputOf xs) n k _ hlt] at e5
            have e6 := G2.out.frozenAt k
            have hset := G2.out.stored k (.float .f64 (opB .add .f64 (outD ((stepAllD ms (stDAt ms (inputOf xs) k) (wid (inputOf xs k))).take j)) (stepD m s (wid (inputOf xs k))).1))
            rw [outsD_set, ← Hout.out] at hset
            have hfin : RingDI w.heap.size w.heap.size w1.heap.size w3.heap.size n q ms (inputOf xs) (.slice (some ⟨g, 0, none⟩) q vc) w k (j + 1) (outD ((stepAllD ms (stDAt ms (inputOf xs) k) (wid (inputOf xs k))).take (j + 1))) (w5.setCell ⟨w3.heap.size, k, none⟩ (.float .f64 (opB .add .f64 (outD ((stepAllD ms (stDAt ms (inputOf xs) k) (wid (inputOf xs k))).take j)) (stepD m s (wid (inputOf xs k))).1))) := by
              rw [← Hout.out]
              exact ⟨G1.out.kept hset.2 (.inr (fun e => by simp [Value.ownBlock] at e; omega)), hset.1, G3.out.set (by show w3.heap.size ≠ w.heap.size; omega) _, G4.out.set (by show w.heap.size ≤ w3.heap.size; omega) _⟩
            have Hfin := Lib.hid hfin
            clear hfin hset
            go_wp2_with fail
            go_roundw
            case rel => exact ⟨j + 1, by omega, by rw [show ((j + 1 : Nat) : Int) = (j : Int) + 1 from by omega], Hfin.out⟩
            case measure => simp only [intOf]; omega
        · obtain rfl : j = q := by omega
          have Hdone := Lib.hid (show RingDI w.heap.size w.heap.size w1.heap.size w3.heap.size n j ms (inputOf xs) (.slice va j vc) w (k + 1) 0 0 wr from by
            refine ⟨?_, ?_, Jbx.out, Jnw.out⟩
            · have := Jst.out
              rw [show mixedD ms (stDAt ms (inputOf xs) k) (wid (inputOf xs k)) j = stepAllD ms (stDAt ms (inputOf xs) k) (wid (inputOf xs k)) from by rw [← mixedD_full ms _ _ (stDAt_len ms (inputOf xs) k).symm, Hq.out]] at this
              exact this
            · have := Jou.out
              rw [show (stepAllD ms (stDAt ms (inputOf xs) k) (wid (inputOf xs k))).take j = stDAt ms (inputOf xs) (k + 1) from List.take_of_length_le (by simp [stepAllD, stDAt_len, Hq.out]), outsD_next ms (inputOf xs) n k hlt] at this
              exact this)
          go_wp2_with fail
          go_roundw
          case rel => exact ⟨k + 1, by omega, by rw [show ((k + 1 : Nat) : Int) = (k : Int) + 1 from by omega], Hdone.out⟩
          case measure => simp only [intOf]; omega
    · obtain rfl : k = n := by omega
      go_wp2_with fail
      go_ret2
      refine ⟨_, rfl, ?_, Hnw.out⟩
      have := Hou.out
      rw [outsD_full] at this
      simpa [ringD] using this

end Go.Proofs.Ytlhhcchncobmhaa
