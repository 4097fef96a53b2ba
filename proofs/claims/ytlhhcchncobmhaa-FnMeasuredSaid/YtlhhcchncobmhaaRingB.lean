/- The walks of IsBody, sampleAt and RingBody, where nothing overflows: bit for bit.
   Conditions: those that each statement names. -/
import Derived.Test.YtlhhcchncobmhaaRing
namespace Go.Proofs.Ytlhhcchncobmhaa
set_option linter.unusedSimpArgs false
set_option linter.unusedVariables false
open Go Go.RowKit

def ValI (n : Nat) (w : World) (i : Value) (wr : World) : Prop := ∃ k : Nat, k ≤ n ∧ i = .int .i64 (k : Int) ∧ Nw w wr

theorem implIsBody_ok (ms : List M4) (hms : ∀ m ∈ ms, m.ok) (n bm : Nat) (v : Value) (hn : ms.length = n) (hn16 : n ≤ 16) (w : World)
    (hm : w.ownsRow bm 61 2 v n (cellsM ms)) :
    Calls Try.prog 83 #[.agg #[v]] w (TestP true w) := by
  obtain ⟨va, vc, rfl⟩ := own_shape' hm
  have Hm := Lib.hid hm
  have Hms := Lib.hid hms
  have Hn := Lib.hid hn
  have Hn0 := Lib.hid ((Nw.refl w).alloc (.cells #[.slice va n vc] 69 (0, 0)))
  clear hm hms hn
  go_enter Try.func83, Try.ntmps83
  go_wp2_with fail
  go_loopw [12] (fun i wr => ValI n w i wr) (fun i _ => n - (intOf i).toNat)
  case atStart => exact ⟨0, by omega, rfl, Hn0.out⟩
  case round =>
    obtain ⟨k, hk, rfl, hnw⟩ := hrel
    have Hnw := Lib.hid hnw
    clear hnw
    by_cases hlt : k < n
    · obtain ⟨m, hmk⟩ : ∃ m, ms[k]? = some m := ⟨ms[k]'(by rw [Hn.out]; exact hlt), List.getElem?_eq_getElem _⟩
      have Hmr := Lib.hid (own_nw Hm.out Hnw.out)
      obtain ⟨g, cap, hv, hcap, hmax, hgs, e1, e2⟩ := own_mode Hmr.out hmk Hn.out.symm
      cases hv
      have Hmo := Lib.hid (Hms.out m (List.mem_of_getElem? hmk))
      unfold maxLen at hmax
      have Hnw4 := Lib.hid (Hnw.out.alloc (.cells #[.complex .f32 m.pr m.pi, .complex .f32 m.gr m.gi] 61 (0, 0)))
      clear hmk
      go_wp2_with fail
      refine (implIsMode_valid _ _ _ _ _ Hmo.out).mono ?_
      rintro e w5 ⟨rfl, n5⟩
      have Hnw5 := Lib.hid (Hnw4.out.trans n5)
      clear n5 e1 e2
      go_wp2_with fail
      go_roundw
      case rel => exact ⟨k + 1, by omega, by rw [show ((k + 1 : Nat) : Int) = (k : Int) + 1 from by omega], Hnw5.out⟩
      case measure => simp only [intOf]; omega
    · go_wp2_with fail
      go_ret
      exact ⟨rfl, Hnw.out⟩

theorem own_sample {w : World} {base n k : Nat} {v : Value} {xs : List Nat} (h : w.ownsRow base 31 1 v n (cellsS xs)) {x : Nat} (hk : xs[k]? = some x) (hn : n = xs.length) :
    ∃ g cap, v = .slice (some ⟨g, 0, none⟩) n cap ∧ n ≤ cap ∧ cap ≤ maxLen ∧ g < w.heap.size ∧ w.cell? ⟨g, k, none⟩ = some (.float .f32 x) := by
  have hkl := (List.getElem?_eq_some_iff.1 hk).1
  rcases h.2 with ⟨_, h0⟩ | ⟨g, cap, cur, rfl, hb, hg, hc, hm, hs, ht⟩
  · omega
  · have c1 := h.cellAt k (by omega)
    rw [show (cellsS xs)[k]? = some (.float .f32 x) from by simp [cellsS, hk]] at c1
    exact ⟨g, cap, rfl, hc, hm, (h.lt g rfl).2, c1⟩

def inputOf (xs : List Nat) (i : Nat) : Nat := xs.getD i 0
theorem sampleAt_any (xs : List Nat) (n bi i : Nat) (v : Value) (hn : xs.length = n) (hi : i ≤ 1048576) (hn2 : n ≤ 1048576) (w : World) (h : w.ownsRow bi 31 1 v n (cellsS xs)) :
    Calls Try.prog 60 #[v, .int .i64 (i : Int)] w fun e w' => e = .returned (.float .f32 (inputOf xs i)) ∧ w = w' := by
  obtain ⟨va, vc, rfl⟩ := own_shape' h
  by_cases hlt : i < n
  · obtain ⟨x, hx⟩ : ∃ x, xs[i]? = some x := ⟨xs[i]'(by omega), List.getElem?_eq_getElem _⟩
    obtain ⟨g, cap, hv, hcap, hmax, hgs, e1⟩ := own_sample h hx hn.symm
    cases hv
    have Hx := Lib.hid (show inputOf xs i = x from by unfold inputOf; rw [List.getD_eq_getElem?_getD, hx]; rfl)
    unfold maxLen at hmax
    clear h hx hn
    go_enter Try.func60, Try.ntmps60
    go_wp2
    go_ret
    exact ⟨by rw [Hx.out]; rfl, rfl⟩
  · have Hx := Lib.hid (show inputOf xs i = 0 from by unfold inputOf; rw [List.getD_eq_getElem?_getD, List.getElem?_eq_none (by omega)]; rfl)
    clear h hn
    go_enter Try.func60, Try.ntmps60
    go_wp2
    go_ret
    exact ⟨by rw [Hx.out]; rfl, rfl⟩

/-! ### ringing -/
def stAt (ms : List M4) (x : Nat → Nat) : Nat → List (Nat × Nat)
  | 0 => ms.map fun _ => (0, 0)
  | i + 1 => stepAll ms (stAt ms x i) (x i)
theorem stAt_len (ms : List M4) (x : Nat → Nat) : ∀ i, (stAt ms x i).length = ms.length
  | 0 => by simp [stAt]
  | i + 1 => by simp [stAt, stepAll, stAt_len ms x i]
/-- nothing overflows in the first n steps -/
def RingOk (ms : List M4) (x : Nat → Nat) (n : Nat) : Prop :=
  ∀ i, i < n → (∀ (k : Nat) m s, ms[k]? = some m → (stAt ms x i)[k]? = some s → StepOk m s (x i)) ∧ SumOk (stAt ms x (i + 1))
def ringS (ms : List M4) (x : Nat → Nat) (n : Nat) : List Nat := (List.range n).map fun i => outS (stAt ms x (i + 1))

def RingP (B : Nat) (outs : List Nat) (w : World) (e : Ending) (w' : World) : Prop :=
  ∃ v : Value, e = .returned (.tuple #[v, .bool true]) ∧ w'.ownsRow B 31 1 v outs.length (cellsS outs) ∧ Nw w w'

theorem isSteps_ok (n : Nat) (hn : n ≤ 2000) (w : World) :
    Calls Try.prog 65 #[.int .i64 (n : Int)] w fun e w' => e = .returned (.bool true) ∧ w = w' := by
  go_enter Try.func65, Try.ntmps65
  go_wp2
  go_ret
  exact ⟨by simp; omega, rfl⟩

theorem info_c64 : (Try.prog.info? 59).map (fun i => (i.zero, i.size, i.bytes)) = some (some (.complex .f32 0 0), 1, 8) := by kernel_rfl

/-- the outputs when k steps are done -/
def outsAt (ms : List M4) (x : Nat → Nat) (n k : Nat) : List Nat := (ringS ms x n).take k ++ List.replicate (n - k) 0
theorem outsAt_zero (ms : List M4) (x : Nat → Nat) (n : Nat) : outsAt ms x n 0 = List.replicate n 0 := by simp [outsAt]
theorem outsAt_full (ms : List M4) (x : Nat → Nat) (n : Nat) : outsAt ms x n n = ringS ms x n := by
  unfold outsAt; rw [List.take_of_length_le (by simp [ringS])]; simp
theorem outsAt_set (ms : List M4) (x : Nat → Nat) (n k : Nat) (h : k < n) : (cellsS (outsAt ms x n k)).set k (.float .f32 (outS (stAt ms x (k + 1)))) = cellsS (outsAt ms x n (k + 1)) := by
  have hk : k < (ringS ms x n).length := by simpa [ringS] using h
  have hv : (ringS ms x n)[k] = outS (stAt ms x (k + 1)) := by simp [ringS]
  unfold outsAt
  rw [List.take_succ_eq_append_getElem hk, hv, show n - k = (n - (k + 1)) + 1 from by omega, List.replicate_succ]
  simp only [cellsS, List.map_append, List.map_cons, List.map_nil, List.append_assoc, List.singleton_append]
  rw [List.set_append_right _ _ (by simp [ringS]; omega)]
  simp [ringS, show k - min k n = 0 from by omega]

theorem outs_cell (ms : List M4) (x : Nat → Nat) (n k : Nat) (h : k < n) : (cellsS (outsAt ms x n k))[k]? = some (.float .f32 0) := by
  unfold outsAt cellsS
  rw [List.getElem?_map, List.getElem?_append_right (by simp [ringS]; omega)]
  simp [ringS, List.getElem?_replicate]
  omega

theorem nw_grown {w wr w' w6 : World} {g : Nat} (h : Nw w wr) (hd : Nw wr w') (hg : w'.grownBy w6 (some g)) (hge : w.heap.size ≤ g) : Nw w w6 := by
  have h2 := h.trans hd
  exact ⟨hg.os.trans h2.os, hg.tape.trans h2.tape, hg.output.trans h2.output, Nat.le_trans h2.size hg.size, fun k hk hne => (hg.block k (Nat.lt_of_lt_of_le hk h2.size) (fun e => by cases e; omega)).trans (h2.block k hk hne)⟩

def RingI (B bb gs gu n q : Nat) (ms : List M4) (x : Nat → Nat) (bv : Value) (w : World) (i : Value) (wr : World) : Prop :=
  ∃ k : Nat, k ≤ n ∧ i = .int .i64 (k : Int) ∧ wr.ownsRow B 59 1 (.slice (some ⟨gs, 0, none⟩) q q) q (cellsC (stAt ms x k)) ∧
    wr.ownsRow B 31 1 (.slice (some ⟨gu, 0, none⟩) n n) n (cellsS (outsAt ms x n k)) ∧ Has1 wr bb bv ∧ Nw w wr

/-- .. and the row is no nil slice -/
def RingP2 (B : Nat) (outs : List Nat) (n : Nat) (w : World) (e : Ending) (w' : World) : Prop :=
  ∃ g : Nat, e = .returned (.tuple #[.slice (some ⟨g, 0, none⟩) n n, .bool true]) ∧ w'.ownsRow B 31 1 (.slice (some ⟨g, 0, none⟩) n n) n (cellsS outs) ∧ Nw w w'

set_option maxHeartbeats 3200000 in
theorem ringBody_some (ms : List M4) (hms : ∀ m ∈ ms, m.ok) (xs : List Nat) (n q bm bi : Nat) (v iv : Value) (hq : ms.length = q) (hq16 : q ≤ 16) (hxl : xs.length ≤ 1048576) (hn : n ≤ 2000) (w : World)
    (hm : w.ownsRow bm 61 2 v q (cellsM ms)) (hi : w.ownsRow bi 31 1 iv xs.length (cellsS xs)) (hok : RingOk ms (inputOf xs) n) :
    Calls Try.prog 53 #[.agg #[v], iv, .int .i64 (n : Int)] w (RingP2 w.heap.size (ringS ms (inputOf xs) n) n w) := by
  obtain ⟨va, vc, rfl⟩ := own_shape' hm
  obtain ⟨ia, ic, rfl⟩ := own_shape' hi
  obtain ⟨j0, hj, hjz0, hjz1, hjz2⟩ := info_parts info_c64
  obtain ⟨f0, hf, hfz0, hfz1, hfz2⟩ := info_parts info_f32
  have hvlt : ∀ g, (Value.slice va q vc).ownBlock = some g → g < w.heap.size := fun g hg => (hm.lt g hg).2
  have Hvlt := Lib.hid hvlt
  have Hm := Lib.hid hm
  have Hi := Lib.hid hi
  have Hok := Lib.hid hok
  have Hq := Lib.hid hq
  have Hbox := Lib.hid (Has1.new w 69 (.slice va q vc))
  have Hn0 := Lib.hid ((Nw.refl w).alloc (.cells #[.slice va q vc] 69 (0, 0)))
  have Hm0 := Lib.hid (own_nw hm Hn0.out)
  clear hm hi hok hq hvlt
  go_enter Try.func53, Try.ntmps53
  go_wp2_with fail
  refine (implIsBody_ok ms hms q bm _ Hq.out hq16 _ Hm0.out).mono ?_
  rintro e w1 ⟨rfl, n1⟩
  have Hb1 := Lib.hid (Hbox.out.nw n1)
  have Hn1 := Lib.hid (Hn0.out.trans n1)
  clear n1
  go_wp2_with fail
  refine (isSteps_ok n hn _).mono ?_
  rintro e w2 ⟨rfl, rfl⟩
  obtain ⟨b0, b1, b2⟩ := Hb1.out
  have hs1 := Hn1.out.size
  have hb1lt : w.heap.size < w1.heap.size := b0
  go_wp2_with (first
    | (at_make; refine wpList_make_full _ rfl _ _ 97 rfl w.heap.size 59 j0 (.complex .f32 0 0) 1 Try.underlying97 hj hjz0 hjz1 _ _ _ _ q rfl rfl rfl rfl (by rw [hjz2]; omega) (by unfold maxLen; omega) hs1 ?_))
  intro w3 hown3 hgrow3
  have Hs3 := Lib.hid (show w3.ownsRow w.heap.size 59 1 (.slice (some ⟨w1.heap.size, 0, none⟩) q q) q (cellsC (stAt ms (inputOf xs) 0)) from by
    rw [toList_madeCells_one] at hown3
    rw [show cellsC (stAt ms (inputOf xs) 0) = List.replicate q (Value.complex .f32 0 0) from by simp only [stAt, cellsC, List.map_map, Function.comp_def]; rw [List.map_const', Hq.out]]
    exact hown3)
  have Hb3 := Lib.hid (Hb1.out.nw hgrow3)
  have Hn3 := Lib.hid (Hn1.out.trans hgrow3)
  have hs3 := Hn3.out.size
  have hlt3 : w1.heap.size < w3.heap.size := (Hs3.out.lt _ rfl).2
  clear hown3 hgrow3 b0 b1 b2
  go_wp2_with (first
    | (at_make; refine wpList_make_full _ rfl _ _ 28 rfl w.heap.size 31 f0 (.float .f32 0) 1 Try.underlying28 hf hfz0 hfz1 _ _ _ _ n rfl rfl rfl rfl (by rw [hfz2]; omega) (by unfold maxLen; omega) hs3 ?_))
  intro w4 hown4 hgrow4
  have Ho4 := Lib.hid (show w4.ownsRow w.heap.size 31 1 (.slice (some ⟨w3.heap.size, 0, none⟩) n n) n (cellsS (outsAt ms (inputOf xs) n 0)) from by
    rw [toList_madeCells_one] at hown4
    rw [outsAt_zero]
    simpa [cellsS] using hown4)
  have Hs4 := Lib.hid (own_nw Hs3.out hgrow4)
  have Hb4 := Lib.hid (Hb3.out.nw hgrow4)
  have Hn4 := Lib.hid (Hn3.out.trans hgrow4)
  clear hown4 hgrow4
  go_wp2_with fail
  go_loopw [27] (fun i wr => RingI w.heap.size w.heap.size w1.heap.size w3.heap.size n q ms (inputOf xs) (.slice va q vc) w i wr) (fun i _ => n - (intOf i).toNat)
  case atStart => exact ⟨0, by omega, rfl, Hs4.out, Ho4.out, Hb4.out, Hn4.out⟩
  case round =>
    obtain ⟨k, hk, rfl, hst, hou, hbx, hnw⟩ := hrel
    have Hst := Lib.hid hst
    have Hou := Lib.hid hou
    have Hbx := Lib.hid hbx
    have Hnw := Lib.hid hnw
    clear hst hou hbx hnw
    by_cases hlt : k < n
    · obtain ⟨b0, b1, b2⟩ := Hbx.out
      go_upto_region 8 with fail
      have hg := Hnw.out.size
      have Hmr := Lib.hid (own_nw Hm.out Hnw.out)
      have Hir := Lib.hid (own_nw Hi.out Hnw.out)
      have hss := (Hst.out.lt _ rfl)
      have hoo := (Hou.out.lt _ rfl)
      have e1 := Hou.out.cellAt k (by omega)
      have e2 := Hou.out.frozenAt k
      rw [outs_cell ms (inputOf xs) n k hlt] at e1
      have hne : (Value.slice va q vc).ownBlock ≠ some w1.heap.size := fun e => by have := Hvlt.out _ e; omega
      have hne2 : some w3.heap.size ≠ some w1.heap.size := fun e => by simp at e; omega
      have Hk := Lib.hid (Hok.out k hlt)
      have Hqq := Lib.hid (stAt_len ms (inputOf xs) k)
      go_region_with (first
        | (go_at_call 60; refine (sampleAt_any xs _ bi k _ rfl (by omega) hxl _ Hir.out.drew).mono ?_; rintro e w5 ⟨rfl, rfl⟩)
        | (go_at_call 59; refine (stepStates_ok ms hms (stAt ms (inputOf xs) k) (inputOf xs k) q w1.heap.size w.heap.size bm _ Hq.out (Hqq.out.trans Hq.out) hq16 _ Hmr.out.drew Hst.out.drew hne Hk.out.1 Hk.out.2).mono ?_; rintro e w6 ⟨rfl, hst6, hgr6⟩; have e3 := (grown_cell hgr6 (p := ⟨w3.heap.size, k, none⟩) hoo.2 hne2).trans e1; have e4 := (grown_frozen hgr6 (p := ⟨w3.heap.size, k, none⟩) hoo.2 hne2).trans e2))
      all_goals
        have hou6 := (World.ownsRow.drew Hou.out).kept hgr6 (.inr hne2)
        have hset := hou6.stored k (.float .f32 (outS (stAt ms (inputOf xs) (k + 1))))
        have F1 := Lib.hid (hst6.kept hset.2 (.inr (fun e => hne2 e.symm)))
        have F2 := Lib.hid (outsAt_set ms (inputOf xs) n k hlt ▸ hset.1)
        have F3 := Lib.hid ((Has1.grown (w := wr.drew) Hbx.out hgr6 (fun e => by simp at e; omega)).set (p := ⟨w3.heap.size, k, none⟩) (by show w3.heap.size ≠ w.heap.size; omega) (.float .f32 (outS (stAt ms (inputOf xs) (k + 1)))))
        have F4 := Lib.hid ((nw_grown Hnw.out (w' := wr.drew) ⟨rfl, rfl, rfl, Nat.le_refl _, fun _ _ _ => rfl⟩ hgr6 hss.1).set (p := ⟨w3.heap.size, k, none⟩) hoo.1 (.float .f32 (outS (stAt ms (inputOf xs) (k + 1)))))
        clear hou6 hset hst6 hgr6 e1 e2 e3 e4 b1 b2
        go_wp2_with fail
        go_roundw
        case rel => exact ⟨k + 1, by omega, by rw [show ((k + 1 : Nat) : Int) = (k : Int) + 1 from by omega], F1.out, F2.out, F3.out, F4.out⟩
        case measure => simp only [intOf]; omega
    · obtain rfl : k = n := by omega
      go_wp2_with fail
      go_ret2
      refine ⟨_, rfl, ?_, Hnw.out⟩
      have := Hou.out
      rw [outsAt_full] at this
      simpa [ringS] using this

theorem ringBody_ok (ms : List M4) (hms : ∀ m ∈ ms, m.ok) (xs : List Nat) (n q bm bi : Nat) (v iv : Value) (hq : ms.length = q) (hq16 : q ≤ 16) (hxl : xs.length ≤ 1048576) (hn : n ≤ 2000) (w : World)
    (hm : w.ownsRow bm 61 2 v q (cellsM ms)) (hi : w.ownsRow bi 31 1 iv xs.length (cellsS xs)) (hok : RingOk ms (inputOf xs) n) :
    Calls Try.prog 53 #[.agg #[v], iv, .int .i64 (n : Int)] w (RingP w.heap.size (ringS ms (inputOf xs) n) w) :=
  (ringBody_some ms hms xs n q bm bi v iv hq hq16 hxl hn w hm hi hok).mono fun _ _ ⟨g, h1, h2, h3⟩ => ⟨_, h1, by simpa [ringS] using h2, h3⟩

end Go.Proofs.Ytlhhcchncobmhaa
