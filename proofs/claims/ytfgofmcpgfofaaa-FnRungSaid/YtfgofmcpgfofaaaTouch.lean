/- The walk of TouchBody over a valid body, where nothing overflows.
   Conditions: those that each statement names. -/
import Derived.Test.YtfgofmcpgfofaaaDampB
import Derived.Test.YtfgofmcpgfofaaaFill
import Derived.Test.YtfgofmcpgfofaaaLess
namespace Go.Proofs.Ytfgofmcpgfofaaa
open Go Go.RowKit

/-- the states after i steps, of which those from 'from' on are the damped body's -/
def tAt (ms ds : List M4) (f : Nat) (x : Nat → Nat) : Nat → List (Nat × Nat)
  | 0 => ms.map fun _ => (0, 0)
  | i + 1 => stepAll (if f ≤ i then ds else ms) (tAt ms ds f x i) (x i)
theorem tAt_len (ms ds : List M4) (f : Nat) (x : Nat → Nat) (hl : ds.length = ms.length) : ∀ i, (tAt ms ds f x i).length = ms.length
  | 0 => by simp [tAt]
  | i + 1 => by
    unfold tAt
    split <;> simp [stepAll, tAt_len ms ds f x hl i, hl]
def TouchOk (ms ds : List M4) (f : Nat) (x : Nat → Nat) (n : Nat) : Prop :=
  ∀ i, i < n → (∀ (k : Nat) m s, (if f ≤ i then ds else ms)[k]? = some m → (tAt ms ds f x i)[k]? = some s → StepOk m s (x i)) ∧ SumOk (tAt ms ds f x (i + 1))
def touchS (ms ds : List M4) (f : Nat) (x : Nat → Nat) (n : Nat) : List Nat := (List.range n).map fun i => outS (tAt ms ds f x (i + 1))

def TouchI (B bb bd gs gu n q : Nat) (ms ds : List M4) (f : Nat) (x : Nat → Nat) (bv dv : Value) (w : World) (cur i : Value) (wr : World) : Prop :=
  ∃ k : Nat, k ≤ n ∧ i = .int .i64 (k : Int) ∧ cur = (if k ≤ f then bv else dv) ∧ wr.ownsRow B 36 1 (.slice (some ⟨gs, 0, none⟩) q q) q (cellsC (tAt ms ds f x k)) ∧
    wr.ownsRow B 49 1 (.slice (some ⟨gu, 0, none⟩) n n) n (cellsS (fillL (fun i => outS (tAt ms ds f x (i + 1))) n k)) ∧ Has1 wr bb bv ∧ Has1 wr bd dv ∧ Nw w wr

theorem touch_len (ms ds : List M4) (f : Nat) (x : Nat → Nat) (n : Nat) : (touchS ms ds f x n).length = n := by simp [touchS]

set_option maxRecDepth 100000 in
set_option maxHeartbeats 6400000 in
theorem touchBody_ok (ms : List M4) (hms : ∀ m ∈ ms, m.ok) (t : Nat) (ht : Sm t) (h0 : 0 ≤ S t) (h1 : S t ≤ 1) (xs : List Nat) (f n q p bm bi : Nat) (v iv : Value) (hq : ms.length = q) (hq16 : q ≤ 16) (hp : xs.length = p) (hxl : p ≤ 1048576) (hn : n ≤ 2000) (hf : f ≤ 1048576) (w : World)
    (hm : w.ownsRow bm 38 2 v q (cellsM ms)) (hi : w.ownsRow bi 49 1 iv p (cellsS xs)) (hok : TouchOk ms (ms.map (dampM t)) f (inputOf xs) n) :
    Calls Try.prog 36 #[.agg #[v], iv, .float .f32 t, .int .i64 (f : Int), .int .i64 (n : Int)] w (RingP w.heap.size (touchS ms (ms.map (dampM t)) f (inputOf xs) n) w) := by
  obtain ⟨va, vc, rfl⟩ := own_shape' hm
  obtain ⟨ia, ic, rfl⟩ := own_shape' hi
  obtain ⟨j0, hj, hjz0, hjz1, hjz2⟩ := info_parts info_c64
  obtain ⟨f0, hf0, hfz0, hfz1, hfz2⟩ := info_parts info_f32
  have hvlt : ∀ g, (Value.slice va q vc).ownBlock = some g → g < w.heap.size := fun g hg => (hm.lt g hg).2
  have Hvlt := Lib.hid hvlt
  have Hm := Lib.hid hm
  have Hi := Lib.hid hi
  have Hok := Lib.hid hok
  have Hq := Lib.hid hq
  have Hp := Lib.hid hp
  have Hbox := Lib.hid (Has1.new w 45 (.slice va q vc))
  have Hn0 := Lib.hid ((Nw.refl w).alloc (.cells #[.slice va q vc] 45 (0, 0)))
  have Hds := Lib.hid (show ∀ m ∈ ms.map (dampM t), m.ok from fun m hm => by obtain ⟨m0, hm0, rfl⟩ := List.mem_map.1 hm; exact dampM_ok m0 t (hms m0 hm0) ht h0 h1)
  obtain ⟨ds, hds⟩ : ∃ ds, ds = ms.map (dampM t) := ⟨_, rfl⟩
  rw [← hds] at Hok Hds ⊢
  have Hdl := Lib.hid (show ds.length = q from by rw [hds, List.length_map, hq])
  clear hm hi hok hq hvlt hp
  go_enter Try.func36, Try.ntmps36
  obtain ⟨b0, b1, b2⟩ := Hbox.out
  go_wp2_with fail
  refine (dampBody_ok ms hms q bm t _ Hq.out hq16 ht h0 h1 _ (own_nw Hm.out Hn0.out)).mono ?_
  rintro e w1 ⟨dv, rfl, own1, n1⟩
  rw [← hds] at own1
  obtain ⟨da, dc, rfl⟩ := own_shape' own1
  have Hdlt := Lib.hid (fun g hg => (own1.lt g hg).2)
  have Hd1 := Lib.hid (own1.alloc (.cells #[.slice da q dc] 45 (0, 0)))
  have Hb1 := Lib.hid ((Hbox.out.nw n1).alloc (.cells #[.slice da q dc] 45 (0, 0)))
  have He1 := Lib.hid (Has1.new w1 45 (.slice da q dc))
  have Hn1 := Lib.hid ((Hn0.out.trans n1).alloc (.cells #[.slice da q dc] 45 (0, 0)))
  have hw1 := Lib.hid (show w.heap.size < w1.heap.size from (Hbox.out.nw n1).1)
  clear own1 n1 b0 b1 b2 hds
  obtain ⟨b0, b1, b2⟩ := Hb1.out
  go_wp2_with fail
  refine (isSteps_ok n hn _).mono ?_
  rintro e w2 ⟨rfl, rfl⟩
  have hs1 := Hn1.out.size
  go_wp2_with (first
    | (at_make; refine wpList_make_full _ rfl _ _ 96 rfl w.heap.size 36 j0 (.complex .f32 0 0) 1 Try.underlying96 hj hjz0 hjz1 _ _ _ _ q rfl rfl rfl rfl (by rw [hjz2]; omega) (by unfold maxLen; omega) hs1 ?_))
  intro w3 hown3 hgrow3
  have hg1 := Lib.hid (show (w1.alloc (.cells #[.slice da q dc] 45 (0, 0))).heap.size = w1.heap.size + 1 from by simp)
  generalize w1.alloc (.cells #[.slice da q dc] 45 (0, 0)) = w2 at *
  have Hs3 := Lib.hid (show w3.ownsRow w.heap.size 36 1 (.slice (some ⟨w1.heap.size + 1, 0, none⟩) q q) q (cellsC (tAt ms ds f (inputOf xs) 0)) from by
    rw [toList_madeCells_one] at hown3
    rw [show cellsC (tAt ms ds f (inputOf xs) 0) = List.replicate q (Value.complex .f32 0 0) from by simp only [tAt, cellsC, List.map_map, Function.comp_def]; rw [List.map_const', Hq.out]]
    exact hown3)
  have Hb3 := Lib.hid (Hb1.out.nw hgrow3)
  have He3 := Lib.hid (He1.out.nw hgrow3)
  have Hn3 := Lib.hid (Hn1.out.trans hgrow3)
  have Hd3 := Lib.hid (own_nw Hd1.out hgrow3)
  have hs3 := Hn3.out.size
  have hlt3 : w1.heap.size + 1 < w3.heap.size := (Hs3.out.lt _ rfl).2
  clear hown3 hgrow3 b0 b1 b2
  go_wp2_with (first
    | (at_make; refine wpList_make_full _ rfl _ _ 47 rfl w.heap.size 49 f0 (.float .f32 0) 1 Try.underlying47 hf0 hfz0 hfz1 _ _ _ _ n rfl rfl rfl rfl (by rw [hfz2]; omega) (by unfold maxLen; omega) hs3 ?_))
  intro w4 hown4 hgrow4
  have Ho4 := Lib.hid (show w4.ownsRow w.heap.size 49 1 (.slice (some ⟨w3.heap.size, 0, none⟩) n n) n (cellsS (fillL (fun i => outS (tAt ms ds f (inputOf xs) (i + 1))) n 0)) from by
    rw [toList_madeCells_one] at hown4
    rw [fillL_zero]
    simpa [cellsS] using hown4)
  have Hs4 := Lib.hid (own_nw Hs3.out hgrow4)
  have Hb4 := Lib.hid (Hb3.out.nw hgrow4)
  have He4 := Lib.hid (He3.out.nw hgrow4)
  have Hn4 := Lib.hid (Hn3.out.trans hgrow4)
  have Hd4 := Lib.hid (own_nw Hd3.out hgrow4)
  clear hown4 hgrow4
  go_wp2_with fail
  go_loopw [14, 44] (fun c i wr => TouchI w.heap.size w.heap.size w1.heap.size (w1.heap.size + 1) w3.heap.size n q ms ds f (inputOf xs) (.slice va q vc) (.slice da q dc) w c i wr ∧ wr.ownsRow 0 38 2 (.slice da q dc) q (cellsM ds)) (fun _ i _ => n - (intOf i).toNat)
  case atStart => exact ⟨⟨0, by omega, rfl, by simp, Hs4.out, Ho4.out, Hb4.out, He4.out, Hn4.out⟩, own_base Hd4.out (Nat.zero_le _)⟩
  case round =>
    obtain ⟨⟨k, hk, rfl, rfl, hst, hou, hbx, hdx, hnw⟩, hnw4⟩ := hrel
    have Hst := Lib.hid hst
    have Hou := Lib.hid hou
    have Hbx := Lib.hid hbx
    have Hdx := Lib.hid hdx
    have Hnw := Lib.hid hnw
    have Hdr := Lib.hid hnw4
    clear hst hou hbx hdx hnw hnw4
    by_cases hlt : k < n
    · have Hmr := Lib.hid (own_nw Hm.out Hnw.out)
      have Hir := Lib.hid (own_nw Hi.out Hnw.out)
      have hss := (Hst.out.lt _ rfl)
      have hoo := (Hou.out.lt _ rfl)
      have hne2 : some w3.heap.size ≠ some (w1.heap.size + 1) := fun e => by simp at e; omega
      have Hk := Lib.hid (Hok.out k hlt)
      have Hqq := Lib.hid ((tAt_len ms ds f (inputOf xs) (by rw [Hdl.out, Hq.out]) k).trans Hq.out)
      have hw1' := hw1.out
      -- the modes that are stepped
      obtain ⟨cm, cb, ca, cc, hcm, hcok, hcl, hcown, hcne, hcv⟩ : ∃ (cm : List M4) (cb : Nat) (ca : Option Addr) (cc : Nat), cm = (if f ≤ k then ds else ms) ∧ (∀ m ∈ cm, m.ok) ∧ cm.length = q ∧ wr.ownsRow cb 38 2 (.slice ca q cc) q (cellsM cm) ∧ (Value.slice ca q cc).ownBlock ≠ some (w1.heap.size + 1) ∧ (.slice ca q cc : Value) = (if f ≤ k then .slice da q dc else .slice va q vc) := by
        by_cases hfk : f ≤ k
        · refine ⟨ds, _, da, dc, by rw [if_pos hfk], Hds.out, Hdl.out, Hdr.out, fun e => by have := Hdlt.out _ e; omega, by rw [if_pos hfk]⟩
        · refine ⟨ms, _, va, vc, by rw [if_neg hfk], hms, Hq.out, Hmr.out, fun e => by have := Hvlt.out _ e; omega, by rw [if_neg hfk]⟩
      have Hk1 := Lib.hid (show tAt ms ds f (inputOf xs) (k + 1) = stepAll cm (tAt ms ds f (inputOf xs) k) (inputOf xs k) from by rw [hcm]; rfl)
      rw [← hcm, Hk1.out] at Hk
      have Hcm := Lib.hid (And.intro hcok (And.intro hcl (And.intro hcown hcne)))
      have Hce := Lib.hid hcm
      have Hcv := Lib.hid hcv
      clear hcm hcok hcl hcown hcne hcv
      have hcut : ∀ K : Value → Prop, K (.slice ca q cc) → K (if f ≤ k then .slice da q dc else .slice va q vc) := fun K h => by rw [← Hcv.out]; exact h
      obtain ⟨d0, d1, d2⟩ := Hdx.out
      have hlen3 : (n : Int) = n := rfl
      rcases Nat.lt_trichotomy k f with hkf | hkf | hkf
      · rw [if_pos (by omega)]
        have e0 := Hcv.out
        rw [if_neg (by omega)] at e0
        cases e0
        have e1 := Hou.out.cellAt k (by omega)
        rw [fillL_cell _ n k hlt] at e1
        have e2 := Hou.out.frozenAt k
        go_wp2_with (first
          | (go_at_call 80; refine (sampleAt_any xs p bi k _ Hp.out (by omega) hxl _ Hir.out).mono ?_; rintro e w5 ⟨rfl, rfl⟩)
          | (go_at_call 79; refine (stepStates_ok cm Hcm.out.1 (tAt ms ds f (inputOf xs) k) (inputOf xs k) q (w1.heap.size + 1) w.heap.size cb _ Hcm.out.2.1 Hqq.out hq16 _ Hcm.out.2.2.1 Hst.out Hcm.out.2.2.2 Hk.out.1 Hk.out.2).mono ?_; rintro e w6 ⟨rfl, hst6, hgr6⟩; have e3 := (grown_cell hgr6 (p := ⟨w3.heap.size, k, none⟩) hoo.2 hne2).trans e1; have e4 := (grown_frozen hgr6 (p := ⟨w3.heap.size, k, none⟩) hoo.2 hne2).trans e2))
        all_goals
          rw [← Hk1.out] at hst6 ⊢
          have hou6 := Hou.out.kept hgr6 (.inr hne2)
          have hset := hou6.stored k (.float .f32 (outS (tAt ms ds f (inputOf xs) (k + 1))))
          have hfs := fillL_set (fun i => outS (tAt ms ds f (inputOf xs) (i + 1))) n k hlt
          rw [hfs] at hset
          have F1 := Lib.hid (hst6.kept hset.2 (.inr (fun e => hne2 e.symm)))
          have F2 := Lib.hid hset.1
          have F3 := Lib.hid ((Has1.grown (w := wr) Hbx.out hgr6 (fun e => by simp at e; omega)).set (p := ⟨w3.heap.size, k, none⟩) (by show w3.heap.size ≠ w.heap.size; omega) (.float .f32 (outS (tAt ms ds f (inputOf xs) (k + 1)))))
          have F5 := Lib.hid ((Has1.grown (w := wr) Hdx.out hgr6 (fun e => by simp at e)).set (p := ⟨w3.heap.size, k, none⟩) (by show w3.heap.size ≠ w1.heap.size; omega) (.float .f32 (outS (tAt ms ds f (inputOf xs) (k + 1)))))
          have F4 := Lib.hid ((nw_grown Hnw.out (Nw.refl wr) hgr6 hss.1).set (p := ⟨w3.heap.size, k, none⟩) hoo.1 (.float .f32 (outS (tAt ms ds f (inputOf xs) (k + 1)))))
          have F6 := Lib.hid ((Hdr.out.kept hgr6 (.inr (fun e => by have := Hdlt.out _ e; omega))).kept hset.2 (.inr (fun e => by have := Hdlt.out _ e; omega)))
          go_roundw
          case rel => exact ⟨⟨k + 1, by omega, by rw [show ((k + 1 : Nat) : Int) = (k : Int) + 1 from by omega], by rw [if_pos (by omega)], F1.out, F2.out, F3.out, F5.out, F4.out⟩, F6.out⟩
          case measure => simp only [intOf]; omega
      · subst hkf
        rw [if_pos (Nat.le_refl _)]
        have e0 := Hcv.out
        rw [if_pos (Nat.le_refl _)] at e0
        cases e0
        have e1 := Hou.out.cellAt k (by omega)
        rw [fillL_cell _ n k hlt] at e1
        have e2 := Hou.out.frozenAt k
        go_wp2_with (first
          | (go_at_call 80; refine (sampleAt_any xs p bi k _ Hp.out (by omega) hxl _ Hir.out).mono ?_; rintro e w5 ⟨rfl, rfl⟩)
          | (go_at_call 79; refine (stepStates_ok cm Hcm.out.1 (tAt ms ds k (inputOf xs) k) (inputOf xs k) q (w1.heap.size + 1) w.heap.size cb _ Hcm.out.2.1 Hqq.out hq16 _ Hcm.out.2.2.1 Hst.out Hcm.out.2.2.2 Hk.out.1 Hk.out.2).mono ?_; rintro e w6 ⟨rfl, hst6, hgr6⟩; have e3 := (grown_cell hgr6 (p := ⟨w3.heap.size, k, none⟩) hoo.2 hne2).trans e1; have e4 := (grown_frozen hgr6 (p := ⟨w3.heap.size, k, none⟩) hoo.2 hne2).trans e2))
        all_goals
          rw [← Hk1.out] at hst6 ⊢
          have hou6 := Hou.out.kept hgr6 (.inr hne2)
          have hset := hou6.stored k (.float .f32 (outS (tAt ms ds k (inputOf xs) (k + 1))))
          have hfs := fillL_set (fun i => outS (tAt ms ds k (inputOf xs) (i + 1))) n k hlt
          rw [hfs] at hset
          have F1 := Lib.hid (hst6.kept hset.2 (.inr (fun e => hne2 e.symm)))
          have F2 := Lib.hid hset.1
          have F3 := Lib.hid ((Has1.grown (w := wr) Hbx.out hgr6 (fun e => by simp at e; omega)).set (p := ⟨w3.heap.size, k, none⟩) (by show w3.heap.size ≠ w.heap.size; omega) (.float .f32 (outS (tAt ms ds k (inputOf xs) (k + 1)))))
          have F5 := Lib.hid ((Has1.grown (w := wr) Hdx.out hgr6 (fun e => by simp at e)).set (p := ⟨w3.heap.size, k, none⟩) (by show w3.heap.size ≠ w1.heap.size; omega) (.float .f32 (outS (tAt ms ds k (inputOf xs) (k + 1)))))
          have F4 := Lib.hid ((nw_grown Hnw.out (Nw.refl wr) hgr6 hss.1).set (p := ⟨w3.heap.size, k, none⟩) hoo.1 (.float .f32 (outS (tAt ms ds k (inputOf xs) (k + 1)))))
          have F6 := Lib.hid ((Hdr.out.kept hgr6 (.inr (fun e => by have := Hdlt.out _ e; omega))).kept hset.2 (.inr (fun e => by have := Hdlt.out _ e; omega)))
          go_roundw
          case rel => exact ⟨⟨k + 1, by omega, by rw [show ((k + 1 : Nat) : Int) = (k : Int) + 1 from by omega], by rw [if_neg (by omega)], F1.out, F2.out, F3.out, F5.out, F4.out⟩, F6.out⟩
          case measure => simp only [intOf]; omega
      · rw [if_neg (by omega)]
        have e0 := Hcv.out
        rw [if_pos (by omega)] at e0
        cases e0
        have e1 := Hou.out.cellAt k (by omega)
        rw [fillL_cell _ n k hlt] at e1
        have e2 := Hou.out.frozenAt k
        go_wp2_with (first
          | (go_at_call 80; refine (sampleAt_any xs p bi k _ Hp.out (by omega) hxl _ Hir.out).mono ?_; rintro e w5 ⟨rfl, rfl⟩)
          | (go_at_call 79; refine (stepStates_ok cm Hcm.out.1 (tAt ms ds f (inputOf xs) k) (inputOf xs k) q (w1.heap.size + 1) w.heap.size cb _ Hcm.out.2.1 Hqq.out hq16 _ Hcm.out.2.2.1 Hst.out Hcm.out.2.2.2 Hk.out.1 Hk.out.2).mono ?_; rintro e w6 ⟨rfl, hst6, hgr6⟩; have e3 := (grown_cell hgr6 (p := ⟨w3.heap.size, k, none⟩) hoo.2 hne2).trans e1; have e4 := (grown_frozen hgr6 (p := ⟨w3.heap.size, k, none⟩) hoo.2 hne2).trans e2))
        all_goals
          rw [← Hk1.out] at hst6 ⊢
          have hou6 := Hou.out.kept hgr6 (.inr hne2)
          have hset := hou6.stored k (.float .f32 (outS (tAt ms ds f (inputOf xs) (k + 1))))
          have hfs := fillL_set (fun i => outS (tAt ms ds f (inputOf xs) (i + 1))) n k hlt
          rw [hfs] at hset
          have F1 := Lib.hid (hst6.kept hset.2 (.inr (fun e => hne2 e.symm)))
          have F2 := Lib.hid hset.1
          have F3 := Lib.hid ((Has1.grown (w := wr) Hbx.out hgr6 (fun e => by simp at e; omega)).set (p := ⟨w3.heap.size, k, none⟩) (by show w3.heap.size ≠ w.heap.size; omega) (.float .f32 (outS (tAt ms ds f (inputOf xs) (k + 1)))))
          have F5 := Lib.hid ((Has1.grown (w := wr) Hdx.out hgr6 (fun e => by simp at e)).set (p := ⟨w3.heap.size, k, none⟩) (by show w3.heap.size ≠ w1.heap.size; omega) (.float .f32 (outS (tAt ms ds f (inputOf xs) (k + 1)))))
          have F4 := Lib.hid ((nw_grown Hnw.out (Nw.refl wr) hgr6 hss.1).set (p := ⟨w3.heap.size, k, none⟩) hoo.1 (.float .f32 (outS (tAt ms ds f (inputOf xs) (k + 1)))))
          have F6 := Lib.hid ((Hdr.out.kept hgr6 (.inr (fun e => by have := Hdlt.out _ e; omega))).kept hset.2 (.inr (fun e => by have := Hdlt.out _ e; omega)))
          go_roundw
          case rel => exact ⟨⟨k + 1, by omega, by rw [show ((k + 1 : Nat) : Int) = (k : Int) + 1 from by omega], by rw [if_neg (by omega)], F1.out, F2.out, F3.out, F5.out, F4.out⟩, F6.out⟩
          case measure => simp only [intOf]; omega
    · obtain rfl : k = n := by omega
      go_wp2_with fail
      all_goals
        go_ret2
        refine ⟨_, rfl, ?_, Hnw.out⟩
        have := Hou.out
        rw [fillL_full] at this
        simpa [touchS] using this

end Go.Proofs.Ytfgofmcpgfofaaa
