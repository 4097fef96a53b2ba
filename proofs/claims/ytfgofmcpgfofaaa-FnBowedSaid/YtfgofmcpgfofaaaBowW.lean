/- The walk of BowBody with the greatest grip, twelve steps of a valid body of at most three modes: the first eleven outputs are the same each time, but for the bits of NaN.
   Conditions: those that each statement names. -/
import Derived.Test.YtfgofmcpgfofaaaBowM
import Derived.Test.YtfgofmcpgfofaaaBowI
namespace Go.Proofs.Ytfgofmcpgfofaaa
open Go Go.RowKit

def gmax : Nat := 2139095039
theorem gmax_read : Ieee.single.read 2139095039 = .number false 16777215 104 := by decide
theorem stick_max (d : Nat) (h : Sm d) : stickB d 2139095039 = true := by
  obtain ⟨s, m, i, hd⟩ := h
  obtain ⟨h1, h2, h3⟩ := single_bound hd
  obtain ⟨n, j, hw, he⟩ := wid_read hd
  obtain ⟨n', j', l1, l2⟩ := labs_read (wid_lt d) hw
  obtain ⟨n2, j2, hw2, he2⟩ := wid_read gmax_read
  have o := Flo.order_num Ieee.double (labs (wid d)) (wid 2139095039) ⟨_, _, _, l1⟩ ⟨_, _, _, hw2⟩
  rw [Flo.V_eq l1, Flo.V_eq hw2] at o
  unfold Flo.val at o
  simp only [Bool.false_eq_true, if_false] at o
  have hp := Flo.pw_pos i
  have hle : (n' : Rat) * Flo.pw j' ≤ (n2 : Rat) * Flo.pw j2 := by
    rw [l2, he, he2]
    have hm : (m : Rat) ≤ ((16777215 : Nat) : Rat) := by exact_mod_cast (by omega : m ≤ 16777215)
    have hpw : Flo.pw i ≤ Flo.pw 104 := Flo.pw_le h3
    have q1 := Rat.mul_le_mul_of_nonneg_right hm (Rat.le_of_lt hp)
    have q2 := Rat.mul_le_mul_of_nonneg_left hpw (show (0 : Rat) ≤ ((16777215 : Nat) : Rat) by exact_mod_cast Nat.zero_le _)
    grind
  unfold stickB
  rw [show nan32 2139095039 = false from by decide, show FloatKind.f64.format = Ieee.double from rfl]
  by_cases e : (n' : Rat) * Flo.pw j' = (n2 : Rat) * Flo.pw j2
  · rw [o.2.1.2 (by rw [e])]; rfl
  · rw [o.1.2 (by grind)]; rfl

theorem fab_inj {k : FloatKind} {r y : Nat} (h : fab k r = some y) : r = y := by
  unfold fab at h
  split at h
  · cases h
  · injection h

theorem bow_force (ms : List M4) (hms : ∀ m ∈ ms, m.ok) (hl : ms.length ≤ 3) (x0 : Nat) (hx : Sm x0) (b0 : Flo.Ab (S x0) 9) (k b : Nat) (h : k ≤ 10 → b = (bowSt ms x0 k).2) (w : World) :
    Calls Try.prog 42 #[.float .f32 x0, .float .f32 b, .float .f32 2139095039] w fun e w' => (∃ r, e = .returned (.float .f32 r) ∧ (k ≤ 10 → r = bowF ms x0 k)) ∧ Nw w w' := by
  refine (implBow_ok x0 b 2139095039 w).mono ?_
  rintro e w' ⟨r, rfl, hr, hn⟩
  refine ⟨⟨r, rfl, fun hk => ?_⟩, hn⟩
  rw [h hk] at hr
  obtain ⟨c, f1, -⟩ := force_ok ms x0 k hx b0 hk (bow_ok ms hms hl x0 hx b0 k hk)
  unfold forceA at hr
  rw [show floatBits .sub .f32 x0 (bowSt ms x0 k).2 = some (bowF ms x0 k) from c] at hr
  simp only [stick_max _ f1, if_true] at hr
  exact fab_inj hr

/-- the eleventh output, but for the bits of NaN -/
def bowO (ms : List M4) (x0 : Nat) : Option Nat := outA (stepAll ms (bowSt ms x0 10).1 (bowF ms x0 10))
def BowS (ms : List M4) (x0 k n gs bs : Nat) (w : World) (e : Ending) (w' : World) : Prop :=
  ∃ (y : Nat) (sr : List (Nat × Nat)), e = .returned (.float .f32 y) ∧ sr.length = n ∧ w'.ownsRow bs 36 1 (.slice (some ⟨gs, 0, none⟩) n n) n (cellsC sr) ∧ w.grownBy w' (some gs) ∧
    (k < 10 → y = (bowSt ms x0 (k + 1)).2 ∧ sr = (bowSt ms x0 (k + 1)).1) ∧ (k = 10 → fab .f32 y = bowO ms x0)
theorem bow_steps (ms : List M4) (hms : ∀ m ∈ ms, m.ok) (hl : ms.length ≤ 3) (x0 : Nat) (hx : Sm x0) (b0 : Flo.Ab (S x0) 9) (k r : Nat) (hr : k ≤ 10 → r = bowF ms x0 k) (ss : List (Nat × Nat)) (n gs bs bm : Nat) (v : Value) (hn : ms.length = n) (hss : ss.length = n)
    (hk : k ≤ 10 → ss = (bowSt ms x0 k).1) (w : World)
    (hm : w.ownsRow bm 38 2 v n (cellsM ms)) (hs : w.ownsRow bs 36 1 (.slice (some ⟨gs, 0, none⟩) n n) n (cellsC ss)) (hne : v.ownBlock ≠ some gs) :
    Calls Try.prog 79 #[v, .slice (some ⟨gs, 0, none⟩) n n, .float .f32 r] w (BowS ms x0 k n gs bs w) := by
  have hla : ∀ x, (stepAll ms ss x).length = n := fun x => by simp [stepAll, hn, hss]
  by_cases h1 : k < 10
  · have e1 := hr (by omega)
    have e2 := hk (by omega)
    subst e1; subst e2
    refine (stepStates_ok ms hms _ _ n gs bs bm v hn hss (by omega) w hm hs hne (bow_step ms hms hl x0 hx b0 k (by omega)) (bow_sum ms hms hl x0 hx b0 k h1)).mono ?_
    rintro e w' ⟨rfl, h2, h3⟩
    exact ⟨_, _, rfl, hla _, h2, h3, fun _ => ⟨rfl, rfl⟩, fun h => by omega⟩
  · by_cases h10 : k = 10
    · subst h10
      have e1 := hr (by omega)
      have e2 := hk (by omega)
      subst e1; subst e2
      refine (stepStates_fab ms hms _ _ n gs bs bm v hn hss (by omega) w hm hs hne (bow_step ms hms hl x0 hx b0 10 (by omega))).mono ?_
      rintro e w' ⟨⟨y, rfl, hy⟩, h2, h3⟩
      exact ⟨_, _, rfl, hla _, h2, h3, fun h => by omega, fun _ => hy⟩
    · refine (stepStates_any ms ss r n gs bs bm v hn hss (by omega) w hm hs hne).mono ?_
      rintro e w' ⟨y, rfl, sr, h1', h2, h3⟩
      exact ⟨_, _, rfl, h1', h2, h3, fun h => by omega, fun h => by omega⟩

/-- what is known of the outputs after k steps -/
def BowY (ms : List M4) (x0 k : Nat) (ys : List Nat) : Prop :=
  ys.length = 12 ∧ (∀ j, j < k → j < 10 → ys[j]? = some (bowSt ms x0 (j + 1)).2) ∧ (10 < k → ∃ y, ys[10]? = some y ∧ fab .f32 y = bowO ms x0)
theorem bowY_next {ms : List M4} {x0 k y : Nat} {ys : List Nat} (h : BowY ms x0 k ys) (hk : k < 12) (h1 : k < 10 → y = (bowSt ms x0 (k + 1)).2) (h2 : k = 10 → fab .f32 y = bowO ms x0) : BowY ms x0 (k + 1) (ys.set k y) := by
  obtain ⟨a, b, c⟩ := h
  refine ⟨by rw [List.length_set]; exact a, fun j hj hj10 => ?_, fun h10 => ?_⟩
  · by_cases e : j = k
    · subst e
      rw [List.getElem?_set_self (by omega), h1 hj10]
    · rw [List.getElem?_set_ne (fun x => e x.symm)]
      exact b j (by omega) hj10
  · by_cases e : k = 10
    · subst e
      exact ⟨y, List.getElem?_set_self (by omega), h2 rfl⟩
    · rw [List.getElem?_set_ne e]
      exact c (by omega)

def BowI (bb gs gu q : Nat) (ms : List M4) (x0 : Nat) (bv : Value) (w : World) (vel i : Value) (wr : World) : Prop :=
  ∃ (k b : Nat) (ss : List (Nat × Nat)) (ys : List Nat), k ≤ 12 ∧ i = .int .i64 (k : Int) ∧ vel = .float .f32 b ∧ (k ≤ 10 → b = (bowSt ms x0 k).2) ∧ (k ≤ 10 → ss = (bowSt ms x0 k).1) ∧ ss.length = q ∧
    wr.ownsRow w.heap.size 36 1 (.slice (some ⟨gs, 0, none⟩) q q) q (cellsC ss) ∧ wr.ownsRow w.heap.size 49 1 (.slice (some ⟨gu, 0, none⟩) 12 12) 12 (cellsS ys) ∧ BowY ms x0 k ys ∧ Has1 wr bb bv ∧ Nw w wr
def BowBP (ms : List M4) (x0 : Nat) (w : World) (e : Ending) (w' : World) : Prop :=
  ∃ (g : Nat) (ys : List Nat), e = .returned (.tuple #[.slice (some ⟨g, 0, none⟩) 12 12, .bool true]) ∧ w'.ownsRow w.heap.size 49 1 (.slice (some ⟨g, 0, none⟩) 12 12) 12 (cellsS ys) ∧ BowY ms x0 12 ys ∧ Nw w w'

set_option maxRecDepth 100000 in
set_option maxHeartbeats 3200000 in
theorem bowBody_ok (ms : List M4) (hms : ∀ m ∈ ms, m.ok) (x0 : Nat) (hx : Sm x0) (hx8 : Flo.Ab (S x0) 9) (q bm : Nat) (v : Value) (hq : ms.length = q) (hq3 : q ≤ 3) (w : World)
    (hm : w.ownsRow bm 38 2 v q (cellsM ms)) :
    Calls Try.prog 43 #[.agg #[v], .float .f32 x0, .float .f32 2139095039, .int .i64 12] w (BowBP ms x0 w) := by
  obtain ⟨va, vc, rfl⟩ := own_shape' hm
  obtain ⟨j0, hj, hjz0, hjz1, hjz2⟩ := info_parts info_c64
  obtain ⟨f0, hf, hfz0, hfz1, hfz2⟩ := info_parts info_f32
  have hvlt : ∀ g, (Value.slice va q vc).ownBlock = some g → g < w.heap.size := fun g hg => (hm.lt g hg).2
  have Hvlt := Lib.hid hvlt
  have Hm := Lib.hid hm
  have Hq := Lib.hid hq
  have Hx := Lib.hid (And.intro hx hx8)
  have Hl := Lib.hid (show ms.length ≤ 3 by omega)
  have Hbox := Lib.hid (Has1.new w 45 (.slice va q vc))
  have Hn0 := Lib.hid ((Nw.refl w).alloc (.cells #[.slice va q vc] 45 (0, 0)))
  have Hm0 := Lib.hid (own_nw hm Hn0.out)
  clear hm hq hvlt hx hx8
  go_enter Try.func43, Try.ntmps43
  go_wp2_with fail
  refine (implIsBody_ok ms hms q bm _ Hq.out (by omega) _ Hm0.out).mono ?_
  rintro e w1 ⟨rfl, n1⟩
  have Hb1 := Lib.hid (Hbox.out.nw n1)
  have Hn1 := Lib.hid (Hn0.out.trans n1)
  clear n1
  go_wp2_with fail
  refine (isSteps_ok 12 (by omega) _).mono ?_
  rintro e w2 ⟨rfl, rfl⟩
  obtain ⟨b0, b1, b2⟩ := Hb1.out
  have hs1 := Hn1.out.size
  have hb1lt : w.heap.size < w1.heap.size := b0
  go_wp2_with (first
    | (at_make; refine wpList_make_full _ rfl _ _ 96 rfl w.heap.size 36 j0 (.complex .f32 0 0) 1 Try.underlying96 hj hjz0 hjz1 _ _ _ _ q rfl rfl rfl rfl (by rw [hjz2]; omega) (by unfold maxLen; omega) hs1 ?_))
  intro w3 hown3 hgrow3
  have Hs3 := Lib.hid (show w3.ownsRow w.heap.size 36 1 (.slice (some ⟨w1.heap.size, 0, none⟩) q q) q (cellsC (bowSt ms x0 0).1) from by
    rw [toList_madeCells_one] at hown3
    rw [show cellsC (bowSt ms x0 0).1 = List.replicate q (Value.complex .f32 0 0) from by simp only [bowSt, cellsC, List.map_map, Function.comp_def]; rw [List.map_const', Hq.out]]
    exact hown3)
  have Hb3 := Lib.hid (Hb1.out.nw hgrow3)
  have Hn3 := Lib.hid (Hn1.out.trans hgrow3)
  have hs3 := Hn3.out.size
  have hlt3 : w1.heap.size < w3.heap.size := (Hs3.out.lt _ rfl).2
  clear hown3 hgrow3 b0 b1 b2
  go_wp2_with (first
    | (at_make; refine wpList_make_full _ rfl _ _ 47 rfl w.heap.size 49 f0 (.float .f32 0) 1 Try.underlying47 hf hfz0 hfz1 _ _ _ _ 12 rfl rfl rfl rfl (by rw [hfz2]; omega) (by unfold maxLen; omega) hs3 ?_))
  intro w4 hown4 hgrow4
  have Ho4 := Lib.hid (show w4.ownsRow w.heap.size 49 1 (.slice (some ⟨w3.heap.size, 0, none⟩) 12 12) 12 (cellsS (List.replicate 12 0)) from by
    rw [toList_madeCells_one] at hown4
    simpa [cellsS] using hown4)
  have Hs4 := Lib.hid (own_nw Hs3.out hgrow4)
  have Hb4 := Lib.hid (Hb3.out.nw hgrow4)
  have Hn4 := Lib.hid (Hn3.out.trans hgrow4)
  clear hown4 hgrow4
  go_wp2_with fail
  go_loopw [12, 30] (fun vel i wr => BowI w.heap.size w1.heap.size w3.heap.size q ms x0 (.slice va q vc) w vel i wr) (fun _ i _ => 12 - (intOf i).toNat)
  case atStart => exact ⟨0, 0, _, _, by omega, rfl, rfl, fun _ => rfl, fun _ => rfl, by rw [bowSt_len]; exact Hq.out, Hs4.out, Ho4.out, ⟨by simp, fun j hj => by omega, fun h => by omega⟩, Hb4.out, Hn4.out⟩
  case round =>
    obtain ⟨k, b, ss, ys, hk, rfl, rfl, hvel, hsteq, hssl, hst, hou, hy, hbx, hnw⟩ := hrel
    have Hst := Lib.hid hst
    have Hou := Lib.hid hou
    have Hbx := Lib.hid hbx
    have Hnw := Lib.hid hnw
    have Hy := Lib.hid hy
    have Hvel := Lib.hid hvel
    have Hseq := Lib.hid hsteq
    have Hssl := Lib.hid hssl
    clear hst hou hbx hnw hy hvel hsteq hssl
    by_cases hlt : k < 12
    · obtain ⟨b0, b1, b2⟩ := Hbx.out
      go_upto_region 9 with fail
      have hg := Hnw.out.size
      have Hmr := Lib.hid (own_nw Hm.out Hnw.out)
      have hss := (Hst.out.lt _ rfl)
      have hoo := (Hou.out.lt _ rfl)
      obtain ⟨y0, hy0⟩ : ∃ y0, ys[k]? = some y0 := ⟨ys[k]'(by rw [Hy.out.1]; exact hlt), List.getElem?_eq_getElem _⟩
      have e1 := Hou.out.cellAt k (by omega)
      have e2 := Hou.out.frozenAt k
      rw [show (cellsS ys)[k]? = some (.float .f32 y0) from by unfold cellsS; rw [List.getElem?_map, hy0]; rfl] at e1
      clear hy0
      have hne : (Value.slice va q vc).ownBlock ≠ some w1.heap.size := fun e => by have := Hvlt.out _ e; omega
      have hne2 : some w3.heap.size ≠ some w1.heap.size := fun e => by simp at e; omega
      go_region_with (first
        | (go_at_call 42; refine (bow_force ms hms Hl.out x0 Hx.out.1 Hx.out.2 k b Hvel.out _).mono ?_; rintro e w5 ⟨⟨r, rfl, hr⟩, n5⟩; have b5 := n5.cell (p := ⟨w.heap.size, 0, none⟩) b0; have Hr := Lib.hid hr; have N5 := Lib.hid (show Nw wr w5 from ⟨n5.os, n5.tape, n5.output, n5.size, n5.block⟩); clear hr n5)
        | (go_at_call 79; refine (bow_steps ms hms Hl.out x0 Hx.out.1 Hx.out.2 k r Hr.out ss q w1.heap.size w.heap.size bm _ Hq.out Hssl.out Hseq.out _ (own_nw Hmr.out N5.out) (own_nw Hst.out N5.out) hne).mono ?_; rintro e w6 ⟨y, sr, rfl, hsr, hst6, hgr6, hn1, hn2⟩; have e3 := (grown_cell hgr6 (p := ⟨w3.heap.size, k, none⟩) (Nat.lt_of_lt_of_le hoo.2 N5.out.size) hne2).trans ((N5.out.cell (p := ⟨w3.heap.size, k, none⟩) hoo.2).trans e1); have e4 := (grown_frozen hgr6 (p := ⟨w3.heap.size, k, none⟩) (Nat.lt_of_lt_of_le hoo.2 N5.out.size) hne2).trans ((N5.out.frozen (p := ⟨w3.heap.size, k, none⟩) hoo.2).trans e2)))
      all_goals
        have hou6 := (own_nw Hou.out N5.out).kept hgr6 (.inr hne2)
        have hset := hou6.stored k (.float .f32 y)
        rw [show (cellsS ys).set k (.float .f32 y) = cellsS (ys.set k y) from by unfold cellsS; rw [List.map_set]] at hset
        have F1 := Lib.hid (hst6.kept hset.2 (.inr (fun e => hne2 e.symm)))
        have F2 := Lib.hid hset.1
        have F3 := Lib.hid ((Has1.grown (Hbx.out.nw N5.out) hgr6 (fun e => by simp at e; omega)).set (p := ⟨w3.heap.size, k, none⟩) (by show w3.heap.size ≠ w.heap.size; omega) (.float .f32 y))
        have F4 := Lib.hid ((nw_grown Hnw.out N5.out hgr6 hss.1).set (p := ⟨w3.heap.size, k, none⟩) hoo.1 (.float .f32 y))
        have F5 := Lib.hid (bowY_next Hy.out hlt (fun h => (hn1 h).1) hn2)
        have F6 := Lib.hid (And.intro hsr hn1)
        clear hou6 hset hst6 hgr6 e1 e2 b1 b2 hsr hn1 hn2
        go_wp2_with fail
        go_roundw
        case rel => exact ⟨k + 1, y, sr, _, by omega, by rw [show ((k + 1 : Nat) : Int) = (k : Int) + 1 from by omega], rfl, fun h => (F6.out.2 (by omega)).1, fun h => (F6.out.2 (by omega)).2, F6.out.1, F1.out, F2.out, F5.out, F3.out, F4.out⟩
        case measure => simp only [intOf]; omega
    · obtain rfl : k = 12 := by omega
      go_wp2_with fail
      go_ret2
      exact ⟨_, ys, rfl, Hou.out, Hy.out, Hnw.out⟩

end Go.Proofs.Ytfgofmcpgfofaaa
