/- Texts of a proof, put together: PlayJ, ScoF, ScoQ, Fill, Strike, Row, Fls, Text, Parts, FormS, Limit, En, EnN, Abs, Peak, Ev, Ng, Lev, ScoH, ScoP, ScoS, ScoI, PlayG.
   Conditions: those that each statement names. -/
import Derived.Test.YtiakcibeobbonaaGreatKFnCut3
import Derived.Laws.StructEq
import Derived.ProofKit
import Derived.OpenShut
import Derived.ShutString
import Derived.ChangeOld
import Derived.Laws.BytesArg
import Derived.Laws.Concat
import Derived.Laws.FloatArith
import Derived.Test.YtiakcibeobbonaaGreatRows
import Derived.Shelf.SlSortCmp.InsertionK
/- slices.DeleteFunc over a row of parts (FnShifted, FnCut).
   Conditions: those that each statement names. -/
namespace Go.Proofs.YtiakcibeobbonaaGreat
set_option linter.unusedSimpArgs false
set_option linter.unusedVariables false
open Go Go.RowKit

theorem cellsP_take : ∀ (zs : List (Prt × Loc)) (i : Nat), (cellsP zs).take (i * 5) = cellsP (zs.take i)
  | [], i => by simp [cellsP]
  | z :: l, 0 => by simp [cellsP]
  | z :: l, i + 1 => by
    rw [cellsP, List.take_succ_cons, cellsP, List.take_append, List.take_of_length_le (by simp [cellP]; omega), show (i + 1) * 5 - (cellP z).length = i * 5 from by simp [cellP]; omega, cellsP_take l i]
theorem cellsP_put : ∀ (zs : List (Prt × Loc)) (i : Nat) (z : Prt × Loc), i < zs.length → writeL (cellsP zs) (i * 5) (cellP z) = cellsP (zs.set i z)
  | [], i, z, h => by simp at h
  | y :: l, 0, z, _ => by simp [cellsP, cellP, writeL]
  | y :: l, i + 1, z, h => by
    have ih := cellsP_put l i z (by simpa using h)
    have hl := cellsP_len l
    simp only [List.length_cons] at h
    have hc : (cellP z).length = 5 := rfl
    rw [writeL_eq _ _ _ (by rw [cellsP_len, List.length_cons, hc]; omega)]
    rw [writeL_eq _ _ _ (by rw [hl, hc]; omega)] at ih
    rw [List.set_cons_succ, cellsP, cellsP, ← ih]
    have e5 : (cellP y).length = 5 := rfl
    rw [List.take_append, List.drop_append, List.take_of_length_le (by rw [e5]; omega), List.drop_of_length_le (by rw [e5]; omega), e5, hc, show (i + 1) * 5 - 5 = i * 5 from by omega, show (i + 1) * 5 + 5 - 5 = i * 5 + 5 from by omega]
    simp
theorem cellP_one (z : Prt × Loc) (h1 : z.2.vm.oneCell' = true) (h2 : z.2.vi.oneCell' = true) : ∀ u ∈ cellP z, u.oneCell' = true := by
  intro u hu
  simp only [cellP, List.mem_cons, List.not_mem_nil, or_false] at hu
  rcases hu with rfl | rfl | rfl | rfl | rfl
  · rfl
  · exact h1
  · rfl
  · exact h2
  · rfl
/-- a store of a whole part -/
theorem put_part {w : World} {base g n cap i : Nat} {zs : List (Prt × Loc)} (h : w.ownsRow base 84 5 (.slice (some ⟨g, 0, none⟩) n cap) n (cellsP zs)) (hi : i < zs.length) (z : Prt × Loc) :
    let w' := ((((w.setCell ⟨g, i * 5, none⟩ (.int .i64 z.1.b)).setCell ⟨g, i * 5 + 1, none⟩ z.2.vm).setCell ⟨g, i * 5 + 2, none⟩ (.slice (some ⟨z.2.g, 0, none⟩) z.1.ms.length z.1.ms.length)).setCell ⟨g, i * 5 + 3, none⟩ z.2.vi).setCell ⟨g, i * 5 + 4, none⟩ (.int .i64 z.2.tr)
    w'.ownsRow base 84 5 (.slice (some ⟨g, 0, none⟩) n cap) n (cellsP (zs.set i z)) ∧ w.grownBy w' (some g) := by
  have k := own_setCells (w := w) (cellP z) (cellsP zs) (i * 5) w h
  rw [cellsP_put zs i z hi] at k
  exact k
theorem zero_cells (n : Nat) : (Builtin.zeroCells (Value.agg #[.int .i64 0, .slice none 0 0, .slice none 0 0, .slice none 0 0, .int .i64 0]).cells n).toList.length = n * 5 ∧ ∀ u ∈ (Builtin.zeroCells (Value.agg #[.int .i64 0, .slice none 0 0, .slice none 0 0, .slice none 0 0, .int .i64 0]).cells n).toList, u.oneCell' = true := by
  refine ⟨by simp [Builtin.zeroCells, Value.cells], fun u hu => ?_⟩
  simp only [Builtin.zeroCells, Value.cells, Array.toList_map, List.mem_map] at hu
  obtain ⟨i, -, rfl⟩ := hu
  have h5 : i % 5 < 5 := Nat.mod_lt _ (by decide)
  show ((#[Value.int .i64 0, .slice none 0 0, .slice none 0 0, .slice none 0 0, .int .i64 0] : Array Value)[i % 5]!).oneCell' = true
  generalize i % 5 = j at h5
  match j, h5 with
  | 0, _ => rfl
  | 1, _ => rfl
  | 2, _ => rfl
  | 3, _ => rfl
  | 4, _ => rfl
theorem HasC.newB (w : World) (cs : Array Value) (T : TypeId) : HasC (w.alloc (.cells cs T (0, 0))) w.heap.size cs.toList := by
  have hb : (w.alloc (.cells cs T (0, 0))).heap[w.heap.size]? = some (.cells cs T (0, 0)) := heap_alloc_new w _
  refine ⟨by simp, fun k v hk => ⟨?_, frozen_of_row _ _ k cs T hb⟩⟩
  rw [cell_of_row _ _ k cs T (0, 0) hb]
  simpa using hk
theorem five_at {w : World} {b : Nat} {v0 v1 v2 v3 v4 : Value} (h : HasC w b [v0, v1, v2, v3, v4]) :
    (w.cell? ⟨b, 0, none⟩ = some v0 ∧ w.frozen? ⟨b, 0, none⟩ = false) ∧ (w.cell? ⟨b, 1, none⟩ = some v1 ∧ w.frozen? ⟨b, 1, none⟩ = false) ∧ (w.cell? ⟨b, 2, none⟩ = some v2 ∧ w.frozen? ⟨b, 2, none⟩ = false) ∧
    (w.cell? ⟨b, 3, none⟩ = some v3 ∧ w.frozen? ⟨b, 3, none⟩ = false) ∧ (w.cell? ⟨b, 4, none⟩ = some v4 ∧ w.frozen? ⟨b, 4, none⟩ = false) :=
  ⟨h.2 0 _ rfl, h.2 1 _ rfl, h.2 2 _ rfl, h.2 3 _ rfl, h.2 4 _ rfl⟩
def keepB (b : Int) (zs : List (Prt × Loc)) : List (Prt × Loc) := zs.filter fun z => z.1.b != b
theorem keepB_take (b : Int) (zs : List (Prt × Loc)) (k : Nat) (z : Prt × Loc) (h : zs[k]? = some z) : keepB b (zs.take (k + 1)) = keepB b (zs.take k) ++ (if z.1.b = b then [] else [z]) := by
  unfold keepB
  rw [List.take_add_one, h, List.filter_append]
  congr 1
  by_cases e : z.1.b = b
  · simp [e]
  · simp [e]
theorem keepB_first (b : Int) : ∀ zs : List (Prt × Loc), keepB b (zs.take (idxB b zs)) = zs.take (idxB b zs) := by
  intro zs
  unfold keepB
  rw [List.filter_eq_self]
  intro z hz
  obtain ⟨k, hk⟩ := List.getElem?_of_mem hz
  have hkl := (List.getElem?_eq_some_iff.1 hk).1
  rw [List.length_take] at hkl
  rw [List.getElem?_take_of_lt (by omega)] at hk
  simpa using idxB_lt b zs k z (by omega) hk
theorem idxB_hit (b : Int) : ∀ (zs : List (Prt × Loc)) (k : Nat) z, k = idxB b zs → zs[k]? = some z → z.1.b = b
  | [], k, z, _, hz => by simp at hz
  | y :: l, k, z, h, hz => by
    unfold idxB at h
    split at h
    · subst h
      simp at hz
      subst hz
      assumption
    · subst h
      exact idxB_hit b l _ z rfl (by simpa using hz)

set_option maxHeartbeats 6400000 in
set_option maxRecDepth 100000 in
theorem deleteFunc_ok (base g n cap eb : Nat) (b : Int) (zs : List (Prt × Loc)) (hn : n = zs.length) (hcap : cap ≤ 9223372036854775807) (hnc : n ≤ cap) (w : World) (h : w.ownsRow base 84 5 (.slice (some ⟨g, 0, none⟩) n cap) n (cellsP zs))
    (c2 : w.cell? ⟨eb, 2, none⟩ = some (.int .i64 b)) (hne : eb ≠ g) (hsh : ∀ z ∈ zs, (∃ a n c, z.2.vm = .slice a n c) ∧ ∃ a n c, z.2.vi = .slice a n c) :
    Calls Tryz.prog 93 #[.slice (some ⟨g, 0, none⟩) n cap, .func (.func 94) #[] #[.pointer (some ⟨eb, 0, none⟩)]] w fun e w' =>
      ∃ m, m = (keepB b zs).length ∧ e = .returned (.slice (some ⟨g, 0, none⟩) m cap) ∧ w'.ownsRow base 84 5 (.slice (some ⟨g, 0, none⟩) m cap) m (cellsP (keepB b zs)) ∧ w.grownBy w' (some g) := by
  have H := Lib.hid h
  have C2 := Lib.hid c2
  have Hn := Lib.hid hn
  have Sh := Lib.hid hsh
  clear hsh
  have hg : g < w.heap.size := (h.lt g rfl).2
  clear h c2 hn
  go_enter Tryz.func93, Tryz.ntmps93
  go_wp2_with fail
  refine (indexFunc_ok base g n cap eb b zs Hn.out hcap hnc w H.out C2.out).mono ?_
  rintro e w1 ⟨rfl, n1⟩
  have N1 := Lib.hid n1
  clear n1
  by_cases h0 : idxB b zs = zs.length
  · have hk : keepB b zs = zs := by have e := keepB_first b zs; rwa [h0, List.take_length] at e
    have V : idxV b zs = -1 := by unfold idxV; rw [if_pos h0]
    have Fin := Lib.hid (show ∃ m, m = (keepB b zs).length ∧ Ending.returned (.slice (some ⟨g, 0, none⟩) n cap) = .returned (.slice (some ⟨g, 0, none⟩) m cap) ∧ w1.ownsRow base 84 5 (.slice (some ⟨g, 0, none⟩) m cap) m (cellsP (keepB b zs)) ∧ w.grownBy w1 (some g) from
      ⟨n, by rw [hk, Hn.out], rfl, by rw [hk]; exact own_nw H.out N1.out, N1.out.os, N1.out.tape, N1.out.output, N1.out.size, fun k a _ => N1.out.block k a (by simp)⟩)
    rw [V]
    clear hk
    go_wp2_with fail
    go_ret
    exact Fin.out
  · obtain ⟨i0, hi0⟩ : ∃ i0, i0 = idxB b zs := ⟨_, rfl⟩
    have V : idxV b zs = (i0 : Int) := by unfold idxV; rw [if_neg h0, hi0]
    have hlt0 : i0 < n := by have := idxB_le b zs; have := Hn.out; omega
    have hx : ((i0 : Int) == -1) = false := by rw [beq_eq_false_iff_ne]; omega
    have hk0 := keepB_first b zs
    rw [← hi0] at hk0
    have hb0 : ∃ z, zs[i0]? = some z := ⟨zs[i0]'(by rw [← Hn.out]; exact hlt0), List.getElem?_eq_getElem _⟩
    have K1 := Lib.hid (show keepB b (zs.take (i0 + 1)) = zs.take i0 from by
      obtain ⟨z, hz⟩ := hb0
      rw [keepB_take b zs i0 z hz, hk0, if_pos (idxB_hit b zs i0 z hi0 hz), List.append_nil])
    have G1 := Lib.hid (show w.grownBy w1 (some g) from ⟨N1.out.os, N1.out.tape, N1.out.output, N1.out.size, fun k a _ => N1.out.block k a (by simp)⟩)
    rw [V]
    clear V h0 hi0 hk0 hb0
    go_wp2_with fail
    go_loopw [5, 6, 7] (fun i j _ wr => ∃ (k m : Nat) (zs' : List (Prt × Loc)), m < k ∧ k ≤ n ∧ i = .int .i64 (m : Int) ∧ j = .int .i64 (k : Int) ∧ zs'.length = n ∧ zs'.take m = keepB b (zs.take k) ∧ zs'.drop k = zs.drop k ∧ wr.ownsRow base 84 5 (.slice (some ⟨g, 0, none⟩) n cap) n (cellsP zs') ∧ w.grownBy wr (some g)) (fun _ j _ _ => n - (intOf j).toNat)
    case atStart => exact ⟨i0 + 1, i0, zs, by omega, by omega, rfl, by rw [show ((i0 + 1 : Nat) : Int) = (i0 : Int) + 1 from by omega], Hn.out.symm, K1.out.symm, rfl, own_nw H.out N1.out, G1.out⟩
    case round =>
      obtain ⟨k, m, zs', hmk, hkn, rfl, rfl, hl', htake, hdrop, hown, hgr⟩ := hrel
      have Tk := Lib.hid htake
      have Dr := Lib.hid hdrop
      have Ow := Lib.hid hown
      have Gr := Lib.hid hgr
      have Hl := Lib.hid hl'
      clear htake hdrop hown hgr hl'
      have hgr : g < wr.heap.size := Nat.lt_of_lt_of_le hg Gr.out.size
      by_cases hlt : k < n
      · obtain ⟨z, hz⟩ : ∃ z, zs[k]? = some z := ⟨zs[k]'(by rw [← Hn.out]; exact hlt), List.getElem?_eq_getElem _⟩
        have hz' : zs'[k]? = some z := by
          have e := congrArg (fun l => l[0]?) Dr.out
          simp only [List.getElem?_drop, Nat.add_zero] at e
          rw [e, hz]
        have Kt := Lib.hid (keepB_take b zs k z hz)
        obtain ⟨⟨va, vn, vc, hvm⟩, ia, xn, ic, hvi⟩ := Sh.out z (List.mem_of_getElem? hz)
        have Hz := Lib.hid hz
        obtain ⟨e0, e1, e2, e3, e4⟩ := part_at Ow.out Hl.out.symm hz'
        rw [hvm] at e1
        rw [hvi] at e3
        have Nb := Lib.hid ((Nw.refl wr).alloc (.cells #[.int .i64 z.1.b, .slice va vn vc, .slice (some ⟨z.2.g, 0, none⟩) z.1.ms.length z.1.ms.length, .slice ia xn ic, .int .i64 z.2.tr] 84 (0, 0)))
        have Bx := Lib.hid (HasC.newB wr #[.int .i64 z.1.b, .slice va vn vc, .slice (some ⟨z.2.g, 0, none⟩) z.1.ms.length z.1.ms.length, .slice ia xn ic, .int .i64 z.2.tr] 84)
        have Cw := Lib.hid (Gr.out.cell C2.out (by simpa using hne))
        have Cb := Lib.hid ((World.cell?_of_block (w := wr) (a := ⟨eb, 2, none⟩) (Nb.out.block eb (World.block_lt_of_cell? wr _ Cw.out) (by simp))).trans Cw.out)
        clear hz hz'
        go_wp2_with fail
        refine (takeB_ok z.1.b eb b _ Cb.out _ _ _ _).mono ?_
        rintro e w5 ⟨rfl, n5⟩
        have N5 := Lib.hid (Nb.out.trans n5)
        have B5 := Lib.hid (Bx.out.nw n5)
        clear n5 e0 e1 e2 e3 e4
        have Ow5 := Lib.hid (own_nw Ow.out N5.out)
        have Gr5 := Lib.hid (Gr.out.trans' (show wr.grownBy w5 (some g) from ⟨N5.out.os, N5.out.tape, N5.out.output, N5.out.size, fun k a _ => N5.out.block k a (by simp)⟩))
        by_cases hb : z.1.b = b
        · rw [decide_eq_true hb]
          go_wp2_with fail
          go_roundw
          case rel => exact ⟨k + 1, m, zs', by omega, by omega, rfl, by rw [show ((k + 1 : Nat) : Int) = (k : Int) + 1 from by omega], Hl.out, by rw [Kt.out, if_pos hb, List.append_nil]; exact Tk.out, by rw [← List.drop_drop, ← List.drop_drop, Dr.out], Ow5.out, Gr5.out⟩
          case measure => simp only [intOf]; omega
        · rw [decide_eq_false hb]
          have pp := put_part Ow5.out (show m < zs'.length by rw [Hl.out]; omega) z
          rw [hvm, hvi] at pp
          have Pp := Lib.hid pp
          clear pp
          obtain ⟨⟨f0, -⟩, ⟨f1, -⟩, ⟨f2, -⟩, ⟨f3, -⟩, f4, -⟩ := five_at B5.out
          have t0 := there_row Ow5.out (m * 5) (by omega)
          have t1 := there_row Ow5.out (m * 5 + 1) (by omega)
          have t2 := there_row Ow5.out (m * 5 + 2) (by omega)
          have t3 := there_row Ow5.out (m * 5 + 3) (by omega)
          have t4 := there_row Ow5.out (m * 5 + 4) (by omega)
          obtain ⟨y0, q0⟩ := Option.isSome_iff_exists.1 t0.1
          have r0 := t0.2
          obtain ⟨y1, q1⟩ := Option.isSome_iff_exists.1 t1.1
          have r1 := t1.2
          obtain ⟨y2, q2⟩ := Option.isSome_iff_exists.1 t2.1
          have r2 := t2.2
          obtain ⟨y3, q3⟩ := Option.isSome_iff_exists.1 t3.1
          have r3 := t3.2
          obtain ⟨y4, q4⟩ := Option.isSome_iff_exists.1 t4.1
          have r4 := t4.2
          clear t0 t1 t2 t3 t4
          have hg5 : g < w5.heap.size := Nat.lt_of_lt_of_le hgr N5.out.size
          go_wp2_with fail
          go_roundw
          case rel =>
            refine ⟨k + 1, m + 1, zs'.set m z, by omega, by omega, by rw [show ((m + 1 : Nat) : Int) = (m : Int) + 1 from by omega], by rw [show ((k + 1 : Nat) : Int) = (k : Int) + 1 from by omega], by rw [List.length_set, Hl.out], ?_, ?_, Pp.out.1, Gr5.out.trans' Pp.out.2⟩
            · rw [Kt.out, if_neg hb, ← Tk.out, List.take_add_one, List.getElem?_set_self (by rw [Hl.out]; omega), List.take_set_of_le (Nat.le_refl _)]
              rfl
            · rw [List.drop_set_of_lt (by omega), ← List.drop_drop, ← List.drop_drop, Dr.out]
          case measure => simp only [intOf]; omega
      · obtain rfl : k = n := by omega
        have hkb : zs'.take m = keepB b zs := by rw [Tk.out, Hn.out, List.take_length]
        have hml : m = (keepB b zs).length := by rw [← hkb, List.length_take, Hl.out]; omega
        obtain ⟨zz, hzz⟩ : ∃ zz, zz = (Builtin.zeroCells (Value.agg #[.int .i64 0, .slice none 0 0, .slice none 0 0, .slice none 0 0, .int .i64 0]).cells (k - m)).toList := ⟨_, rfl⟩
        have zc := zero_cells (k - m)
        rw [← hzz] at zc
        obtain ⟨o2, g2⟩ := own_setCells (w := w) zz (cellsP zs') (m * 5) wr Ow.out
        have hfin : ((writeL (cellsP zs') (m * 5) zz).take (m * 5)) = cellsP (keepB b zs) := by
          rw [writeL_eq zz _ _ (by rw [cellsP_len, Hl.out, zc.1]; omega), List.append_assoc, List.take_append_of_le_length (by simp [cellsP_len, Hl.out]; omega), List.take_take, Nat.min_self, cellsP_take, hkb]
        have Fin := Lib.hid (show ∃ m', m' = (keepB b zs).length ∧ Ending.returned (.slice (some ⟨g, 0, none⟩) m cap) = .returned (.slice (some ⟨g, 0, none⟩) m' cap) ∧ (wr.setCells g (m * 5) zz).ownsRow base 84 5 (.slice (some ⟨g, 0, none⟩) m' cap) m' (cellsP (keepB b zs)) ∧ w.grownBy (wr.setCells g (m * 5) zz) (some g) from
          ⟨m, hml, rfl, by have h := own_cut o2 (show m ≤ k by omega); rw [hfin] at h; exact h, Gr.out.trans' g2⟩)
        have hcl : ∀ ty, (Builtin.clear_ #[78] ty #[.slice (some ⟨g, m * 5, none⟩) (k - m) (cap - m)]).run Tryz.prog wr = .ok (.tuple #[]) (wr.setCells g (m * 5) zz) :=
          fun ty => run_clear_cells wr 78 84 ty _ Tryz.underlying78 zero_part g (m * 5) (k - m) _ (by omega) zz hzz.symm zc.2 (fun j hj => (there_row Ow.out (m * 5 + j) (by rw [zc.1] at hj; omega)).1) (fun j hj => (there_row Ow.out (m * 5 + j) (by rw [zc.1] at hj; omega)).2)
        have hmk' : (m : Int) ≤ (k : Int) := by omega
        clear hfin o2 g2 zc hzz hkb hml
        go_wp2_with fail
        go_ret
        exact Fin.out
end Go.Proofs.YtiakcibeobbonaaGreat

/- What draws scores, fourth part: the ceiling; the walk of l7Score.
   Conditions: those that each statement names. -/
namespace Go.Proofs.YtiakcibeobbonaaGreat
set_option linter.unusedSimpArgs false
set_option linter.unusedVariables false
open Go Go.RowKit

/-- the ceiling of a score -/
def ceilF (z : Int) : Nat := opB .quo .f32 (floatOfInt .f32 z) 1090519040
def ceilFOk (z : Int) : Bool := (floatBits .quo .f32 (floatOfInt .f32 z) 1090519040).isSome && fin .f32 (ceilF z) && (FloatKind.f32.format.order (ceilF z) 0 == some .gt)
set_option maxRecDepth 100000 in
theorem ceilF_all : (([1, 8, 100] : List Int).all ceilFOk) = true := by decide +kernel
theorem ceilF_ok (z : Int) (hz : z ∈ ([1, 8, 100] : List Int)) : (∀ w, fres w .quo .f32 (floatOfInt .f32 z) 1090519040 = ceilF z) ∧ fdr .quo .f32 (floatOfInt .f32 z) 1090519040 = 0 ∧ Sm (ceilF z) ∧ (FloatKind.f32.format.order (ceilF z) 0 == some .gt) = true := by
  have h := ceilF_all
  rw [List.all_eq_true] at h
  have h := h z hz
  unfold ceilFOk at h
  simp only [Bool.and_eq_true] at h
  obtain ⟨⟨h1, h2⟩, h3⟩ := h
  obtain ⟨r, hr⟩ := Option.isSome_iff_exists.1 h1
  exact ⟨fun w => (Calm.of hr).1.res w, (Calm.of hr).1.fdr, Sm_of h2, h3⟩
theorem ints3L (w : World) (T : TypeId) (z0 z1 z2 : Int) : IntsL ((w.alloc (.cells #[.int .i64 z0, .int .i64 z1, .int .i64 z2] T (0, 0)))) w.heap.size [z0, z1, z2] := by
  intro k z hk
  match k, hk with
  | 0, hk => simp at hk; subst hk; go_simp
  | 1, hk => simp at hk; subst hk; go_simp
  | 2, hk => simp at hk; subst hk; go_simp
  | k + 3, hk => simp at hk

def relOkB (z : Int) : Bool := decide (dampF z < 4294967296) && !(dampF z == 2147483648)
set_option maxRecDepth 100000 in
theorem relF_all : (([0, 500, 990, 1000] : List Int).all relOkB) = true := by decide +kernel
/-- a release -/
def Rel (R : Nat) : Prop := Fact R ∧ R < 2 ^ 32 ∧ R ≠ 2147483648
theorem relF_ok (z : Int) (hz : z ∈ ([0, 500, 990, 1000] : List Int)) : Rel (dampF z) := by
  have h := relF_all
  rw [List.all_eq_true] at h
  have h := h z hz
  unfold relOkB at h
  simp only [Bool.and_eq_true, decide_eq_true_eq, Bool.not_eq_true', beq_eq_false_iff_ne] at h
  exact ⟨(dampF_ok z (by simp at hz ⊢; omega)).2.2, h.1, h.2⟩
/-- a score of at most M samples, with bodies and events in memory from 'base' on -/
def ScoP (B : Nat) (w0 : World) (a : Option Addr) (len cap c M base : Nat) (e : Ending) (w' : World) : Prop :=
  ∃ (L V C R : Nat) (bs : List (List M4)) (es : List Ev6) (sv ev : Value), e = .returned (.agg #[.int .i64 (L : Int), .int .i64 (V : Int), .float .f32 C, .float .f32 R, sv, ev]) ∧ L ≤ M ∧ 1 ≤ V ∧ V ≤ 4 ∧
    (Sm C ∧ (FloatKind.f32.format.order C 0 == some .gt) = true) ∧ Rel R ∧ bs.length ≤ 3 ∧ es.length ≤ 13 ∧ (∀ ms ∈ bs, ms.length ≤ 4 ∧ ∀ m ∈ ms, m.ok) ∧ (∀ x ∈ es, x.ok L bs.length) ∧
    BodsR w' base sv bs ∧ w'.ownsRow base 68 6 ev es.length (cellsE es) ∧ At B w0 a len cap c w'

theorem ScoP.of {B : Nat} {w0 : World} {a : Option Addr} {len cap c M base b' : Nat} {e : Ending} {w' : World} {L V C R : Nat} {bs : List (List M4)} {es : List Ev6} {sv ev : Value} (he : e = .returned (.agg #[.int .i64 (L : Int), .int .i64 (V : Int), .float .f32 C, .float .f32 R, sv, ev])) (h1 : L ≤ M) (h2 : 1 ≤ V) (h3 : V ≤ 4)
    (h4 : Sm C ∧ (FloatKind.f32.format.order C 0 == some .gt) = true) (h5 : Rel R) (h6 : bs.length ≤ 3) (h7 : es.length ≤ 13) (h8 : ∀ ms ∈ bs, ms.length ≤ 4 ∧ ∀ m ∈ ms, m.ok) (h9 : ∀ x ∈ es, x.ok L bs.length)
    (z1 : BodsR w' base sv bs) (z2 : w'.ownsRow base 68 6 ev es.length (cellsE es)) (z3 : At B w0 a len cap c w') (hb : b' ≤ base) : ScoP B w0 a len cap c M b' e w' :=
  ⟨L, V, C, R, bs, es, sv, ev, he, h1, h2, h3, h4, h5, h6, h7, h8, h9, z1.base hb, own_base z2 hb, z3⟩
def ScoB (B : Nat) (w0 : World) (a : Option Addr) (len cap c bS bR base L V C R : Nat) (i : Value) (wr : World) : Prop :=
  ∃ (k : Nat) (bs : List (List M4)) (sv : Value), i = .int .i64 (k : Int) ∧ k + bs.length ≤ 3 ∧ ScoI B w0 a len cap c bS bR base L (V : Int) C R bs [] sv (.slice none 0 0) wr
def ScoE (B : Nat) (w0 : World) (a : Option Addr) (len cap c bS bR base L V C R : Nat) (bs : List (List M4)) (sv : Value) (i : Value) (wr : World) : Prop :=
  ∃ (k : Nat) (es : List Ev6) (ev : Value), i = .int .i64 (k : Int) ∧ k + es.length ≤ 13 ∧ ScoI B w0 a len cap c bS bR base L (V : Int) C R bs es sv ev wr

set_option maxHeartbeats 3200000 in
set_option maxRecDepth 100000 in
theorem l7Score_at (B : Nat) (w0 : World) (a : Option Addr) (len cap c M : Nat) (hM : M ≤ 500) (w : World) (hc : At B w0 a len cap c w) :
    Calls Tryz.prog 11 #[.pointer (some ⟨c, 0, none⟩), .int .i64 (M : Int)] w (ScoP B w0 a len cap c M w.heap.size) := by
  obtain ⟨i0, hi, hz0, hz1, hz2⟩ := info_parts info_int
  have hui := Tryz.underlying63
  have hcs : c < w.heap.size := hc.1.2.1
  have hBc : B ≤ c := hc.1.1
  have hw0 : w0.heap.size ≤ w.heap.size := hc.2.size
  have R0 := Lib.hid (HasC.new w 27 (.int .i64 0) (.int .i64 0) (.float .f32 0) (.float .f32 0) (.slice none 0 0) (.slice none 0 0))
  have Hc := Lib.hid (hc.alloc (.cells #[.int .i64 0, .int .i64 0, .float .f32 0, .float .f32 0, .slice none 0 0, .slice none 0 0] 27 (0, 0)))
  clear hc
  go_enter Tryz.func11, Tryz.ntmps11
  go_wp2_with fail
  refine (below_at _ _ _ _ _ _ _ (by omega) (by omega) _ Hc.out.here).mono ?_
  rintro e w1 ⟨x1, x10, x11, rfl, hc1⟩
  have hs1 := hc1.2.size
  simp at hs1
  have H1 := Lib.hid (show At B w0 a len cap c w1 from ⟨hc1.1, Hc.out.2.trans hc1.2⟩)
  have R1 := Lib.hid (R0.out.kp hc1.2 (by omega))
  clear hc1
  go_wp2_with fail
  refine (below_at _ _ _ _ _ _ _ (by omega) (by omega) _ H1.out.here).mono ?_
  rintro e w2 ⟨x2, x20, x21, rfl, hc2⟩
  have hs2 := hc2.2.size
  have H2 := Lib.hid (show At B w0 a len cap c w2 from ⟨hc2.1, H1.out.2.trans hc2.2⟩)
  have R2 := Lib.hid (R1.out.kp hc2.2 (by omega))
  clear hc2
  go_wp2_with fail
  refine (l01Int_in _ _ _ _ _ _ w2.heap.size 3 3 [1, 8, 100] rfl (by omega) (by omega) _ (H2.out.alloc (.cells #[.int .i64 1, .int .i64 8, .int .i64 100] 3 (0, 0))).here (by simp) (by omega) (ints3L w2 3 1 8 100)).mono ?_
  rintro e w3 ⟨x3, hm3, rfl, hc3⟩
  have hs3 := hc3.2.size
  simp at hs3
  have H3 := Lib.hid (show At B w0 a len cap c w3 from ⟨hc3.1, (H2.out.alloc (.cells #[.int .i64 1, .int .i64 8, .int .i64 100] 3 (0, 0))).2.trans hc3.2⟩)
  have R3 := Lib.hid ((R2.out.alloc (.cells #[.int .i64 1, .int .i64 8, .int .i64 100] 3 (0, 0))).kp hc3.2 (by omega))
  clear hc3
  obtain ⟨q1, q2, q3, q3'⟩ := ceilF_ok x3 hm3
  go_wp2_with fail
  refine (l01Int_in _ _ _ _ _ _ w3.heap.size 4 4 [0, 500, 990, 1000] rfl (by omega) (by omega) _ (H3.out.alloc (.cells #[.int .i64 0, .int .i64 500, .int .i64 990, .int .i64 1000] 3 (0, 0))).here (by simp) (by omega) (ints4L w3 3 0 500 990 1000)).mono ?_
  rintro e w4 ⟨x4, hm4, rfl, hc4⟩
  have hs4 := hc4.2.size
  simp at hs4
  have H4 := Lib.hid (show At B w0 a len cap c w4 from ⟨hc4.1, (H3.out.alloc (.cells #[.int .i64 0, .int .i64 500, .int .i64 990, .int .i64 1000] 3 (0, 0))).2.trans hc4.2⟩)
  have R4 := Lib.hid ((R3.out.alloc (.cells #[.int .i64 0, .int .i64 500, .int .i64 990, .int .i64 1000] 3 (0, 0))).kp hc4.2 (by omega))
  clear hc4
  obtain ⟨q4, q5, q6⟩ := dampF_ok x4 (by simp at hm4 ⊢; omega)
  obtain ⟨L, rfl⟩ : ∃ L : Nat, x1 = L := ⟨x1.toNat, by omega⟩
  have hV : ∃ V : Nat, 1 + x2 = (V : Int) ∧ 1 ≤ V ∧ V ≤ 4 := ⟨(1 + x2).toNat, by omega, by omega, by omega⟩
  obtain ⟨V, hV0, hV1, hV2⟩ := hV
  have I4 := Lib.hid (show ScoI B w0 a len cap c w4.heap.size w.heap.size (w4.heap.size + 1) L V (ceilF x3) (dampF x4) [] [] (.slice none 0 0) (.slice none 0 0) (w4.alloc (.cells #[.int .i64 L, .int .i64 V, .float .f32 (ceilF x3), .float .f32 (dampF x4), .slice none 0 0, .slice none 0 0] 27 (0, 0))) from
    ⟨H4.out.alloc _, HasC.new _ _ _ _ _ _ _ _, R4.out.alloc _, BodsR.nil _ _, World.ownsRow_nil _ _ _ _, by simp, by simp, by simp⟩)
  have Q := Lib.hid (And.intro q3 (And.intro q3' (relF_ok x4 hm4)))
  go_wp2_with fail
  refine (below_at _ _ _ _ _ _ _ (by omega) (by omega) _ I4.out.at'.here).mono ?_
  rintro e w5 ⟨x5, x50, x51, rfl, hc5⟩
  have I5 := Lib.hid (I4.out.kp ⟨hc5.1, I4.out.at'.2.trans hc5.2⟩ hc5.2 (by omega) (by omega) (by omega))
  clear hc5
  obtain ⟨bS, hbS⟩ : ∃ bS, bS = w4.heap.size := ⟨_, rfl⟩
  have hSR : w.heap.size + 1 ≤ bS := by omega
  rw [← hbS] at I5
  rw [← hbS]
  have hRw := hw0
  have hcR := hcs
  obtain ⟨C, hC⟩ : ∃ C, C = ceilF x3 := ⟨_, rfl⟩
  obtain ⟨R, hR⟩ : ∃ R, R = dampF x4 := ⟨_, rfl⟩
  rw [← hC] at I5 Q ⊢
  rw [← hR] at I5 Q ⊢
  clear I4 H1 H2 H3 H4 R0 R1 R2 R3 R4 Hc q1 q2 q3 q3' q4 q5 q6 hm3 hm4 hC hR hs1 hs2 hs3 hs4 hbS hcs
  go_wp2_with fail
  go_loopw [6] (fun i wr => ScoB B w0 a len cap c bS w.heap.size (bS + 1) L V C R i wr) (fun i _ => (intOf i).toNat)
  case atStart => exact ⟨x5.toNat, [], _, by rw [Int.toNat_of_nonneg x50], by simp; omega, I5.out⟩
  case round =>
    obtain ⟨k, bs, sv, rfl, hk, hI⟩ := hrel
    have Ir := Lib.hid hI
    clear hI
    obtain ⟨⟨l0, g0⟩, ⟨l1, g1⟩, ⟨l2, g2⟩, ⟨l3, g3⟩, ⟨l4, g4⟩, ⟨l5, g5⟩⟩ := six_at Ir.out.hs
    obtain ⟨vs, ho, hin⟩ := Ir.out.bods
    obtain ⟨ta, tc, rfl⟩ := own_shape' ho
    by_cases hk0 : 0 < k
    · have Ho := Lib.hid (And.intro ho hin)
      clear ho hin
      go_upto_region 5 with fail
      have J := Lib.hid (Ir.out.nw ((Nw.refl wr).draw 1))
      have k1 := l2Body_at _ _ _ _ _ _ 4 (by omega) wr.drew (show At B w0 a len cap c wr.drew from J.out.at').here
      rw [show ((4 : Nat) : Int) = 4 from rfl] at k1
      have K1 := Lib.hid k1
      clear k1
      go_region_law (first
        | (go_simp
           go_at_call 24
           with_reducible refine K1.out.mono ?_
           rintro e w6 ⟨ms, mv, rfl, hms, hok, hown, hc6⟩
           obtain ⟨pa, pc, rfl⟩ := own_shape' hown
           have J6 := Lib.hid (J.out.kp ⟨hc6.1, J.out.at'.2.trans hc6.2⟩ hc6.2 (by omega) (by omega) (by omega))
           have O6 := Lib.hid hown
           have Mo6 := Lib.hid (And.intro hms hok)
           have Ho6 := Lib.hid (own_kp (show World.ownsRow wr.drew _ _ _ _ _ _ from own_nw Ho.out.1 ((Nw.refl wr).draw 1)) hc6.2 (by omega))
           have Hi6 := Lib.hid (fun p r hp => show ∃ v, vs[p]? = some v ∧ w6.ownsRow (bS + 1) 93 2 v r.length (cellsM r) from by obtain ⟨v, a, b⟩ := Ho.out.2 p r hp; exact ⟨v, a, own_kp (show World.ownsRow wr.drew _ _ _ _ _ _ from own_nw b ((Nw.refl wr).draw 1)) hc6.2 (by omega)⟩)
           have hS6 : bS < w6.heap.size := J6.out.hs.1
           obtain ⟨⟨m0, n0⟩, ⟨m1, n1⟩, ⟨m2, n2⟩, ⟨m3, n3⟩, ⟨m4, n4⟩, ⟨m5, n5⟩⟩ := six_at J6.out.hs
           clear hown hc6 hms hok)
        | (refine step_append_body rfl (.tmp 33) (.tmp 36) rfl (bS + 1) bs.length w6.heap.size (.slice ta bs.length tc) (.slice pa ms.length pc) vs rfl rfl (Ho6.out.alloc _) (by go_simp) rfl (by omega) (by have := J6.out.sz; simp; omega) ?_
           intro v7 w7 own7 gr7
           obtain ⟨B7, F7⟩ := ScoI.body (J6.out.nw ((Nw.refl w6).alloc _)) (Ho6.out.alloc _) (fun p r hp => by obtain ⟨v, a, b⟩ := Hi6.out p r hp; exact ⟨v, a, b.alloc _⟩) (O6.out.alloc _) (by have := Ir.out.sz; show bS + 1 ≤ wr.drew.heap.size; exact this) Mo6.out own7 gr7 (by omega) (by omega) (by omega) (by omega) (by omega) (by omega) (by omega) (by omega) (by omega)
           have Hf7 := Lib.hid F7
           obtain ⟨qa, qn, qc, rfl⟩ := own_shape own7
           obtain ⟨⟨o0, h0⟩, ⟨o1, h1⟩, ⟨o2, h2⟩, ⟨o3, h3⟩, ⟨o4, h4⟩, ⟨o5, h5⟩⟩ := six_at B7
           clear F7 B7 own7 gr7))
      all_goals
        go_wp2_with fail
        go_roundw
        case rel => exact ⟨k - 1, bs ++ [ms], _, by rw [show ((k - 1 : Nat) : Int) = (k : Int) - 1 from by omega], by simp; omega, Hf7.out⟩
        case measure => simp only [intOf]; omega
    · clear ho hin
      have hk' : k = 0 := by omega
      subst hk'
      by_cases hb0 : bs.length = 0
      · have hb0' : ((bs.length : Int) == 0) = true := by simp [hb0]
        clear hb0
        obtain ⟨⟨r0, f0⟩, ⟨r1, f1⟩, ⟨r2, f2⟩, ⟨r3, f3⟩, ⟨r4, f4⟩, ⟨r5, f5⟩⟩ := six_at Ir.out.hr
        obtain ⟨z1, z2, z3⟩ := Ir.out.ret (by omega) (by omega) (by omega) hRw (.int .i64 (L : Int)) (.int .i64 (V : Int)) (.float .f32 C) (.float .f32 R) (.slice ta bs.length tc) (.slice none 0 0)
        have hfin := ScoP.of (e := .returned (.agg #[.int .i64 (L : Int), .int .i64 (V : Int), .float .f32 C, .float .f32 R, .slice ta bs.length tc, .slice none 0 0])) (M := M) rfl (by omega) hV1 hV2 ⟨Q.out.1, Q.out.2.1⟩ Q.out.2.2 (by omega) (by decide) Ir.out.bok Ir.out.eok z1 z2 z3 (b' := w.heap.size) (Nat.le_refl _)
        have Hfin := Lib.hid hfin
        clear hfin z1 z2 z3
        go_wp2_with fail
        exact bodyPost_ret (v := .agg #[.int .i64 (L : Int), .int .i64 (V : Int), .float .f32 C, .float .f32 R, .slice ta bs.length tc, .slice none 0 0]) (by simp [results, Tryz.results11, go_sem, r0, r1, r2, r3, r4, r5, f0]) rfl
          Hfin.out
      · have hb0' : ((bs.length : Int) == 0) = false := by simpa using hb0
        have hb1 : 1 ≤ bs.length := by omega
        clear hb0
        go_wp2_with fail
        refine (below_at _ _ _ _ _ _ _ (by omega) (by omega) _ Ir.out.at'.here).mono ?_
        rintro e w6 ⟨x6, x60, x61, rfl, hc6⟩
        have I6 := Lib.hid (Ir.out.kp ⟨hc6.1, Ir.out.at'.2.trans hc6.2⟩ hc6.2 (by omega) (by omega) (by omega))
        clear hc6 l0 g0 l1 g1 l2 g2 l3 g3 l4 g4 l5 g5 Ir
        go_wp2_with fail
        go_loopw [7] (fun i wr => ScoE B w0 a len cap c bS w.heap.size (bS + 1) L V C R bs (.slice ta bs.length tc) i wr) (fun i _ => (intOf i).toNat)
        case atStart => exact ⟨x6.toNat, [], _, by rw [Int.toNat_of_nonneg x60], by simp; omega, I6.out⟩
        case round =>
          obtain ⟨k, es, ev, rfl, hke, hI⟩ := hrel
          have Ir := Lib.hid hI
          clear hI
          obtain ⟨⟨l0, g0⟩, ⟨l1, g1⟩, ⟨l2, g2⟩, ⟨l3, g3⟩, ⟨l4, g4⟩, ⟨l5, g5⟩⟩ := six_at Ir.out.hs
          have ho := Ir.out.evs
          obtain ⟨ua, uc, rfl⟩ := own_shape' ho
          by_cases hk0 : 0 < k
          · clear ho
            go_upto_region 11 with fail
            have J := Lib.hid (Ir.out.nw ((Nw.refl wr).draw 1))
            have k1 := l7Some_at _ _ _ _ _ _ L bs.length (by omega) (by omega) (by omega) wr.drew (show At B w0 a len cap c wr.drew from J.out.at').here
            have K1 := Lib.hid k1
            clear k1
            go_region_law (first
              | (go_simp
                 go_at_call 25
                 with_reducible refine K1.out.mono ?_
                 rintro e w7 ⟨et, ek, eb, es', em, ef, rfl, heok, hc7⟩
                 have J7 := Lib.hid (J.out.kp ⟨hc7.1, J.out.at'.2.trans hc7.2⟩ hc7.2 (by omega) (by omega) (by omega))
                 have E7 := Lib.hid (show Ev6.ok L bs.length ⟨et, ek, eb, es', em, ef⟩ from heok)
                 have hS7 : bS < w7.heap.size := J7.out.hs.1
                 obtain ⟨⟨m0, n0⟩, ⟨m1, n1⟩, ⟨m2, n2⟩, ⟨m3, n3⟩, ⟨m4, n4⟩, ⟨m5, n5⟩⟩ := six_at J7.out.hs
                 unfold evV
                 clear heok hc7)
              | (refine step_append_event rfl (.tmp 51) (.tmp 59) rfl (bS + 1) es.length w7.heap.size (.slice ua es.length uc) ⟨et, ek, eb, es', em, ef⟩ es rfl rfl (J7.out.evs.alloc _) (fun j u hj => ((HasC.new w7 68 (.int .i64 et) (.int .i64 ek) (.int .i64 eb) (.int .i64 es') (.int .i64 em) (.float .f32 ef)).2 j u hj).1) (by omega) (by have := J7.out.sz; simp; omega) ?_
                 intro v8 w8 own8 gr8
                 obtain ⟨B8, F8⟩ := ScoI.event (J7.out.nw ((Nw.refl w7).alloc _)) E7.out own8 gr8 (by omega) (by omega) (by omega) (by omega) (by omega) (by omega) (by omega) (by omega) (by omega)
                 have Hf8 := Lib.hid F8
                 obtain ⟨qa, qn, qc, rfl⟩ := own_shape own8
                 obtain ⟨⟨o0, h0⟩, ⟨o1, h1⟩, ⟨o2, h2⟩, ⟨o3, h3⟩, ⟨o4, h4⟩, ⟨o5, h5⟩⟩ := six_at B8
                 clear F8 B8 own8 gr8))
            all_goals
              go_wp2_with fail
              go_roundw
              case rel => exact ⟨k - 1, es ++ [⟨et, ek, eb, es', em, ef⟩], _, by rw [show ((k - 1 : Nat) : Int) = (k : Int) - 1 from by omega], by simp; omega, Hf8.out⟩
              case measure => simp only [intOf]; omega
          · clear ho
            have hk' : k = 0 := by omega
            subst hk'
            obtain ⟨⟨r0, f0⟩, ⟨r1, f1⟩, ⟨r2, f2⟩, ⟨r3, f3⟩, ⟨r4, f4⟩, ⟨r5, f5⟩⟩ := six_at Ir.out.hr
            obtain ⟨z1, z2, z3⟩ := Ir.out.ret (by omega) (by omega) (by omega) hRw (.int .i64 (L : Int)) (.int .i64 (V : Int)) (.float .f32 C) (.float .f32 R) (.slice ta bs.length tc) (.slice ua es.length uc)
            have hfin := ScoP.of (e := .returned (.agg #[.int .i64 (L : Int), .int .i64 (V : Int), .float .f32 C, .float .f32 R, .slice ta bs.length tc, .slice ua es.length uc])) (M := M) rfl (by omega) hV1 hV2 ⟨Q.out.1, Q.out.2.1⟩ Q.out.2.2 (by omega) (by omega) Ir.out.bok Ir.out.eok z1 z2 z3 (b' := w.heap.size) (Nat.le_refl _)
            have Hfin := Lib.hid hfin
            clear hfin z1 z2 z3
            go_wp2_with fail
            exact bodyPost_ret (v := .agg #[.int .i64 (L : Int), .int .i64 (V : Int), .float .f32 C, .float .f32 R, .slice ta bs.length tc, .slice ua es.length uc]) (by simp [results, Tryz.results11, go_sem, r0, r1, r2, r3, r4, r5, f0]) rfl
              Hfin.out

end Go.Proofs.YtiakcibeobbonaaGreat

/- Events compared.
   Conditions: those that each statement names. -/
namespace Go.Proofs.YtiakcibeobbonaaGreat
set_option linter.unusedSimpArgs false
set_option linter.unusedVariables false
open Go Go.RowKit

end Go.Proofs.YtiakcibeobbonaaGreat

/- Rows of samples that are filled from their beginning.
   Conditions: those that each statement names. -/
namespace Go.Proofs.YtiakcibeobbonaaGreat
set_option linter.unusedSimpArgs false
set_option linter.unusedVariables false
open Go Go.RowKit

/-- the first k places of n are filled -/
def fillL (f : Nat → Nat) (n k : Nat) : List Nat := (List.range k).map f ++ List.replicate (n - k) 0
theorem fillL_zero (f : Nat → Nat) (n : Nat) : fillL f n 0 = List.replicate n 0 := by simp [fillL]
theorem fillL_full (f : Nat → Nat) (n : Nat) : fillL f n n = (List.range n).map f := by simp [fillL]
theorem fillL_len (f : Nat → Nat) (n k : Nat) (h : k ≤ n) : (fillL f n k).length = n := by simp [fillL]; omega
theorem fillL_set (f : Nat → Nat) (n k : Nat) (h : k < n) : (cellsS (fillL f n k)).set k (.float .f32 (f k)) = cellsS (fillL f n (k + 1)) := by
  unfold fillL
  rw [show n - k = (n - (k + 1)) + 1 from by omega, List.replicate_succ, List.range_succ]
  simp only [cellsS, List.map_append, List.map_cons, List.map_nil, List.append_assoc, List.singleton_append]
  rw [List.set_append_right _ _ (by simp)]
  simp
theorem fillL_cell (f : Nat → Nat) (n k : Nat) (h : k < n) : (cellsS (fillL f n k))[k]? = some (.float .f32 0) := by
  unfold fillL cellsS
  rw [List.getElem?_map, List.getElem?_append_right (by simp)]
  simp [List.getElem?_replicate]
  omega

end Go.Proofs.YtiakcibeobbonaaGreat

/- The walks of StrikeShape, scaleSamples and StrikeBody.
   Conditions: those that each statement names. -/
namespace Go.Proofs.YtiakcibeobbonaaGreat
set_option linter.unusedSimpArgs false
set_option linter.unusedVariables false
open Go Go.RowKit

def FillI (B g n : Nat) (f : Nat → Nat) (w : World) (i : Value) (wr : World) : Prop :=
  ∃ k : Nat, k ≤ n ∧ i = .int .i64 (k : Int) ∧ wr.ownsRow B 23 1 (.slice (some ⟨g, 0, none⟩) n n) n (cellsS (fillL f n k)) ∧ Nw w wr
def ShapeP (n : Nat) (xs : List Nat) (w : World) (e : Ending) (w' : World) : Prop :=
  ∃ g : Nat, e = .returned (.tuple #[.slice (some ⟨g, 0, none⟩) n n, .bool true]) ∧ w'.ownsRow w.heap.size 23 1 (.slice (some ⟨g, 0, none⟩) n n) n (cellsS xs) ∧ Nw w w'

theorem shapeL_click (n : Nat) : shapeL 0 n = (List.range n).map clickAt := by
  have h : shapeAt 0 n = clickAt := by funext i; simp [shapeAt]
  unfold shapeL; rw [h]
theorem shapeL_ramp (n : Nat) : shapeL 1 n = (List.range n).map (rampAt n) := by
  have h : shapeAt 1 n = rampAt n := by funext i; simp [shapeAt]
  unfold shapeL; rw [h]
theorem shapeL_arch (n : Nat) : shapeL 2 n = (List.range n).map (archAt n) := by
  have h : shapeAt 2 n = archAt n := by funext i; simp [shapeAt]
  unfold shapeL; rw [h]
theorem click_set (n : Nat) (h : 1 ≤ n) : (cellsS (fillL clickAt n 0)).set 0 (.float .f32 1065353216) = cellsS ((List.range n).map clickAt) := by
  obtain ⟨m, rfl⟩ : ∃ m, n = m + 1 := ⟨n - 1, by omega⟩
  rw [fillL_zero, List.replicate_succ, List.range_succ_eq_map]
  simp only [cellsS, List.map_cons, List.map_map, List.set_cons_zero, List.map_replicate]
  congr 1
  apply List.ext_getElem?
  intro i
  simp only [List.getElem?_replicate, List.getElem?_map, List.getElem?_range']
  by_cases hi : i < m <;> simp [hi, clickAt]

set_option maxRecDepth 100000 in
theorem strikeShape_ok (kind n : Nat) (hk : kind ≤ 2) (h1 : 1 ≤ n) (hn : n ≤ 64) (w : World) :
    Calls Tryz.prog 105 #[.int .i64 (kind : Int), .int .i64 (n : Int)] w (ShapeP n (shapeL kind n) w) := by
  obtain ⟨f0, hf, hfz0, hfz1, hfz2⟩ := info_parts info_f32
  have hk3 : kind = 0 ∨ kind = 1 ∨ kind = 2 := by omega
  rcases hk3 with rfl | rfl | rfl
  all_goals
    go_enter Tryz.func105, Tryz.ntmps105
    go_wp2_with (first
      | (at_make; refine wpList_make_full _ rfl _ _ 35 rfl w.heap.size 23 f0 (.float .f32 0) 1 Tryz.underlying35 hf hfz0 hfz1 _ _ _ _ n rfl rfl rfl rfl (by rw [hfz2]; omega) (by unfold maxLen; omega) (Nat.le_refl _) ?_))
    intro w3 hown3 hgrow3
  · have O3 := Lib.hid (show w3.ownsRow w.heap.size 23 1 (.slice (some ⟨w.heap.size, 0, none⟩) n n) n (cellsS (fillL clickAt n 0)) from by
      rw [toList_madeCells_one] at hown3
      rw [fillL_zero]
      simpa [cellsS] using hown3)
    have e1 := O3.out.cellAt 0 (by omega)
    rw [fillL_cell clickAt n 0 (by omega)] at e1
    have e2 := O3.out.frozenAt 0
    have hset := O3.out.stored 0 (.float .f32 1065353216)
    have hlt := (O3.out.lt _ rfl)
    have N3 := Lib.hid (show Nw w (w3.setCell ⟨w.heap.size, 0, none⟩ (.float .f32 1065353216)) from Nw.set hgrow3 (by show w.heap.size ≤ w.heap.size; omega) _)
    rw [click_set n h1] at hset
    have F := Lib.hid hset.1
    clear hset hown3 hgrow3
    go_wp2_with fail
    go_ret2
    exact ⟨_, rfl, by rw [shapeL_click]; exact F.out, N3.out⟩
  · have O3 := Lib.hid (show w3.ownsRow w.heap.size 23 1 (.slice (some ⟨w.heap.size, 0, none⟩) n n) n (cellsS (fillL (rampAt n) n 0)) from by
      rw [toList_madeCells_one] at hown3
      rw [fillL_zero]
      simpa [cellsS] using hown3)
    have N3 := Lib.hid (show Nw w w3 from hgrow3)
    clear hown3 hgrow3
    go_wp2_with fail
    go_loopw [27] (fun i wr => FillI w.heap.size w.heap.size n (rampAt n) w i wr) (fun i _ => n - (intOf i).toNat)
    case atStart => exact ⟨0, by omega, rfl, O3.out, N3.out⟩
    case round =>
      obtain ⟨k, hk, rfl, how, hnw⟩ := hrel
      have Ow := Lib.hid how
      have Nr := Lib.hid hnw
      clear how hnw
      by_cases hlt : k < n
      · have hb := all_pairs ramp_all n k hn hlt
        rw [rampB_eq] at hb
        simp only [Bool.and_eq_true] at hb
        have hc := calm_of hb.1.1.1
        have r1 := hc.res
        have d1 := hc.fdr
        have e1 := Ow.out.cellAt k (by omega)
        rw [fillL_cell (rampAt n) n k hlt] at e1
        have e2 := Ow.out.frozenAt k
        have hset := Ow.out.stored k (.float .f32 (rampAt n k))
        rw [fillL_set (rampAt n) n k hlt] at hset
        have F := Lib.hid hset.1
        have N2 := Lib.hid (Nr.out.set (p := ⟨w.heap.size, k, none⟩) (by show w.heap.size ≤ w.heap.size; omega) (.float .f32 (rampAt n k)))
        clear hb hc hset
        unfold rampAt at F N2
        go_wp2_with fail
        go_roundw
        case rel => exact ⟨k + 1, by omega, by rw [show ((k + 1 : Nat) : Int) = (k : Int) + 1 from by omega], F.out, N2.out⟩
        case measure => simp only [intOf]; omega
      · obtain rfl : k = n := by omega
        go_wp2_with fail
        go_ret2
        exact ⟨_, rfl, by have h := Ow.out; rw [fillL_full] at h; rw [shapeL_ramp]; exact h, Nr.out⟩
  · have O3 := Lib.hid (show w3.ownsRow w.heap.size 23 1 (.slice (some ⟨w.heap.size, 0, none⟩) n n) n (cellsS (fillL (archAt n) n 0)) from by
      rw [toList_madeCells_one] at hown3
      rw [fillL_zero]
      simpa [cellsS] using hown3)
    have N3 := Lib.hid (show Nw w w3 from hgrow3)
    clear hown3 hgrow3
    go_wp2_with fail
    go_loopw [44] (fun i wr => FillI w.heap.size w.heap.size n (archAt n) w i wr) (fun i _ => n - (intOf i).toNat)
    case atStart => exact ⟨0, by omega, rfl, O3.out, N3.out⟩
    case round =>
      obtain ⟨k, hk, rfl, how, hnw⟩ := hrel
      have Ow := Lib.hid how
      have Nr := Lib.hid hnw
      clear how hnw
      by_cases hlt : k < n
      · have hb := all_pairs arch_all n k hn hlt
        rw [archB_eq] at hb
        simp only [Bool.and_eq_true] at hb
        have c1 := calm_of hb.1.1.1.1
        have c2 := calm_of hb.1.1.1.2
        have c3 := calm_of hb.1.1.2
        have c4 := calm_of hb.1.2
        have r1 := c1.res
        have d1 := c1.fdr
        have r2 := c2.res
        have d2 := c2.fdr
        have r3 := c3.res
        have d3 := c3.fdr
        have r4 := c4.res
        have d4 := c4.fdr
        have e1 := Ow.out.cellAt k (by omega)
        rw [fillL_cell (archAt n) n k hlt] at e1
        have e2 := Ow.out.frozenAt k
        have hset := Ow.out.stored k (.float .f32 (archAt n k))
        rw [fillL_set (archAt n) n k hlt] at hset
        have F := Lib.hid hset.1
        have N2 := Lib.hid (Nr.out.set (p := ⟨w.heap.size, k, none⟩) (by show w.heap.size ≤ w.heap.size; omega) (.float .f32 (archAt n k)))
        clear hb c1 c2 c3 c4 hset
        unfold archAt archP archM archT at F N2
        unfold archP archM archT at r4 d4
        unfold archT at r2 d2 r3 d3
        go_wp2_with fail
        go_roundw
        case rel => exact ⟨k + 1, by omega, by rw [show ((k + 1 : Nat) : Int) = (k : Int) + 1 from by omega], F.out, N2.out⟩
        case measure => simp only [intOf]; omega
      · obtain rfl : k = n := by omega
        go_wp2_with fail
        go_ret2
        exact ⟨_, rfl, by have h := Ow.out; rw [fillL_full] at h; rw [shapeL_arch]; exact h, Nr.out⟩

end Go.Proofs.YtiakcibeobbonaaGreat

/- What a proof of a law over one slice of bytes begins with: the argument, opened.
   Conditions: those that each statement names. -/
namespace Go.Proofs.YtiakcibeobbonaaGreat
set_option linter.unusedSimpArgs false
set_option linter.unusedVariables false
open Go Go.ChangeShapes Go.WideShapes Go.ChangeAt Go.RowKit

theorem own : ownKnob Tryz.prog.godebug = none := by kernel_rfl
theorem laidOut : laidOutB Tryz.prog = true := by kernel_rfl

/-- WHAT THE WALK IS TOLD OF A SLICE OF INTEGERS THAT CAME IN: it is nil; or it leads to a row of 'cap' cells, the numbers 'zs' (the first 'len' are its elements, the rest its spare room), each fitting its kind. -/
def IsRow (k : IntKind) (w : World) (a : Option Addr) (len cap : Nat) (zs : List Int) : Prop :=
  (a = none ∧ len = 0 ∧ cap = 0 ∧ zs = []) ∨
  ∃ x, a = some x ∧ len ≤ cap ∧ cap ≤ maxLen ∧ zs.length = cap ∧ (∀ i, i < zs.length → w.cell? (x.add i) = some (.int k (zs.getD i 0))) ∧ ∀ n ∈ zs, (Lit.int k n).wf = true


theorem cell_lt {w : World} {p : Addr} {v : Value} (h : w.cell? p = some v) : p.block < w.heap.size ∧ p.spot = none := by
  unfold World.cell? at h
  split at h
  · rename_i c _ _ hb
    have hs : p.spot.isSome = false := by
      cases hp : p.spot.isSome
      · rfl
      · rw [hp] at h; simp at h
    refine ⟨?_, by simpa using hs⟩
    rcases Nat.lt_or_ge p.block w.heap.size with g | g
    · exact g
    · rw [Array.getElem?_eq_none g] at hb; cases hb
  · cases h

theorem bys_of_row {w : World} {a : Option Addr} {len cap : Nat} {zs : List Int} (h : IsRow .u8 w a len cap zs) (hl : len ≤ 140737488351232) : Bys w.heap.size a len w := by
  refine ⟨hl, ?_⟩
  rcases h with ⟨rfl, rfl, _, _⟩ | ⟨x, rfl, hlc, hcm, hz, hcell, hwf⟩
  · exact .inl rfl
  · by_cases h0 : len = 0
    · exact .inl h0
    · right
      have c0 := hcell 0 (by omega)
      have e0 : x.add 0 = x := by unfold Addr.add; rw [if_pos rfl]
      rw [e0] at c0
      obtain ⟨hb, hs⟩ := cell_lt c0
      refine ⟨x.block, x.off, by cases x; simp at hs; subst hs; rfl, hb, fun k hk => ?_⟩
      have hc := hcell k (by omega)
      have hmem : zs.getD k 0 ∈ zs := by
        rw [List.getD_eq_getElem?_getD, List.getElem?_eq_getElem (by omega), Option.getD_some]
        exact List.getElem_mem _
      have hw := hwf _ hmem
      have hadd : x.add k = ⟨x.block, x.off + k, none⟩ := by
        unfold Addr.add; split
        · rename_i h0; subst h0; cases x; simp at hs; subst hs; rfl
        · rfl
      rw [hadd] at hc
      generalize zs.getD k 0 = z at hw hc
      have hz2 : 0 ≤ z ∧ z ≤ 255 := by simpa [Lit.wf, IntKind.min, IntKind.max, IntKind.signed, IntKind.bits, Int.le_sub_one_iff] using hw
      exact ⟨z.toNat, by omega, by rw [hc]; congr 2; omega⟩

end Go.Proofs.YtiakcibeobbonaaGreat

/- An argument that is a slice of samples, opened; the walks of sameFloat, toFloat32S and eqFloat32S.
   Conditions: those that each statement names. -/
namespace Go.Proofs.YtiakcibeobbonaaGreat
set_option linter.unusedSimpArgs false
set_option linter.unusedVariables false
open Go Go.ChangeShapes Go.WideShapes Go.ChangeAt Go.RowKit

theorem trod_float {H : Type} {enc : TypeId × Value → H} {P : Program} {w : World} {base : Nat} {spare : Nat → Bool} {held : Bool} {fuel : Nat} {t : TypeId} {cs : List Value} {x : DataW H × List MemPlace} {k : FloatKind}
    (ht : P.underlying t = some (.float k)) (h : DataW.trod enc P w base spare held fuel t cs = some x) : ∃ n, cs = [.float k n] ∧ (Lit.float k n).wf = true := by
  cases fuel with
  | zero => simp [DataW.trod] at h
  | succ n =>
    unfold DataW.trod at h
    rw [ht] at h
    split at h <;> simp_all
theorem open_floats {H : Type} {enc : TypeId × Value → H} {P : Program} {w : World} {base : Nat} {spare : Nat → Bool} {held : Bool} {fuel : Nat} {t e : TypeId} {cs : List Value} {x : DataW H × List MemPlace} {k : FloatKind}
    (ht : P.underlying t = some (.slice e)) (he : P.underlying e = some (.float k)) (hc : P.cellsOf e = 1) (h : DataW.trod enc P w base spare held fuel t cs = some x) :
    cs = [.slice none 0 0] ∨ ∃ (a : Addr) (len cap : Nat), cs = [.slice (some a) len cap] ∧ len ≤ cap ∧ cap ≤ maxLen ∧ ∀ i, i < len → ∃ b, w.cell? (a.add i) = some (.float k b) ∧ (Lit.float k b).wf = true := by
  rcases DataW.trod_slice ht h with ⟨h0, _⟩ | ⟨a, len, cap, elems, rest, n, _, rfl, rfl, hb, hl, hm, hlen, hel, hsp, hns⟩
  · exact .inl h0
  · refine .inr ⟨a, len, cap, rfl, hl, hm, fun i hi => ?_⟩
    have h1 := hel i hi
    rw [List.getElem?_eq_getElem (by omega), hc, Nat.mul_one, Option.bind_eq_some_iff] at h1
    obtain ⟨cs', hcs, hy'⟩ := h1
    obtain ⟨m, rfl, hw⟩ := trod_float he hy'
    exact ⟨m, cell_of_cells?_one hcs, hw⟩

/-- WHAT THE WALK IS TOLD OF A SLICE OF SAMPLES: its numbers, below the block B -/
def Fls (B : Nat) (a : Option Addr) (len : Nat) (zs : List Nat) (w : World) : Prop :=
  zs.length = len ∧ (∀ z ∈ zs, z < 2 ^ 32) ∧ (len = 0 ∨ ∃ b o, a = some ⟨b, o, none⟩ ∧ b < B ∧ ∀ (k : Nat) x, zs[k]? = some x → w.cell? ⟨b, o + k, none⟩ = some (.float .f32 x))
theorem Fls.nw {B : Nat} {a : Option Addr} {len : Nat} {zs : List Nat} {w w' : World} (h : Fls B a len zs w) (hB : B ≤ w.heap.size) (hn : Nw w w') : Fls B a len zs w' := by
  obtain ⟨h1, h2, h3⟩ := h
  refine ⟨h1, h2, ?_⟩
  rcases h3 with h0 | ⟨b, o, rfl, hb, hc⟩
  · exact .inl h0
  · exact .inr ⟨b, o, rfl, hb, fun k x hx => by rw [hn.cell (by show b < w.heap.size; omega)]; exact hc k x hx⟩
theorem Fls.at {B : Nat} {a : Option Addr} {len : Nat} {zs : List Nat} {w : World} (h : Fls B a len zs w) {k x : Nat} (hx : zs[k]? = some x) :
    ∃ b o, a = some ⟨b, o, none⟩ ∧ b < B ∧ w.cell? ⟨b, o + k, none⟩ = some (.float .f32 x) := by
  obtain ⟨h1, h2, h3⟩ := h
  have := (List.getElem?_eq_some_iff.1 hx).1
  rcases h3 with h0 | ⟨b, o, rfl, hb, hc⟩
  · omega
  · exact ⟨b, o, rfl, hb, hc k x hx⟩
theorem fls_of {w : World} {a : Addr} {len : Nat} (h : ∀ i, i < len → ∃ b, w.cell? (a.add i) = some (.float .f32 b) ∧ (Lit.float .f32 b).wf = true) : ∃ zs, Fls w.heap.size (some a) len zs w := by
  have hz : ∀ n, n ≤ len → ∃ zs : List Nat, zs.length = n ∧ ∀ (k : Nat) x, zs[k]? = some x → w.cell? (a.add k) = some (.float .f32 x) ∧ x < 2 ^ 32 := by
    intro n
    induction n with
    | zero => intro _; exact ⟨[], rfl, fun k x hx => by simp at hx⟩
    | succ n ih =>
      intro hn
      obtain ⟨zs, hl, hk⟩ := ih (by omega)
      obtain ⟨b, hb, hw⟩ := h n (by omega)
      refine ⟨zs ++ [b], by simp [hl], fun k x hx => ?_⟩
      by_cases hkn : k < n
      · exact hk k x (by rwa [List.getElem?_append_left (by omega)] at hx)
      · rw [List.getElem?_append_right (by omega)] at hx
        have hk0 : k - zs.length = 0 := by
          have := (List.getElem?_eq_some_iff.1 hx).1
          simp at this; omega
        rw [hk0] at hx
        simp at hx
        subst hx
        obtain rfl : k = n := by omega
        exact ⟨hb, by simpa [Lit.wf] using hw⟩
  obtain ⟨zs, hl, hk⟩ := hz len (Nat.le_refl _)
  refine ⟨zs, hl, fun z hz => ?_, ?_⟩
  · obtain ⟨i, hi⟩ := List.getElem?_of_mem hz
    exact (hk i z hi).2
  · by_cases h0 : len = 0
    · exact .inl h0
    · right
      obtain ⟨b, hb, -⟩ := h 0 (by omega)
      have e0 : a.add 0 = a := by unfold Addr.add; rw [if_pos rfl]
      rw [e0] at hb
      obtain ⟨h1, h2⟩ := cell_lt hb
      refine ⟨a.block, a.off, by cases a; simp at h2; subst h2; rfl, h1, fun k x hx => ?_⟩
      have := (hk k x hx).1
      have hadd : a.add k = ⟨a.block, a.off + k, none⟩ := by
        unfold Addr.add; split
        · rename_i h0; subst h0; cases a; simp at h2; subst h2; rfl
        · rfl
      rwa [hadd] at this

/-! ### sameFloat -/
theorem one_quoF (a : Nat) (h : nan64 a = false) : ∃ r, floatBits .quo .f64 4607182418800017408 a = some r := by
  have h1 : Ieee.double.read 4607182418800017408 = .number false 4503599627370496 (-52) := by decide
  have h : (Ieee.double.read a).isNaN = false := h
  show ∃ r, Ieee.double.div 4607182418800017408 a = some r
  unfold Ieee.Format.div
  rw [h1]
  cases hd : Ieee.double.read a with
  | number s m p => by_cases hm : m = 0 <;> simp [Ieee.Datum.quotient, hm]
  | infinity s => exact ⟨_, rfl⟩
  | nan s f => rw [hd] at h; simp [Ieee.Datum.isNaN] at h

def fillF (zs : List Nat) (n k : Nat) : List Nat := zs.take k ++ List.replicate (n - k) 0
theorem fillF_zero (zs : List Nat) (n : Nat) : fillF zs n 0 = List.replicate n 0 := by simp [fillF]
theorem fillF_full (zs : List Nat) (n : Nat) (h : zs.length = n) : fillF zs n n = zs := by subst h; simp [fillF]
theorem fillF_set (zs : List Nat) (n k x : Nat) (hx : zs[k]? = some x) (hl : zs.length = n) : (cellsS (fillF zs n k)).set k (.float .f32 x) = cellsS (fillF zs n (k + 1)) := by
  obtain ⟨h, he⟩ := List.getElem?_eq_some_iff.1 hx
  unfold fillF
  rw [List.take_succ_eq_append_getElem h, he, show n - k = (n - (k + 1)) + 1 from by omega, List.replicate_succ]
  simp only [cellsS, List.map_append, List.map_cons, List.map_nil, List.append_assoc, List.singleton_append]
  rw [List.set_append_right _ _ (by simp; omega)]
  simp [Nat.min_eq_left (Nat.le_of_lt h)]
theorem fillF_cell (zs : List Nat) (n k : Nat) (h : k < n) (hl : zs.length = n) : (cellsS (fillF zs n k))[k]? = some (.float .f32 0) := by
  unfold fillF cellsS
  rw [List.getElem?_map, List.getElem?_append_right (by simp; omega)]
  simp [List.getElem?_replicate]
  omega

def CopyI (B g n : Nat) (zs : List Nat) (w : World) (i : Value) (wr : World) : Prop :=
  ∃ k : Nat, k ≤ n ∧ i = .int .i64 (k : Int) ∧ wr.ownsRow B 23 1 (.slice (some ⟨g, 0, none⟩) n n) n (cellsS (fillF zs n k)) ∧ Nw w wr
def CopyP (zs : List Nat) (n : Nat) (w : World) (e : Ending) (w' : World) : Prop :=
  ∃ g : Nat, e = .returned (.slice (some ⟨g, 0, none⟩) n n) ∧ w'.ownsRow w.heap.size 23 1 (.slice (some ⟨g, 0, none⟩) n n) n (cellsS zs) ∧ Nw w w'

theorem widen_sameF (x : Nat) (w1 w2 : World) : sameF (fcv w1 .f32 x .f64) (fcv w2 .f32 x .f64) = true :=
  sameF_fab (by rw [fab_wide, fab_wide])
def CountI (n : Nat) (w : World) (i : Value) (wr : World) : Prop := ∃ k : Nat, k ≤ n ∧ i = .int .i64 (k : Int) ∧ Nw w wr

end Go.Proofs.YtiakcibeobbonaaGreat

/- Decimal texts: the digits of an integer, and the walk of the model's l1Number.
   Conditions: those that each statement names. -/
namespace Go.Proofs.YtiakcibeobbonaaGreat
set_option linter.unusedSimpArgs false
set_option linter.unusedVariables false
open Go Go.RowKit

def dgs (n : Nat) : List Int := if h : n < 10 then [48 + (n : Int)] else dgs (n / 10) ++ [48 + ((n % 10 : Nat) : Int)]
termination_by n
decreasing_by omega
theorem dgs_small {n : Nat} (h : n < 10) : dgs n = [48 + (n : Int)] := by rw [dgs]; simp [h]
theorem dgs_big {n : Nat} (h : ¬ n < 10) : dgs n = dgs (n / 10) ++ [48 + ((n % 10 : Nat) : Int)] := by rw [dgs]; simp [h]
def dgO (n : Nat) : List Int := if n = 0 then [] else dgs n
theorem dg_step {n : Nat} : dgs n = dgO (n / 10) ++ [48 + ((n % 10 : Nat) : Int)] := by
  by_cases h : n < 10
  · rw [dgs_small h]
    unfold dgO
    rw [if_pos (by omega)]
    simp
    omega
  · rw [dgs_big h]
    unfold dgO
    rw [if_neg (by omega)]
theorem dgs_len : ∀ (j n : Nat), n < 10 ^ (j + 1) → (dgs n).length ≤ j + 1
  | 0, n, h => by rw [dgs_small (by simpa using h)]; simp
  | j + 1, n, h => by
    by_cases h10 : n < 10
    · rw [dgs_small h10]; simp
    · rw [dgs_big h10, List.length_append]
      have := dgs_len j (n / 10) (by rw [Nat.pow_succ] at h; omega)
      simp; omega
theorem dgs_head (n : Nat) : ∃ d rest, dgs n = d :: rest ∧ 48 ≤ d ∧ d ≤ 57 := by
  induction n using Nat.strongRecOn with
  | ind n ih =>
    by_cases h : n < 10
    · exact ⟨_, _, dgs_small h, by omega, by omega⟩
    · obtain ⟨d, r, e, h1, h2⟩ := ih (n / 10) (by omega)
      exact ⟨d, r ++ [48 + ((n % 10 : Nat) : Int)], by rw [dgs_big h, e]; rfl, h1, h2⟩
theorem str_cons (d : Int) (xs : List Int) : strOfNums [d] ++ strOfNums xs = strOfNums (d :: xs) := by
  apply ByteArray.ext
  simp [strOfNums]
theorem str_app (xs ys : List Int) : strOfNums xs ++ strOfNums ys = strOfNums (xs ++ ys) := by
  apply ByteArray.ext
  simp [strOfNums]
def numL (z : Int) : List Int := if z < 0 then 45 :: dgs z.natAbs else dgs z.natAbs
def StrP (xs : List Int) (w : World) (e : Ending) (w' : World) : Prop := e = .returned (.string (strOfNums xs)) ∧ Nw w w'
def NumI (n : Nat) (w : World) (v s : Value) (wr : World) : Prop :=
  ∃ (k : Nat) (cur : List Int), k ≤ n ∧ v = .int .i64 (k : Int) ∧ s = .string (strOfNums cur) ∧ dgs n = dgO k ++ cur ∧ Nw w wr

theorem conv_digit (d : Int) (w : World) : (convert 22 9 (.slice (some ⟨w.heap.size, 0, none⟩) 1 1)).run Tryz.prog (w.alloc (.cells #[.int .u8 d] 5 (0, 0))) = .ok (.string (strOfNums [d])) (w.alloc (.cells #[.int .u8 d] 5 (0, 0))) :=
  run_convert_bytes_arg _ 22 5 Tryz.underlying22 Tryz.underlying5 w.heap.size 0 1 1 [d] rfl (fun i hi => by
    obtain rfl : i = 0 := by omega
    simp) 9 Tryz.underlying9

set_option maxRecDepth 100000 in
theorem l1Number_ok (n : Nat) (hn : n < 1000000000000000000) (w : World) :
    Calls Tryz.prog 38 #[.int .i64 (n : Int)] w (StrP (dgs n) w) := by
  have h0 : ¬ ((n : Int) < 0) := by omega
  have hc := conv_digit
  have hlen := dgs_len 17 n (by omega)
  have Hlen := Lib.hid hlen
  clear hlen
  go_enter Tryz.func38, Tryz.ntmps38
  go_wp2_with fail
  go_loopw [0, 3] (fun v s wr => NumI n w v s wr) (fun v _ _ => (intOf v).toNat)
  case atStart => exact ⟨n / 10, _, by omega, by rw [show ((n / 10 : Nat) : Int) = (n : Int) / 10 from by omega], rfl, by rw [show (n : Int) % 10 = ((n % 10 : Nat) : Int) from by omega]; exact dg_step, (Nw.refl w).alloc _⟩
  case round =>
    obtain ⟨k, cur, hk, rfl, rfl, hd, hN⟩ := hrel
    have Nr := Lib.hid hN
    have Hd := Lib.hid hd
    clear hN hd
    by_cases hlt : 0 < k
    · have hcl : cur.length ≤ 18 := by have h := Hlen.out; rw [Hd.out, List.length_append] at h; omega
      have hs1 : (strOfNums [48 + (k : Int) % 10]).size = 1 := strOfNums_size _
      have hs2 : (strOfNums cur).size ≤ 18 := by rw [strOfNums_size]; exact hcl
      have hadd : ∀ w, (Op.stringOp .add (strOfNums [48 + (k : Int) % 10]) (strOfNums cur)).run Tryz.prog w = .ok (.string (strOfNums ((48 + (k : Int) % 10) :: cur))) w := fun w => by
        rw [run_string_add _ _ _ (by omega) (by omega), str_cons]
      clear hs1 hs2
      go_wp2_with fail
      go_roundw
      case rel => exact ⟨k / 10, _, by omega, by rw [show ((k / 10 : Nat) : Int) = (k : Int) / 10 from by omega], rfl, by
          rw [Hd.out]
          have e : dgO k = dgs k := by unfold dgO; rw [if_neg (by omega)]
          rw [e, dg_step (n := k), show ((k % 10 : Nat) : Int) = (k : Int) % 10 from by omega]
          simp, Nr.out.alloc _⟩
      case measure => simp only [intOf]; omega
    · obtain rfl : k = 0 := by omega
      go_wp2_with fail
      go_ret
      exact ⟨by rw [show dgs n = cur from by rw [Hd.out]; rfl]; rfl, Nr.out⟩

end Go.Proofs.YtiakcibeobbonaaGreat

/- The model's l1Parts, of a number above 0 and below 2^53: its odd part and its exponent.
   Conditions: those that each statement names. -/
namespace Go.Proofs.YtiakcibeobbonaaGreat
set_option linter.unusedSimpArgs false
set_option linter.unusedVariables false
open Go Go.RowKit

namespace Flo
open Ieee
theorem p53 : pw 53 = 9007199254740992 := pw_nat 53
/-- cut towards zero -/
theorem trunc_ok (x m : Nat) (p : Int) (h : Ieee.double.read x = .number false m p) (hB : (m : Rat) * pw p < pw 53) :
    ∃ iv : Nat, floatToIntVal .f64 x .i64 = some (iv : Int) ∧ (iv : Rat) ≤ W x ∧ W x < (iv : Rat) + 1 := by
  have hv : W x = (m : Rat) * pw p := by rw [show W x = _ from V_eq h]; unfold val; simp
  have key : ∃ iv : Nat, (Ieee.Datum.number false m p).toInt .zero = some (iv : Int) ∧ (iv : Rat) ≤ (m : Rat) * pw p ∧ (m : Rat) * pw p < (iv : Rat) + 1 := by
    by_cases hp : 0 ≤ p
    · obtain ⟨q, rfl⟩ := Int.eq_ofNat_of_zero_le hp
      refine ⟨m * 2 ^ q, ?_, ?_, ?_⟩
      · unfold Datum.toInt Datum.integral Toward.cut
        simp [Ieee.signed, Nat.shiftLeft_eq]
      · rw [pw_nat]; push_cast; exact Rat.le_refl
      · rw [pw_nat]; push_cast; grind
    · obtain ⟨q, hq⟩ := Int.eq_ofNat_of_zero_le (show 0 ≤ -p by omega)
      have hpq : p = -(q : Int) := by omega
      subst hpq
      have hq0 : 0 < 2 ^ q := Nat.two_pow_pos q
      have hdiv : m / (1 <<< min q (m.log2 + 2)) = m / 2 ^ q := by
        rw [Nat.one_shiftLeft]
        by_cases hle : q ≤ m.log2 + 2
        · rw [Nat.min_eq_left hle]
        · rw [Nat.min_eq_right (by omega)]
          have l1 : m < 2 ^ (m.log2 + 2) := Nat.lt_of_lt_of_le Nat.lt_log2_self (Nat.pow_le_pow_right (by decide) (by omega))
          have l2 : m < 2 ^ q := Nat.lt_of_lt_of_le l1 (Nat.pow_le_pow_right (by decide) (by omega))
          rw [Nat.div_eq_of_lt l1, Nat.div_eq_of_lt l2]
      refine ⟨m / 2 ^ q, ?_, ?_, ?_⟩
      · unfold Datum.toInt Datum.integral Toward.cut
        have e1 : (-(q : Int)).toNat = 0 := by omega
        have e2 : (- -(q : Int)).toNat = q := by omega
        simp only [e1, e2, Nat.shiftLeft_zero, Bool.toNat_false, Nat.add_zero, hdiv, Ieee.signed]
        simp
      all_goals
        have e := Nat.div_add_mod m (2 ^ q)
        have l := Nat.mod_lt m hq0
        have hpp := pw_pos (-(q : Int))
        have hm := pw_neg_mul (q : Int)
        rw [pw_nat] at hm
        have ec : (m : Rat) = ((2 ^ q : Nat) : Rat) * ((m / 2 ^ q : Nat) : Rat) + ((m % 2 ^ q : Nat) : Rat) := by
          have : ((2 ^ q * (m / 2 ^ q) + m % 2 ^ q : Nat) : Rat) = (m : Rat) := by rw [e]
          rw [← this]; push_cast; rfl
        have r0 : (0 : Rat) ≤ ((m % 2 ^ q : Nat) : Rat) := by exact_mod_cast Nat.zero_le _
        have r1 : ((m % 2 ^ q : Nat) : Rat) < ((2 ^ q : Nat) : Rat) := by exact_mod_cast l
        generalize ((2 ^ q : Nat) : Rat) = T at *
        generalize ((m / 2 ^ q : Nat) : Rat) = D at *
        generalize ((m % 2 ^ q : Nat) : Rat) = R at *
        generalize Flo.pw (-(q : Int)) = Q at *
        have e3 : T * D * Q = D := by
          rw [show T * D * Q = D * (Q * T) by grind, hm]; grind
        have e4 : (m : Rat) * Q = D + R * Q := by rw [ec, Rat.add_mul, e3]
      · have k := Rat.mul_nonneg r0 (Rat.le_of_lt hpp)
        rw [e4]; grind
      · have k := Rat.mul_lt_mul_of_pos_right r1 hpp
        rw [e4]; grind
  obtain ⟨iv, k1, k2, k3⟩ := key
  refine ⟨iv, ?_, by rw [hv]; exact k2, by rw [hv]; exact k3⟩
  unfold floatToIntVal
  rw [show FloatKind.f64.decode x = _ from h, k1]
  have hlt : (iv : Rat) < 9007199254740992 := by rw [p53] at hB; grind
  have hn : iv < 9007199254740992 := by exact_mod_cast hlt
  simp only
  have hmin : IntKind.i64.min = -9223372036854775808 := by decide
  have hmax : IntKind.i64.max = 9223372036854775807 := by decide
  rw [if_pos (by rw [hmin, hmax]; omega)]
theorem trunc_lt {x iv : Nat} (h1 : (iv : Rat) ≤ W x) (hB : W x < pw 53) : iv < 9007199254740992 := by
  rw [p53] at hB
  have hlt : (iv : Rat) < 9007199254740992 := by grind
  exact_mod_cast hlt
/-- twice a number is exact -/
theorem double_exact (x m : Nat) (p : Int) (h : Ieee.double.read x = .number false m p) (hB : (m : Rat) * pw p < pw 53) :
    ∃ y m' p', floatBits .mul .f64 x 4611686018427387904 = some y ∧ Ieee.double.read y = .number false m' p' ∧ (m' : Rat) * pw p' = 2 * ((m : Rat) * pw p) := by
  obtain ⟨b1, b2, b3⟩ := read_bound Ieee.double (by decide) x false m p h
  have e : floatBits .mul .f64 x 4611686018427387904 = some (Ieee.double.write (.number false (m * 4503599627370496) (p + -51))) := by
    show Ieee.double.mul x _ = _
    unfold Format.mul
    rw [h, read_two]; rfl
  have hv : ((m * 4503599627370496 : Nat) : Rat) * pw (p + -51) = (m : Rat) * pw (p + 1) := by
    rw [show p + 1 = p + -51 + (52 : Nat) from by omega, pw_add (p + -51), pw_nat]
    have : ((2 ^ 52 : Nat) : Rat) = ((4503599627370496 : Nat) : Rat) := rfl
    rw [this]; push_cast; grind
  have h2 : (m : Rat) * pw (p + 1) = 2 * ((m : Rat) * pw p) := by rw [pw_succ]; grind
  obtain ⟨m', p', w1, w2, w3, w4⟩ := write_exact Ieee.double (by decide) false _ _ m (p + 1) hv b1 (by omega) (by
    rw [hv, h2, top_double]
    have l : pw 54 < pw 1023 := pw_lt (by omega)
    have l2 : pw 54 = 2 * pw 53 := by rw [← pw_succ]; rfl
    grind)
  exact ⟨_, m', p', e, w1, by rw [w4, hv, h2]⟩
theorem int_eq {a b : Nat} (h1 : (a : Rat) ≤ (b : Rat)) (h2 : (b : Rat) < (a : Rat) + 1) : a = b := by
  have k1 : a ≤ b := by exact_mod_cast h1
  have k2 : b < a + 1 := by exact_mod_cast h2
  omega
end Flo

theorem order_int {x iv : Nat} (hx : Flo.Nm x) (hi : iv < 9007199254740992) : (FloatKind.f64.format.order x (floatOfInt .f64 (iv : Int)) == some .eq) = decide (Flo.W x = (iv : Rat)) := by
  obtain ⟨n1, n2⟩ := Flo.int_double (iv : Int) (by omega)
  have o := Flo.order_num Ieee.double x _ hx n1
  rw [show Flo.V Ieee.double (floatOfInt .f64 (iv : Int)) = ((iv : Int) : Rat) from n2] at o
  have ec : ((iv : Int) : Rat) = (iv : Rat) := rfl
  rw [ec] at o
  by_cases h : Flo.W x = (iv : Rat)
  · rw [decide_eq_true h]
    simpa using (show FloatKind.f64.format.order x (floatOfInt .f64 (iv : Int)) = some .eq from o.2.1.2 h)
  · rw [decide_eq_false h]
    cases hg : (FloatKind.f64.format.order x (floatOfInt .f64 (iv : Int)) == some .eq) with
    | false => rfl
    | true => exact absurd (o.2.1.1 (show FloatKind.f64.format.order x (floatOfInt .f64 (iv : Int)) = some .eq by simpa using hg)) h

def PartP (V : Rat) (w : World) (e : Ending) (w' : World) : Prop :=
  ∃ (a : Nat) (q : Int), e = .returned (.tuple #[.int .i64 (a : Int), .int .i64 q]) ∧ a % 2 = 1 ∧ a < 9007199254740992 ∧ (a : Rat) * Flo.pw q = V ∧ -2000 ≤ q ∧ q ≤ 2000 ∧ w = w'
def P2I (m : Nat) (p : Int) (w : World) (x e : Value) (wr : World) : Prop :=
  ∃ (j y m' : Nat) (p' : Int), e = .int .i64 (-(j : Int)) ∧ x = .float .f64 y ∧ Ieee.double.read y = .number false m' p' ∧ (m' : Rat) * Flo.pw p' = (m : Rat) * Flo.pw (p + j) ∧ (p + j ≤ 0 ∨ j = 0) ∧ (m' : Rat) * Flo.pw p' < Flo.pw 53 ∧ w = wr
def P3I (V : Rat) (e0 : Int) (w : World) (e a : Value) (wr : World) : Prop :=
  ∃ (t b : Nat), e = .int .i64 (e0 + (t : Int)) ∧ a = .int .i64 (b : Int) ∧ 1 ≤ b ∧ b * 2 ^ t < 9007199254740992 ∧ (b : Rat) * Flo.pw (e0 + t) = V ∧ w = wr

theorem pow_t {b t : Nat} (h1 : 1 ≤ b) (h : b * 2 ^ t < 9007199254740992) : t < 53 := by
  rcases Nat.lt_or_ge t 53 with g | g
  · exact g
  · have h2 : 2 ^ 53 ≤ 2 ^ t := Nat.pow_le_pow_right (by decide) g
    have h3 := Nat.mul_le_mul h1 h2
    omega

set_option maxRecDepth 100000 in
theorem l1Parts_ok (x m : Nat) (p : Int) (h : Ieee.double.read x = .number false m p) (hm : m ≠ 0) (hB : (m : Rat) * Flo.pw p < Flo.pw 53) (w : World) :
    Calls Tryz.prog 97 #[.float .f64 x] w (PartP ((m : Rat) * Flo.pw p) w) := by
  obtain ⟨b1, b2, b3⟩ := Flo.read_bound Ieee.double (by decide) x false m p h
  have b2' : -1074 ≤ p := by rw [Flo.lp_double] at b2; exact b2
  have hge : (FloatKind.f64.format.order x 4845873199050653696 == some .gt || FloatKind.f64.format.order x 4845873199050653696 == some .eq) = false := by
    have h53 : Ieee.double.read 4845873199050653696 = .number false 4503599627370496 1 := by decide
    have o := Flo.order_num Ieee.double x 4845873199050653696 ⟨_, _, _, h⟩ ⟨_, _, _, h53⟩
    have e1 : Flo.V Ieee.double x = (m : Rat) * Flo.pw p := by rw [Flo.V_eq h]; unfold Flo.val; simp
    have e2 : Flo.V Ieee.double 4845873199050653696 = Flo.pw 53 := by
      rw [Flo.V_eq h53]; unfold Flo.val
      have : Flo.pw 1 = 2 := Flo.pw_one
      rw [this, Flo.p53]
      have : ((4503599627370496 : Nat) : Rat) = 4503599627370496 := rfl
      rw [this]; simp; grind
    rw [e1, e2] at o
    have hlt : FloatKind.f64.format.order x 4845873199050653696 = some .lt := o.1.2 hB
    rw [hlt]; rfl
  have H := Lib.hid (And.intro h (And.intro hm (And.intro hB b2')))
  have Hm53 := Lib.hid (show m < 9007199254740992 from b1)
  clear h hm hB b1 b2 b3
  go_enter Tryz.func97, Tryz.ntmps97
  go_wp2_with fail
  go_loopw [0, 4] (fun y e wr => y = .float .f64 x ∧ e = .int .i64 0 ∧ w = wr) (fun _ _ _ => 0)
  case atStart => exact ⟨rfl, rfl, rfl⟩
  case round =>
    obtain ⟨rfl, rfl, rfl⟩ := hrel
    go_wp2_with fail
    clear hge
    go_loopw [0, 4] (fun y e wr => P2I m p w y e wr) (fun _ e _ => (-(p + -(intOf e)) + 1).toNat)
    case atStart => exact ⟨0, x, m, p, rfl, rfl, H.out.1, by simp, .inr rfl, H.out.2.2.1, rfl⟩
    case round =>
      obtain ⟨j, y, m', p', rfl, rfl, hy, hv, hj, hB, rfl⟩ := hrel
      have Hy := Lib.hid (And.intro hy (And.intro hv hB))
      obtain ⟨iv, t1, t2, t3⟩ := Flo.trunc_ok y m' p' hy hB
      have ey : Flo.W y = (m' : Rat) * Flo.pw p' := by rw [show Flo.W y = _ from Flo.V_eq hy]; unfold Flo.val; simp
      have hi := Flo.trunc_lt t2 (by rw [ey]; exact hB)
      have ho := order_int (x := y) (iv := iv) ⟨_, _, _, hy⟩ hi
      have cv := fun w => run_convert_float_int (P := Tryz.prog) w 54 3 .f64 .i64 y (iv : Int) (by kernel_rfl) Tryz.underlying3 t1
      have T := Lib.hid (And.intro t2 (And.intro t3 ey))
      clear hy hv hB t1 t2 t3 ey
      by_cases heq : Flo.W y = (iv : Rat)
      · rw [decide_eq_true heq] at ho
        have ho2 : (FloatKind.f64.format.order y (floatOfInt .f64 (iv : Int)) != some .eq) = false := by unfold bne; rw [ho]; rfl
        have Heq := Lib.hid heq
        clear heq
        go_wp2_with fail
        clear ho ho2
        have hiv1 : 1 ≤ iv := by
          have e1 := Heq.out
          rw [T.out.2.2, Hy.out.2.1] at e1
          rcases Nat.eq_zero_or_pos iv with h0 | h0
          · exfalso
            rw [h0] at e1
            have : (m : Rat) * Flo.pw (p + j) = 0 := by rw [e1]; rfl
            exact H.out.2.1 (Flo.mag_zero (by rw [this]; exact Rat.le_refl))
          · exact h0
        have hV : (iv : Rat) * Flo.pw (-(j : Int)) = (m : Rat) * Flo.pw p := by
          rw [← Heq.out, T.out.2.2, Hy.out.2.1, Rat.mul_assoc, ← Flo.pw_add]
          congr 2; omega
        have hj2 : (j : Int) ≤ 1074 := by have := H.out.2.2.2; omega
        go_loopw [4, 5] (fun e a wr => P3I ((m : Rat) * Flo.pw p) (-(j : Int)) w e a wr) (fun _ a _ => (intOf a).toNat)
        case atStart => exact ⟨0, iv, by simp, rfl, hiv1, by simpa using hi, by simpa using hV, rfl⟩
        case round =>
          obtain ⟨t, b, rfl, rfl, hb1, hbt, hbv, rfl⟩ := hrel
          have ht := pow_t hb1 hbt
          have Hb := Lib.hid (And.intro hbt hbv)
          have hb53 : b < 9007199254740992 := Nat.lt_of_le_of_lt (Nat.le_mul_of_pos_right b (Nat.two_pow_pos t)) hbt
          clear hbt hbv
          by_cases h2 : b % 2 = 0
          · have hm2 : (b : Int) % 2 = 0 := by omega
            go_wp2_with fail
            go_roundw
            case rel =>
              refine ⟨t + 1, b / 2, by rw [show -(j : Int) + ((t + 1 : Nat) : Int) = -(j : Int) + (t : Int) + 1 from by omega], by rw [show ((b / 2 : Nat) : Int) = (b : Int) / 2 from by omega], by omega, ?_, ?_, rfl⟩
              · have := Hb.out.1
                rw [Nat.pow_succ, Nat.mul_comm (2 ^ t) 2, ← Nat.mul_assoc, show b / 2 * 2 = b by omega]; exact this
              · rw [← Hb.out.2, show -(j : Int) + ((t + 1 : Nat) : Int) = -(j : Int) + (t : Int) + 1 from by omega, Flo.pw_succ]
                have e : (b : Rat) = 2 * ((b / 2 : Nat) : Rat) := by
                  have : ((2 * (b / 2) : Nat) : Rat) = (b : Rat) := by rw [show 2 * (b / 2) = b by omega]
                  rw [← this]; push_cast; rfl
                rw [e]; grind
            case measure => simp only [intOf]; omega
          · have hm2 : (b : Int) % 2 = 1 := by omega
            go_wp2_with fail
            go_ret2
            exact ⟨b, _, rfl, by omega, hb53, Hb.out.2, by omega, by omega, rfl⟩
      · rw [decide_eq_false heq] at ho
        have ho2 : (FloatKind.f64.format.order y (floatOfInt .f64 (iv : Int)) != some .eq) = true := by unfold bne; rw [ho]; rfl
        have hneg : p + (j : Int) < 0 := by
          rcases Int.lt_or_le (p + (j : Int)) 0 with g | g
          · exact g
          · exfalso
            obtain ⟨q, hq⟩ := Int.eq_ofNat_of_zero_le g
            apply heq
            have e1 := T.out.2.2
            rw [Hy.out.2.1, hq, Flo.pw_nat] at e1
            have e2 : Flo.W y = ((m * 2 ^ q : Nat) : Rat) := by rw [e1]; push_cast; rfl
            have k := Flo.int_eq (a := iv) (b := m * 2 ^ q) (by rw [← e2]; exact T.out.1) (by rw [← e2]; exact T.out.2.1)
            rw [e2, k]
        obtain ⟨z, m2, p2, d1, d2, d3⟩ := Flo.double_exact y m' p' Hy.out.1 Hy.out.2.2
        have r1 : ∀ w, fres w .mul .f64 y 4611686018427387904 = z := fun w => by unfold fres; rw [d1]
        have r2 : fdr .mul .f64 y 4611686018427387904 = 0 := by unfold fdr; rw [d1]; rfl
        have hv2 : (m2 : Rat) * Flo.pw p2 = (m : Rat) * Flo.pw (p + ((j + 1 : Nat) : Int)) := by
          rw [d3, Hy.out.2.1, show p + ((j + 1 : Nat) : Int) = p + (j : Int) + 1 from by omega, Flo.pw_succ]; grind
        have hB2 : (m2 : Rat) * Flo.pw p2 < Flo.pw 53 := by
          rw [hv2]
          have l1 : Flo.pw (p + ((j + 1 : Nat) : Int)) ≤ Flo.pw 0 := Flo.pw_le (by omega)
          have m53 : (m : Rat) < 9007199254740992 := by exact_mod_cast Hm53.out
          have m0 : (0 : Rat) ≤ (m : Rat) := by exact_mod_cast Nat.zero_le m
          have k := Rat.mul_le_mul_of_nonneg_left l1 m0
          rw [Flo.pw_zero] at k
          rw [Flo.p53]; grind
        have D := Lib.hid (And.intro d2 (And.intro hv2 hB2))
        have hj1 : (j : Int) ≤ 1074 := by have := H.out.2.2.2; omega
        clear d1 d2 d3 hv2 hB2 heq
        go_wp2_with fail
        go_roundw
        case rel => exact ⟨j + 1, z, m2, p2, by rw [show -((j + 1 : Nat) : Int) = -(j : Int) - 1 from by omega], rfl, D.out.1, D.out.2.1, .inl (by omega), D.out.2.2, rfl⟩
        case measure => simp only [intOf]; omega

end Go.Proofs.YtiakcibeobbonaaGreat

/- The model's FormatDouble and FormatSingle, of 0 and of numbers above 0 and below 2^53.
   Conditions: those that each statement names. -/
namespace Go.Proofs.YtiakcibeobbonaaGreat
set_option linter.unusedSimpArgs false
set_option linter.unusedVariables false
open Go Go.RowKit

set_option maxRecDepth 100000 in
theorem l1Num_any (z : Int) (hz : -2000 ≤ z ∧ z ≤ 2000) (w : World) :
    Calls Tryz.prog 38 #[.int .i64 z] w (StrP (numL z) w) := by
  by_cases h : z < 0
  · obtain ⟨k, hk⟩ := Int.eq_ofNat_of_zero_le (show 0 ≤ -z by omega)
    have e : z = -(k : Int) := by omega
    subst e
    have hl := dgs_len 17 k (by omega)
    have hadd : ∀ w, (Op.stringOp .add (⟨#[45]⟩ : ByteArray) (strOfNums (dgs k))).run Tryz.prog w = .ok (.string (strOfNums (45 :: dgs k))) w := fun w => by
      have e45 : (⟨#[45]⟩ : ByteArray) = strOfNums [45] := rfl
      rw [e45, run_string_add _ _ _ (by rw [strOfNums_size]; decide) (by rw [strOfNums_size]; omega), str_cons]
    have hneg : - -(k : Int) = (k : Int) := by omega
    clear hl
    go_enter Tryz.func38, Tryz.ntmps38
    go_wp2_with (first | (go_at_call 38; refine (l1Number_ok k (by omega) _).mono ?_; rintro e w1 ⟨rfl, n1⟩; have N1 := Lib.hid n1; clear n1))
    all_goals
      go_ret
      exact ⟨by unfold numL; rw [if_pos h]; simp, N1.out⟩
  · obtain ⟨k, rfl⟩ := Int.eq_ofNat_of_zero_le (show 0 ≤ z by omega)
    refine (l1Number_ok k (by omega) w).mono ?_
    rintro e w1 ⟨rfl, n1⟩
    exact ⟨by unfold numL; rw [if_neg h]; simp, n1⟩
theorem numL_len (z : Int) (hz : -2000 ≤ z ∧ z ≤ 2000) : (numL z).length ≤ 19 := by
  unfold numL
  have := dgs_len 17 z.natAbs (by omega)
  split
  · simp; omega
  · omega

/-- the text of a number above 0: its odd part, 'p', its exponent -/
def FmtP (V : Rat) (w : World) (e : Ending) (w' : World) : Prop :=
  ∃ (a : Nat) (q : Int), a % 2 = 1 ∧ a < 9007199254740992 ∧ (a : Rat) * Flo.pw q = V ∧ -2000 ≤ q ∧ q ≤ 2000 ∧ e = .returned (.string (strOfNums (dgs a ++ 112 :: numL q))) ∧ Nw w w'

set_option maxRecDepth 100000 in
theorem specFormat_pos (x m : Nat) (p : Int) (h : Ieee.double.read x = .number false m p) (hm : m ≠ 0) (hB : (m : Rat) * Flo.pw p < Flo.pw 53) (w : World) :
    Calls Tryz.prog 66 #[.float .f64 x] w (FmtP ((m : Rat) * Flo.pw p) w) := by
  have o := Flo.order_num Ieee.double x 0 ⟨_, _, _, h⟩ zero_num.1
  rw [show Flo.V Ieee.double 0 = 0 from zero_num.2, Flo.V_eq h] at o
  have hpos : 0 < Flo.val false m p := by
    unfold Flo.val
    have h1 : (0 : Rat) < (m : Rat) := by exact_mod_cast Nat.pos_of_ne_zero hm
    have := Rat.mul_pos h1 (Flo.pw_pos p)
    simp; exact this
  have hgt : FloatKind.f64.format.order x 0 = some .gt := o.2.2.2 hpos
  have e1 : (FloatKind.f64.format.order x 0 == some .eq) = false := by rw [hgt]; rfl
  have e2 : (FloatKind.f64.format.order x 0 == some .lt) = false := by rw [hgt]; rfl
  have hl : labs x = x := by unfold labs; rw [hgt]; rfl
  have hf : fin .f64 x = true := fin_num ⟨_, _, _, h⟩
  have H := Lib.hid (And.intro h (And.intro hm hB))
  clear h hm hB o hpos hgt
  go_enter Tryz.func66, Tryz.ntmps66
  go_wp2_with fail
  refine (l1Finite_any _ _).mono ?_
  rintro e w1 ⟨rfl, n1, rfl⟩
  rw [hf]
  go_wp2_with fail
  refine (l1Abs_any _ _).mono ?_
  rintro e w2 ⟨rfl, rfl⟩
  rw [hl]
  go_wp2_with fail
  refine (l1Parts_ok x m p H.out.1 H.out.2.1 H.out.2.2 _).mono ?_
  rintro e w3 ⟨a, q, rfl, ha, ha53, hv, hq1, hq2, rfl⟩
  have A := Lib.hid (And.intro ha (And.intro ha53 hv))
  have l1 := dgs_len 17 a (by omega)
  have l2 := numL_len q ⟨hq1, hq2⟩
  have c1 : ∀ w, (Op.stringOp .add (⟨#[]⟩ : ByteArray) (strOfNums (dgs a))).run Tryz.prog w = .ok (.string (strOfNums (dgs a))) w := fun w => by
    have e0 : (⟨#[]⟩ : ByteArray) = strOfNums [] := rfl
    rw [e0, run_string_add _ _ _ (by rw [strOfNums_size]; decide) (by rw [strOfNums_size]; omega), str_app]; rfl
  have c2 : ∀ w, (Op.stringOp .add (strOfNums (dgs a)) (⟨#[112]⟩ : ByteArray)).run Tryz.prog w = .ok (.string (strOfNums (dgs a ++ [112]))) w := fun w => by
    have e0 : (⟨#[112]⟩ : ByteArray) = strOfNums [112] := rfl
    rw [e0, run_string_add _ _ _ (by rw [strOfNums_size]; omega) (by rw [strOfNums_size]; decide), str_app]
  have c3 : ∀ w, (Op.stringOp .add (strOfNums (dgs a ++ [112])) (strOfNums (numL q))).run Tryz.prog w = .ok (.string (strOfNums (dgs a ++ 112 :: numL q))) w := fun w => by
    rw [run_string_add _ _ _ (by rw [strOfNums_size, List.length_append]; simp; omega) (by rw [strOfNums_size]; omega), str_app]; simp
  clear ha ha53 hv l1 l2
  go_wp2_with fail
  refine (l1Number_ok a (by have := A.out.2.1; omega) _).mono ?_
  rintro e w4 ⟨rfl, n4⟩
  have N4 := Lib.hid (((Nw.refl w).draw _).trans n4)
  clear n4
  go_wp2_with fail
  refine (l1Num_any q ⟨hq1, hq2⟩ _).mono ?_
  rintro e w5 ⟨rfl, n5⟩
  have N5 := Lib.hid (N4.out.trans n5)
  clear n5
  go_wp2_with fail
  go_ret
  exact ⟨a, q, A.out.1, A.out.2.1, A.out.2.2, hq1, hq2, rfl, N5.out⟩

set_option maxRecDepth 100000 in
theorem specFormat_zero (w : World) : Calls Tryz.prog 66 #[.float .f64 0] w fun e w' => e = .returned (.string ⟨#[48]⟩) ∧ Nw w w' := by
  have hf : fin .f64 0 = true := by decide
  have e1 : (FloatKind.f64.format.order 0 0 == some .eq) = true := by decide
  have r1 : ∀ w, fres w .quo .f64 4607182418800017408 0 = 9218868437227405312 := fun w => by unfold fres; rw [show floatBits .quo .f64 4607182418800017408 0 = some 9218868437227405312 from by decide]
  have r2 : fdr .quo .f64 4607182418800017408 0 = 0 := by decide
  have e2 : (FloatKind.f64.format.order 9218868437227405312 0 == some .lt) = false := by decide
  go_enter Tryz.func66, Tryz.ntmps66
  go_wp2_with fail
  refine (l1Finite_any _ _).mono ?_
  rintro e w1 ⟨rfl, n1, rfl⟩
  rw [hf]
  go_wp2_with fail
  all_goals
    go_ret
    exact ⟨rfl, (Nw.refl w).draw _⟩
set_option maxRecDepth 100000 in
theorem specFormat_minus (w : World) : Calls Tryz.prog 66 #[.float .f64 9223372036854775808] w fun e w' => e = .returned (.string ⟨#[45, 48]⟩) ∧ Nw w w' := by
  have hf : fin .f64 9223372036854775808 = true := by decide
  have e1 : (FloatKind.f64.format.order 9223372036854775808 0 == some .eq) = true := by decide
  have r1 : ∀ w, fres w .quo .f64 4607182418800017408 9223372036854775808 = 18442240474082181120 := fun w => by unfold fres; rw [show floatBits .quo .f64 4607182418800017408 9223372036854775808 = some 18442240474082181120 from by decide]
  have r2 : fdr .quo .f64 4607182418800017408 9223372036854775808 = 0 := by decide
  have e2 : (FloatKind.f64.format.order 18442240474082181120 0 == some .lt) = true := by decide
  go_enter Tryz.func66, Tryz.ntmps66
  go_wp2_with fail
  refine (l1Finite_any _ _).mono ?_
  rintro e w1 ⟨rfl, n1, rfl⟩
  rw [hf]
  go_wp2_with fail
  all_goals
    go_ret
    exact ⟨rfl, (Nw.refl w).draw _⟩

end Go.Proofs.YtiakcibeobbonaaGreat

/- Ceiling and release: what the program's isCeiling, isRelease and the model's l7Limits answer, of any numbers.
   Conditions: those that each statement names. -/
namespace Go.Proofs.YtiakcibeobbonaaGreat
set_option linter.unusedSimpArgs false
set_option linter.unusedVariables false
open Go Go.RowKit

def ge0 (r : Nat) : Bool := FloatKind.f32.format.order r 0 == some .gt || FloatKind.f32.format.order r 0 == some .eq
def le1 (r : Nat) : Bool := FloatKind.f32.format.order r 1065353216 == some .lt || FloatKind.f32.format.order r 1065353216 == some .eq
def gt0 (c : Nat) : Bool := FloatKind.f32.format.order c 0 == some .gt
def lim (c r : Nat) : Bool := (gt0 c && fin .f32 c) && ((ge0 r && le1 r) && !(r == 2147483648))

/-- a release between 0 and 1 -/
theorem release_case {r : Nat} (hr : r < 2 ^ 32) (h0 : ge0 r = true) (h1 : le1 r = true) :
    r = 0 ∨ r = 2147483648 ∨ (r ≠ 0 ∧ r ≠ 2147483648 ∧ wid r < 2 ^ 63 ∧ ∃ m p, Ieee.double.read (wid r) = .number false m p ∧ m ≠ 0 ∧ (m : Rat) * Flo.pw p < Flo.pw 53) := by
  have hsw : Ieee.single.signWeight = 2147483648 := by decide
  have z0 : Ieee.single.read 0 = .number false 0 (-149) := by decide
  have z1 : Ieee.single.read 2147483648 = .number true 0 (-149) := by decide
  have o1 : Ieee.single.read 1065353216 = .number false 8388608 (-23) := by decide
  cases hd : Ieee.single.read r with
  | nan s f =>
    exfalso
    unfold ge0 FloatKind.format Ieee.Format.order at h0
    simp only [hd, z0, Ieee.Datum.order] at h0
    simp at h0
  | infinity s =>
    exfalso
    cases s with
    | true =>
      unfold ge0 FloatKind.format Ieee.Format.order at h0
      simp only [hd, z0, Ieee.Datum.order] at h0
      simp at h0
    | false =>
      unfold le1 FloatKind.format Ieee.Format.order at h1
      simp only [hd, o1, Ieee.Datum.order] at h1
      simp at h1
  | number s m p =>
    have a0 := Flo.order_num Ieee.single r 0 ⟨_, _, _, hd⟩ ⟨_, _, _, z0⟩
    have a1 := Flo.order_num Ieee.single r 1065353216 ⟨_, _, _, hd⟩ ⟨_, _, _, o1⟩
    rw [Flo.V_eq hd, Flo.V_eq z0, Flo.val_zero] at a0
    have v1 : Flo.V Ieee.single 1065353216 = 1 := by
      rw [Flo.V_eq o1]; unfold Flo.val
      have e := Flo.pw_neg_mul 23
      have e2 : Flo.pw 23 = 8388608 := Flo.pw_nat 23
      rw [e2] at e
      have e3 : ((8388608 : Nat) : Rat) = 8388608 := rfl
      rw [e3]; simp; grind
    rw [Flo.V_eq hd, v1] at a1
    have hv0 : 0 ≤ Flo.val s m p := by
      unfold ge0 at h0
      rw [Bool.or_eq_true, beq_iff_eq, beq_iff_eq] at h0
      rcases h0 with h | h
      · have := a0.2.2.1 h; grind
      · have := a0.2.1.1 h; grind
    have hv1 : Flo.val s m p ≤ 1 := by
      unfold le1 at h1
      rw [Bool.or_eq_true, beq_iff_eq, beq_iff_eq] at h1
      rcases h1 with h | h
      · have := a1.1.1 h; grind
      · have := a1.2.1.1 h; grind
    by_cases hm : m = 0
    · subst hm
      cases s with
      | false => exact .inl (Flo.read_inj Ieee.single hd z0 (by rw [hsw]; omega) (by rw [hsw]; omega) (by simp))
      | true => exact .inr (.inl (Flo.read_inj Ieee.single hd z1 (by rw [hsw]; omega) (by rw [hsw]; omega) (by simp)))
    · right; right
      have hmp : 0 < (m : Rat) * Flo.pw p := Rat.mul_pos (by exact_mod_cast Nat.pos_of_ne_zero hm) (Flo.pw_pos p)
      have hs : s = false := by
        cases s with
        | false => rfl
        | true => exfalso; unfold Flo.val at hv0; simp only [if_true] at hv0; grind
      subst hs
      obtain ⟨m', p', w1, w2⟩ := wid_read hd
      have hm' : m' ≠ 0 := by
        intro e; subst e
        rw [← w2] at hmp; simp at hmp
      refine ⟨?_, ?_, ?_, m', p', w1, hm', ?_⟩
      · intro e; subst e
        rw [z0] at hd; injection hd with _ e2 _; exact hm e2.symm
      · intro e; subst e
        rw [z1] at hd; injection hd with e2 _ _; cases e2
      · obtain ⟨g1, -⟩ := Flo.read_rung Ieee.double w1
        have hw := wid_lt r
        have hsd : Ieee.double.signWeight = 2 ^ 63 := by decide
        rw [hsd] at g1
        rcases Nat.lt_or_ge (wid r) (2 ^ 63) with g | g
        · exact g
        · exfalso
          have e : wid r / 2 ^ 63 = 1 := by omega
          rw [e] at g1
          cases g1
      · rw [w2]
        have : (m : Rat) * Flo.pw p ≤ 1 := by unfold Flo.val at hv1; simpa using hv1
        rw [Flo.p53]; grind

theorem wid_zero : wid 0 = 0 := by decide
theorem wid_minus : wid 2147483648 = 9223372036854775808 := by decide
theorem text_minus (xs : List Int) (d : Int) (rest : List Int) (h : xs = d :: rest) (h1 : 48 ≤ d) (h2 : d ≤ 57) : strOfNums xs ≠ (⟨#[45, 48]⟩ : ByteArray) := by
  subst h
  intro e
  have e1 := congrArg (fun b : ByteArray => b.data.toList.head?) e
  simp [strOfNums] at e1
  have e2 := congrArg UInt8.toNat e1
  simp at e2
  omega

/-- FormatSingle of a release between 0 and 1: '-0' for that alone -/
theorem specSingle_ok (r : Nat) (hr : r < 2 ^ 32) (h0 : ge0 r = true) (h1 : le1 r = true) (w : World) :
    Calls Tryz.prog 39 #[.float .f32 r] w fun e w' => (∃ s : ByteArray, e = .returned (.string s) ∧ ((r = 2147483648 ∧ s = ⟨#[45, 48]⟩) ∨ (r ≠ 2147483648 ∧ s ≠ ⟨#[45, 48]⟩))) ∧ Nw w w' := by
  rcases release_case hr h0 h1 with rfl | rfl | ⟨n0, n1, hlt, m, p, hd, hm, hB⟩
  · have a1 : ∀ w, fcv w .f32 0 .f64 = 0 := fun w => by rw [fcv_wide (by decide)]; exact wid_zero
    have a2 : fcd .f32 0 .f64 = 0 := fcd_wide (by decide)
    go_enter Tryz.func39, Tryz.ntmps39
    go_wp2_with fail
    refine (specFormat_zero _).mono ?_
    rintro e w1 ⟨rfl, n1⟩
    have N1 := Lib.hid n1
    clear n1
    go_wp2_with fail
    go_ret
    exact ⟨⟨_, rfl, .inr ⟨by decide, by decide⟩⟩, N1.out⟩
  · have a1 : ∀ w, fcv w .f32 2147483648 .f64 = 9223372036854775808 := fun w => by rw [fcv_wide (by decide)]; exact wid_minus
    have a2 : fcd .f32 2147483648 .f64 = 0 := fcd_wide (by decide)
    go_enter Tryz.func39, Tryz.ntmps39
    go_wp2_with fail
    refine (specFormat_minus _).mono ?_
    rintro e w1 ⟨rfl, n1⟩
    have N1 := Lib.hid n1
    clear n1
    go_wp2_with fail
    go_ret
    exact ⟨⟨_, rfl, .inl ⟨by first | rfl | trivial, rfl⟩⟩, N1.out⟩
  · have hn : nan32 r = false := by
      cases hx : nan32 r with
      | false => rfl
      | true =>
        exfalso
        unfold ge0 at h0
        unfold nan32 at hx
        unfold Ieee.Format.order at h0
        unfold FloatKind.decode at hx
        cases hq : FloatKind.f32.format.read r <;> rw [hq] at hx <;> simp [Ieee.Datum.isNaN] at hx
        simp [hq, Ieee.Datum.order] at h0
    have a1 := fcv_wide hn
    have a2 := fcd_wide hn
    go_enter Tryz.func39, Tryz.ntmps39
    go_wp2_with fail
    refine (specFormat_pos (wid r) m p hd hm hB _).mono ?_
    rintro e w1 ⟨a, q, -, -, -, -, -, rfl, g1⟩
    have N1 := Lib.hid g1
    clear g1
    obtain ⟨d, rest, he, d1, d2⟩ := dgs_head a
    have hs : strOfNums (dgs a ++ 112 :: numL q) ≠ (⟨#[45, 48]⟩ : ByteArray) := text_minus _ d (rest ++ 112 :: numL q) (by rw [he]; rfl) d1 d2
    generalize strOfNums (dgs a ++ 112 :: numL q) = s at *
    go_wp2_with fail
    go_ret
    exact ⟨⟨_, rfl, .inr ⟨n1, hs⟩⟩, N1.out⟩

theorem gt0_nan {c : Nat} (h : gt0 c = true) : nan32 c = false := by
  cases hx : nan32 c with
  | false => rfl
  | true =>
    exfalso
    unfold gt0 Ieee.Format.order at h
    unfold nan32 FloatKind.decode at hx
    cases hq : FloatKind.f32.format.read c <;> rw [hq] at hx <;> simp [Ieee.Datum.isNaN] at hx
    simp [hq, Ieee.Datum.order] at h

set_option maxRecDepth 100000 in
theorem l7Limits_any (c r : Nat) (hr : r < 2 ^ 32) (w : World) :
    Calls Tryz.prog 27 #[.float .f32 c, .float .f32 r] w fun e w' => e = .returned (.bool (lim c r)) ∧ Nw w w' := by
  cases hc : gt0 c with
  | false =>
    have hl : lim c r = false := by unfold lim; rw [hc]; simp
    have Hl := Lib.hid hl
    have hc' := hc
    unfold gt0 at hc'
    clear hl hc
    go_enter Tryz.func27, Tryz.ntmps27
    go_wp2_with fail
    all_goals
      go_ret
      exact ⟨by rw [Hl.out]; rfl, Nw.refl _⟩
  | true =>
    have a1 := fcv_wide (gt0_nan hc)
    have a2 := fcd_wide (gt0_nan hc)
    have hf : fin .f64 (wid c) = fin .f32 c := by rw [← a1 w]; exact fin_up c w
    have Hf := Lib.hid hf
    have hc' := hc
    unfold gt0 at hc'
    cases hfc : fin .f32 c with
    | false =>
      have hl : lim c r = false := by unfold lim; rw [hfc]; simp
      have Hl := Lib.hid hl
      clear hl hc hf
      go_enter Tryz.func27, Tryz.ntmps27
      go_wp2_with (go_at_call 46; refine (l1Finite_any _ _).mono ?_; rintro e w1 ⟨rfl, n1, rfl⟩; rw [Hf.out, hfc])
      all_goals
        go_ret
        exact ⟨by rw [Hl.out]; rfl, (Nw.refl w).draw _⟩
    | true =>
      cases h0 : ge0 r with
      | false =>
        have hl : lim c r = false := by unfold lim; rw [h0]; simp
        have Hl := Lib.hid hl
        have h0' := h0
        unfold ge0 at h0'
        clear hl hc hf h0
        go_enter Tryz.func27, Tryz.ntmps27
        go_wp2_with (go_at_call 46; refine (l1Finite_any _ _).mono ?_; rintro e w1 ⟨rfl, n1, rfl⟩; rw [Hf.out, hfc])
        all_goals
          go_ret
          exact ⟨by rw [Hl.out]; rfl, (Nw.refl w).draw _⟩
      | true =>
        cases h1 : le1 r with
        | false =>
          have hl : lim c r = false := by unfold lim; rw [h1]; simp
          have Hl := Lib.hid hl
          have h0' := h0
          unfold ge0 at h0'
          have h1' := h1
          unfold le1 at h1'
          clear hl hc hf h0 h1
          go_enter Tryz.func27, Tryz.ntmps27
          go_wp2_with (go_at_call 46; refine (l1Finite_any _ _).mono ?_; rintro e w1 ⟨rfl, n1, rfl⟩; rw [Hf.out, hfc])
          all_goals
            go_ret
            exact ⟨by rw [Hl.out]; rfl, (Nw.refl w).draw _⟩
        | true =>
          have hl : lim c r = !(r == 2147483648) := by unfold lim; rw [hc, hfc, h0, h1]; rfl
          have Hl := Lib.hid hl
          have Hs := Lib.hid (specSingle_ok r hr h0 h1)
          have h0' := h0
          unfold ge0 at h0'
          have h1' := h1
          unfold le1 at h1'
          clear hl hc hf h0 h1
          go_enter Tryz.func27, Tryz.ntmps27
          go_wp2_with (first
            | (go_at_call 46; refine (l1Finite_any _ _).mono ?_; rintro e w1 ⟨rfl, n1, rfl⟩; rw [Hf.out, hfc])
            | (go_at_call 39; refine (Hs.out _).mono ?_; rintro e w2 ⟨⟨s, rfl, hs⟩, g2⟩; have N2 := Lib.hid (((Nw.refl w).draw _).trans g2); have Hs2 := Lib.hid hs; clear hs g2))
          all_goals
            go_ret
            refine ⟨?_, N2.out⟩
            rw [Hl.out]
            rcases Hs2.out with ⟨e1, e2⟩ | ⟨e1, e2⟩
            · simp [e1, e2]
            · have b1 : (r == 2147483648) = false := by simpa using e1
              have b2 : (s.toList == [45, 48]) = false := by
                cases hq : (s.toList == [45, 48]) with
                | false => rfl
                | true =>
                  exfalso
                  apply e2
                  have h2 : s.toList = [45, 48] := by simpa using hq
                  rw [ByteArray.toList_eq] at h2
                  apply ByteArray.ext
                  exact Array.toList_inj.1 h2
              simp [b1, b2]

/-! ### the program's -/
theorem signbit_any (x : Nat) (hx : x < 2 ^ 64) (w : World) :
    Calls Tryz.prog 77 #[.float .f64 x] w fun e w' => e = .returned (.bool (decide (2 ^ 63 ≤ x))) ∧ w = w' := by
  have h1 := call_bits x
  by_cases h : 2 ^ 63 ≤ x
  · have hw : RowKit.wrap64 (x : Int) < 0 := by unfold RowKit.wrap64; omega
    go_enter Tryz.func77, Tryz.ntmps77
    go_wp2
    all_goals (go_ret; exact ⟨by simp [h, hw], rfl⟩)
  · have hw : ¬ RowKit.wrap64 (x : Int) < 0 := by unfold RowKit.wrap64; omega
    go_enter Tryz.func77, Tryz.ntmps77
    go_wp2
    all_goals (go_ret; exact ⟨by simp [h]; try omega, rfl⟩)
theorem isCeiling_any (c : Nat) (w : World) :
    Calls Tryz.prog 51 #[.float .f32 c] w fun e w' => e = .returned (.bool (gt0 c && fin .f32 c)) ∧ w = w' := by
  cases hc : gt0 c with
  | false =>
    have hc' := hc
    unfold gt0 at hc'
    clear hc
    go_enter Tryz.func51, Tryz.ntmps51
    go_wp2_with fail
    all_goals (go_ret; exact ⟨by simp, rfl⟩)
  | true =>
    have a1 := fcv_wide (gt0_nan hc)
    have a2 := fcd_wide (gt0_nan hc)
    have hf : fin .f64 (wid c) = fin .f32 c := by rw [← a1 w]; exact fin_up c w
    have hc' := hc
    unfold gt0 at hc'
    clear hc
    go_enter Tryz.func51, Tryz.ntmps51
    go_wp2_with (go_at_call 75; refine (isFinitePart_any _ _ (wid_lt c)).mono ?_; rintro e w1 ⟨rfl, rfl⟩; rw [hf])
    all_goals (go_ret; exact ⟨by simp, rfl⟩)
theorem isFactor_any (r : Nat) (w : World) :
    Calls Tryz.prog 76 #[.float .f32 r] w fun e w' => e = .returned (.bool (ge0 r && le1 r)) ∧ w = w' := by
  cases h0 : ge0 r with
  | false =>
    have h0' := h0
    unfold ge0 at h0'
    clear h0
    go_enter Tryz.func76, Tryz.ntmps76
    go_wp2_with fail
    all_goals (go_ret; exact ⟨by simp, rfl⟩)
  | true =>
    have h0' := h0
    unfold ge0 at h0'
    clear h0
    go_enter Tryz.func76, Tryz.ntmps76
    go_wp2_with fail
    all_goals (go_ret; exact ⟨by unfold le1; simp, rfl⟩)
theorem isRelease_any (r : Nat) (hr : r < 2 ^ 32) (w : World) :
    Calls Tryz.prog 52 #[.float .f32 r] w fun e w' => e = .returned (.bool ((ge0 r && le1 r) && !(r == 2147483648))) ∧ w = w' := by
  cases hf : (ge0 r && le1 r) with
  | false =>
    have Hf := Lib.hid hf
    clear hf
    go_enter Tryz.func52, Tryz.ntmps52
    go_wp2_with (go_at_call 76; refine (isFactor_any _ _).mono ?_; rintro e w1 ⟨rfl, rfl⟩; rw [Hf.out])
    all_goals (go_ret; exact ⟨by simp, rfl⟩)
  | true =>
    have h01 : ge0 r = true ∧ le1 r = true := by simpa using hf
    have hsb : nan32 r = false ∧ decide (2 ^ 63 ≤ wid r) = (r == 2147483648) := by
      rcases release_case hr h01.1 h01.2 with rfl | rfl | ⟨n0, n1, hlt, m, p, hd, -⟩
      · exact ⟨by decide, by decide⟩
      · exact ⟨by decide, by decide⟩
      · refine ⟨?_, ?_⟩
        · cases hx : nan32 r with
          | false => rfl
          | true =>
            have hwn := nan_wide hx w
            exfalso
            have h0 := h01.1
            unfold ge0 Ieee.Format.order at h0
            unfold nan32 FloatKind.decode at hx
            cases hq : FloatKind.f32.format.read r <;> rw [hq] at hx <;> simp [Ieee.Datum.isNaN] at hx
            simp [hq, Ieee.Datum.order] at h0
        · rw [decide_eq_false (by omega)]
          simpa using n1
    have a1 := fcv_wide hsb.1
    have a2 := fcd_wide hsb.1
    have Hf := Lib.hid hf
    have Hs := Lib.hid hsb.2
    clear hf h01 hsb
    go_enter Tryz.func52, Tryz.ntmps52
    go_wp2_with (first
      | (go_at_call 76; refine (isFactor_any _ _).mono ?_; rintro e w1 ⟨rfl, rfl⟩; rw [Hf.out])
      | (go_at_call 77; refine (signbit_any _ (wid_lt r) _).mono ?_; rintro e w2 ⟨rfl, rfl⟩; rw [Hs.out]))
    all_goals (go_ret; exact ⟨by simp, rfl⟩)

end Go.Proofs.YtiakcibeobbonaaGreat

/- The walks of EnergyOf, the program's and the model's: the sum of the squares, but for the bits of NaN; of finite samples it is a number.
   Conditions: those that each statement names. -/
namespace Go.Proofs.YtiakcibeobbonaaGreat
set_option linter.unusedSimpArgs false
set_option linter.unusedVariables false
open Go Go.RowKit

/-- the sum of the squares, but for the bits of NaN -/
def enA (zs : List Nat) : Option Nat := zs.foldl (fun s x => fA .add .f64 s (fA .mul .f64 (wA x) (wA x))) (fab .f64 0)
theorem enA_take (zs : List Nat) (k x : Nat) (h : zs[k]? = some x) : enA (zs.take (k + 1)) = fA .add .f64 (enA (zs.take k)) (fA .mul .f64 (wA x) (wA x)) := by
  obtain ⟨hk, he⟩ := List.getElem?_eq_some_iff.1 h
  unfold enA
  rw [List.take_succ_eq_append_getElem hk, List.foldl_append, he]; rfl

def EnI (zs : List Nat) (n : Nat) (w : World) (y i : Value) (wr : World) : Prop :=
  ∃ k s : Nat, k ≤ n ∧ i = .int .i64 (k : Int) ∧ y = .float .f64 s ∧ fab .f64 s = enA (zs.take k) ∧ Nw w wr
def EnP (zs : List Nat) (w : World) (e : Ending) (w' : World) : Prop := ∃ s, e = .returned (.float .f64 s) ∧ fab .f64 s = enA zs ∧ Nw w w'

end Go.Proofs.YtiakcibeobbonaaGreat

/- The energy of finite samples is a number: plain facts, and the walk of EnergyOf that says its bits.
   Conditions: those that each statement names. -/
namespace Go.Proofs.YtiakcibeobbonaaGreat
set_option linter.unusedSimpArgs false
set_option linter.unusedVariables false
open Go Go.RowKit

/-! ### the energy of finite samples is a number -/
def enB : Rat := Flo.pw 260
theorem en_step (s x : Nat) (k : Nat) (hk : k ≤ 1000) (hs : Flo.Nm s) (hb : Flo.Ab (Flo.W s) ((k : Rat) * enB)) (hx : Sm x) :
    ∃ r, fA .add .f64 (some s) (fA .mul .f64 (wA x) (wA x)) = some r ∧ Flo.Nm r ∧ Flo.Ab (Flo.W r) (((k + 1 : Nat) : Rat) * enB) := by
  obtain ⟨n, v⟩ := wid_num hx
  have hwa : wA x = some (wid x) := by unfold wA; rw [show nan32 x = false from by obtain ⟨s, m, p, h⟩ := hx; unfold nan32; rw [show FloatKind.f32.decode x = _ from h]; rfl]; rfl
  have a := single_abs hx
  have hm := a.mul a
  have e256 : Flo.pw 128 * Flo.pw 128 = Flo.pw 256 := by rw [← Flo.pw_add]; rfl
  rw [e256, ← v] at hm
  have l1 : Flo.pw 256 < Flo.pw 1023 := Flo.pw_lt (by omega)
  have l2 : Flo.pw 260 = 16 * Flo.pw 256 := by rw [show (260 : Int) = 4 + 256 from rfl, Flo.pw_add, show Flo.pw 4 = 16 from Flo.pw_nat 4]
  have l3 : Flo.pw 280 < Flo.pw 1023 := Flo.pw_lt (by omega)
  have l4 : Flo.pw 280 = 1048576 * Flo.pw 260 := by rw [show (280 : Int) = 20 + 260 from rfl, Flo.pw_add, show Flo.pw 20 = 1048576 from Flo.pw_nat 20]
  have p0 : 1 ≤ Flo.pw 256 := by rw [← Flo.pw_zero]; exact Flo.pw_le (by omega)
  have u1 := Flo.u_le
  have u0 := Flo.u_pos
  have e0 := Flo.et_pos
  have eu : Flo.et ≤ Flo.u := Flo.pw_le (by omega)
  obtain ⟨r1, q1, q2, q3⟩ := Flo.d_mul (wid x) (wid x) n n _ hm l1
  have k0 : (0 : Rat) ≤ (k : Rat) := by exact_mod_cast Nat.zero_le k
  have k1 : (k : Rat) ≤ 1000 := by
    have : ((k : Nat) : Rat) ≤ ((1000 : Nat) : Rat) := by exact_mod_cast hk
    exact this
  have u2 : Flo.u ≤ 1 / 1048576 := by grind
  have hP := Rat.mul_le_mul_of_nonneg_left u2 (show (0 : Rat) ≤ Flo.pw 256 by grind)
  have hr1 : Flo.Ab (Flo.W r1) (2 * Flo.pw 256) := ((q3.add hm).eq (by grind)).mono (by grind)
  have hsum : Flo.Ab (Flo.W s + Flo.W r1) ((k : Rat) * enB + 2 * Flo.pw 256) := hb.add hr1
  have hkb : (k : Rat) * enB ≤ 1000 * enB := Rat.mul_le_mul_of_nonneg_right k1 (by unfold enB; grind)
  unfold enB at *
  obtain ⟨r2, t1, t2, t3⟩ := Flo.d_add s r1 hs q2 _ hsum (by grind)
  refine ⟨r2, ?_, t2, ?_⟩
  · rw [hwa]
    show fA .add .f64 (some s) (floatBits .mul .f64 (wid x) (wid x)) = _
    rw [q1]
    exact t1
  · have hB : 0 ≤ (k : Rat) * Flo.pw 260 + 2 * Flo.pw 256 := hsum.nonneg
    have hu := Rat.mul_le_mul_of_nonneg_left u2 hB
    have e1 : ((k + 1 : Nat) : Rat) = (k : Rat) + 1 := by push_cast; rfl
    rw [e1]
    refine ((t3.add hsum).eq (by grind)).mono ?_
    grind
theorem en_fold : ∀ (zs : List Nat) (s k : Nat), k + zs.length ≤ 1000 → Flo.Nm s → Flo.Ab (Flo.W s) ((k : Rat) * enB) → (∀ x ∈ zs, Sm x) → ∃ r, zs.foldl (fun s x => fA .add .f64 s (fA .mul .f64 (wA x) (wA x))) (some s) = some r ∧ Flo.Nm r
  | [], s, k, _, hs, _, _ => ⟨s, rfl, hs⟩
  | x :: zs, s, k, hk, hs, hb, hx => by
    simp only [List.length_cons] at hk
    obtain ⟨r, h1, h2, h3⟩ := en_step s x k (by omega) hs hb (hx x (List.mem_cons_self ..))
    rw [List.foldl_cons, h1]
    exact en_fold zs r (k + 1) (by omega) h2 h3 (fun y hy => hx y (List.mem_cons_of_mem _ hy))
theorem zero_double : Flo.Nm 0 ∧ Flo.W 0 = 0 := by
  have h : Ieee.double.read 0 = .number false 0 (-1074) := by decide
  refine ⟨⟨_, _, _, h⟩, ?_⟩
  rw [show Flo.W 0 = _ from Flo.V_eq h, Flo.val_zero]
/-- the energy's bits -/
def enN (zs : List Nat) : Nat := (enA zs).getD 0
theorem en_num (zs : List Nat) (hl : zs.length ≤ 1000) (hx : ∀ x ∈ zs, Sm x) : enA zs = some (enN zs) ∧ Flo.Nm (enN zs) := by
  have h0 : fab .f64 0 = some 0 := fab_some (by decide)
  obtain ⟨r, h1, h2⟩ := en_fold zs 0 0 (by omega) zero_double.1 (by rw [zero_double.2]; unfold enB; have := Flo.pw_pos 260; constructor <;> grind) hx
  have e : enA zs = some r := by unfold enA; rw [h0]; exact h1
  unfold enN
  rw [e]
  exact ⟨rfl, h2⟩
theorem fab_eq {k : FloatKind} {s r : Nat} (h : fab k s = some r) : s = r := by
  unfold fab at h
  split at h
  · cases h
  · injection h
end Go.Proofs.YtiakcibeobbonaaGreat

/- Absolute values of single precision: the walk of absoluteSingle.
   Conditions: those that each statement names. -/
namespace Go.Proofs.YtiakcibeobbonaaGreat
set_option linter.unusedSimpArgs false
set_option linter.unusedVariables false
open Go Go.RowKit

theorem implAbs_wide (x : Nat) (hx : nan32 x = false) (w : World) :
    Calls Tryz.prog 63 #[.float .f32 x] w fun e w' => (∃ p, e = .returned (.float .f32 p) ∧ Tw p (labs (wid x))) ∧ w = w' := by
  have a1 := fcv_wide hx
  have a2 := fcd_wide hx
  have a3 := fun w => (tw_abs hx w).2
  have a3 := a3 w
  have lt := wid_lt x
  go_enter Tryz.func63, Tryz.ntmps63
  go_wp2_with (go_at_call 96; refine (abs_any _ _ lt).mono ?_; rintro e w' ⟨rfl, rfl⟩)
  all_goals (go_ret; exact ⟨⟨_, rfl, (tw_abs hx _).1⟩, rfl⟩)
theorem nan_abs {z : Nat} (h : nan64 z = true) (w : World) : nan32 (fcv w .f64 (z % signBit) .f32) = true := by
  unfold nan64 at h
  have hm := mod_read z
  cases hd : FloatKind.f64.decode z with
  | number s m p => rw [hd] at h; cases h
  | infinity s => rw [hd] at h; cases h
  | nan s f =>
    rw [hd] at hm
    unfold fcv
    rw [if_neg (by decide), hm]
    exact nan_conv _ _ _
theorem nan_order {k : FloatKind} {z : Nat} (h : (k.decode z).isNaN = true) (b : Nat) : (k.format.order z b == some .gt) = false := by
  unfold Ieee.Format.order
  unfold FloatKind.decode at h
  cases hd : k.format.read z <;> rw [hd] at h <;> simp [Ieee.Datum.isNaN] at h
  simp [Ieee.Datum.order]
theorem nan_labs {z : Nat} (h : nan64 z = true) : labs z = z := by
  have h0 : FloatKind.f64.format.order z 0 = none := by
    unfold Ieee.Format.order
    unfold nan64 FloatKind.decode at h
    cases hd : FloatKind.f64.format.read z <;> rw [hd] at h <;> simp [Ieee.Datum.isNaN] at h
    simp [Ieee.Datum.order]
  unfold labs; rw [h0]; simp
theorem implAbs_nan (x : Nat) (hx : nan32 x = true) (h32 : x < 2 ^ 32) (w : World) :
    Calls Tryz.prog 63 #[.float .f32 x] w fun e w' => (∃ p, e = .returned (.float .f32 p) ∧ nan32 p = true) ∧ Nw w w' := by
  have lt := fun w => fcv_wf w .f32 x .f64 (show x < 2 ^ FloatKind.f32.format.width from h32)
  have hn := fun w => nan_wide hx w
  go_enter Tryz.func63, Tryz.ntmps63
  go_wp2_with (go_at_call 96; refine (abs_any _ _ (lt _)).mono ?_; rintro e w' ⟨rfl, rfl⟩)
  all_goals (go_ret; exact ⟨⟨_, rfl, nan_abs (hn _) _⟩, ⟨rfl, rfl, rfl, Nat.le_refl _, fun _ _ _ => rfl⟩⟩)

end Go.Proofs.YtiakcibeobbonaaGreat

/- The law FnExactPeakOf, proved: for every slice of samples PeakOf answers as its model does, and leaves it as it was.
   Conditions: none beyond the statement's own. -/
namespace Go.Proofs.YtiakcibeobbonaaGreat
set_option linter.unusedSimpArgs false
set_option linter.unusedVariables false
open Go Go.RowKit

/-- the greatest absolute value so far, as the model has it -/
def pk1 (b x : Nat) : Nat := if nan32 x then b else if FloatKind.f64.format.order (labs (wid x)) b == some .gt then labs (wid x) else b
def pkB (zs : List Nat) : Nat := zs.foldl pk1 0
theorem pkB_take (zs : List Nat) (k x : Nat) (h : zs[k]? = some x) : pkB (zs.take (k + 1)) = pk1 (pkB (zs.take k)) x := by
  obtain ⟨hk, he⟩ := List.getElem?_eq_some_iff.1 h
  unfold pkB
  rw [List.take_succ_eq_append_getElem hk, List.foldl_append, he]; rfl
theorem pk1_nan {b x : Nat} (h : nan32 x = true) : pk1 b x = b := by unfold pk1; rw [h]; rfl
theorem pk1_up {b x : Nat} (h : nan32 x = false) (g : (FloatKind.f64.format.order (labs (wid x)) b == some .gt) = true) : pk1 b x = labs (wid x) := by unfold pk1; rw [h, g]; rfl
theorem pk1_stay {b x : Nat} (h : nan32 x = false) (g : (FloatKind.f64.format.order (labs (wid x)) b == some .gt) = false) : pk1 b x = b := by unfold pk1; rw [h, g]; rfl

def PkS (zs : List Nat) (n : Nat) (w : World) (y i : Value) (wr : World) : Prop :=
  ∃ k p : Nat, k ≤ n ∧ i = .int .i64 (k : Int) ∧ y = .float .f64 (pkB (zs.take k)) ∧ Tw p (pkB (zs.take k)) ∧ Nw w wr
def PkI (zs : List Nat) (n : Nat) (w : World) (y i : Value) (wr : World) : Prop :=
  ∃ k p : Nat, k ≤ n ∧ i = .int .i64 (k : Int) ∧ y = .float .f32 p ∧ Tw p (pkB (zs.take k)) ∧ Nw w wr
def PkP (zs : List Nat) (w : World) (e : Ending) (w' : World) : Prop := ∃ p, e = .returned (.float .f32 p) ∧ Tw p (pkB zs) ∧ Nw w w'

theorem tw_again {p b : Nat} (h : Tw p b) (w : World) : Tw (fcv w .f64 b .f32) b ∧ fcd .f64 b .f32 = 0 := by
  rcases h with ⟨m, i, n, j, h1, h2, h3⟩ | ⟨h1, h2⟩
  · exact tw_narrow h1 h2 h3.symm w
  · exact tw_narrow_inf h2 w

end Go.Proofs.YtiakcibeobbonaaGreat

/- Equal numbers, 0 and -0 alike: every operation takes equal numbers to equal numbers; what is read decides what an operation gives. No program stands in it.
   Conditions: none beyond those that each statement names. -/
namespace Go.Proofs.YtiakcibeobbonaaGreat
set_option linter.unusedSimpArgs false
set_option linter.unusedVariables false
open Go
namespace Flo
open Ieee

def Zr (f : Format) (a : Nat) : Prop := ∃ s p, f.read a = .number s 0 p
/-- the same bits, or two zeros -/
def Ev (f : Format) (a b : Nat) : Prop := a = b ∨ (Zr f a ∧ Zr f b)
theorem Ev.refl (f : Format) (a : Nat) : Ev f a a := .inl rfl
theorem Ev.symm {f : Format} {a b : Nat} (h : Ev f a b) : Ev f b a := by
  rcases h with rfl | ⟨h1, h2⟩
  · exact .inl rfl
  · exact .inr ⟨h2, h1⟩
theorem Ev.trans {f : Format} {a b c : Nat} (h : Ev f a b) (k : Ev f b c) : Ev f a c := by
  rcases h with rfl | ⟨h1, h2⟩
  · exact k
  · rcases k with rfl | ⟨k1, k2⟩
    · exact .inr ⟨h1, h2⟩
    · exact .inr ⟨h1, k2⟩
theorem Ev.zr {f : Format} {a b : Nat} (h : Ev f a b) (k : Zr f b) : Zr f a := by
  rcases h with rfl | ⟨h1, h2⟩
  · exact k
  · exact h1
def EvO (f : Format) : Option Nat → Option Nat → Prop
  | none, none => True
  | some a, some b => Ev f a b
  | _, _ => False
theorem EvO.refl (f : Format) (a : Option Nat) : EvO f a a := by cases a <;> simp [EvO, Ev.refl]
theorem EvO.trans {f : Format} {a b c : Option Nat} (h : EvO f a b) (k : EvO f b c) : EvO f a c := by
  cases a <;> cases b <;> cases c <;> simp only [EvO] at * <;> first | trivial | contradiction | exact Ev.trans h k
theorem EvO.getD {f : Format} {a b : Option Nat} (h : EvO f a b) : Ev f (a.getD 0) (b.getD 0) := by
  cases a <;> cases b <;> simp only [EvO] at h <;> first | contradiction | exact Ev.refl f _ | exact h

theorem write_zero (f : Format) (s : Bool) (p : Int) : Zr f (f.write (.number s 0 p)) := by
  refine ⟨s, f.leastPlace, ?_⟩
  show f.read (f.nearest s 0 p) = _
  have : f.nearest s 0 p = f.word s 0 := by unfold Format.nearest; simp
  rw [this, zero_read]

/-- of equal numbers other than 0 the same word is written -/
theorem write_same (f : Format) (s : Bool) (m n : Nat) (p q : Int) (hm : m ≠ 0) (h : (m : Rat) * pw p = (n : Rat) * pw q) : f.write (.number s m p) = f.write (.number s n q) := by
  have hn : n ≠ 0 := by
    intro hn; subst hn
    exact hm (mag_zero (by rw [h]; simp))
  show f.nearest s m p = f.nearest s n q
  rw [nearest_eq f s m p hm, nearest_eq f s n q hn]
  have z1 := size_pw m p hm
  have z2 := size_pw n q hn
  have l1 : p + (m.log2 : Int) < q + n.log2 + 1 := lt_of_pw_lt (by grind)
  have l2 : q + (n.log2 : Int) < p + m.log2 + 1 := lt_of_pw_lt (by grind)
  have hl : lastOf f m p = lastOf f n q := by unfold lastOf; omega
  have k1 := kept_mono f s s m n p q hm hn (by rw [h]; exact Rat.le_refl)
  have k2 := kept_mono f s s n m q p hn hm (by rw [h]; exact Rat.le_refl)
  rw [hl] at k1 k2
  have hp := pw_pos (lastOf f n q)
  have e1 : keptOf f s m p ≤ keptOf f s n q := le_nat_of _ _ (lastOf f n q) (by grind)
  have e2 : keptOf f s n q ≤ keptOf f s m p := le_nat_of _ _ (lastOf f n q) (by grind)
  have e3 : keptOf f s m p = keptOf f s n q := by omega
  unfold rungOf
  rw [hl, e3]

theorem write_ev (f : Format) (s t : Bool) (m n : Nat) (p q : Int) (h : val s m p = val t n q) : Ev f (f.write (.number s m p)) (f.write (.number t n q)) := by
  have hm0 := mag_nonneg m p
  have hn0 := mag_nonneg n q
  by_cases hm : m = 0
  · subst hm
    have hn : n = 0 := by
      rw [val_zero] at h
      apply mag_zero (p := q)
      unfold val at h
      cases t <;> simp at h <;> grind
    subst hn
    exact .inr ⟨write_zero f s p, write_zero f t q⟩
  · have hmp : 0 < (m : Rat) * pw p := by
      rcases Classical.em ((m : Rat) * pw p ≤ 0) with h0 | h0
      · exact absurd (mag_zero h0) hm
      · grind
    have hst : s = t := by
      unfold val at h
      cases s <;> cases t <;> simp at h <;> first | rfl | (exfalso; grind)
    subst hst
    left
    apply write_same f s m n p q hm
    unfold val at h
    cases s <;> simp at h <;> grind

/-! ### the operations -/
theorem sum_zero (f : Format) (s t : Bool) (p q : Int) (d : Datum) : EvO f ((Datum.sum (.number s 0 p) d).map f.write) ((Datum.sum (.number t 0 q) d).map f.write) := by
  cases d with
  | nan a b => simp [Datum.sum, EvO]
  | infinity a => simp [Datum.sum, EvO, Ev.refl]
  | number u n j =>
    obtain ⟨a, k, b, h1, h2⟩ := sum_val s u 0 n p j
    obtain ⟨a', k', b', h1', h2'⟩ := sum_val t u 0 n q j
    rw [h1, h1']
    show Ev f _ _
    apply write_ev
    rw [h2, h2', val_zero, val_zero]
theorem sum_comm (a b : Datum) : a.sum b = b.sum a := by
  cases a <;> cases b <;> simp only [Datum.sum]
  · rename_i s m i t n j
    congr 2
    · rw [Int.min_comm, Int.add_comm]
      split <;> simp [Bool.and_comm]
    · rw [Int.min_comm, Int.add_comm]
    · exact Int.min_comm _ _
  · rename_i s t
    by_cases h : s = t
    · subst h; rfl
    · rw [if_neg h, if_neg (fun e => h e.symm)]
theorem add_ev_left (f : Format) (x x' y : Nat) (h : Ev f x x') : EvO f (f.add x y) (f.add x' y) := by
  rcases h with rfl | ⟨⟨s, p, h1⟩, ⟨t, q, h2⟩⟩
  · exact EvO.refl f _
  · unfold Format.add; rw [h1, h2]; exact sum_zero f s t p q _
theorem add_comm' (f : Format) (x y : Nat) : f.add x y = f.add y x := by unfold Format.add; rw [sum_comm]
theorem add_ev (f : Format) (x x' y y' : Nat) (h : Ev f x x') (k : Ev f y y') : EvO f (f.add x y) (f.add x' y') :=
  (add_ev_left f x x' y h).trans (by rw [add_comm' f x' y, add_comm' f x' y']; exact add_ev_left f y y' x' k)
theorem sub_ev (f : Format) (x x' y y' : Nat) (h : Ev f x x') (k : Ev f y y') : EvO f (f.sub x y) (f.sub x' y') := by
  refine EvO.trans (b := f.sub x' y) ?_ ?_
  · rcases h with rfl | ⟨⟨s, p, h1⟩, ⟨t, q, h2⟩⟩
    · exact EvO.refl f _
    · unfold Format.sub; rw [h1, h2]; exact sum_zero f s t p q _
  · rcases k with rfl | ⟨⟨s, p, h1⟩, ⟨t, q, h2⟩⟩
    · exact EvO.refl f _
    · unfold Format.sub; rw [h1, h2]
      show EvO f ((Datum.sum _ (.number (!s) 0 p)).map f.write) ((Datum.sum _ (.number (!t) 0 q)).map f.write)
      rw [sum_comm, sum_comm (f.read x')]
      exact sum_zero f _ _ p q _
theorem product_comm (a b : Datum) : a.product b = b.product a := by
  cases a <;> cases b <;> simp only [Datum.product, Bool.xor_comm, Nat.mul_comm, Int.add_comm]
theorem mul_comm' (f : Format) (x y : Nat) : f.mul x y = f.mul y x := by unfold Format.mul; rw [product_comm]
theorem mul_ev_left (f : Format) (x x' y : Nat) (h : Ev f x x') : EvO f (f.mul x y) (f.mul x' y) := by
  rcases h with rfl | ⟨⟨s, p, h1⟩, ⟨t, q, h2⟩⟩
  · exact EvO.refl f _
  · unfold Format.mul; rw [h1, h2]
    cases f.read y with
    | nan a b => simp [Datum.product, EvO]
    | infinity a => simp [Datum.product, EvO]
    | number u n j =>
      simp only [Datum.product, Nat.zero_mul, Option.map_some]
      exact .inr ⟨write_zero f _ _, write_zero f _ _⟩
theorem mul_ev (f : Format) (x x' y y' : Nat) (h : Ev f x x') (k : Ev f y y') : EvO f (f.mul x y) (f.mul x' y') :=
  (mul_ev_left f x x' y h).trans (by rw [mul_comm' f x' y, mul_comm' f x' y']; exact mul_ev_left f y y' x' k)
theorem mul_zr {f : Format} {x y : Nat} (h : Zr f x) (k : IsNum f y) : ∃ r, f.mul x y = some r ∧ Zr f r := by
  obtain ⟨s, p, h⟩ := h
  obtain ⟨t, n, j, k⟩ := k
  refine ⟨_, by unfold Format.mul; rw [h, k]; simp only [Datum.product, Nat.zero_mul]; rfl, write_zero f _ _⟩
theorem add_zr {f : Format} {x y : Nat} (h : Zr f x) (k : Zr f y) : ∃ r, f.add x y = some r ∧ Zr f r := by
  obtain ⟨s, p, h⟩ := h
  obtain ⟨t, q, k⟩ := k
  obtain ⟨a, c, b, h1, h2⟩ := sum_val s t 0 0 p q
  rw [val_zero, val_zero] at h2
  have hc : c = 0 := by
    apply mag_zero (p := b)
    unfold val at h2
    have := mag_nonneg c b
    cases a <;> simp at h2 <;> grind
  subst hc
  exact ⟨_, by unfold Format.add; rw [h, k, h1]; rfl, write_zero f _ _⟩
theorem sub_zr {f : Format} {x y : Nat} (h : Zr f x) (k : Zr f y) : ∃ r, f.sub x y = some r ∧ Zr f r := by
  obtain ⟨s, p, h⟩ := h
  obtain ⟨t, q, k⟩ := k
  obtain ⟨a, c, b, h1, h2⟩ := sum_val s (!t) 0 0 p q
  rw [val_zero, val_zero] at h2
  have hc : c = 0 := by
    apply mag_zero (p := b)
    unfold val at h2
    have := mag_nonneg c b
    cases a <;> simp at h2 <;> grind
  subst hc
  exact ⟨_, by unfold Format.sub; rw [h, k]; show (Datum.sum _ (.number (!t) 0 q)).map f.write = _; rw [h1]; rfl, write_zero f _ _⟩

/-- what is read is written, and read, as it is -/
theorem read_back (f : Format) (hbi : f.binade ≤ f.infRung) {b : Nat} {s : Bool} {m : Nat} {p : Int} (h : f.read b = .number s m p) : f.read (f.write (.number s m p)) = .number s m p := by
  have hb := bin_pos f
  have hbb : f.binade = 2 ^ f.fractionBits := rfl
  by_cases hm : m = 0
  · subst hm
    have hp : p = f.leastPlace := by
      unfold Format.read at h
      simp only at h
      split at h
      · injection h with a b c; exact c.symm
      · split at h
        · injection h with a b c; omega
        · split at h <;> cases h
    subst hp
    show f.read (f.nearest s 0 f.leastPlace) = _
    have : f.nearest s 0 f.leastPlace = f.word s 0 := by unfold Format.nearest; simp
    rw [this, zero_read]
  · -- the rung
    obtain ⟨r, hr, hrd⟩ : ∃ r, r < f.infRung ∧ (if r < f.binade then Datum.number s r f.leastPlace else .number s (f.binade + r % f.binade) (f.leastPlace + (r / f.binade - 1 : Nat))) = .number s m p := by
      unfold Format.read at h
      simp only at h
      by_cases h1 : b % f.signWeight < f.binade
      · rw [if_pos h1] at h
        injection h with a1 a2 a3
        refine ⟨b % f.signWeight, ?_, by rw [if_pos h1, a2, a3]⟩
        omega
      · rw [if_neg h1] at h
        by_cases h2 : b % f.signWeight < f.infRung
        · rw [if_pos h2] at h
          injection h with a1 a2 a3
          exact ⟨b % f.signWeight, h2, by rw [if_neg h1, a2, a3]⟩
        · rw [if_neg h2] at h
          split at h <;> cases h
    have hw : f.write (.number s m p) = f.word s r := by
      show f.nearest s m p = _
      rw [nearest_eq f s m p hm]
      by_cases h1 : r < f.binade
      · rw [if_pos h1] at hrd
        injection hrd with a1 a2 a3
        subst a2; subst a3
        have hl : lastOf f r f.leastPlace = f.leastPlace := by
          have : r.log2 < f.fractionBits := (Nat.log2_lt hm).2 (by rw [← hbb]; exact h1)
          unfold lastOf; omega
        have hk : keptOf f s r f.leastPlace = r := by
          unfold keptOf; rw [hl]; simp [Toward.cut, Nat.mod_one]
        unfold rungOf
        rw [hl, hk, Int.sub_self, Int.toNat_zero, Nat.zero_mul, Nat.zero_add, Nat.min_eq_left (Nat.le_of_lt hr)]
      · rw [if_neg h1] at hrd
        injection hrd with a1 a2 a3
        have hlt := Nat.mod_lt r hb
        have hlog : m.log2 = f.fractionBits := by
          have h3 : m < 2 ^ (f.fractionBits + 1) := by rw [Nat.pow_succ, ← hbb]; omega
          have h4 : 2 ^ f.fractionBits ≤ m := by rw [← hbb]; omega
          have h5 := (Nat.log2_lt hm).2 h3
          have h6 := (Nat.le_log2 hm).2 h4
          omega
        have hl : lastOf f m p = p := by unfold lastOf; omega
        have hk : keptOf f s m p = m := by
          unfold keptOf; rw [hl]; simp [Toward.cut, Nat.mod_one]
        have hdiv := Nat.div_add_mod r f.binade
        have hq : 1 ≤ r / f.binade := Nat.div_pos (by omega) hb
        unfold rungOf
        rw [hl, hk]
        have e1 : (p - f.leastPlace).toNat = r / f.binade - 1 := by omega
        rw [e1]
        have e2 : (r / f.binade - 1) * f.binade + m = r := by
          rw [Nat.sub_mul, Nat.one_mul, ← a2]
          have e3 : r / f.binade * f.binade = f.binade * (r / f.binade) := Nat.mul_comm _ _
          have e4 : f.binade ≤ f.binade * (r / f.binade) := Nat.le_mul_of_pos_right _ hq
          omega
        rw [e2, Nat.min_eq_left (Nat.le_of_lt hr)]
    rw [hw, read_word f s hr]
    exact hrd
end Flo
end Go.Proofs.YtiakcibeobbonaaGreat

/- Plain facts: a number of single precision with its sign turned.
   Conditions: those that each statement names. No program stands in it. -/
namespace Go.Proofs.YtiakcibeobbonaaGreat
set_option linter.unusedSimpArgs false
set_option linter.unusedVariables false
open Go

abbrev ng (b : Nat) : Nat := Op.negFloat .f32 b
theorem ng_eq (b : Nat) : ng b = b ^^^ 2 ^ 31 := rfl
theorem ng_ng (b : Nat) : ng (ng b) = b := by rw [ng_eq, ng_eq, Nat.xor_assoc, Nat.xor_self, Nat.xor_zero]
theorem ng_mod (b : Nat) : ng b % 2 ^ 31 = b % 2 ^ 31 := by
  rw [ng_eq, Nat.xor_mod_two_pow]
  simp
theorem ng_bit (b : Nat) : (ng b / 2 ^ 31 % 2 == 1) = !(b / 2 ^ 31 % 2 == 1) := by
  have h1 := Nat.testBit_xor b (2 ^ 31) 31
  have h2 : (2 ^ 31 : Nat).testBit 31 = true := by decide
  rw [h2] at h1
  rw [Nat.testBit_eq_decide_div_mod_eq, Nat.testBit_eq_decide_div_mod_eq] at h1
  rw [ng_eq]
  have e : ∀ z : Nat, (z == 1) = decide (z = 1) := fun z => by by_cases hz : z = 1 <;> simp [hz]
  rw [e, e, h1]
  cases decide (b / 2 ^ 31 % 2 = 1) <;> rfl
theorem ng_read (b : Nat) {s : Bool} {m : Nat} {p : Int} (h : Ieee.single.read b = .number s m p) : Ieee.single.read (ng b) = .number (!s) m p := by
  have hsw : Ieee.single.signWeight = 2 ^ 31 := rfl
  unfold Ieee.Format.read at h ⊢
  rw [hsw] at h ⊢
  simp only [ng_mod, ng_bit] at h ⊢
  split at h
  · rename_i g; cases h; rw [if_pos g]
  · rename_i g
    split at h
    · rename_i g2; cases h; rw [if_neg g, if_pos g2]
    · split at h <;> cases h
theorem ng_val {b : Nat} (h : Sm b) : Sm (ng b) ∧ S (ng b) = - S b := by
  obtain ⟨s, m, p, h⟩ := h
  refine ⟨⟨_, _, _, ng_read b h⟩, ?_⟩
  rw [show S (ng b) = Flo.val (!s) m p from Flo.V_eq (ng_read b h), show S b = Flo.val s m p from Flo.V_eq h]
  unfold Flo.val
  cases s <;> simp <;> grind
end Go.Proofs.YtiakcibeobbonaaGreat

/- Plain facts on the energy and the peak of finite samples: the peak is at least each sample's absolute value, and one's own; the energy is at least each square.
   Conditions: those that each statement names. No program stands in it. -/
namespace Go.Proofs.YtiakcibeobbonaaGreat
set_option linter.unusedSimpArgs false
set_option linter.unusedVariables false
open Go

theorem sm_nn {b : Nat} (h : Sm b) : nan32 b = false := by
  obtain ⟨s, m, p, h⟩ := h
  unfold nan32
  rw [show FloatKind.f32.decode b = _ from h]; rfl

namespace Flo
open Ieee
theorem add_ge (x y : Nat) (hx : Nm x) (hy : Nm y) (x0 : 0 ≤ W x) (y0 : 0 ≤ W y) (hB : W x + W y < pw 1023) : ∃ r, floatBits .add .f64 x y = some r ∧ Nm r ∧ W x ≤ W r := by
  obtain ⟨s, m, i, hx⟩ := hx
  obtain ⟨t, n, j, hy⟩ := hy
  have ex : W x = val s m i := V_eq hx
  have ey : W y = val t n j := V_eq hy
  rw [ex] at x0 hB ⊢
  rw [ey] at y0 hB
  obtain ⟨q, k, b, h3, h4⟩ := sum_val s t m n i j
  have he : floatBits .add .f64 x y = some (Ieee.double.write (.number q k b)) := by
    show Ieee.double.add x y = _
    unfold Format.add
    rw [hx, hy, h3]; rfl
  have rx : ra (val s m i) = val s m i := by unfold ra; rw [if_neg (by grind)]
  have rq : ra (val q k b) = val q k b := by unfold ra; rw [if_neg (by rw [h4]; grind)]
  rw [val_ra] at rx rq
  obtain ⟨m', p', n', q', k1, k2, k3⟩ := write_mono Ieee.double (by decide) s q m k i b (by rw [rx, rq, h4]; grind) (by rw [rq, h4, top_double]; exact hB)
  have k0 := read_back Ieee.double (by decide) hx
  rw [k0] at k1
  injection k1 with _ e1 e2
  rw [← e1, ← e2] at k3
  refine ⟨_, he, ⟨_, _, _, k2⟩, ?_⟩
  rw [show W (Ieee.double.write (.number q k b)) = _ from V_eq k2]
  cases q with
  | false =>
    unfold val at rx ⊢
    simp only [Bool.false_eq_true, if_false] at rx ⊢
    grind
  | true =>
    have hk : (k : Rat) * pw b = 0 := by
      have a1 := mag_nonneg k b
      have : val true k b = -((k : Rat) * pw b) := by unfold val; simp; grind
      grind
    have k0' : k = 0 := mag_zero (p := b) (by grind)
    obtain ⟨z1, z2, z3⟩ := write_zero Ieee.double true b
    subst k0'
    rw [k2] at z3
    injection z3 with _ e3 e4
    subst e3
    rw [val_zero] at h4 ⊢
    grind
end Flo

/-- the square of a sample, in double precision -/
def sqB (x : Nat) : Nat := (floatBits .mul .f64 (wid x) (wid x)).getD 0
theorem sq_ok {x : Nat} (hx : Sm x) : floatBits .mul .f64 (wid x) (wid x) = some (sqB x) ∧ Flo.Nm (sqB x) ∧ 0 ≤ Flo.W (sqB x) ∧ Flo.W (sqB x) ≤ 2 * Flo.pw 256 := by
  obtain ⟨n, v⟩ := wid_num hx
  have a := single_abs hx
  have hm := a.mul a
  have e256 : Flo.pw 128 * Flo.pw 128 = Flo.pw 256 := by rw [← Flo.pw_add]; rfl
  rw [e256, ← v] at hm
  have l1 : Flo.pw 256 < Flo.pw 1023 := Flo.pw_lt (by omega)
  have p0 : 1 ≤ Flo.pw 256 := by rw [← Flo.pw_zero]; exact Flo.pw_le (by omega)
  have u1 := Flo.u_le
  have u0 := Flo.u_pos
  have eu : Flo.et ≤ Flo.u := Flo.pw_le (by omega)
  obtain ⟨r1, q1, q2, q3⟩ := Flo.d_mul (wid x) (wid x) n n _ hm l1
  have u2 : Flo.u ≤ 1 / 1048576 := by grind
  have hP := Rat.mul_le_mul_of_nonneg_left u2 (show (0 : Rat) ≤ Flo.pw 256 by grind)
  have hr1 : Flo.Ab (Flo.W r1) (2 * Flo.pw 256) := ((q3.add hm).eq (by grind)).mono (by grind)
  have e : sqB x = r1 := by unfold sqB; rw [q1]; rfl
  obtain ⟨r, g1, g2⟩ := Flo.self_pos Ieee.double (by decide) (wid x) n (by
    show ra (Flo.W (wid x) * Flo.W (wid x)) < _
    rw [Flo.top_double]
    have := ra_le hm
    grind)
  have e2 : r = r1 := by
    have : some r = some r1 := g1.symm.trans q1
    injection this
  rw [e]
  exact ⟨q1, q2, by rw [← e2]; exact g2, hr1.2⟩

theorem en_one (s x : Nat) (k : Nat) (hk : k ≤ 1000) (hs : Flo.Nm s) (h0 : 0 ≤ Flo.W s) (hb : Flo.W s ≤ (k : Rat) * enB) (hx : Sm x) :
    ∃ r, fA .add .f64 (some s) (fA .mul .f64 (wA x) (wA x)) = some r ∧ Flo.Nm r ∧ Flo.W r ≤ ((k + 1 : Nat) : Rat) * enB ∧ Flo.W s ≤ Flo.W r ∧ Flo.W (sqB x) ≤ Flo.W r := by
  obtain ⟨q1, q2, q3, q4⟩ := sq_ok hx
  have hwa : wA x = some (wid x) := by unfold wA; rw [sm_nn hx]; rfl
  obtain ⟨r, a1, a2, a3⟩ := en_step s x k hk hs ⟨by have h1 : (0 : Rat) ≤ (k : Rat) * enB := (by grind); grind, hb⟩ hx
  have e0 : fA .add .f64 (some s) (fA .mul .f64 (wA x) (wA x)) = floatBits .add .f64 s (sqB x) := by
    rw [hwa]
    show fA .add .f64 (some s) (floatBits .mul .f64 (wid x) (wid x)) = _
    rw [q1]; rfl
  have k1 : (k : Rat) ≤ 1000 := by
    have : ((k : Nat) : Rat) ≤ ((1000 : Nat) : Rat) := by exact_mod_cast hk
    exact this
  have l3 : Flo.pw 280 < Flo.pw 1023 := Flo.pw_lt (by omega)
  have l4 : Flo.pw 280 = 1048576 * Flo.pw 260 := by rw [show (280 : Int) = 20 + 260 from rfl, Flo.pw_add, show Flo.pw 20 = 1048576 from Flo.pw_nat 20]
  have l2 : Flo.pw 260 = 16 * Flo.pw 256 := by rw [show (260 : Int) = 4 + 256 from rfl, Flo.pw_add, show Flo.pw 4 = 16 from Flo.pw_nat 4]
  have p0 := Flo.pw_pos 260
  have hkb : (k : Rat) * enB ≤ 1000 * enB := Rat.mul_le_mul_of_nonneg_right k1 (by unfold enB; grind)
  have hB : Flo.W s + Flo.W (sqB x) < Flo.pw 1023 := by unfold enB at *; grind
  obtain ⟨r1, b1, b2, b3⟩ := Flo.add_ge s (sqB x) hs q2 h0 q3 hB
  obtain ⟨r2, c1, c2, c3⟩ := Flo.add_ge (sqB x) s q2 hs q3 h0 (by grind)
  have c1' : floatBits .add .f64 s (sqB x) = some r2 := by
    have := Flo.add_comm' Ieee.double s (sqB x)
    exact (show floatBits .add .f64 s (sqB x) = floatBits .add .f64 (sqB x) s from this).trans c1
  rw [e0, b1] at a1
  rw [b1] at c1'
  injection a1 with a1
  injection c1' with c1'
  subst a1; subst c1'
  exact ⟨r1, by rw [e0, b1], a2, a3.2, b3, c3⟩
theorem en_ge : ∀ (zs : List Nat) (s k : Nat), k + zs.length ≤ 1000 → Flo.Nm s → 0 ≤ Flo.W s → Flo.W s ≤ (k : Rat) * enB → (∀ x ∈ zs, Sm x) →
    ∃ r, zs.foldl (fun s x => fA .add .f64 s (fA .mul .f64 (wA x) (wA x))) (some s) = some r ∧ Flo.Nm r ∧ Flo.W s ≤ Flo.W r ∧ ∀ x ∈ zs, Flo.W (sqB x) ≤ Flo.W r
  | [], s, k, _, hs, _, _, _ => ⟨s, rfl, hs, Rat.le_refl, fun x hx => by simp at hx⟩
  | x :: zs, s, k, hk, hs, h0, hb, hx => by
    simp only [List.length_cons] at hk
    obtain ⟨r, h1, h2, h3, h4, h5⟩ := en_one s x k (by omega) hs h0 hb (hx x (List.mem_cons_self ..))
    rw [List.foldl_cons, h1]
    obtain ⟨r', g1, g2, g3, g4⟩ := en_ge zs r (k + 1) (by omega) h2 (by grind) h3 (fun y hy => hx y (List.mem_cons_of_mem _ hy))
    refine ⟨r', g1, g2, by grind, fun y hy => ?_⟩
    rcases List.mem_cons.1 hy with rfl | hy
    · grind
    · exact g4 y hy
theorem en_all (zs : List Nat) (hl : zs.length ≤ 1000) (hx : ∀ x ∈ zs, Sm x) : 0 ≤ Flo.W (enN zs) ∧ ∀ x ∈ zs, Flo.W (sqB x) ≤ Flo.W (enN zs) := by
  have h0 : fab .f64 0 = some 0 := fab_some (by decide)
  obtain ⟨r, h1, h2, h3, h4⟩ := en_ge zs 0 0 (by omega) zero_double.1 (by rw [zero_double.2]; exact Rat.le_refl) (by rw [zero_double.2]; unfold enB; have := Flo.pw_pos 260; grind) hx
  have e : enN zs = r := by unfold enN enA; rw [h0, h1]; rfl
  rw [zero_double.2] at h3
  rw [e]
  exact ⟨h3, h4⟩

/-! ### the peak -/
theorem pk_fold : ∀ (zs : List Nat) (b : Nat), Flo.Nm b → 0 ≤ Flo.W b → (∀ x ∈ zs, Sm x) →
    Flo.Nm (zs.foldl pk1 b) ∧ Flo.W b ≤ Flo.W (zs.foldl pk1 b) ∧ (∀ x ∈ zs, ra (S x) ≤ Flo.W (zs.foldl pk1 b)) ∧ (Flo.W (zs.foldl pk1 b) = Flo.W b ∨ ∃ x ∈ zs, Flo.W (zs.foldl pk1 b) = ra (S x))
  | [], b, hb, _, _ => ⟨hb, Rat.le_refl, fun x hx => by simp at hx, .inl rfl⟩
  | x :: zs, b, hb, h0, hx => by
    have sx := hx x (List.mem_cons_self ..)
    obtain ⟨n, v⟩ := wid_num sx
    have la := labs_num (wid x) (wid_lt x) n
    rw [v] at la
    have o := Flo.order_num Ieee.double (labs (wid x)) b la.1 hb
    have step : Flo.Nm (pk1 b x) ∧ Flo.W b ≤ Flo.W (pk1 b x) ∧ ra (S x) ≤ Flo.W (pk1 b x) ∧ (Flo.W (pk1 b x) = Flo.W b ∨ Flo.W (pk1 b x) = ra (S x)) := by
      cases hg : (FloatKind.f64.format.order (labs (wid x)) b == some .gt) with
      | true =>
        rw [pk1_up (sm_nn sx) hg]
        have := o.2.2.1 (show FloatKind.f64.format.order (labs (wid x)) b = some .gt by simpa using hg)
        have h2 : Flo.W b < Flo.W (labs (wid x)) := this
        rw [la.2] at h2 ⊢
        exact ⟨la.1, by grind, Rat.le_refl, .inr rfl⟩
      | false =>
        rw [pk1_stay (sm_nn sx) hg]
        have h1 : ¬ Ieee.double.order (labs (wid x)) b = some .gt := show ¬ FloatKind.f64.format.order (labs (wid x)) b = some .gt by simpa using hg
        rw [o.2.2] at h1
        have h2 : ¬ Flo.W b < Flo.W (labs (wid x)) := h1
        rw [la.2] at h2
        exact ⟨hb, Rat.le_refl, by grind, .inl rfl⟩
    obtain ⟨s1, s2, s3, s4⟩ := step
    rw [List.foldl_cons]
    obtain ⟨g1, g2, g3, g4⟩ := pk_fold zs (pk1 b x) s1 (by grind) (fun y hy => hx y (List.mem_cons_of_mem _ hy))
    refine ⟨g1, by grind, fun y hy => ?_, ?_⟩
    · rcases List.mem_cons.1 hy with rfl | hy
      · grind
      · exact g3 y hy
    · rcases g4 with g | ⟨y, hy, g⟩
      · rcases s4 with h | h
        · exact .inl (by rw [g, h])
        · exact .inr ⟨x, List.mem_cons_self .., by rw [g, h]⟩
      · exact .inr ⟨y, List.mem_cons_of_mem _ hy, g⟩
/-- the peak's word, of finite samples -/
theorem peak_ok (zs : List Nat) (p : Nat) (hx : ∀ x ∈ zs, Sm x) (h : Tw p (pkB zs)) : Sm p ∧ 0 ≤ S p ∧ (∀ x ∈ zs, ra (S x) ≤ S p) ∧ (zs = [] ∧ S p = 0 ∨ ∃ x ∈ zs, S p = ra (S x)) := by
  obtain ⟨h1, h2, h3, h4⟩ := pk_fold zs 0 zero_double.1 (by rw [zero_double.2]; exact Rat.le_refl) hx
  have hb : pkB zs = zs.foldl pk1 0 := rfl
  rw [← hb] at h1 h2 h3 h4
  rw [zero_double.2] at h2 h4
  obtain ⟨m, i, n, j, e1, e2, e3⟩ : ∃ m i n j, Ieee.single.read p = .number false m i ∧ Ieee.double.read (pkB zs) = .number false n j ∧ (m : Rat) * Flo.pw i = (n : Rat) * Flo.pw j := by
    rcases h with h | ⟨_, k⟩
    · exact h
    · obtain ⟨s, m, i, g⟩ := h1
      rw [g] at k; cases k
  have ev : S p = Flo.W (pkB zs) := by
    rw [show S p = _ from Flo.V_eq e1, show Flo.W (pkB zs) = _ from Flo.V_eq e2]
    unfold Flo.val; rw [e3]
  rw [ev]
  refine ⟨⟨_, _, _, e1⟩, h2, h3, ?_⟩
  rcases h4 with g | g
  · cases zs with
    | nil => exact .inl ⟨rfl, g⟩
    | cons x zs =>
      right
      refine ⟨x, List.mem_cons_self .., ?_⟩
      have := h3 x (List.mem_cons_self ..)
      have := ra_nonneg (S x)
      grind
  · exact .inr g
/-- the peak's square is no greater than the energy -/
theorem peak_sq (zs : List Nat) (p : Nat) (hl : zs.length ≤ 1000) (hx : ∀ x ∈ zs, Sm x) (h : Tw p (pkB zs)) : ∃ r, floatBits .mul .f64 (wid p) (wid p) = some r ∧ Flo.Nm r ∧ Flo.W r ≤ Flo.W (enN zs) := by
  obtain ⟨sp, p0, p1, p2⟩ := peak_ok zs p hx h
  obtain ⟨q1, q2, q3, q4⟩ := sq_ok sp
  refine ⟨sqB p, q1, q2, ?_⟩
  obtain ⟨e0, e1⟩ := en_all zs hl hx
  have key : ∀ x, Sm x → S p = ra (S x) → Flo.W (sqB p) ≤ Flo.W (sqB x) := by
    intro x hx hv
    obtain ⟨n, v⟩ := wid_num sp
    obtain ⟨n', v'⟩ := wid_num hx
    have l1 : Flo.pw 256 < Flo.pw 1023 := Flo.pw_lt (by omega)
    have a := single_abs hx
    have hm := a.mul a
    have e256 : Flo.pw 128 * Flo.pw 128 = Flo.pw 256 := by rw [← Flo.pw_add]; rfl
    rw [e256] at hm
    obtain ⟨r, r', g1, g2, g3, g4, g5⟩ := Flo.mul_mono Ieee.double (by decide) (wid p) (wid p) (wid x) (wid x) n n n' n' (by
      show ra (Flo.W (wid p) * Flo.W (wid p)) ≤ ra (Flo.W (wid x) * Flo.W (wid x))
      rw [v, v', ra_mul, ra_mul, hv]
      have : ra (ra (S x)) = ra (S x) := by have := ra_nonneg (S x); generalize ra (S x) = y at *; unfold ra; rw [if_neg (by grind)]
      rw [this]; exact Rat.le_refl) (by
      show ra (Flo.W (wid x) * Flo.W (wid x)) < _
      rw [v', Flo.top_double]
      have := ra_le hm
      grind)
    obtain ⟨t1, t2, t3, t4⟩ := sq_ok hx
    have i1 : r = sqB p := by
      have : some r = some (sqB p) := g1.symm.trans q1
      injection this
    have i2 : r' = sqB x := by
      have : some r' = some (sqB x) := g2.symm.trans t1
      injection this
    subst i1; subst i2
    have a1 : ra (Flo.W (sqB p)) = Flo.W (sqB p) := by unfold ra; rw [if_neg (by grind)]
    have a2 : ra (Flo.W (sqB x)) = Flo.W (sqB x) := by unfold ra; rw [if_neg (by grind)]
    have g6 : ra (Flo.W (sqB p)) ≤ ra (Flo.W (sqB x)) := g5
    rw [a1, a2] at g6
    exact g6
  rcases p2 with ⟨rfl, hz⟩ | ⟨x, hxm, hv⟩
  · have k := key 0 ⟨false, 0, -149, by decide⟩ (by
      rw [hz, show S 0 = 0 from by rw [show S 0 = _ from Flo.V_eq (show Ieee.single.read 0 = .number false 0 (-149) by decide), Flo.val_zero]]
      unfold ra; simp)
    have z : sqB 0 = 0 := by decide
    rw [z, zero_double.2] at k
    grind
  · have := key x (hx x hxm) hv
    have := e1 x hxm
    grind

/-! ### what the law asks of the peak -/
def hitB (p x : Nat) : Bool := FloatKind.f32.format.order x p == some .eq || FloatKind.f32.format.order (Op.negFloat .f32 x) p == some .eq
def metB (xs : List Nat) (p k : Nat) : Bool := decide (xs.length = 0) || (xs.take k).any (hitB p)
theorem metB_step (xs : List Nat) (p k x : Nat) (h : xs[k]? = some x) : metB xs p (k + 1) = (metB xs p k || hitB p x) := by
  obtain ⟨hk, he⟩ := List.getElem?_eq_some_iff.1 h
  unfold metB
  rw [List.take_succ_eq_append_getElem hk, he, List.any_append]
  simp [Bool.or_assoc]

theorem gt32_no {x p : Nat} (hx : Sm x) (hp : Sm p) (h : S x ≤ S p) : (FloatKind.f32.format.order x p == some .gt) = false := by
  have o := Flo.order_num Ieee.single x p hx hp
  cases hg : (FloatKind.f32.format.order x p == some .gt) with
  | false => rfl
  | true =>
    exfalso
    have := o.2.2.1 (show FloatKind.f32.format.order x p = some .gt by simpa using hg)
    have h2 : S p < S x := this
    grind
theorem eq32_yes {x p : Nat} (hx : Sm x) (hp : Sm p) (h : S x = S p) : (FloatKind.f32.format.order x p == some .eq) = true := by
  have o := Flo.order_num Ieee.single x p hx hp
  have := o.2.1.2 h
  simpa using (show FloatKind.f32.format.order x p = some .eq from this)
/-- what the law's loop finds -/
theorem peak_law (xs : List Nat) (p : Nat) (hx : ∀ x ∈ xs, Sm x) (h : Tw p (pkB xs)) :
    (∀ x ∈ xs, (FloatKind.f32.format.order x p == some .gt) = false ∧ (FloatKind.f32.format.order (Op.negFloat .f32 x) p == some .gt) = false) ∧ metB xs p xs.length = true ∧ (xs.length = 0 → (FloatKind.f32.format.order p 0 == some .eq) = true) := by
  obtain ⟨sp, p0, p1, p2⟩ := peak_ok xs p hx h
  have z0 : Sm 0 ∧ S 0 = 0 := ⟨⟨false, 0, -149, by decide⟩, by rw [show S 0 = _ from Flo.V_eq (show Ieee.single.read 0 = .number false 0 (-149) by decide), Flo.val_zero]⟩
  refine ⟨fun x hxm => ?_, ?_, fun h0 => ?_⟩
  · obtain ⟨n1, n2⟩ := ng_val (hx x hxm)
    have r := ra_ab (S x)
    have := p1 x hxm
    unfold Flo.Ab at r
    exact ⟨gt32_no (hx x hxm) sp (by grind), gt32_no n1 sp (by rw [n2]; grind)⟩
  · rcases p2 with ⟨rfl, -⟩ | ⟨x, hxm, hv⟩
    · rfl
    · unfold metB
      rw [List.take_length, Bool.or_eq_true, List.any_eq_true]
      refine .inr ⟨x, hxm, ?_⟩
      unfold hitB
      rw [Bool.or_eq_true]
      obtain ⟨n1, n2⟩ := ng_val (hx x hxm)
      rcases ra_or (S x) with g | g
      · exact .inl (eq32_yes (hx x hxm) sp (by rw [hv]; exact g))
      · exact .inr (eq32_yes n1 sp (by rw [n2, hv, g]; grind))
  · have e0 : xs = [] := List.eq_nil_of_length_eq_zero h0
    subst e0
    rcases p2 with ⟨-, hz⟩ | ⟨x, hxm, -⟩
    · exact eq32_yes sp z0.1 (by rw [hz, z0.2])
    · simp at hxm
/-- nine more -/
theorem en_more (xs : List Nat) (hl : xs.length ≤ 900) (hx : ∀ x ∈ xs, Sm x) : floatBits .add .f64 (enN xs) 4621256167635550208 = some (enN (xs ++ [1077936128])) ∧ (FloatKind.f64.format.order (enN (xs ++ [1077936128])) (enN (xs ++ [1077936128])) == some .eq) = true := by
  have h3 : Sm 1077936128 := ⟨false, 12582912, -22, by decide⟩
  have hx3 : ∀ x ∈ xs ++ [1077936128], Sm x := fun x h => by
    rcases List.mem_append.1 h with h | h
    · exact hx x h
    · simp at h; subst h; exact h3
  obtain ⟨a1, a2⟩ := en_num xs (by omega) hx
  obtain ⟨b1, b2⟩ := en_num (xs ++ [1077936128]) (by simp; omega) hx3
  refine ⟨?_, ?_⟩
  · have e : enA (xs ++ [1077936128]) = fA .add .f64 (enA xs) (fA .mul .f64 (wA 1077936128) (wA 1077936128)) := by
      unfold enA
      rw [List.foldl_append]; rfl
    rw [a1, b1] at e
    have e9 : fA .mul .f64 (wA 1077936128) (wA 1077936128) = some 4621256167635550208 := by decide
    rw [e9] at e
    exact e.symm
  · rw [order_self]
    obtain ⟨s, m, p, h⟩ := b2
    rw [show FloatKind.f64.decode _ = _ from h]; rfl

end Go.Proofs.YtiakcibeobbonaaGreat

/- Events and bodies that are drawn are valid: isEvent, areBodies, areEvents.
   Conditions: those that each statement names. -/
namespace Go.Proofs.YtiakcibeobbonaaGreat
set_option linter.unusedSimpArgs false
set_option linter.unusedVariables false
open Go Go.RowKit

theorem wid_sign0 : decide (2 ^ 63 ≤ wid 0) = false := by rw [wid_zero]; decide
theorem feq_zero : feq 0 0 = true := by decide
theorem HasC.drew1 {w : World} {b : Nat} {cs : List Value} (h : HasC w b cs) : HasC w.drew b cs := h.draw 1

set_option maxHeartbeats 1600000 in
theorem isEvent_ok (L nb : Nat) (hL : L ≤ 2000) (e : Ev6) (h : e.ok L nb) (w : World) :
    Calls Tryz.prog 79 #[.agg #[.int .i64 e.t, .int .i64 e.k, .int .i64 e.b, .int .i64 e.s, .int .i64 e.m, .float .f32 e.f], .int .i64 (nb : Int)] w (TestP true w) := by
  obtain ⟨t, k, b, s, m, f⟩ := e
  obtain ⟨t0, t1, b0, b1, hk⟩ := h
  simp only at t0 t1 b0 b1 hk ⊢
  obtain ⟨t, rfl⟩ : ∃ n : Nat, t = n := ⟨t.toNat, by omega⟩
  have q1 := eql_event
  have X := Lib.hid (HasC.new w 68 (.int .i64 t) (.int .i64 k) (.int .i64 b) (.int .i64 s) (.int .i64 m) (.float .f32 f))
  have N := Lib.hid ((Nw.refl w).alloc (.cells #[.int .i64 (t : Int), .int .i64 k, .int .i64 b, .int .i64 s, .int .i64 m, .float .f32 f] 68 (0, 0)))
  have b0' : ¬ b < 0 := by omega
  have b1' : ¬ b ≥ (nb : Int) := by omega
  rcases hk with ⟨rfl, s0, s1, m0, m1, hf, -⟩ | ⟨rfl, rfl, rfl, hf⟩ | ⟨rfl, rfl, rfl, rfl⟩
  · obtain ⟨s, rfl⟩ : ∃ n : Nat, s = n := ⟨s.toNat, by omega⟩
    obtain ⟨m, rfl⟩ : ∃ n : Nat, m = n := ⟨m.toNat, by omega⟩
    have a1 := fcv_wide (sm_nn hf)
    have a2 := fcd_wide (sm_nn hf)
    have a3 : fin .f64 (wid f) = true := fin_wid hf
    clear q1
    go_enter Tryz.func79, Tryz.ntmps79
    go_wp2_with (go_at_call 50; refine (isSteps_ok t (by omega) _).mono ?_; rintro e w1 ⟨rfl, rfl⟩)
    refine (strikeShape_ok s m (by omega) (by omega) (by omega) _).mono ?_
    rintro e w2 ⟨g, rfl, own2, n2⟩
    have N2 := Lib.hid (N.out.trans n2)
    obtain ⟨⟨e0, g0⟩, ⟨e1, g1⟩, ⟨e2, g2⟩, ⟨e3, g3⟩, ⟨e4, g4⟩, ⟨e5, g5⟩⟩ := six_at (X.out.nw n2)
    clear own2 n2
    go_wp2_with (go_at_call 75; refine (isFinitePart_any _ _ (wid_lt f)).mono ?_; rintro e w3 ⟨rfl, rfl⟩; rw [a3])
    go_ret
    exact ⟨rfl, N2.out⟩
  · have hf0 := feq_self hf.1
    have hg : (ge0 f && le1 f) = true := by rw [Bool.and_eq_true]; exact ⟨hf.2.1, hf.2.2⟩
    have hq : Ev6.eqB ⟨(t : Int), 2, b, 0, 0, f⟩ ⟨(t : Int), 2, b, 0, 0, f⟩ = true := Ev6.eqB_self hf.1
    go_enter Tryz.func79, Tryz.ntmps79
    go_wp2_with (first
      | (go_at_call 50; refine (isSteps_ok t (by omega) _).mono ?_; rintro e w1 ⟨rfl, rfl⟩)
      | (go_at_call 76; refine (isFactor_any _ _).mono ?_; rintro e w1 ⟨rfl, rfl⟩; rw [hg]))
    all_goals
      go_ret
      exact ⟨rfl, N.out⟩
  · have hq : Ev6.eqB ⟨(t : Int), 3, b, 0, 0, 0⟩ ⟨(t : Int), 3, b, 0, 0, 0⟩ = true := by
      unfold Ev6.eqB
      simp [feq_zero]
    have a1 : ∀ w, fcv w .f32 0 .f64 = 0 := fun w => by rw [fcv_wide (by decide)]; exact wid_zero
    have a2 : fcd .f32 0 .f64 = 0 := fcd_wide (by decide)
    go_enter Tryz.func79, Tryz.ntmps79
    go_wp2_with (first
      | (go_at_call 50; refine (isSteps_ok t (by omega) _).mono ?_; rintro e w1 ⟨rfl, rfl⟩)
      | (go_at_call 77; refine (signbit_any 0 (by decide) _).mono ?_; rintro e w1 ⟨rfl, rfl⟩; rw [show decide (2 ^ 63 ≤ 0) = false from rfl]))
    all_goals
      go_ret
      exact ⟨rfl, N.out⟩

def AreI (n : Nat) (w : World) (i : Value) (wr : World) : Prop := ∃ k : Nat, k ≤ n ∧ i = .int .i64 (k : Int) ∧ Nw w wr

theorem areBodies_ok (bs : List (List M4)) (base n : Nat) (sv : Value) (w : World) (hn : n = bs.length) (hn3 : n ≤ 8) (h : BodsR w base sv bs) (hok : ∀ ms ∈ bs, ms.length ≤ 4 ∧ ∀ m ∈ ms, m.ok) :
    Calls Tryz.prog 53 #[sv] w (TestP true w) := by
  obtain ⟨sa, sc, rfl⟩ := h.shape
  rw [← hn]
  rw [← hn] at h
  have Hb := Lib.hid h
  have Hok := Lib.hid hok
  have Hn := Lib.hid hn
  clear h hok hn
  go_enter Tryz.func53, Tryz.ntmps53
  go_wp2_with fail
  go_loopw [10] (fun i wr => AreI n w i wr) (fun i _ => n - (intOf i).toNat)
  case atStart => exact ⟨0, by omega, rfl, Nw.refl w⟩
  case round =>
    obtain ⟨k, hk, rfl, hnw⟩ := hrel
    have Hnw := Lib.hid hnw
    clear hnw
    by_cases hlt : k < n
    · obtain ⟨ms, hmk⟩ : ∃ ms, bs[k]? = some ms := ⟨bs[k]'(by rw [← Hn.out]; exact hlt), List.getElem?_eq_getElem _⟩
      obtain ⟨g, cap, a, c, hv, hcap, hmax, hgs, e1, own⟩ := (Hb.out.nw Hnw.out).at Hn.out hmk
      cases hv
      have Hmo := Lib.hid (Hok.out ms (List.mem_of_getElem? hmk))
      have Own := Lib.hid (own.alloc (.cells #[.slice a ms.length c] 65 (0, 0)))
      unfold maxLen at hmax
      clear own hmk
      have N4 := Lib.hid (Hnw.out.alloc (.cells #[.slice a ms.length c] 65 (0, 0)))
      go_wp2_with fail
      refine (implIsBody_ok ms Hmo.out.2 ms.length base _ rfl (by have := Hmo.out.1; omega) _ Own.out).mono ?_
      rintro e w5 ⟨rfl, n5⟩
      have N5 := Lib.hid (N4.out.trans n5)
      clear n5 e1
      go_wp2_with fail
      go_roundw
      case rel => exact ⟨k + 1, by omega, by rw [show ((k + 1 : Nat) : Int) = (k : Int) + 1 from by omega], N5.out⟩
      case measure => simp only [intOf]; omega
    · go_wp2_with fail
      go_ret
      exact ⟨rfl, Hnw.out⟩

theorem areEvents_ok (es : List Ev6) (L nb base n : Nat) (hL : L ≤ 2000) (v : Value) (w : World) (hn : es.length = n) (hn3 : n ≤ 60) (h : w.ownsRow base 68 6 v n (cellsE es)) (hok : ∀ e ∈ es, e.ok L nb) :
    Calls Tryz.prog 54 #[v, .int .i64 (nb : Int)] w (TestP true w) := by
  obtain ⟨sa, sc, rfl⟩ := own_shape' h
  have Hb := Lib.hid h
  have Hok := Lib.hid hok
  have Hn := Lib.hid hn
  clear h hok hn
  go_enter Tryz.func54, Tryz.ntmps54
  go_wp2_with fail
  go_loopw [12] (fun i wr => AreI n w i wr) (fun i _ => n - (intOf i).toNat)
  case atStart => exact ⟨0, by omega, rfl, Nw.refl w⟩
  case round =>
    obtain ⟨k, hk, rfl, hnw⟩ := hrel
    have Hnw := Lib.hid hnw
    clear hnw
    by_cases hlt : k < n
    · obtain ⟨e, hek⟩ : ∃ e, es[k]? = some e := ⟨es[k]'(by rw [Hn.out]; exact hlt), List.getElem?_eq_getElem _⟩
      obtain ⟨g, cap, hv, hcap, hmax, hgs, c0, c1, c2, c3, c4, c5⟩ := own_event (own_nw Hb.out Hnw.out) Hn.out hek
      cases hv
      have Hmo := Lib.hid (Hok.out e (List.mem_of_getElem? hek))
      unfold maxLen at hmax
      clear hek
      have N4 := Lib.hid (Hnw.out.alloc (.cells #[.int .i64 e.t, .int .i64 e.k, .int .i64 e.b, .int .i64 e.s, .int .i64 e.m, .float .f32 e.f] 68 (0, 0)))
      go_wp2_with fail
      refine (isEvent_ok L nb hL e Hmo.out _).mono ?_
      rintro e5 w5 ⟨rfl, n5⟩
      have N5 := Lib.hid (N4.out.trans n5)
      clear n5 c0 c1 c2 c3 c4 c5
      go_wp2_with fail
      go_roundw
      case rel => exact ⟨k + 1, by omega, by rw [show ((k + 1 : Nat) : Int) = (k : Int) + 1 from by omega], N5.out⟩
      case measure => simp only [intOf]; omega
    · go_wp2_with fail
      go_ret
      exact ⟨rfl, Hnw.out⟩

end Go.Proofs.YtiakcibeobbonaaGreat

/- Plain: insertion sort of events by their time keeps those of one time in their order.
   Conditions: those that each statement names. -/
namespace Go.Proofs.YtiakcibeobbonaaGreat
set_option linter.unusedSimpArgs false
set_option linter.unusedVariables false
open Go Go.RowKit Go.Sort

instance : Inhabited Ev6 := ⟨⟨0, 0, 0, 0, 0, 0⟩⟩
/-- the order of two events -/
def cfE (x y : Ev6) : Int := Lib.compareInt x.t y.t
theorem ltE (x y : Ev6) : ltOf cfE x y = decide (x.t < y.t) := by
  unfold ltOf cfE Lib.compareInt
  by_cases h1 : x.t < y.t
  · simp [h1]
  · by_cases h2 : y.t < x.t <;> simp [h1, h2]
theorem swoE : SWO (ltOf cfE) where
  irrefl x := by rw [ltE]; simp
  trans x y z h1 h2 := by rw [ltE] at *; simp at *; omega
  ntrans x y z h1 h2 := by rw [ltE] at *; simp at *; omega

theorem filter_swap (P : Ev6 → Bool) : ∀ (L : List Ev6) (j : Nat) (p q : Ev6), L[j]? = some p → L[j + 1]? = some q → ¬ (P p = true ∧ P q = true) → ((L.set (j + 1) p).set j q).filter P = L.filter P
  | [], _, _, _, h, _, _ => by simp at h
  | [_], 0, _, _, _, h, _ => by simp at h
  | a :: b :: L, 0, p, q, h1, h2, h3 => by
    simp at h1 h2
    subst h1; subst h2
    simp only [List.set_cons_succ, List.set_cons_zero]
    cases hp : P a <;> cases hq : P b <;> simp [hp, hq] at h3 ⊢
  | a :: L, j + 1, p, q, h1, h2, h3 => by
    have ih := filter_swap P L j p q (by simpa using h1) (by simpa using h2) h3
    simp only [List.set_cons_succ, List.filter_cons]
    rw [ih]

/-- what sorting leaves as it was: how many there are, and those of one time in their order -/
def Kept (d d' : Array Ev6) : Prop := d'.size = d.size ∧ ∀ x : Int, d'.toList.filter (fun e => e.t == x) = d.toList.filter (fun e => e.t == x)
theorem Kept.refl (d : Array Ev6) : Kept d d := ⟨rfl, fun _ => rfl⟩
theorem Kept.trans {a b c : Array Ev6} (h : Kept a b) (k : Kept b c) : Kept a c := ⟨k.1.trans h.1, fun x => (k.2 x).trans (h.2 x)⟩
theorem Kept.swp (d : Array Ev6) (j : Nat) (hj : j + 1 < d.size) (h : ltOf cfE d[j + 1]! d[j]! = true) : Kept d (Sort.swp d (j + 1) j) := by
  refine ⟨by simp [Sort.swp], fun x => ?_⟩
  rw [ltE] at h
  have h' : d[j + 1]!.t < d[j]!.t := by simpa using h
  unfold Sort.swp
  simp only [Array.toList_setIfInBounds]
  have e1 : d.toList[j]? = some d[j]! := by
    rw [Array.getElem?_toList, getElem!_pos d j (by omega)]; simp
  have e2 : d.toList[j + 1]? = some d[j + 1]! := by
    rw [Array.getElem?_toList, getElem!_pos d (j + 1) (by omega)]; simp
  refine filter_swap _ _ j d[j]! d[j + 1]! e1 e2 ?_
  simp
  intro h1 h2
  omega
theorem kept_inner (a : Nat) : ∀ (j : Nat) (d : Array Ev6), j < d.size → Kept d (insInner (ltOf cfE) a j d)
  | 0, d, _ => Kept.refl d
  | j + 1, d, hj => by
    unfold insInner
    split
    · rename_i h
      have h2 : ltOf cfE d[j + 1]! d[j]! = true := by
        simp only [Bool.and_eq_true] at h; exact h.2
      have k := Kept.swp d j hj h2
      exact k.trans (kept_inner a j _ (by rw [k.1]; omega))
    · exact Kept.refl d
theorem kept_outer (a b : Nat) : ∀ (n i : Nat) (d : Array Ev6), b - i ≤ n → b ≤ d.size → Kept d (insOuter (ltOf cfE) a b i d)
  | 0, i, d, hn, hb => by
    unfold insOuter
    rw [if_neg (by omega)]
    exact Kept.refl d
  | n + 1, i, d, hn, hb => by
    unfold insOuter
    by_cases h : i < b
    · rw [if_pos h]
      have k := kept_inner a i d (by omega)
      exact k.trans (kept_outer a b n (i + 1) _ (by omega) (by rw [k.1]; exact hb))
    · rw [if_neg h]
      exact Kept.refl d
/-- the events in order -/
def ordE (es : List Ev6) : List Ev6 := (Sort.insertionSort (ltOf cfE) es.toArray 0 es.length).toList
theorem ordE_kept (es : List Ev6) : Kept es.toArray (Sort.insertionSort (ltOf cfE) es.toArray 0 es.length) := kept_outer 0 es.length es.length 1 _ (by omega) (by simp)
theorem ordE_len (es : List Ev6) : (ordE es).length = es.length := by
  have := (ordE_kept es).1
  simpa [ordE] using this
theorem ordE_filter (es : List Ev6) (x : Int) : (ordE es).filter (fun e => e.t == x) = es.filter (fun e => e.t == x) := (ordE_kept es).2 x
theorem ordE_sorted (es : List Ev6) (i : Nat) (p q : Ev6) (h1 : (ordE es)[i]? = some p) (h2 : (ordE es)[i + 1]? = some q) : p.t ≤ q.t := by
  have hs := (insertionSort_holds (lt := ltOf cfE) swoE es.toArray 0 es.length (Nat.zero_le _) (by simp)).2
  have hl := (List.getElem?_eq_some_iff.1 h2).1
  rw [ordE_len] at hl
  have := hs i (i + 1) (Nat.zero_le _) (by omega) hl
  have hz := (ordE_kept es).1
  simp at hz
  rw [ltE] at this
  have e1 : (Sort.insertionSort (ltOf cfE) es.toArray 0 es.length)[i]! = p := by
    unfold ordE at h1
    rw [Array.getElem?_toList] at h1
    rw [getElem!_pos _ i (by omega)]
    rw [Array.getElem?_eq_getElem (by omega)] at h1
    simpa using h1
  have e2 : (Sort.insertionSort (ltOf cfE) es.toArray 0 es.length)[i + 1]! = q := by
    unfold ordE at h2
    rw [Array.getElem?_toList] at h2
    rw [getElem!_pos _ (i + 1) (by omega)]
    rw [Array.getElem?_eq_getElem (by omega)] at h2
    simpa using h2
  rw [e1, e2] at this
  simp at this
  exact this

/-! ### finding the events of one time, one after the other -/
/-- how many of the first k are of time x -/
def cntE (l : List Ev6) (x : Int) (k : Nat) : Nat := ((l.take k).filter (fun e => e.t == x)).length
theorem cntE_succ (l : List Ev6) (x : Int) (k : Nat) (e : Ev6) (h : l[k]? = some e) : cntE l x (k + 1) = cntE l x k + (if e.t = x then 1 else 0) := by
  obtain ⟨hk, he⟩ := List.getElem?_eq_some_iff.1 h
  unfold cntE
  rw [List.take_succ_eq_append_getElem hk, he, List.filter_append, List.length_append]
  by_cases hx : e.t = x <;> simp [hx]
/-- the one at k, if it is of time x, is that of the filtered ones at the count -/
theorem cntE_at (l : List Ev6) (x : Int) (k : Nat) (e : Ev6) (h : l[k]? = some e) (hx : e.t = x) : (l.filter (fun e => e.t == x))[cntE l x k]? = some e := by
  obtain ⟨hk, he⟩ := List.getElem?_eq_some_iff.1 h
  have hl : l = l.take k ++ e :: l.drop (k + 1) := by
    conv => lhs; rw [← List.take_append_drop k l]
    rw [List.drop_eq_getElem_cons hk, he]
  have hf : l.filter (fun e => e.t == x) = (l.take k).filter (fun e => e.t == x) ++ e :: (l.drop (k + 1)).filter (fun e => e.t == x) := by
    conv => lhs; rw [hl]
    rw [List.filter_append, List.filter_cons]
    simp [hx]
  rw [hf]
  unfold cntE
  rw [List.getElem?_append_right (Nat.le_refl _), Nat.sub_self]
  rfl
theorem cntE_all (l : List Ev6) (x : Int) : cntE l x l.length = (l.filter (fun e => e.t == x)).length := by
  unfold cntE; rw [List.take_length]

end Go.Proofs.YtiakcibeobbonaaGreat

/- The walk of slices.SortStableFunc over events by their time, at fewer than 20 of them.
   Conditions: those that each statement names. -/
namespace Go.Proofs.YtiakcibeobbonaaGreat
set_option linter.unusedSimpArgs false
set_option linter.unusedVariables false
open Go Go.RowKit Go.Sort

/-! ### the shelf's contract, laid at this program -/
def insRen : Go.Shelf.Ren := ⟨fun | 20 => 116 | n => n, fun | 0 => 0 | 3 => 3 | 4 => 4 | 22 => 25 | 24 => 68 | 25 => 128 | n => n, fun n => n⟩
theorem insLays : SlLaysF0.n20 Tryz.prog insRen :=
  { mixed := by kernel_rfl
    f20 := ⟨Tryz.f116.name, by decide, Tryz.func116.trans (congrArg some (by kernel_rfl))⟩
    t0 := Tryz.underlying0
    a0 := Tryz.isAgg0
    z0 := Tryz.sizeOf0
    v0 := Tryz.zeroValue0
    t3 := Tryz.underlying3
    a3 := Tryz.isAgg3
    z3 := Tryz.sizeOf3
    v3 := Tryz.zeroValue3
    t4 := Tryz.underlying4
    a4 := Tryz.isAgg4
    z4 := Tryz.sizeOf4
    v4 := Tryz.zeroValue4
    t22 := Tryz.underlying25
    a22 := Tryz.isAgg25
    z22 := Tryz.sizeOf25
    v22 := Tryz.zeroValue25
    t25 := Tryz.underlying128
    a25 := Tryz.isAgg128
    z25 := Tryz.sizeOf128
    v25 := Tryz.zeroValue128 }

/-! ### rows, flat -/
theorem flat_at (es : List Ev6) (j : Nat) (hj : j < es.length * 6) : (cellsE es)[j]? = some ((flatK Ev6.cells 6 es.toArray)[j]!) := by
  obtain ⟨e, he⟩ : ∃ e, es[j / 6]? = some e := ⟨es[j / 6]'(by omega), List.getElem?_eq_getElem _⟩
  have h := cellsE_at es (j / 6) (j % 6) e he (by omega)
  rw [show 6 * (j / 6) + j % 6 = j from by omega] at h
  rw [h, get_flatK _ _ _ _ (by simpa using hj)]
  obtain ⟨h1, h2⟩ := List.getElem?_eq_some_iff.1 he
  have h3 : es.toArray[j / 6]! = e := by
    rw [getElem!_pos _ _ (by simpa using h1)]
    simpa using h2
  rw [h3]
  have h4 : j % 6 < e.cells.length := by show j % 6 < 6; omega
  rw [List.getElem?_eq_getElem h4, getElem!_pos e.cells (j % 6) h4]
theorem holds_own {w : World} {base n g cap : Nat} {es : List Ev6} (h : w.ownsRow base 68 6 (.slice (some ⟨g, 0, none⟩) n cap) n (cellsE es)) (hn : es.length = n) : HoldsK Ev6.cells 6 w g 0 es.toArray := by
  intro j hj
  rw [size_flatK] at hj
  have hj' : j < es.length * 6 := by simpa using hj
  rw [Nat.zero_add]
  refine ⟨?_, h.frozenAt j⟩
  rw [h.cellAt j (by omega), flat_at es j hj']
  rfl
theorem own_sorted {w : World} {base n g cap m : Nat} {es ds : List Ev6} {os : Array Obj} (h : w.ownsRow base 68 6 (.slice (some ⟨g, 0, none⟩) n cap) n (cellsE es)) (hn : es.length = n) (hd : ds.length = n) :
    (sortWorldK Ev6.cells 6 w g 0 m ds.toArray os).ownsRow base 68 6 (.slice (some ⟨g, 0, none⟩) n cap) n (cellsE ds) ∧ Kp g w (sortWorldK Ev6.cells 6 w g 0 m ds.toArray os) := by
  have hg := (h.lt g rfl).2
  rcases h.2 with ⟨h1, h2⟩ | ⟨g', cap', cur, hv, hb, hh, hc, hm, hs, ht⟩
  · cases h1
  · cases hv
    have hw : (sortWorldK Ev6.cells 6 w g 0 m ds.toArray os).heap[g]? = some (.cells (putCells id 0 (flatK Ev6.cells 6 ds.toArray) cur) 68 (0, 0)) := by
      unfold sortWorldK
      rw [heap_grow_old _ _ (by rw [size_putRowK]; exact hg)]
      unfold putRowK putRow mapBlock
      show (Array.modify w.heap g _)[g]? = _
      rw [Array.getElem?_modify, if_pos rfl, hh]
      rfl
    refine ⟨⟨by rw [cellsE_len, hd], .inr ⟨g, cap, _, rfl, hb, hw, hc, hm, ?_, ?_⟩⟩, rfl, rfl, rfl, ?_, ?_⟩
    · unfold putCells; simp [hs]
    · apply List.ext_getElem?
      intro j
      by_cases hj : j < n * 6
      · rw [List.getElem?_take_of_lt hj, flat_at ds j (by omega), Array.getElem?_toList]
        unfold putCells
        have hjc : j < cur.size := by
          have := Nat.mul_le_mul_right 6 hc
          omega
        rw [Array.getElem?_mapIdx, Array.getElem?_eq_getElem hjc]
        simp
        intro h6
        omega
      · have hl := cellsE_len ds
        rw [List.getElem?_eq_none (by simp; omega), List.getElem?_eq_none (by omega)]
    · unfold sortWorldK; rw [size_grow, size_putRowK]; exact Nat.le_add_right _ _
    · intro i hi hne
      unfold sortWorldK
      rw [heap_grow_old _ _ (by rw [size_putRowK]; exact hi)]
      unfold putRowK putRow mapBlock
      show (Array.modify w.heap g _)[i]? = _
      rw [Array.getElem?_modify, if_neg (fun e => hne (congrArg some e.symm))]

/-! ### the closure -/
theorem isNaN_int (x : Int) (w : World) : Calls Tryz.prog 107 #[.int .i64 x] w fun e w' => e = .returned (.bool false) ∧ w = w' := by
  go_enter Tryz.func107, Tryz.ntmps107
  go_wp2_with fail
  all_goals (go_ret; exact ⟨by simp, rfl⟩)
theorem compare_int (x y : Int) (w : World) : Calls Tryz.prog 82 #[.int .i64 x, .int .i64 y] w fun e w' => e = .returned (.int .i64 (Lib.compareInt x y)) ∧ w = w' := by
  by_cases h1 : x < y
  · have h : Lib.compareInt x y = -1 := by unfold Lib.compareInt; simp [h1]
    rw [h]
    go_enter Tryz.func82, Tryz.ntmps82
    go_wp2_with (go_at_call 107; refine (isNaN_int _ _).mono ?_; rintro e w1 ⟨rfl, rfl⟩)
    all_goals (go_ret; exact ⟨rfl, rfl⟩)
  · by_cases h2 : y < x
    · have h : Lib.compareInt x y = 1 := by unfold Lib.compareInt; simp [h1, h2]
      rw [h]
      go_enter Tryz.func82, Tryz.ntmps82
      go_wp2_with (go_at_call 107; refine (isNaN_int _ _).mono ?_; rintro e w1 ⟨rfl, rfl⟩)
      all_goals (go_ret; exact ⟨rfl, rfl⟩)
    · have h : Lib.compareInt x y = 0 := by unfold Lib.compareInt; simp [h1, h2]
      rw [h]
      go_enter Tryz.func82, Tryz.ntmps82
      go_wp2_with (go_at_call 107; refine (isNaN_int _ _).mono ?_; rintro e w1 ⟨rfl, rfl⟩)
      all_goals (go_ret; exact ⟨rfl, rfl⟩)
theorem closure_ok (x y : Ev6) (W : World) : Calls Tryz.prog 81 #[.agg x.cells.toArray, .agg y.cells.toArray] W fun e w' => e = .returned (.int .i64 (cfE x y)) ∧ ∃ q os', w' = Sort.grow (W.drewN q) os' := by
  unfold cfE Ev6.cells
  obtain ⟨t, k, b, s, m, f⟩ := x
  obtain ⟨t', k', b', s', m', f'⟩ := y
  simp only
  have hcon := fun W' => compare_int t t' W'
  generalize Lib.compareInt t t' = r at hcon ⊢
  go_enter Tryz.func81, Tryz.ntmps81
  go_wp2_with (go_at_call 82; refine (hcon _).mono ?_; rintro e w' ⟨rfl, rfl⟩)
  go_ret
  exact ⟨rfl, 0, _, by rw [alloc_eq_grow, alloc_eq_grow, grow_grow]; rfl⟩
theorem cmpLaysE (blk off size : Nat) (w : World) : CmpLays Tryz.prog 81 #[] Ev6.cells 6 cfE blk off size w :=
  fun _ _ _ _ x y => closure_ok x y _

/-- the events sorted in place -/
def SortP (base n g cap : Nat) (ds : List Ev6) (w : World) (e : Ending) (w' : World) : Prop :=
  e = .returned (.tuple #[]) ∧ w'.ownsRow base 68 6 (.slice (some ⟨g, 0, none⟩) n cap) n (cellsE ds) ∧ Kp g w w'
theorem insertion_ok (es : List Ev6) (base n g cap : Nat) (hn : es.length = n) (hn2 : n ≤ 100) (w : World) (h : w.ownsRow base 68 6 (.slice (some ⟨g, 0, none⟩) n cap) n (cellsE es)) :
    Calls Tryz.prog 116 #[.slice (some ⟨g, 0, none⟩) n cap, .int .i64 0, .int .i64 (n : Int), .func (.func 81) #[] #[]] w (SortP base n g cap (ordE es) w) := by
  have eg : ∀ args w, (callFunc 81 args).run Tryz.prog w = .ok (.enter 81 args) w := enters_of Tryz.func81 (by kernel_rfl) rfl
  have hsz : es.toArray.size = n := by simpa using hn
  have hcon := AnyQ.insertionSortCmpFunc insLays 6 Tryz.isAgg68 Tryz.sizeOf68 Ev6.cells (fun _ => rfl) (fun x v hv => cellsE_one [x] v (by simpa [cellsE] using hv)) cfE 81 #[] g 0 cap 0 n es.toArray w eg (cmpLaysE g 0 es.toArray.size w) (holds_own h hn) (h.lt g rfl).2 (Nat.zero_le _) (by omega) (by omega)
  rw [hsz] at hcon
  change Calls Tryz.prog 116 _ _ _ at hcon
  refine hcon.mono ?_
  rintro e w' ⟨rfl, m, os, rfl⟩
  have ho : Sort.insertionSort (ltOf cfE) es.toArray 0 n = (ordE es).toArray := by unfold ordE; rw [hn]
  rw [ho]
  have hs := own_sorted (m := m) (os := os) h hn (show (ordE es).length = n by rw [ordE_len, hn])
  exact ⟨rfl, hs.1, hs.2⟩
theorem insertion_nil (w : World) (f : Value) :
    Calls Tryz.prog 116 #[.slice none 0 0, .int .i64 0, .int .i64 0, f] w fun e w' => e = .returned (.tuple #[]) ∧ w = w' := by
  go_enter Tryz.func116, Tryz.ntmps116
  go_wp2_with fail
  go_loopw [8] (fun v wr => v = .int .i64 1 ∧ wr = w) (fun _ _ => 0)
  case atStart => exact ⟨rfl, rfl⟩
  case round =>
    obtain ⟨rfl, rfl⟩ := hrel
    go_wp2_with fail
    go_end0
    exact ⟨rfl, rfl⟩

end Go.Proofs.YtiakcibeobbonaaGreat

/- The walk of impl.OrderEvents over a score that is valid.
   Conditions: those that each statement names. -/
namespace Go.Proofs.YtiakcibeobbonaaGreat
set_option linter.unusedSimpArgs false
set_option linter.unusedVariables false
open Go Go.RowKit Go.Sort

/-- the row v sorted in place -/
def SortV (base n : Nat) (v : Value) (ds : List Ev6) (w : World) (e : Ending) (w' : World) : Prop :=
  e = .returned (.tuple #[]) ∧ w'.ownsRow base 68 6 v n (cellsE ds) ∧ ∀ w0, Nw w0 w → w0.heap.size ≤ base → Nw w0 w'
theorem Nw.kp {g : Nat} {w0 w w' : World} (h : Nw w0 w) (k : Kp g w w') (hg : w0.heap.size ≤ g) : Nw w0 w' :=
  ⟨k.os.trans h.os, k.tape.trans h.tape, k.output.trans h.output, Nat.le_trans h.size k.size, fun i hi hne => (k.block i (Nat.lt_of_lt_of_le hi h.size) (fun e => by cases e; omega)).trans (h.block i hi hne)⟩
theorem ordE_nil : ordE [] = [] := List.eq_nil_of_length_eq_zero (by rw [ordE_len]; rfl)
theorem insertion_any (es : List Ev6) (base n : Nat) (v : Value) (hn : es.length = n) (hn2 : n ≤ 100) (w : World) (h : w.ownsRow base 68 6 v n (cellsE es)) :
    Calls Tryz.prog 116 #[v, .int .i64 0, .int .i64 (n : Int), .func (.func 81) #[] #[]] w (SortV base n v (ordE es) w) := by
  rcases h.2 with ⟨rfl, h0⟩ | ⟨g, cap, cur, rfl, hb, -⟩
  · subst h0
    have he : es = [] := List.eq_nil_of_length_eq_zero hn
    subst he
    refine (insertion_nil w _).mono ?_
    rintro e w' ⟨rfl, rfl⟩
    exact ⟨rfl, by rw [ordE_nil]; exact World.ownsRow_nil _ _ _ _, fun w0 h0 _ => h0⟩
  · refine (insertion_ok es base n g cap hn hn2 w h).mono ?_
    rintro e w' ⟨rfl, ho, hk⟩
    exact ⟨rfl, ho, fun w0 h0 hs => h0.kp hk (Nat.le_trans hs hb)⟩

theorem stable_any (es : List Ev6) (base n : Nat) (v : Value) (hn : es.length = n) (hn2 : n < 20) (w : World) (h : w.ownsRow base 68 6 v n (cellsE es)) :
    Calls Tryz.prog 106 #[v, .int .i64 (n : Int), .func (.func 81) #[] #[]] w (SortV base n v (ordE es) w) := by
  have hc := Lib.hid (insertion_any es base n v hn (by omega) w h)
  clear h
  go_enter Tryz.func106, Tryz.ntmps106
  go_wp2_with fail
  go_loopw [7, 8] (fun a b wr => a = .int .i64 0 ∧ b = .int .i64 20 ∧ wr = w) (fun _ _ _ => 0)
  case atStart => exact ⟨rfl, rfl, rfl⟩
  case round =>
    obtain ⟨rfl, rfl, rfl⟩ := hrel
    go_wp2_with fail
    refine hc.out.mono ?_
    rintro e w1 ⟨rfl, ho, hk⟩
    have Ho := Lib.hid (And.intro ho hk)
    clear ho hk
    go_wp2_with fail
    go_loopw [6] (fun a wr => a = .int .i64 20 ∧ wr = w1) (fun _ _ => 0)
    case atStart => exact ⟨rfl, rfl⟩
    case round =>
      obtain ⟨rfl, rfl⟩ := hrel
      go_wp2_with fail
      go_end0
      exact ⟨rfl, Ho.out.1, Ho.out.2⟩

theorem sortStable_any (es : List Ev6) (base n : Nat) (v : Value) (hn : es.length = n) (hn2 : n < 20) (w : World) (h : w.ownsRow base 68 6 v n (cellsE es)) :
    Calls Tryz.prog 80 #[v, .func (.func 81) #[] #[]] w (SortV base n v (ordE es) w) := by
  have hc := Lib.hid (stable_any es base n v hn hn2 w h)
  obtain ⟨a, c, rfl⟩ := own_shape' h
  clear h
  go_enter Tryz.func80, Tryz.ntmps80
  go_wp2_with fail
  refine hc.out.mono ?_
  rintro e w1 ⟨rfl, ho, hk⟩
  have Ho := Lib.hid (And.intro ho hk)
  clear ho hk
  go_wp2_with fail
  go_end0
  exact ⟨rfl, Ho.out.1, Ho.out.2⟩

def RowE (es : List Ev6) (w : World) (e : Ending) (w' : World) : Prop :=
  ∃ v : Value, e = .returned v ∧ w'.ownsRow w.heap.size 68 6 v es.length (cellsE es) ∧ Nw w w'
set_option maxRecDepth 100000 in
theorem clone_events (es : List Ev6) (n bm : Nat) (v : Value) (hn : es.length = n) (hn64 : n ≤ 64) (w : World)
    (hm : w.ownsRow bm 68 6 v n (cellsE es)) :
    Calls Tryz.prog 65 #[v] w (RowE es w) := by
  obtain ⟨va, vc, rfl⟩ := own_shape' hm
  have Hm := Lib.hid hm
  have Hn := Lib.hid hn
  clear hm hn
  go_enter Tryz.func65, Tryz.ntmps65
  have q0 : ∀ (w : World) (a : Option Addr) (n c n' c' : Nat), (binOp .eql 25 (.slice a n c) (.slice none n' c')).run Tryz.prog w = .ok (.bool a.isNone) w := fun w a n c n' c' => Lib.run_eql_slice_nil w _ _ a n c n' c' Tryz.underlying25
  obtain ⟨i0, hi, hz0, hz1, hz2⟩ := info_parts info_event
  rcases Hm.out.2 with ⟨h1, h2⟩ | ⟨g, cap, cur, h1, hb, hg, hc, hmx, hs, ht⟩
  · cases h1
    have hms : es = [] := List.eq_nil_of_length_eq_zero (by rw [Hn.out])
    subst hms
    go_wp2_with fail
    go_ret
    exact ⟨_, rfl, World.ownsRow_nil _ _ _ _, Nw.refl _⟩
  · cases h1
    have Hbel := Lib.hid ((Nw.refl w).alloc (.cells #[] 68 (0, 0)))
    clear hb hg hc hmx hs ht
    go_wp2_with (at_builtin; refine wpList_append_own _ rfl _ _ 25 rfl w.heap.size 68 i0 (.agg #[.int .i64 0, .int .i64 0, .int .i64 0, .int .i64 0, .int .i64 0, .float .f32 0]) 6 48 Tryz.underlying25 hi hz0 hz1 hz2 rfl (by decide) _ _ _ rfl (World.ownsRow_made w #[] 0 (Nat.le_refl _) (Nat.zero_le _) rfl) ⟨g, 0, none⟩ n vc (cellsE es) rfl ?qc1 ?qc2 ?qc3 ?qc4 ?qc5 ?qc6 ?_)
    case qc1 => rw [cellsE_len, Hn.out]
    case qc2 =>
      intro j u hj
      have hj' : j < n * 6 := by
        have := (List.getElem?_eq_some_iff.1 hj).1
        rw [cellsE_len, Hn.out] at this
        exact this
      have c1 := Hm.out.cellAt j hj'
      rw [hj] at c1
      rw [show (⟨g, 0, none⟩ : Addr).add j = ⟨g, j, none⟩ from by simp [Addr.add]; first | done | (intro h; omega)]
      exact Lib.cell?_alloc_some _ c1
    case qc3 => exact cellsE_one es
    case qc4 => unfold maxLen; omega
    case qc5 => omega
    case qc6 => simp
    · intro v' w1 hown hgrow hnil
      have Hown := Lib.hid hown
      have Hgr := Lib.hid (Hbel.out.grown hgrow (fun q hq => by simp [Value.ownBlock] at hq; omega))
      clear hown hgrow hnil
      go_wp2
      go_ret
      exact ⟨v', rfl, by have h := Hown.out; simpa [Hn.out] using h, Hgr.out⟩

/-! ### the score as an argument -/
structure ScoV (w : World) (base L V C R : Nat) (bs : List (List M4)) (es : List Ev6) (sv ev : Value) : Prop where
  hL : L ≤ 500
  hV : 1 ≤ V ∧ V ≤ 4
  hC : Sm C ∧ (FloatKind.f32.format.order C 0 == some .gt) = true
  hR : Rel R
  hb : bs.length ≤ 3
  he : es.length ≤ 13
  bok : ∀ ms ∈ bs, ms.length ≤ 4 ∧ ∀ m ∈ ms, m.ok
  eok : ∀ x ∈ es, x.ok L bs.length
  bods : BodsR w base sv bs
  evs : w.ownsRow base 68 6 ev es.length (cellsE es)
theorem ScoV.nw {w w' : World} {base L V C R : Nat} {bs : List (List M4)} {es : List Ev6} {sv ev : Value} (h : ScoV w base L V C R bs es sv ev) (hk : Nw w w') : ScoV w' base L V C R bs es sv ev :=
  ⟨h.hL, h.hV, h.hC, h.hR, h.hb, h.he, h.bok, h.eok, h.bods.nw hk, own_nw h.evs hk⟩
theorem ScoV.shape {w : World} {base L V C R : Nat} {bs : List (List M4)} {es : List Ev6} {sv ev : Value} (h : ScoV w base L V C R bs es sv ev) : (∃ a c, sv = .slice a bs.length c) ∧ ∃ a c, ev = .slice a es.length c := ⟨h.bods.shape, own_shape' h.evs⟩

set_option maxHeartbeats 1600000 in
theorem isScore_ok (base L V C R nb ne : Nat) (bs : List (List M4)) (es : List Ev6) (sv ev : Value) (w : World) (h : ScoV w base L V C R bs es sv ev) (hnb : nb = bs.length) (hne : ne = es.length) :
    Calls Tryz.prog 31 #[.agg #[.int .i64 (L : Int), .int .i64 (V : Int), .float .f32 C, .float .f32 R, sv, ev]] w (TestP true w) := by
  obtain ⟨⟨sa, sc, rfl⟩, ea, ec, rfl⟩ := h.shape
  rw [← hnb, ← hne] at h ⊢
  have hV := h.hV
  have H := Lib.hid h
  have Hn := Lib.hid (And.intro hnb hne)
  have hgc : (gt0 C && fin .f32 C) = true := by rw [Bool.and_eq_true]; exact ⟨h.hC.2, (fin_iff' .f32 C).2 h.hC.1⟩
  have hgr : ((ge0 R && le1 R) && !(R == 2147483648)) = true := by
    have h1 : ge0 R = true := h.hR.1.2.1
    have h2 : le1 R = true := h.hR.1.2.2
    have h3 := h.hR.2.2
    rw [h1, h2]; simpa using h3
  have N := Lib.hid ((Nw.refl w).alloc (.cells #[.int .i64 (L : Int), .int .i64 (V : Int), .float .f32 C, .float .f32 R, .slice sa nb sc, .slice ea ne ec] 27 (0, 0)))
  have X := Lib.hid (HasC.new w 27 (.int .i64 (L : Int)) (.int .i64 (V : Int)) (.float .f32 C) (.float .f32 R) (.slice sa nb sc) (.slice ea ne ec))
  clear h hnb hne
  go_enter Tryz.func31, Tryz.ntmps31
  go_wp2_with (first
    | (go_at_call 50; refine (isSteps_ok L (by have := H.out.hL; omega) _).mono ?_; rintro e w1 ⟨rfl, rfl⟩)
    | (go_at_call 51; refine (isCeiling_any _ _).mono ?_; rintro e w1 ⟨rfl, rfl⟩; rw [hgc])
    | (go_at_call 52; refine (isRelease_any _ H.out.hR.2.1 _).mono ?_; rintro e w1 ⟨rfl, rfl⟩; rw [hgr]))
  refine (areBodies_ok bs base nb _ _ Hn.out.1 (by have := H.out.hb; have := Hn.out.1; omega) (H.out.bods.nw N.out) H.out.bok).mono ?_
  rintro e w2 ⟨rfl, n2⟩
  have N2 := Lib.hid (N.out.trans n2)
  obtain ⟨⟨e0, g0⟩, ⟨e1, g1⟩, ⟨e2, g2⟩, ⟨e3, g3⟩, ⟨e4, g4⟩, ⟨e5, g5⟩⟩ := six_at (X.out.nw n2)
  clear n2
  go_wp2_with fail
  refine (areEvents_ok es L nb base ne (by have := H.out.hL; omega) _ _ Hn.out.2.symm (by have := H.out.he; have := Hn.out.2; omega) (by have h5 := own_nw H.out.evs N2.out; rwa [← Hn.out.2] at h5) (by have := H.out.eok; rw [← Hn.out.1] at this; exact this)).mono ?_
  rintro e w3 ⟨rfl, n3⟩
  have N3 := Lib.hid (N2.out.trans n3)
  clear n3
  go_wp2_with fail
  go_ret
  exact ⟨rfl, N3.out⟩

/-- the events in order, in memory of its own -/
theorem orderEvents_ok (base L V C R : Nat) (bs : List (List M4)) (es : List Ev6) (sv ev : Value) (w : World) (h : ScoV w base L V C R bs es sv ev) :
    Calls Tryz.prog 55 #[.agg #[.int .i64 (L : Int), .int .i64 (V : Int), .float .f32 C, .float .f32 R, sv, ev]] w (RowE (ordE es) w) := by
  obtain ⟨nb, hnb⟩ : ∃ nb, nb = bs.length := ⟨_, rfl⟩
  obtain ⟨ne, hne⟩ : ∃ ne, ne = es.length := ⟨_, rfl⟩
  obtain ⟨⟨sa, sc, rfl⟩, ea, ec, rfl⟩ := h.shape
  rw [← hnb, ← hne] at h ⊢
  have H := Lib.hid h
  have Hn := Lib.hid (And.intro hnb hne)
  have N := Lib.hid ((Nw.refl w).alloc (.cells #[.int .i64 (L : Int), .int .i64 (V : Int), .float .f32 C, .float .f32 R, .slice sa nb sc, .slice ea ne ec] 27 (0, 0)))
  have X := Lib.hid (HasC.new w 27 (.int .i64 (L : Int)) (.int .i64 (V : Int)) (.float .f32 C) (.float .f32 R) (.slice sa nb sc) (.slice ea ne ec))
  clear h hnb hne
  go_enter Tryz.func55, Tryz.ntmps55
  go_wp2_with fail
  refine (isScore_ok base L V C R nb ne bs es _ _ _ (H.out.nw N.out) Hn.out.1 Hn.out.2).mono ?_
  rintro e w2 ⟨rfl, n2⟩
  have N2 := Lib.hid (N.out.trans n2)
  obtain ⟨⟨e0, g0⟩, ⟨e1, g1⟩, ⟨e2, g2⟩, ⟨e3, g3⟩, ⟨e4, g4⟩, ⟨e5, g5⟩⟩ := six_at (X.out.nw n2)
  clear n2
  go_wp2_with fail
  have hne13 : ne ≤ 13 := by have := H.out.he; have := Hn.out.2; omega
  refine (clone_events es ne base _ Hn.out.2.symm (by omega) _ (by have := own_nw H.out.evs N2.out; rwa [← Hn.out.2] at this)).mono ?_
  rintro e w3 ⟨v3, rfl, o3, n3⟩
  have N3 := Lib.hid (N2.out.trans n3)
  rw [← Hn.out.2] at o3
  have O3 := Lib.hid o3
  have hs2 := N2.out.size
  clear n3 o3
  go_wp2_with fail
  refine (sortStable_any es w2.heap.size ne v3 Hn.out.2.symm (by omega) _ O3.out).mono ?_
  rintro e w4 ⟨rfl, o4, k4⟩
  have N4 := Lib.hid (k4 w N3.out hs2)
  have O4 := Lib.hid (own_base o4 hs2)
  clear o4 k4
  go_wp2_with fail
  go_ret
  exact ⟨_, rfl, by rw [ordE_len, ← Hn.out.2]; exact O4.out, N4.out⟩

end Go.Proofs.YtiakcibeobbonaaGreat

/- A player begins: newPlayer (FnShifted, FnCut).
   Conditions: those that each statement names. -/
namespace Go.Proofs.YtiakcibeobbonaaGreat
set_option linter.unusedSimpArgs false
set_option linter.unusedVariables false
open Go Go.RowKit

theorem HasC.newA (w : World) (cs : Array Value) (T : TypeId) : HasC (w.alloc (.cells cs T (0, 0))) w.heap.size cs.toList := by
  have hb : (w.alloc (.cells cs T (0, 0))).heap[w.heap.size]? = some (.cells cs T (0, 0)) := heap_alloc_new w _
  refine ⟨by simp, fun k v hk => ⟨?_, frozen_of_row _ _ k cs T hb⟩⟩
  rw [cell_of_row _ _ k cs T (0, 0) hb]
  simpa using hk
/-- a box that is a player -/
def PlX (w : World) (b : Nat) : Prop := ∃ cs f, w.heap[b]? = some (.cells cs 80 f)
theorem PlX.new (w : World) (cs : Array Value) : PlX (w.alloc (.cells cs 80 (0, 0))) w.heap.size := ⟨cs, (0, 0), by show (w.heap.push _)[w.heap.size]? = _; simp⟩
theorem PlX.of {w w' : World} {b : Nat} (h : PlX w b) (hb : w'.heap[b]? = w.heap[b]?) : PlX w' b := by
  obtain ⟨cs, f, e⟩ := h
  exact ⟨cs, f, by rw [hb, e]⟩
theorem PlX.lt {w : World} {b : Nat} (h : PlX w b) : b < w.heap.size := by
  obtain ⟨cs, f, e⟩ := h
  exact (Array.getElem?_eq_some_iff.1 e).1
theorem PlX.nw {w w' : World} {b : Nat} (h : PlX w b) (k : Nw w w') : PlX w' b := h.of (k.block b h.lt (by simp))
theorem PlX.set {w : World} {b : Nat} (h : PlX w b) (c o : Nat) (u : Value) : PlX (w.setCell ⟨c, o, none⟩ u) b := by
  by_cases e : c = b
  · subst e
    obtain ⟨cs, f, e⟩ := h
    refine ⟨cs.setIfInBounds o u, f, ?_⟩
    simp [World.setCell, Array.getElem?_modify, e]
  · exact h.of (Below.heap_setCell _ _ _ _ (fun h => e h.symm))
theorem own_plx {w : World} {base : Nat} {E : TypeId} {size n c : Nat} {v : Value} {xs : List Value} (h : w.ownsRow base E size v n xs) (hB : PlX w c) (hE : E ≠ 80) : v.ownBlock = none ∨ v.ownBlock ≠ some c := by
  obtain ⟨cs, f, e⟩ := hB
  rcases h.2 with ⟨rfl, _⟩ | ⟨g, cap, cur, rfl, hb, hg, _⟩
  · exact .inl rfl
  · right
    intro e2
    simp [Value.ownBlock] at e2
    subst e2
    rw [hg] at e
    injection e with e
    injection e with e1 e2 e3
    exact hE e2
theorem PlX.grown {w w' : World} {base : Nat} {E : TypeId} {size n b : Nat} {v : Value} {xs : List Value} (h : PlX w b) (ho : w.ownsRow base E size v n xs) (hE : E ≠ 80) (hg : w.grownBy w' v.ownBlock) : PlX w' b :=
  h.of (hg.block b h.lt (fun e => by rcases own_plx ho h hE with h2 | h2; rw [h2] at e; cases e; exact h2 e.symm))
theorem own_setp {w : World} {base : Nat} {E : TypeId} {size n c : Nat} {v : Value} {xs : List Value} (h : w.ownsRow base E size v n xs) (hB : PlX w c) (hE : E ≠ 80) (o : Nat) (u : Value) : (w.setCell ⟨c, o, none⟩ u).ownsRow base E size v n xs :=
  h.kept ((Kp.refl c w).set o u) (own_plx h hB hE)

/-- a player's box -/
def plC (L V C R : Nat) (sv ev eo : Value) (now done begun : Int) (pv : Value) (env : Nat) : List Value :=
  [.int .i64 (L : Int), .int .i64 (V : Int), .float .f32 C, .float .f32 R, sv, ev, eo, .int .i64 now, .int .i64 done, .int .i64 begun, pv, .float .f32 env]
def NewPlP (L V C R : Nat) (es : List Ev6) (sv ev : Value) (w : World) (e : Ending) (w' : World) : Prop :=
  ∃ (q : Nat) (eo : Value), e = .returned (.pointer (some ⟨q, 0, none⟩)) ∧ w.heap.size ≤ q ∧ q < w'.heap.size ∧ PlX w' q ∧ HasC w' q (plC L V C R sv ev eo 0 0 0 (.slice none 0 0) 0) ∧ w'.ownsRow w.heap.size 68 6 eo (ordE es).length (cellsE (ordE es)) ∧ Nw w w'
set_option maxHeartbeats 6400000 in
set_option maxRecDepth 100000 in
theorem newPlayer_ok (base L V C R : Nat) (bs : List (List M4)) (es : List Ev6) (sv ev : Value) (w : World) (h : ScoV w base L V C R bs es sv ev) :
    Calls Tryz.prog 32 #[.agg #[.int .i64 (L : Int), .int .i64 (V : Int), .float .f32 C, .float .f32 R, sv, ev]] w (NewPlP L V C R es sv ev w) := by
  obtain ⟨⟨sa, sc, rfl⟩, ea, ec, rfl⟩ := h.shape
  have X := Lib.hid (HasC.new w 27 (.int .i64 (L : Int)) (.int .i64 (V : Int)) (.float .f32 C) (.float .f32 R) (.slice sa bs.length sc) (.slice ea es.length ec))
  have N := Lib.hid ((Nw.refl w).alloc (.cells #[.int .i64 (L : Int), .int .i64 (V : Int), .float .f32 C, .float .f32 R, .slice sa bs.length sc, .slice ea es.length ec] 27 (0, 0)))
  have H := Lib.hid (h.nw N.out)
  clear h
  have KeepS := Lib.hid (show ∀ W, Nw (w.alloc (.cells #[.int .i64 (L : Int), .int .i64 (V : Int), .float .f32 C, .float .f32 R, .slice sa bs.length sc, .slice ea es.length ec] 27 (0, 0))) W → W.cell? ⟨w.heap.size, 0, none⟩ = some (.int .i64 (L : Int)) ∧ W.cell? ⟨w.heap.size, 1, none⟩ = some (.int .i64 (V : Int)) ∧ W.cell? ⟨w.heap.size, 2, none⟩ = some (.float .f32 C) ∧ W.cell? ⟨w.heap.size, 3, none⟩ = some (.float .f32 R) ∧ W.cell? ⟨w.heap.size, 4, none⟩ = some (.slice sa bs.length sc) ∧ W.cell? ⟨w.heap.size, 5, none⟩ = some (.slice ea es.length ec) from fun W hW => by
    obtain ⟨⟨e0, -⟩, ⟨e1, -⟩, ⟨e2, -⟩, ⟨e3, -⟩, ⟨e4, -⟩, e5, -⟩ := six_at (X.out.nw hW)
    exact ⟨e0, e1, e2, e3, e4, e5⟩)
  go_enter Tryz.func32, Tryz.ntmps32
  go_upto_region 1 with fail
  refine wp_region_held_drew (S := fun w' => w'.cell? ⟨w.heap.size, 0, none⟩ = some (.int .i64 (L : Int)) ∧ w'.cell? ⟨w.heap.size, 1, none⟩ = some (.int .i64 (V : Int)) ∧ w'.cell? ⟨w.heap.size, 2, none⟩ = some (.float .f32 C) ∧ w'.cell? ⟨w.heap.size, 3, none⟩ = some (.float .f32 R) ∧ w'.cell? ⟨w.heap.size, 4, none⟩ = some (.slice sa bs.length sc) ∧ w'.cell? ⟨w.heap.size, 5, none⟩ = some (.slice ea es.length ec)) (by kernel_rfl) ?_ (fun hHeld => ?_)
  · exact KeepS.out _ ((Nw.refl _).draw 1)
  refine wpAnyH_take (i := 0) (oi := _) (v := ?_) rfl (by kernel_rfl) (by kernel_rfl) (by kernel_rfl) (fun _ _ _ h => h) (_root_.Or.inl ⟨by rfl, ?_⟩) (by assumption) ?_
  rotate_left
  · intro w hSw
    (try dsimp only at hSw)
    go_simp
    all_goals with_reducible rfl
  try simp only [Act.put, List.setIfInBounds_toArray, List.set_cons_zero, List.set_cons_succ]
  refine wpAnyH_take (i := 1) (oi := _) (v := ?_) rfl (by kernel_rfl) (by kernel_rfl) (by kernel_rfl) (fun _ _ _ h => h) (_root_.Or.inl ⟨by rfl, ?_⟩) (by assumption) ?_
  rotate_left
  · intro w hSw
    (try dsimp only at hSw)
    go_simp
    all_goals with_reducible rfl
  try simp only [Act.put, List.setIfInBounds_toArray, List.set_cons_zero, List.set_cons_succ]
  refine wpAnyH_ready (rs := [2]) (by kernel_rfl) (by simp) ?_
  refine AllReadyH.cons (o := _) rfl (fun K hK => ?_) AllReadyH.nil
  go_simp
  go_at_call 55
  refine (orderEvents_ok base L V C R bs es _ _ _ (H.out.nw ((Nw.refl _).draw 1))).mono ?_
  rintro e w1 ⟨eo, rfl, oe, d⟩
  obtain ⟨oa, oc, rfl⟩ := own_shape' oe
  have N1 := Lib.hid (show Nw _ w1 from ((Nw.refl _).draw 1).trans d)
  have OE := Lib.hid (own_base oe (show w.heap.size ≤ _ from by simp))
  clear d oe hHeld
  go_wp2_with fail
  refine hK.out _ _ ?_ (fun hHeld => ?_)
  · exact KeepS.out _ N1.out
  clear hK K
  try simp only [List.getElem_toArray, List.getElem_cons_succ, List.getElem_cons_zero, Act.put, List.setIfInBounds_toArray, List.set_cons_zero, List.set_cons_succ]
  refine wpAnyH_take (i := 3) (oi := _) (v := ?_) rfl (by kernel_rfl) (by kernel_rfl) (by kernel_rfl) (fun _ _ _ h => h) (_root_.Or.inl ⟨by rfl, ?_⟩) (by assumption) ?_
  rotate_left
  · intro w hSw
    (try dsimp only at hSw)
    go_simp
    all_goals with_reducible rfl
  try simp only [Act.put, List.setIfInBounds_toArray, List.set_cons_zero, List.set_cons_succ]
  refine wpAnyH_ready (rs := [4]) (by kernel_rfl) (by simp) ?_
  refine AllReadyH.cons (o := _) rfl (fun K hK => ?_) AllReadyH.nil
  go_simp
  refine hK.out _ _ ?_ (fun hHeld => ?_)
  · exact KeepS.out _ (N1.out.alloc _)
  clear hK K
  try simp only [List.getElem_toArray, List.getElem_cons_succ, List.getElem_cons_zero, Act.put, List.setIfInBounds_toArray, List.set_cons_zero, List.set_cons_succ]
  refine wpAnyH_take (i := 5) (oi := _) (v := ?_) rfl (by kernel_rfl) (by kernel_rfl) (by kernel_rfl) (fun _ _ _ h => h) (_root_.Or.inl ⟨by rfl, ?_⟩) (by assumption) ?_
  rotate_left
  · intro w hSw
    (try dsimp only at hSw)
    go_simp
    all_goals with_reducible rfl
  try simp only [List.getElem_toArray, List.getElem_cons_succ, List.getElem_cons_zero, Act.put, List.setIfInBounds_toArray, List.set_cons_zero, List.set_cons_succ]
  refine wpAnyH_done (by kernel_rfl) ?_ _
  clear hHeld
  have F1 := Lib.hid (HasC.newA w1 #[.int .i64 (L : Int), .int .i64 (V : Int), .float .f32 C, .float .f32 R, .slice sa bs.length sc, .slice ea es.length ec, .slice oa (ordE es).length oc, .int .i64 0, .int .i64 0, .int .i64 0, .slice none 0 0, .float .f32 0] 80)
  have F2 := Lib.hid (PlX.new w1 #[.int .i64 (L : Int), .int .i64 (V : Int), .float .f32 C, .float .f32 R, .slice sa bs.length sc, .slice ea es.length ec, .slice oa (ordE es).length oc, .int .i64 0, .int .i64 0, .int .i64 0, .slice none 0 0, .float .f32 0])
  go_wp2_with fail
  go_ret
  exact ⟨w1.heap.size, _, rfl, (N.out.trans N1.out).size, by simp, F2.out, F1.out, OE.out.alloc _, (N.out.trans N1.out).alloc _⟩
end Go.Proofs.YtiakcibeobbonaaGreat
