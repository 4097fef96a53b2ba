/- The walks of stepStates, IsBody and RingBody, where nothing overflows: bit for bit.
   Conditions: those that each statement names. -/
import Derived.Test.YtlhhcchncobmhaaStep
namespace Go.Proofs.Ytlhhcchncobmhaa
set_option linter.unusedSimpArgs false
set_option linter.unusedVariables false
open Go Go.RowKit

/-! ### the bits of ringing -/
def stepAll (ms : List M4) (ss : List (Nat × Nat)) (x : Nat) : List (Nat × Nat) := List.zipWith (fun m s => stepS m s x) ms ss
def outS (ss : List (Nat × Nat)) : Nat := ss.foldl (fun y s => opB .add .f32 y s.1) 0
def cellsC (ss : List (Nat × Nat)) : List Value := ss.map fun s => .complex .f32 s.1 s.2

/-- nothing overflows as the outputs are summed -/
def SumOk (ss : List (Nat × Nat)) : Prop := ∀ (k : Nat) s, ss[k]? = some s → Calm .add .f32 (outS (ss.take k)) s.1
theorem outS_take (ss : List (Nat × Nat)) (k : Nat) (s : Nat × Nat) (h : ss[k]? = some s) : outS (ss.take (k + 1)) = opB .add .f32 (outS (ss.take k)) s.1 := by
  have hk := (List.getElem?_eq_some_iff.1 h)
  obtain ⟨hk, he⟩ := hk
  rw [List.take_succ_eq_append_getElem hk, he]
  simp [outS, List.foldl_append]

/-- the states when k modes have been stepped -/
def mixed (ms : List M4) (ss : List (Nat × Nat)) (x k : Nat) : List (Nat × Nat) := (stepAll ms ss x).take k ++ ss.drop k

theorem own_mode {w : World} {base n k : Nat} {v : Value} {ms : List M4} (h : w.ownsRow base 61 2 v n (cellsM ms)) {m : M4} (hk : ms[k]? = some m) (hn : n = ms.length) :
    ∃ g cap, v = .slice (some ⟨g, 0, none⟩) n cap ∧ n ≤ cap ∧ cap ≤ maxLen ∧ g < w.heap.size ∧ w.cell? ⟨g, k * 2, none⟩ = some (.complex .f32 m.pr m.pi) ∧ w.cell? ⟨g, k * 2 + 1, none⟩ = some (.complex .f32 m.gr m.gi) := by
  have hkl := (List.getElem?_eq_some_iff.1 hk).1
  rcases h.2 with ⟨_, h0⟩ | ⟨g, cap, cur, rfl, hb, hg, hc, hm, hs, ht⟩
  · omega
  · have c1 := h.cellAt (2 * k) (by omega)
    have c2 := h.cellAt (2 * k + 1) (by omega)
    rw [(cellsM_at ms k m hk).1] at c1
    rw [(cellsM_at ms k m hk).2] at c2
    rw [Nat.mul_comm] at c1 c2
    exact ⟨g, cap, rfl, hc, hm, (h.lt g rfl).2, c1, c2⟩

theorem own_shape' {w : World} {base : Nat} {E : TypeId} {size : Nat} {v : Value} {n : Nat} {xs : List Value} (h : w.ownsRow base E size v n xs) : ∃ a c, v = .slice a n c := by
  rcases h.2 with ⟨rfl, rfl⟩ | ⟨g, cap, cur, rfl, _⟩
  · exact ⟨_, _, rfl⟩
  · exact ⟨_, _, rfl⟩

theorem mixed_at (ms : List M4) (ss : List (Nat × Nat)) (x k : Nat) (s : Nat × Nat) (hl : ms.length = ss.length) (h : ss[k]? = some s) : (cellsC (mixed ms ss x k))[k]? = some (.complex .f32 s.1 s.2) := by
  have hk := (List.getElem?_eq_some_iff.1 h).1
  have hlen : ((stepAll ms ss x).take k).length = k := by simp [stepAll]; omega
  unfold mixed cellsC
  rw [List.getElem?_map, List.getElem?_append_right (by omega), hlen, Nat.sub_self, List.getElem?_drop, Nat.add_zero, h]
  rfl

theorem _root_.Go.World.grownBy.trans' {a b c : World} {row : Option Nat} (h : a.grownBy b row) (k : b.grownBy c row) : a.grownBy c row :=
  ⟨k.os.trans h.os, k.tape.trans h.tape, k.output.trans h.output, Nat.le_trans h.size k.size, fun i hi hne => (k.block i (Nat.lt_of_lt_of_le hi h.size) hne).trans (h.block i hi hne)⟩

theorem stepAll_at (ms : List M4) (ss : List (Nat × Nat)) (x k : Nat) (m : M4) (s : Nat × Nat) (hm : ms[k]? = some m) (hs : ss[k]? = some s) : (stepAll ms ss x)[k]? = some (stepS m s x) := by
  unfold stepAll; rw [List.getElem?_zipWith, hm, hs]
theorem mixed_step (ms : List M4) (ss : List (Nat × Nat)) (x k : Nat) (m : M4) (s : Nat × Nat) (hm : ms[k]? = some m) (hs : ss[k]? = some s) :
    (cellsC (mixed ms ss x k)).set k (.complex .f32 (stepS m s x).1 (stepS m s x).2) = cellsC (mixed ms ss x (k + 1)) := by
  obtain ⟨hkm, -⟩ := List.getElem?_eq_some_iff.1 hm
  obtain ⟨hks, hse⟩ := List.getElem?_eq_some_iff.1 hs
  have hlen : ((stepAll ms ss x).take k).length = k := by simp [stepAll]; omega
  have hat := stepAll_at ms ss x k m s hm hs
  obtain ⟨hka, hae⟩ := List.getElem?_eq_some_iff.1 hat
  unfold mixed
  rw [List.take_succ_eq_append_getElem hka, hae, List.drop_eq_getElem_cons hks, hse]
  simp only [cellsC, List.map_append, List.map_cons, List.map_nil, List.append_assoc, List.singleton_append]
  rw [List.set_append_right _ _ (by simp [stepAll]; omega)]
  simp [stepAll, show k - min k (min ms.length ss.length) = 0 from by omega]
theorem mixed_after (ms : List M4) (ss : List (Nat × Nat)) (x k : Nat) (m : M4) (s : Nat × Nat) (hm : ms[k]? = some m) (hs : ss[k]? = some s) :
    (cellsC (mixed ms ss x (k + 1)))[k]? = some (.complex .f32 (stepS m s x).1 (stepS m s x).2) := by
  obtain ⟨hkm, -⟩ := List.getElem?_eq_some_iff.1 hm
  obtain ⟨hks, hse⟩ := List.getElem?_eq_some_iff.1 hs
  rw [← mixed_step ms ss x k m s hm hs, List.getElem?_set_self]
  simp [cellsC, mixed, stepAll]; omega
theorem mixed_full (ms : List M4) (ss : List (Nat × Nat)) (x : Nat) (hl : ms.length = ss.length) : mixed ms ss x ms.length = stepAll ms ss x := by
  unfold mixed
  rw [List.take_of_length_le (by simp [stepAll]; omega), List.drop_of_length_le (by omega), List.append_nil]

theorem grown_cell {w w' : World} {row : Option Nat} (h : w.grownBy w' row) {p : Addr} (hp : p.block < w.heap.size) (hne : some p.block ≠ row) : w'.cell? p = w.cell? p :=
  World.cell?_of_block (w := w) (h.block p.block hp hne)
theorem grown_frozen {w w' : World} {row : Option Nat} (h : w.grownBy w' row) {p : Addr} (hp : p.block < w.heap.size) (hne : some p.block ≠ row) : w'.frozen? p = w.frozen? p :=
  World.frozen?_of_block (w := w) (h.block p.block hp hne)

def StepsP (gs bs n : Nat) (ss' : List (Nat × Nat)) (w : World) (e : Ending) (w' : World) : Prop :=
  e = .returned (.float .f32 (outS ss')) ∧ w'.ownsRow bs 59 1 (.slice (some ⟨gs, 0, none⟩) n n) n (cellsC ss') ∧ w.grownBy w' (some gs)

def StepsI (ms : List M4) (ss : List (Nat × Nat)) (x gs bs n : Nat) (w : World) (y i : Value) (wr : World) : Prop :=
  ∃ k : Nat, k ≤ n ∧ i = .int .i64 (k : Int) ∧ y = .float .f32 (outS ((stepAll ms ss x).take k)) ∧ wr.ownsRow bs 59 1 (.slice (some ⟨gs, 0, none⟩) n n) n (cellsC (mixed ms ss x k)) ∧ w.grownBy wr (some gs)

set_option maxHeartbeats 1600000 in
theorem stepStates_ok (ms : List M4) (hms : ∀ m ∈ ms, m.ok) (ss : List (Nat × Nat)) (x n gs bs bm : Nat) (v : Value) (hn : ms.length = n) (hss : ss.length = n) (hn16 : n ≤ 16) (w : World)
    (hm : w.ownsRow bm 61 2 v n (cellsM ms)) (hs : w.ownsRow bs 59 1 (.slice (some ⟨gs, 0, none⟩) n n) n (cellsC ss)) (hne : v.ownBlock ≠ some gs)
    (hok : ∀ (k : Nat) m s, ms[k]? = some m → ss[k]? = some s → StepOk m s x) (hsum : SumOk (stepAll ms ss x)) :
    Calls Try.prog 59 #[v, .slice (some ⟨gs, 0, none⟩) n n, .float .f32 x] w (StepsP gs bs n (stepAll ms ss x) w) := by
  obtain ⟨va, vc, rfl⟩ := own_shape' hm
  have Hm := Lib.hid hm
  have Hs := Lib.hid hs
  have Hok := Lib.hid hok
  have Hsum := Lib.hid hsum
  have Hms := Lib.hid hms
  have Hn := Lib.hid hn
  have Hss := Lib.hid hss
  clear hm hs hok hsum hms hn hss
  go_enter Try.func59, Try.ntmps59
  go_wp2_with fail
  go_loopw [7, 12] (fun y i wr => StepsI ms ss x gs bs n w y i wr) (fun _ i _ => n - (intOf i).toNat)
  case atStart => exact ⟨0, by omega, rfl, rfl, by rw [show mixed ms ss x 0 = ss from by simp [mixed]]; exact Hs.out, World.grownBy.refl _ _⟩
  case round =>
    obtain ⟨k, hk, rfl, rfl, hown, hgr⟩ := hrel
    have Hown := Lib.hid hown
    have Hgr := Lib.hid hgr
    clear hown hgr
    by_cases hlt : k < n
    · obtain ⟨m, hmk⟩ : ∃ m, ms[k]? = some m := ⟨ms[k]'(by rw [Hn.out]; exact hlt), List.getElem?_eq_getElem _⟩
      obtain ⟨s, hsk⟩ : ∃ s, ss[k]? = some s := ⟨ss[k]'(by rw [Hss.out]; exact hlt), List.getElem?_eq_getElem _⟩
      have Hmr := Lib.hid (Hm.out.kept Hgr.out (.inr hne))
      obtain ⟨g, cap, hv, hcap, hmax, hgs, e1, e2⟩ := own_mode Hmr.out hmk Hn.out.symm
      cases hv
      have hgne : g ≠ gs := fun e => hne (by rw [e]; rfl)
      have hst : (cellsC (mixed ms ss x k))[k]? = some (.complex .f32 s.1 s.2) := mixed_at ms ss x k s (by rw [Hn.out, Hss.out]) hsk
      have e3 := Hown.out.cellAt k (by omega)
      rw [hst] at e3
      have e4 := Hown.out.frozenAt k
      have Hmk := Lib.hid hmk
      have Hsk := Lib.hid hsk
      clear hmk hsk hst
      have hmm : maxLen = 9223372036854775807 := rfl
      unfold maxLen at hmax
      clear hmm
      go_upto_region 5 with fail
      have Hmode := Lib.hid (HasMode.new wr 61 m.pr m.pi m.gr m.gi)
      have Hown4 := Lib.hid (Hown.out.alloc (.cells #[.complex .f32 m.pr m.pi, .complex .f32 m.gr m.gi] 61 (0, 0)))
      have Hgr4 := Lib.hid (Hgr.out.trans' (World.grownBy_alloc wr (.cells #[.complex .f32 m.pr m.pi, .complex .f32 m.gr m.gi] 61 (0, 0)) (some gs)))
      clear e1 e2 e3 e4
      go_cut [] (fun wx => wx.ownsRow bs 59 1 (.slice (some ⟨gs, 0, none⟩) n n) n (cellsC (mixed ms ss x (k + 1))) ∧ w.grownBy wx (some gs))
      case first =>
        obtain ⟨w4, hw4⟩ : ∃ w4, w4 = wr.alloc (.cells #[.complex .f32 m.pr m.pi, .complex .f32 m.gr m.gi] 61 (0, 0)) := ⟨_, rfl⟩
        rw [← hw4] at Hmode Hown4 Hgr4
        rw [← hw4]
        clear hw4
        obtain ⟨l0, l1, l2, l3, l4⟩ := Hmode.out
        have e3 := Hown4.out.cellAt k (by omega)
        rw [mixed_at ms ss x k s (by rw [Hn.out, Hss.out]) Hsk.out] at e3
        have e4 := Hown4.out.frozenAt k
        have hgs4 : gs < w4.heap.size := (Hown4.out.lt gs rfl).2
        have Hst := Lib.hid (Hok.out k m s Hmk.out Hsk.out)
        have Hmo := Lib.hid (Hms.out m (List.mem_of_getElem? Hmk.out))
        go_region_with (first
          | (go_at_call 95; refine (stepMode_ok m Hmo.out s x _ Hst.out).mono ?_; rintro e w5 ⟨rfl, n5⟩; have k5 := (n5.cell (p := ⟨gs, k, none⟩) hgs4).trans e3; have f5 := (n5.frozen (p := ⟨gs, k, none⟩) hgs4).trans e4))
        all_goals
          have hfin := And.intro ((own_nw (w := w4.drew) Hown4.out n5).stored k (.complex .f32 (stepS m s x).1 (stepS m s x).2)).1 ((Hgr4.out.trans' ⟨n5.os, n5.tape, n5.output, n5.size, fun q hq _ => n5.block q hq (by simp)⟩).trans' ((own_nw (w := w4.drew) Hown4.out n5).stored k (.complex .f32 (stepS m s x).1 (stepS m s x).2)).2)
          rw [mixed_step ms ss x k m s Hmk.out Hsk.out] at hfin
          have Hfin := Lib.hid hfin
          clear hfin
          go_wp2_with fail
          go_meet
          exact Hfin.out
      case rest =>
        obtain ⟨hown6, hgr6⟩ := hcut
        have e6 := hown6.cellAt k (by omega)
        rw [mixed_after ms ss x k m s Hmk.out Hsk.out] at e6
        have Hown6 := Lib.hid hown6
        have Hgr6 := Lib.hid hgr6
        clear hown6 hgr6
        have hsk := stepAll_at ms ss x k m s Hmk.out Hsk.out
        have hcalm := Hsum.out k _ hsk
        have r1 := hcalm.res
        have d1 := hcalm.fdr
        have Hout := Lib.hid (outS_take _ k _ hsk)
        clear hcalm hsk
        go_wp2_with fail
        go_roundw
        case rel => exact ⟨k + 1, by omega, by rw [show ((k + 1 : Nat) : Int) = (k : Int) + 1 from by omega], by rw [Hout.out], Hown6.out, Hgr6.out⟩
        case measure => simp only [intOf]; omega
    · obtain rfl : k = n := by omega
      have Hfull := Lib.hid (mixed_full ms ss x (Hn.out.trans Hss.out.symm))
      have Hlen := Lib.hid (show (stepAll ms ss x).length = k from by simp [stepAll, Hn.out, Hss.out])
      go_wp2_with fail
      go_ret
      refine ⟨by simp [List.take_of_length_le (Nat.le_of_eq Hlen.out)], ?_, Hgr.out⟩
      have := Hown.out
      rw [show mixed ms ss x k = stepAll ms ss x from by rw [← Hfull.out, Hn.out]] at this
      exact this

end Go.Proofs.Ytlhhcchncobmhaa
