/- One step of a body whose numbers may be infinite or NaN: the states as told, the output but for the bits of NaN; and any step at all.
   Conditions: those that each statement names. -/
import Derived.Test.YtfgofmcpgfofaaaRing
namespace Go.Proofs.Ytfgofmcpgfofaaa
open Go Go.RowKit

/-- the output, but for the bits of NaN -/
def outA (ss : List (Nat × Nat)) : Option Nat := ss.foldl (fun o s => fA .add .f32 o (fab .f32 s.1)) (fab .f32 0)
theorem outA_take (ss : List (Nat × Nat)) (k : Nat) (s : Nat × Nat) (h : ss[k]? = some s) : outA (ss.take (k + 1)) = fA .add .f32 (outA (ss.take k)) (fab .f32 s.1) := by
  obtain ⟨hk, he⟩ := List.getElem?_eq_some_iff.1 h
  unfold outA
  rw [List.take_succ_eq_append_getElem hk, List.foldl_append, he]; rfl
theorem cellsC_at {ss : List (Nat × Nat)} {k : Nat} {s : Nat × Nat} (h : ss[k]? = some s) : (cellsC ss)[k]? = some (.complex .f32 s.1 s.2) := by unfold cellsC; rw [List.getElem?_map, h]; rfl
theorem cellsC_set (ss : List (Nat × Nat)) (k : Nat) (s : Nat × Nat) : (cellsC ss).set k (.complex .f32 s.1 s.2) = cellsC (ss.set k s) := by unfold cellsC; rw [List.map_set]

def StepsA (gs bs n : Nat) (ss' : List (Nat × Nat)) (w : World) (e : Ending) (w' : World) : Prop :=
  (∃ y, e = .returned (.float .f32 y) ∧ fab .f32 y = outA ss') ∧ w'.ownsRow bs 36 1 (.slice (some ⟨gs, 0, none⟩) n n) n (cellsC ss') ∧ w.grownBy w' (some gs)
def StepsAI (ms : List M4) (ss : List (Nat × Nat)) (x gs bs n : Nat) (w : World) (y i : Value) (wr : World) : Prop :=
  ∃ k b : Nat, k ≤ n ∧ i = .int .i64 (k : Int) ∧ y = .float .f32 b ∧ fab .f32 b = outA ((stepAll ms ss x).take k) ∧ wr.ownsRow bs 36 1 (.slice (some ⟨gs, 0, none⟩) n n) n (cellsC (mixed ms ss x k)) ∧ w.grownBy wr (some gs)
def StepsN (gs bs n : Nat) (w : World) (e : Ending) (w' : World) : Prop :=
  ∃ y, e = .returned (.float .f32 y) ∧ ∃ sr : List (Nat × Nat), sr.length = n ∧ w'.ownsRow bs 36 1 (.slice (some ⟨gs, 0, none⟩) n n) n (cellsC sr) ∧ w.grownBy w' (some gs)
def StepsNI (gs bs n : Nat) (w : World) (y i : Value) (wr : World) : Prop :=
  ∃ (k b : Nat) (sr : List (Nat × Nat)), k ≤ n ∧ i = .int .i64 (k : Int) ∧ y = .float .f32 b ∧ sr.length = n ∧ wr.ownsRow bs 36 1 (.slice (some ⟨gs, 0, none⟩) n n) n (cellsC sr) ∧ w.grownBy wr (some gs)

set_option maxHeartbeats 1600000 in
theorem stepStates_fab (ms : List M4) (hms : ∀ m ∈ ms, m.ok) (ss : List (Nat × Nat)) (x n gs bs bm : Nat) (v : Value) (hn : ms.length = n) (hss : ss.length = n) (hn16 : n ≤ 16) (w : World)
    (hm : w.ownsRow bm 38 2 v n (cellsM ms)) (hs : w.ownsRow bs 36 1 (.slice (some ⟨gs, 0, none⟩) n n) n (cellsC ss)) (hne : v.ownBlock ≠ some gs)
    (hok : ∀ (k : Nat) m s, ms[k]? = some m → ss[k]? = some s → StepOk m s x) :
    Calls Try.prog 79 #[v, .slice (some ⟨gs, 0, none⟩) n n, .float .f32 x] w (StepsA gs bs n (stepAll ms ss x) w) := by
  obtain ⟨va, vc, rfl⟩ := own_shape' hm
  have Hm := Lib.hid hm
  have Hs := Lib.hid hs
  have Hok := Lib.hid hok
  have Hms := Lib.hid hms
  have Hn := Lib.hid hn
  have Hss := Lib.hid hss
  clear hm hs hok hms hn hss
  go_enter Try.func79, Try.ntmps79
  go_wp2_with fail
  go_loopw [7, 12] (fun y i wr => StepsAI ms ss x gs bs n w y i wr) (fun _ i _ => n - (intOf i).toNat)
  case atStart => exact ⟨0, 0, by omega, rfl, rfl, by rfl, by rw [show mixed ms ss x 0 = ss from by simp [mixed]]; exact Hs.out, World.grownBy.refl _ _⟩
  case round =>
    obtain ⟨k, y, hk, rfl, rfl, hy, hown, hgr⟩ := hrel
    have Hy := Lib.hid hy
    have Hown := Lib.hid hown
    have Hgr := Lib.hid hgr
    clear hown hgr hy
    by_cases hlt : k < n
    · obtain ⟨m, hmk⟩ : ∃ m, ms[k]? = some m := ⟨ms[k]'(by rw [Hn.out]; exact hlt), List.getElem?_eq_getElem _⟩
      obtain ⟨s, hsk⟩ : ∃ s, ss[k]? = some s := ⟨ss[k]'(by rw [Hss.out]; exact hlt), List.getElem?_eq_getElem _⟩
      have Hmr := Lib.hid (Hm.out.kept Hgr.out (.inr hne))
      obtain ⟨g, cap, hv, hcap, hmax, hgs, e1, e2⟩ := own_mode Hmr.out hmk Hn.out.symm
      cases hv
      have hgne : g ≠ gs := fun e => hne (by rw [e]; rfl)
      have hst : (cellsC (mixed ms ss x k))[k]? = some (.complex .f32 s.1 s.2) := mixed_at ms ss x k s (by rw [Hn.out, Hss.out]) hsk
      have e3 := Hown.out.cellAt k (by omega)
      rw [hst] at e3
      have e4 := Hown.out.frozenAt k
      have Hmk := Lib.hid hmk
      have Hsk := Lib.hid hsk
      clear hmk hsk hst
      have hmm : maxLen = 9223372036854775807 := rfl
      unfold maxLen at hmax
      clear hmm
      go_upto_region 5 with fail
      have Hmode := Lib.hid (HasMode.new wr 38 m.pr m.pi m.gr m.gi)
      have Hown4 := Lib.hid (Hown.out.alloc (.cells #[.complex .f32 m.pr m.pi, .complex .f32 m.gr m.gi] 38 (0, 0)))
      have Hgr4 := Lib.hid (Hgr.out.trans' (World.grownBy_alloc wr (.cells #[.complex .f32 m.pr m.pi, .complex .f32 m.gr m.gi] 38 (0, 0)) (some gs)))
      clear e1 e2 e3 e4
      go_cut [] (fun wx => wx.ownsRow bs 36 1 (.slice (some ⟨gs, 0, none⟩) n n) n (cellsC (mixed ms ss x (k + 1))) ∧ w.grownBy wx (some gs))
      case first =>
        obtain ⟨w4, hw4⟩ : ∃ w4, w4 = wr.alloc (.cells #[.complex .f32 m.pr m.pi, .complex .f32 m.gr m.gi] 38 (0, 0)) := ⟨_, rfl⟩
        rw [← hw4] at Hmode Hown4 Hgr4
        rw [← hw4]
        clear hw4
        obtain ⟨l0, l1, l2, l3, l4⟩ := Hmode.out
        have e3 := Hown4.out.cellAt k (by omega)
        rw [mixed_at ms ss x k s (by rw [Hn.out, Hss.out]) Hsk.out] at e3
        have e4 := Hown4.out.frozenAt k
        have hgs4 : gs < w4.heap.size := (Hown4.out.lt gs rfl).2
        have Hst := Lib.hid (Hok.out k m s Hmk.out Hsk.out)
        have Hmo := Lib.hid (Hms.out m (List.mem_of_getElem? Hmk.out))
        go_region_with (first
          | (go_at_call 113; refine (stepMode_ok m Hmo.out s x _ Hst.out).mono ?_; rintro e w5 ⟨rfl, n5⟩; have k5 := (n5.cell (p := ⟨gs, k, none⟩) hgs4).trans e3; have f5 := (n5.frozen (p := ⟨gs, k, none⟩) hgs4).trans e4))
        all_goals
          have hfin := And.intro ((own_nw (w := w4.drew) Hown4.out n5).stored k (.complex .f32 (stepS m s x).1 (stepS m s x).2)).1 ((Hgr4.out.trans' ⟨n5.os, n5.tape, n5.output, n5.size, fun q hq _ => n5.block q hq (by simp)⟩).trans' ((own_nw (w := w4.drew) Hown4.out n5).stored k (.complex .f32 (stepS m s x).1 (stepS m s x).2)).2)
          rw [mixed_step ms ss x k m s Hmk.out Hsk.out] at hfin
          have Hfin := Lib.hid hfin
          clear hfin
          go_wp2_with fail
          go_meet
          exact Hfin.out
      case rest =>
        obtain ⟨hown6, hgr6⟩ := hcut
        have e6 := hown6.cellAt k (by omega)
        rw [mixed_after ms ss x k m s Hmk.out Hsk.out] at e6
        have Hown6 := Lib.hid hown6
        have Hgr6 := Lib.hid hgr6
        clear hown6 hgr6
        have Hsk2 := Lib.hid (outA_take _ k _ (stepAll_at ms ss x k m s Hmk.out Hsk.out))
        go_wp2_with fail
        go_roundw
        case rel => exact ⟨k + 1, _, by omega, by rw [show ((k + 1 : Nat) : Int) = (k : Int) + 1 from by omega], rfl, by rw [Hsk2.out, fab_fres, Hy.out], own_nw Hown6.out ((Nw.refl _).draw _), Hgr6.out.trans' ⟨rfl, rfl, rfl, Nat.le_refl _, fun _ _ _ => rfl⟩⟩
        case measure => simp only [intOf]; omega
    · obtain rfl : k = n := by omega
      have Hfull := Lib.hid (mixed_full ms ss x (Hn.out.trans Hss.out.symm))
      have Hlen := Lib.hid (show (stepAll ms ss x).length = k from by simp [stepAll, Hn.out, Hss.out])
      go_wp2_with fail
      go_ret
      refine ⟨⟨y, rfl, by have h := Hy.out; rwa [List.take_of_length_le (Nat.le_of_eq Hlen.out)] at h⟩, ?_, Hgr.out⟩
      have := Hown.out
      rw [show mixed ms ss x k = stepAll ms ss x from by rw [← Hfull.out, Hn.out]] at this
      exact this

/-! ### whatever the numbers -/
def AnyC (k : FloatKind) (w : World) (e : Ending) (w' : World) : Prop := ∃ r s, e = .returned (.complex k r s) ∧ Nw w w'
theorem nw_nat (w : World) (n : Nat) : Nw w (w.drewN n) := (Nw.refl w).draw n
theorem widenN_any (a b : Nat) (w : World) : Calls Try.prog 71 #[.complex .f32 a b] w (AnyC .f64 w) := by
  go_enter Try.func71, Try.ntmps71
  go_wp2
  all_goals (go_ret; exact ⟨_, _, rfl, nw_nat _ _⟩)
theorem narrowN_any (a b : Nat) (w : World) : Calls Try.prog 117 #[.complex .f64 a b] w (AnyC .f32 w) := by
  go_enter Try.func117, Try.ntmps117
  go_wp2
  all_goals (go_ret; exact ⟨_, _, rfl, nw_nat _ _⟩)
theorem mulD_any (a b c d : Nat) (w : World) : Calls Try.prog 19 #[.complex .f64 a b, .complex .f64 c d] w (AnyC .f64 w) := by
  go_enter Try.func19, Try.ntmps19
  go_wp2
  all_goals (go_ret; exact ⟨_, _, rfl, nw_nat _ _⟩)
theorem scaleS_any (a b x : Nat) (w : World) : Calls Try.prog 115 #[.complex .f32 a b, .float .f32 x] w (AnyC .f32 w) := by
  go_enter Try.func115, Try.ntmps115
  go_wp2
  all_goals (go_ret; exact ⟨_, _, rfl, nw_nat _ _⟩)
theorem mulS_any (a b c d : Nat) (w : World) : Calls Try.prog 88 #[.complex .f32 a b, .complex .f32 c d] w (AnyC .f32 w) := by
  go_enter Try.func88, Try.ntmps88
  go_wp2_with fail
  refine (widenN_any _ _ _).mono ?_
  rintro e w1 ⟨p, q, rfl, n1⟩
  go_wp2_with fail
  refine (widenN_any _ _ _).mono ?_
  rintro e w2 ⟨p2, q2, rfl, n2⟩
  go_wp2_with fail
  refine (mulD_any _ _ _ _ _).mono ?_
  rintro e w3 ⟨p3, q3, rfl, n3⟩
  go_wp2_with fail
  refine (narrowN_any _ _ _).mono ?_
  rintro e w4 ⟨p4, q4, rfl, n4⟩
  have N4 := Lib.hid (((n1.trans n2).trans n3).trans n4)
  go_wp2_with fail
  go_ret
  exact ⟨_, _, rfl, N4.out⟩
theorem stepMode_any (m : M4) (s : Nat × Nat) (x : Nat) (w : World) :
    Calls Try.prog 113 #[.agg #[.complex .f32 m.pr m.pi, .complex .f32 m.gr m.gi], .complex .f32 s.1 s.2, .float .f32 x] w (AnyC .f32 w) := by
  go_enter Try.func113, Try.ntmps113
  have H0 := Lib.hid (HasMode.new w 38 m.pr m.pi m.gr m.gi)
  have N0 := Lib.hid ((Nw.refl w).alloc (.cells #[.complex .f32 m.pr m.pi, .complex .f32 m.gr m.gi] 38 (0, 0)))
  go_wp2_with fail
  generalize w.alloc (.cells #[.complex .f32 m.pr m.pi, .complex .f32 m.gr m.gi] 38 (0, 0)) = w0 at *
  obtain ⟨l0, l1, l2, l3, l4⟩ := H0.out
  go_region_with (first
    | (go_at_call 88; refine (mulS_any _ _ _ _ _).mono ?_; rintro e w1 ⟨p, q, rfl, n1⟩; first | (have m1 := n1.cell (p := ⟨w.heap.size, 1, none⟩) l0; have m2 := n1.cell (p := ⟨w.heap.size, 0, none⟩) l0) | skip)
    | (go_at_call 115; refine (scaleS_any _ _ _ _).mono ?_; rintro e w2 ⟨r, t, rfl, n2⟩; first | (have k1 := n2.cell (p := ⟨w.heap.size, 1, none⟩) l0; have k2 := n2.cell (p := ⟨w.heap.size, 0, none⟩) l0) | skip))
  all_goals
    go_wp2_with fail
    go_ret
    refine ⟨_, _, rfl, ?_⟩
    first
      | exact ((N0.out.draw 1).trans n1).trans n2
      | exact ((N0.out.draw 1).trans n2).trans n1
      | exact (((N0.out.draw 1).trans n1).trans n2).draw _
      | exact (((N0.out.draw 1).trans n2).trans n1).draw _
      | exact ((((N0.out.draw 1).trans n1).trans n2).draw _).draw _
      | exact ((((N0.out.draw 1).trans n2).trans n1).draw _).draw _

set_option maxHeartbeats 1600000 in
theorem stepStates_any (ms : List M4) (ss : List (Nat × Nat)) (x n gs bs bm : Nat) (v : Value) (hn : ms.length = n) (hss : ss.length = n) (hn16 : n ≤ 16) (w : World)
    (hm : w.ownsRow bm 38 2 v n (cellsM ms)) (hs : w.ownsRow bs 36 1 (.slice (some ⟨gs, 0, none⟩) n n) n (cellsC ss)) (hne : v.ownBlock ≠ some gs)
     :
    Calls Try.prog 79 #[v, .slice (some ⟨gs, 0, none⟩) n n, .float .f32 x] w (StepsN gs bs n w) := by
  obtain ⟨va, vc, rfl⟩ := own_shape' hm
  have Hm := Lib.hid hm
  have Hs := Lib.hid hs
  have Hn := Lib.hid hn
  clear hm hs hn
  go_enter Try.func79, Try.ntmps79
  go_wp2_with fail
  go_loopw [7, 12] (fun y i wr => StepsNI gs bs n w y i wr) (fun _ i _ => n - (intOf i).toNat)
  case atStart => exact ⟨0, 0, ss, by omega, rfl, rfl, hss, Hs.out, World.grownBy.refl _ _⟩
  case round =>
    obtain ⟨k, y, sr, hk, rfl, rfl, hsr, hown, hgr⟩ := hrel
    have Hsr := Lib.hid hsr
    have Hown := Lib.hid hown
    have Hgr := Lib.hid hgr
    clear hown hgr hsr
    by_cases hlt : k < n
    · obtain ⟨m, hmk⟩ : ∃ m, ms[k]? = some m := ⟨ms[k]'(by rw [Hn.out]; exact hlt), List.getElem?_eq_getElem _⟩
      obtain ⟨s, hsk⟩ : ∃ s, sr[k]? = some s := ⟨sr[k]'(by rw [Hsr.out]; exact hlt), List.getElem?_eq_getElem _⟩
      have Hmr := Lib.hid (Hm.out.kept Hgr.out (.inr hne))
      obtain ⟨g, cap, hv, hcap, hmax, hgs, e1, e2⟩ := own_mode Hmr.out hmk Hn.out.symm
      cases hv
      have hgne : g ≠ gs := fun e => hne (by rw [e]; rfl)
      have hst : (cellsC sr)[k]? = some (.complex .f32 s.1 s.2) := cellsC_at hsk
      have e3 := Hown.out.cellAt k (by omega)
      rw [hst] at e3
      have e4 := Hown.out.frozenAt k
      have Hmk := Lib.hid hmk
      have Hsk := Lib.hid hsk
      clear hmk hsk hst
      have hmm : maxLen = 9223372036854775807 := rfl
      unfold maxLen at hmax
      clear hmm
      go_upto_region 5 with fail
      have Hmode := Lib.hid (HasMode.new wr 38 m.pr m.pi m.gr m.gi)
      have Hown4 := Lib.hid (Hown.out.alloc (.cells #[.complex .f32 m.pr m.pi, .complex .f32 m.gr m.gi] 38 (0, 0)))
      have Hgr4 := Lib.hid (Hgr.out.trans' (World.grownBy_alloc wr (.cells #[.complex .f32 m.pr m.pi, .complex .f32 m.gr m.gi] 38 (0, 0)) (some gs)))
      clear e1 e2 e3 e4
      go_cut [] (fun wx => ∃ sr', sr'.length = n ∧ wx.ownsRow bs 36 1 (.slice (some ⟨gs, 0, none⟩) n n) n (cellsC sr') ∧ w.grownBy wx (some gs))
      case first =>
        obtain ⟨w4, hw4⟩ : ∃ w4, w4 = wr.alloc (.cells #[.complex .f32 m.pr m.pi, .complex .f32 m.gr m.gi] 38 (0, 0)) := ⟨_, rfl⟩
        rw [← hw4] at Hmode Hown4 Hgr4
        rw [← hw4]
        clear hw4
        obtain ⟨l0, l1, l2, l3, l4⟩ := Hmode.out
        have e3 := Hown4.out.cellAt k (by omega)
        rw [cellsC_at Hsk.out] at e3
        have e4 := Hown4.out.frozenAt k
        have hgs4 : gs < w4.heap.size := (Hown4.out.lt gs rfl).2
        go_region_with (first
          | (go_at_call 113; refine (stepMode_any m s x _).mono ?_; rintro e w5 ⟨r, q, rfl, n5⟩; have k5 := (n5.cell (p := ⟨gs, k, none⟩) hgs4).trans e3; have f5 := (n5.frozen (p := ⟨gs, k, none⟩) hgs4).trans e4))
        all_goals
          have hfin := And.intro ((own_nw (w := w4.drew) Hown4.out n5).stored k (.complex .f32 r q)).1 ((Hgr4.out.trans' ⟨n5.os, n5.tape, n5.output, n5.size, fun q hq _ => n5.block q hq (by simp)⟩).trans' ((own_nw (w := w4.drew) Hown4.out n5).stored k (.complex .f32 r q)).2)
          rw [cellsC_set sr k (r, q)] at hfin
          have Hfin := Lib.hid hfin
          clear hfin
          go_wp2_with fail
          go_meet
          exact ⟨_, by rw [List.length_set]; exact Hsr.out, Hfin.out.1, Hfin.out.2⟩
      case rest =>
        obtain ⟨sr', hsr', hown6, hgr6⟩ := hcut
        have Hsr6 := Lib.hid hsr'
        obtain ⟨s', hsk'⟩ : ∃ s', sr'[k]? = some s' := ⟨sr'[k]'(by rw [hsr']; exact hlt), List.getElem?_eq_getElem _⟩
        have e6 := hown6.cellAt k (by omega)
        rw [cellsC_at hsk'] at e6
        clear hsk' hsr'
        have Hown6 := Lib.hid hown6
        have Hgr6 := Lib.hid hgr6
        clear hown6 hgr6
        go_wp2_with fail
        go_roundw
        case rel => exact ⟨k + 1, _, sr', by omega, by rw [show ((k + 1 : Nat) : Int) = (k : Int) + 1 from by omega], rfl, Hsr6.out, own_nw Hown6.out ((Nw.refl _).draw _), Hgr6.out.trans' ⟨rfl, rfl, rfl, Nat.le_refl _, fun _ _ _ => rfl⟩⟩
        case measure => simp only [intOf]; omega
    · obtain rfl : k = n := by omega
      go_wp2_with fail
      go_ret
      exact ⟨_, rfl, sr, Hsr.out, Hown.out, Hgr.out⟩

end Go.Proofs.Ytfgofmcpgfofaaa
