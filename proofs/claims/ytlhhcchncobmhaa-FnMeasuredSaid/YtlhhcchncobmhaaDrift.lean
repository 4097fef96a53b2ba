/- The walk of DriftOf, where nothing overflows: the drift is at most what each difference is.
   Conditions: those that each statement names. -/
import Derived.Test.YtlhhcchncobmhaaRingD
namespace Go.Proofs.Ytlhhcchncobmhaa
set_option linter.unusedSimpArgs false
set_option linter.unusedVariables false
open Go Go.RowKit

/-- each difference between the two ringings is at most Bd -/
def DiffOk (ms : List M4) (x : Nat → Nat) (n : Nat) (Bd : Rat) : Prop :=
  ∀ i, i < n → Sm (outS (stAt ms x (i + 1))) ∧ ∃ r, floatBits .sub .f64 (outD (stDAt ms x (i + 1))) (wid (outS (stAt ms x (i + 1)))) = some r ∧ Flo.Nm r ∧ Flo.Ab (Flo.W r) Bd

def DriftP (Bd : Rat) (w : World) (e : Ending) (w' : World) : Prop :=
  ∃ g : Nat, e = .returned (.tuple #[.float .f64 g, .bool true]) ∧ Flo.Nm g ∧ Flo.W g ≤ Bd ∧ Nw w w'
def DriftI (Bd : Rat) (n : Nat) (w : World) (y i : Value) (wr : World) : Prop :=
  ∃ k g : Nat, k ≤ n ∧ i = .int .i64 (k : Int) ∧ y = .float .f64 g ∧ Flo.Nm g ∧ Flo.W g ≤ Bd ∧ Nw w wr

theorem own_f64 {w : World} {base n k : Nat} {v : Value} {xs : List Nat} (h : w.ownsRow base 49 1 v n (cellsF xs)) {x : Nat} (hk : xs[k]? = some x) (hn : n = xs.length) :
    ∃ g cap, v = .slice (some ⟨g, 0, none⟩) n cap ∧ n ≤ cap ∧ cap ≤ maxLen ∧ g < w.heap.size ∧ w.cell? ⟨g, k, none⟩ = some (.float .f64 x) := by
  have hkl := (List.getElem?_eq_some_iff.1 hk).1
  rcases h.2 with ⟨_, h0⟩ | ⟨g, cap, cur, rfl, hb, hg, hc, hm, hs, ht⟩
  · omega
  · have c1 := h.cellAt k (by omega)
    rw [show (cellsF xs)[k]? = some (.float .f64 x) from by simp [cellsF, hk]] at c1
    exact ⟨g, cap, rfl, hc, hm, (h.lt g rfl).2, c1⟩

set_option maxHeartbeats 3200000 in
theorem driftOf_ok (ms : List M4) (hms : ∀ m ∈ ms, m.ok) (xs : List Nat) (n q bm bi : Nat) (v iv : Value) (hq : ms.length = q) (hq16 : q ≤ 16) (hxl : xs.length ≤ 1048576) (hn : n ≤ 2000) (Bd : Rat) (hBd : 0 ≤ Bd) (w : World)
    (hm : w.ownsRow bm 61 2 v q (cellsM ms)) (hi : w.ownsRow bi 31 1 iv xs.length (cellsS xs)) (hok : RingOk ms (inputOf xs) n) (hokd : RingDOk ms (inputOf xs) n) (hdiff : DiffOk ms (inputOf xs) n Bd) :
    Calls Try.prog 77 #[.agg #[v], iv, .int .i64 (n : Int)] w (DriftP Bd w) := by
  obtain ⟨va, vc, rfl⟩ := own_shape' hm
  obtain ⟨ia, ic, rfl⟩ := own_shape' hi
  have Hm := Lib.hid hm
  have Hi := Lib.hid hi
  have Hok := Lib.hid hok
  have Hokd := Lib.hid hokd
  have Hdiff := Lib.hid hdiff
  have Hq := Lib.hid hq
  have Hbox := Lib.hid (Has1.new w 69 (.slice va q vc))
  have Hn0 := Lib.hid ((Nw.refl w).alloc (.cells #[.slice va q vc] 69 (0, 0)))
  clear hm hi hok hokd hdiff hq
  go_enter Try.func77, Try.ntmps77
  go_wp2_with fail
  refine (ringBody_ok ms hms xs n q bm bi _ _ Hq.out hq16 hxl hn _ (own_nw Hm.out Hn0.out) (own_nw Hi.out Hn0.out) Hok.out).mono ?_
  rintro e w1 ⟨s1, rfl, own1, n1⟩
  obtain ⟨sa, sc, rfl⟩ := own_shape' own1
  have Hn1 := Lib.hid (Hn0.out.trans n1)
  have Hb1 := Lib.hid (Hbox.out.nw n1)
  have hl1 : (ringS ms (inputOf xs) n).length = n := by simp [ringS]
  rw [hl1] at own1 ⊢
  have Own1 := Lib.hid own1
  clear own1 n1 hl1
  obtain ⟨b0, b1, b2⟩ := Hb1.out
  go_wp2_with fail
  refine (ringDouble_ok ms hms xs n q bm bi _ _ Hq.out hq16 hxl hn _ (own_nw Hm.out Hn1.out) (own_nw Hi.out Hn1.out) Hokd.out).mono ?_
  rintro e w2 ⟨s2, rfl, own2, n2⟩
  obtain ⟨da, dc, rfl⟩ := own_shape' own2
  have Hn2 := Lib.hid (Hn1.out.trans n2)
  have Own2 := Lib.hid (own_nw Own1.out n2)
  have hl2 : (ringD ms (inputOf xs) n).length = n := by simp [ringD]
  rw [hl2] at own2 ⊢
  have OwnD := Lib.hid own2
  clear own2 n2 hl2 b0 b1 b2
  go_wp2_with fail
  go_loopw [11, 34] (fun y i wr => DriftI Bd n w2 y i wr) (fun _ i _ => n - (intOf i).toNat)
  case atStart => exact ⟨0, 0, by omega, rfl, rfl, zero_num.1, by rw [zero_num.2]; exact hBd, Nw.refl _⟩
  case round =>
    obtain ⟨k, g, hk, rfl, rfl, hg, hgb, hnw⟩ := hrel
    have Hg := Lib.hid hg
    have Hgb := Lib.hid hgb
    have Hnw := Lib.hid hnw
    clear hg hgb hnw
    by_cases hlt : k < n
    · obtain ⟨sm, r, hr, nr, hb⟩ := Hdiff.out k hlt
      have hsk : (ringS ms (inputOf xs) n)[k]? = some (outS (stAt ms (inputOf xs) (k + 1))) := by simp [ringS, hlt]
      have hdk : (ringD ms (inputOf xs) n)[k]? = some (outD (stDAt ms (inputOf xs) (k + 1))) := by simp [ringD, hlt]
      obtain ⟨g1, cap1, hv1, hcap1, hmax1, -, e1⟩ := own_sample (own_nw Own2.out Hnw.out) hsk (by simp [ringS])
      obtain ⟨g2, cap2, hv2, hcap2, hmax2, -, e2⟩ := own_f64 (own_nw OwnD.out Hnw.out) hdk (by simp [ringD])
      cases hv1
      cases hv2
      have a1 := fcv_up sm
      have a2 := fcd_up sm
      obtain ⟨hc, hb3⟩ := Calm.of hr
      have r64 : r < 2 ^ 64 := by have := floatBits_wf hr; simpa [Lit.wf] using this
      have hrun : ∀ w, (binOp .sub 49 (.float .f64 (outD (stDAt ms (inputOf xs) (k + 1)))) (.float .f64 (wid (outS (stAt ms (inputOf xs) (k + 1)))))).run Try.prog w = .ok (.float .f64 r) w := fun w => by
        rw [run_fl_sub, hc.res, hc.fdr, hb3]; rfl
      have Nr := Lib.hid nr
      have Hbr := Lib.hid hb
      unfold maxLen at hmax1 hmax2
      clear hsk hdk hc hb3 hr nr hb sm
      go_wp2_with fail
      go_quiet (first
        | (go_at_call 101; exact quiet_eq (abs_any _ _ r64)))
      have Habs := Lib.hid (abs_num r Nr.out)
      have Hnw3 := Lib.hid (Hnw.out.draw nq)
      go_wp2_with fail
      all_goals
        go_roundw
        case rel =>
          first
            | exact ⟨k + 1, r % signBit, by omega, by rw [show ((k + 1 : Nat) : Int) = (k : Int) + 1 from by omega], rfl, Habs.out.1, by rw [show Flo.W (r % signBit) = _ from Habs.out.2]; exact ra_le Hbr.out, Hnw3.out⟩
            | exact ⟨k + 1, g, by omega, by rw [show ((k + 1 : Nat) : Int) = (k : Int) + 1 from by omega], rfl, Hg.out, Hgb.out, Hnw3.out⟩
        case measure => simp only [intOf]; omega
    · go_wp2_with fail
      go_ret2
      exact ⟨g, rfl, Hg.out, Hgb.out, Hn2.out.trans Hnw.out⟩

end Go.Proofs.Ytlhhcchncobmhaa
