/- Events and bodies that are drawn are valid: isEvent, areBodies, areEvents.
   Conditions: those that each statement names. -/
import Derived.Test.YtcodiiajmffdoaaScoQ
import Derived.Test.YtcodiiajmffdoaaStrike
import Derived.Test.YtcodiiajmffdoaaLimit
import Derived.Test.YtcodiiajmffdoaaLev
import Derived.Test.YtcodiiajmffdoaaRingB
namespace Go.Proofs.Ytcodiiajmffdoaa
open Go Go.RowKit

theorem wid_sign0 : decide (2 ^ 63 ≤ wid 0) = false := by rw [wid_zero]; decide
theorem feq_zero : feq 0 0 = true := by decide
theorem HasC.drew1 {w : World} {b : Nat} {cs : List Value} (h : HasC w b cs) : HasC w.drew b cs := h.draw 1

set_option maxHeartbeats 1600000 in
theorem isEvent_ok (L nb : Nat) (hL : L ≤ 2000) (e : Ev6) (h : e.ok L nb) (w : World) :
    Calls Try.prog 118 #[.agg #[.int .i64 e.t, .int .i64 e.k, .int .i64 e.b, .int .i64 e.s, .int .i64 e.m, .float .f32 e.f], .int .i64 (nb : Int)] w (TestP true w) := by
  obtain ⟨t, k, b, s, m, f⟩ := e
  obtain ⟨t0, t1, b0, b1, hk⟩ := h
  simp only at t0 t1 b0 b1 hk ⊢
  obtain ⟨t, rfl⟩ : ∃ n : Nat, t = n := ⟨t.toNat, by omega⟩
  have q1 := eql_event
  have X := Lib.hid (HasC.new w 57 (.int .i64 t) (.int .i64 k) (.int .i64 b) (.int .i64 s) (.int .i64 m) (.float .f32 f))
  have N := Lib.hid ((Nw.refl w).alloc (.cells #[.int .i64 (t : Int), .int .i64 k, .int .i64 b, .int .i64 s, .int .i64 m, .float .f32 f] 57 (0, 0)))
  have b0' : ¬ b < 0 := by omega
  have b1' : ¬ b ≥ (nb : Int) := by omega
  rcases hk with ⟨rfl, s0, s1, m0, m1, hf⟩ | ⟨rfl, rfl, rfl, hf⟩ | ⟨rfl, rfl, rfl, rfl⟩
  · obtain ⟨s, rfl⟩ : ∃ n : Nat, s = n := ⟨s.toNat, by omega⟩
    obtain ⟨m, rfl⟩ : ∃ n : Nat, m = n := ⟨m.toNat, by omega⟩
    have a1 := fcv_wide (sm_nn hf)
    have a2 := fcd_wide (sm_nn hf)
    have a3 : fin .f64 (wid f) = true := fin_wid hf
    clear q1
    go_enter Try.func118, Try.ntmps118
    go_wp2_with (go_at_call 65; refine (isSteps_ok t (by omega) _).mono ?_; rintro e w1 ⟨rfl, rfl⟩)
    refine (strikeShape_ok s m (by omega) (by omega) (by omega) _).mono ?_
    rintro e w2 ⟨g, rfl, own2, n2⟩
    have N2 := Lib.hid (N.out.trans n2)
    obtain ⟨⟨e0, g0⟩, ⟨e1, g1⟩, ⟨e2, g2⟩, ⟨e3, g3⟩, ⟨e4, g4⟩, ⟨e5, g5⟩⟩ := six_at (X.out.nw n2)
    clear own2 n2
    go_wp2_with (go_at_call 85; refine (isFinitePart_any _ _ (wid_lt f)).mono ?_; rintro e w3 ⟨rfl, rfl⟩; rw [a3])
    go_ret
    exact ⟨rfl, N2.out⟩
  · have hf0 := feq_self hf.1
    have hg : (ge0 f && le1 f) = true := by rw [Bool.and_eq_true]; exact ⟨hf.2.1, hf.2.2⟩
    have hq : Ev6.eqB ⟨(t : Int), 2, b, 0, 0, f⟩ ⟨(t : Int), 2, b, 0, 0, f⟩ = true := Ev6.eqB_self hf.1
    go_enter Try.func118, Try.ntmps118
    go_wp2_with (first
      | (go_at_call 65; refine (isSteps_ok t (by omega) _).mono ?_; rintro e w1 ⟨rfl, rfl⟩)
      | (go_at_call 103; refine (isFactor_any _ _).mono ?_; rintro e w1 ⟨rfl, rfl⟩; rw [hg]))
    all_goals
      go_ret
      exact ⟨rfl, N.out⟩
  · have hq : Ev6.eqB ⟨(t : Int), 3, b, 0, 0, 0⟩ ⟨(t : Int), 3, b, 0, 0, 0⟩ = true := by
      unfold Ev6.eqB
      simp [feq_zero]
    have a1 : ∀ w, fcv w .f32 0 .f64 = 0 := fun w => by rw [fcv_wide (by decide)]; exact wid_zero
    have a2 : fcd .f32 0 .f64 = 0 := fcd_wide (by decide)
    go_enter Try.func118, Try.ntmps118
    go_wp2_with (first
      | (go_at_call 65; refine (isSteps_ok t (by omega) _).mono ?_; rintro e w1 ⟨rfl, rfl⟩)
      | (go_at_call 104; refine (signbit_any 0 (by decide) _).mono ?_; rintro e w1 ⟨rfl, rfl⟩; rw [show decide (2 ^ 63 ≤ 0) = false from rfl]))
    all_goals
      go_ret
      exact ⟨rfl, N.out⟩

def AreI (n : Nat) (w : World) (i : Value) (wr : World) : Prop := ∃ k : Nat, k ≤ n ∧ i = .int .i64 (k : Int) ∧ Nw w wr

theorem areBodies_ok (bs : List (List M4)) (base n : Nat) (sv : Value) (w : World) (hn : n = bs.length) (hn3 : n ≤ 8) (h : BodsR w base sv bs) (hok : ∀ ms ∈ bs, ms.length ≤ 4 ∧ ∀ m ∈ ms, m.ok) :
    Calls Try.prog 107 #[sv] w (TestP true w) := by
  obtain ⟨sa, sc, rfl⟩ := h.shape
  rw [← hn]
  rw [← hn] at h
  have Hb := Lib.hid h
  have Hok := Lib.hid hok
  have Hn := Lib.hid hn
  clear h hok hn
  go_enter Try.func107, Try.ntmps107
  go_wp2_with fail
  go_loopw [10] (fun i wr => AreI n w i wr) (fun i _ => n - (intOf i).toNat)
  case atStart => exact ⟨0, by omega, rfl, Nw.refl w⟩
  case round =>
    obtain ⟨k, hk, rfl, hnw⟩ := hrel
    have Hnw := Lib.hid hnw
    clear hnw
    by_cases hlt : k < n
    · obtain ⟨ms, hmk⟩ : ∃ ms, bs[k]? = some ms := ⟨bs[k]'(by rw [← Hn.out]; exact hlt), List.getElem?_eq_getElem _⟩
      obtain ⟨g, cap, a, c, hv, hcap, hmax, hgs, e1, own⟩ := (Hb.out.nw Hnw.out).at Hn.out hmk
      cases hv
      have Hmo := Lib.hid (Hok.out ms (List.mem_of_getElem? hmk))
      have Own := Lib.hid (own.alloc (.cells #[.slice a ms.length c] 118 (0, 0)))
      unfold maxLen at hmax
      clear own hmk
      have N4 := Lib.hid (Hnw.out.alloc (.cells #[.slice a ms.length c] 118 (0, 0)))
      go_wp2_with fail
      refine (implIsBody_ok ms Hmo.out.2 ms.length base _ rfl (by have := Hmo.out.1; omega) _ Own.out).mono ?_
      rintro e w5 ⟨rfl, n5⟩
      have N5 := Lib.hid (N4.out.trans n5)
      clear n5 e1
      go_wp2_with fail
      go_roundw
      case rel => exact ⟨k + 1, by omega, by rw [show ((k + 1 : Nat) : Int) = (k : Int) + 1 from by omega], N5.out⟩
      case measure => simp only [intOf]; omega
    · go_wp2_with fail
      go_ret
      exact ⟨rfl, Hnw.out⟩

/-- one event, read -/
theorem own_event {w : World} {base n : Nat} {v : Value} {es : List Ev6} (h : w.ownsRow base 57 6 v n (cellsE es)) (hn : es.length = n) {k : Nat} {e : Ev6} (hk : es[k]? = some e) :
    ∃ g cap, v = .slice (some ⟨g, 0, none⟩) n cap ∧ n ≤ cap ∧ cap ≤ maxLen ∧ g < w.heap.size ∧ w.cell? ⟨g, k * 6, none⟩ = some (.int .i64 e.t) ∧ w.cell? ⟨g, k * 6 + 1, none⟩ = some (.int .i64 e.k) ∧ w.cell? ⟨g, k * 6 + 2, none⟩ = some (.int .i64 e.b) ∧
      w.cell? ⟨g, k * 6 + 3, none⟩ = some (.int .i64 e.s) ∧ w.cell? ⟨g, k * 6 + 4, none⟩ = some (.int .i64 e.m) ∧ w.cell? ⟨g, k * 6 + 5, none⟩ = some (.float .f32 e.f) := by
  have hkn := (List.getElem?_eq_some_iff.1 hk).1
  rcases h.2 with ⟨_, h0⟩ | ⟨g, cap, cur, hv, hb, hg, hc, hm, hs, ht⟩
  · omega
  · subst hv
    have c : ∀ j, j < 6 → w.cell? ⟨g, k * 6 + j, none⟩ = e.cells[j]? := fun j hj => by
      have := h.cellAt (k * 6 + j) (by omega)
      rw [show k * 6 + j = 6 * k + j from by omega, cellsE_at es k j e hk hj, show 6 * k + j = k * 6 + j from by omega] at this
      exact this
    exact ⟨g, cap, rfl, by omega, hm, (h.lt g rfl).2, c 0 (by omega), c 1 (by omega), c 2 (by omega), c 3 (by omega), c 4 (by omega), c 5 (by omega)⟩

theorem areEvents_ok (es : List Ev6) (L nb base n : Nat) (hL : L ≤ 2000) (v : Value) (w : World) (hn : es.length = n) (hn3 : n ≤ 60) (h : w.ownsRow base 57 6 v n (cellsE es)) (hok : ∀ e ∈ es, e.ok L nb) :
    Calls Try.prog 108 #[v, .int .i64 (nb : Int)] w (TestP true w) := by
  obtain ⟨sa, sc, rfl⟩ := own_shape' h
  have Hb := Lib.hid h
  have Hok := Lib.hid hok
  have Hn := Lib.hid hn
  clear h hok hn
  go_enter Try.func108, Try.ntmps108
  go_wp2_with fail
  go_loopw [12] (fun i wr => AreI n w i wr) (fun i _ => n - (intOf i).toNat)
  case atStart => exact ⟨0, by omega, rfl, Nw.refl w⟩
  case round =>
    obtain ⟨k, hk, rfl, hnw⟩ := hrel
    have Hnw := Lib.hid hnw
    clear hnw
    by_cases hlt : k < n
    · obtain ⟨e, hek⟩ : ∃ e, es[k]? = some e := ⟨es[k]'(by rw [Hn.out]; exact hlt), List.getElem?_eq_getElem _⟩
      obtain ⟨g, cap, hv, hcap, hmax, hgs, c0, c1, c2, c3, c4, c5⟩ := own_event (own_nw Hb.out Hnw.out) Hn.out hek
      cases hv
      have Hmo := Lib.hid (Hok.out e (List.mem_of_getElem? hek))
      unfold maxLen at hmax
      clear hek
      have N4 := Lib.hid (Hnw.out.alloc (.cells #[.int .i64 e.t, .int .i64 e.k, .int .i64 e.b, .int .i64 e.s, .int .i64 e.m, .float .f32 e.f] 57 (0, 0)))
      go_wp2_with fail
      refine (isEvent_ok L nb hL e Hmo.out _).mono ?_
      rintro e5 w5 ⟨rfl, n5⟩
      have N5 := Lib.hid (N4.out.trans n5)
      clear n5 c0 c1 c2 c3 c4 c5
      go_wp2_with fail
      go_roundw
      case rel => exact ⟨k + 1, by omega, by rw [show ((k + 1 : Nat) : Int) = (k : Int) + 1 from by omega], N5.out⟩
      case measure => simp only [intOf]; omega
    · go_wp2_with fail
      go_ret
      exact ⟨rfl, Hnw.out⟩

end Go.Proofs.Ytcodiiajmffdoaa
