/- The walk of CountStuck with the greatest grip: twelve, where the first eleven outputs are finite.
   Conditions: those that each statement names. -/
import Derived.Test.YtfgofmcpgfofaaaBowW
import Derived.Test.YtfgofmcpgfofaaaFit
namespace Go.Proofs.Ytfgofmcpgfofaaa
open Go Go.RowKit

def Good (ms : List M4) (x0 : Nat) : Prop := ∃ y, bowO ms x0 = some y ∧ Sm y
theorem sm_not_nan {y : Nat} (h : Sm y) : (FloatKind.f32.decode y).isNaN = false := by
  obtain ⟨s, m, i, h⟩ := h
  rw [show FloatKind.f32.decode y = _ from h]; rfl
theorem good_vel {ms : List M4} (hms : ∀ m ∈ ms, m.ok) (hl : ms.length ≤ 3) {x0 : Nat} (hx : Sm x0) (b0 : Flo.Ab (S x0) 9) {ys : List Nat} (h : BowY ms x0 12 ys) (hg : Good ms x0) (j y : Nat) (hj : j ≤ 10) (hy : ys[j]? = some y) : Sm y := by
  obtain ⟨-, h1, h2⟩ := h
  by_cases e : j = 10
  · subst e
    obtain ⟨z, hz, hf⟩ := h2 (by omega)
    obtain ⟨u, hu, hs⟩ := hg
    rw [hu] at hf
    rw [hy] at hz
    cases hz
    rw [fab_inj hf]; exact hs
  · rw [h1 j (by omega) (by omega)] at hy
    cases hy
    exact (bow_ok ms hms hl x0 hx b0 (j + 1) (by omega)).vel
theorem bad_fin {ms : List M4} {x0 : Nat} {ys : List Nat} (h : BowY ms x0 12 ys) (hg : ¬ Good ms x0) : ¬ ∀ z ∈ ys, Sm z := by
  intro hall
  obtain ⟨y, hy, hf⟩ := h.2.2 (by omega)
  have hs := hall y (List.mem_of_getElem? hy)
  rw [fab_some (sm_not_nan hs)] at hf
  exact hg ⟨y, hf.symm, hs⟩

theorem sticks_any (d : Nat) (h32 : d < 2 ^ 32) (w : World) :
    Calls Try.prog 90 #[.float .f32 d, .float .f32 2139095039] w fun e w' => (∃ sb, e = .returned (.bool sb) ∧ (Sm d → sb = true)) ∧ Nw w w' := by
  cases hd : nan32 d with
  | true =>
    refine (sticks_nan d _ hd h32 w).mono ?_
    rintro e w' ⟨rfl, hn⟩
    refine ⟨⟨_, rfl, fun hs => ?_⟩, hn⟩
    have := sm_not_nan hs
    unfold nan32 at hd
    rw [this] at hd; cases hd
  | false =>
    refine (sticks_wide d _ hd w).mono ?_
    rintro e w' ⟨rfl, rfl⟩
    exact ⟨⟨_, rfl, fun hs => stick_max d hs⟩, Nw.refl _⟩

def StuckI (G : Prop) (w : World) (c vel i : Value) (wr : World) : Prop :=
  ∃ k b n : Nat, k ≤ 12 ∧ i = .int .i64 (k : Int) ∧ vel = .float .f32 b ∧ c = .int .i64 (n : Int) ∧ n ≤ k ∧ (G → n = k) ∧ (G → k ≤ 11 → Sm b) ∧ Nw w wr

set_option maxRecDepth 100000 in
set_option maxHeartbeats 3200000 in
theorem countStuck_ok (ms : List M4) (hms : ∀ m ∈ ms, m.ok) (x0 : Nat) (hx : Sm x0) (hx8 : Flo.Ab (S x0) 9) (q bm : Nat) (v : Value) (hq : ms.length = q) (hq3 : q ≤ 3) (w : World)
    (hm : w.ownsRow bm 38 2 v q (cellsM ms)) :
    Calls Try.prog 44 #[.agg #[v], .float .f32 x0, .float .f32 2139095039, .int .i64 12] w fun e w' => (∃ n : Nat, e = .returned (.tuple #[.int .i64 (n : Int), .bool true]) ∧ (Good ms x0 → n = 12)) ∧ Nw w w' := by
  obtain ⟨va, vc, rfl⟩ := own_shape' hm
  have Hq := Lib.hid hq
  have Hx := Lib.hid (And.intro hx hx8)
  have Hl := Lib.hid (show ms.length ≤ 3 by omega)
  have Hn0 := Lib.hid ((Nw.refl w).alloc (.cells #[.slice va q vc] 45 (0, 0)))
  have Hm0 := Lib.hid (own_nw hm Hn0.out)
  clear hm hq hx hx8
  go_enter Try.func44, Try.ntmps44
  go_wp2_with fail
  refine (bowBody_ok ms hms x0 Hx.out.1 Hx.out.2 q bm _ Hq.out hq3 _ Hm0.out).mono ?_
  rintro e w1 ⟨g, ys, rfl, own1, hy, n1⟩
  have O1 := Lib.hid own1
  have Hy := Lib.hid hy
  have N1 := Lib.hid (Hn0.out.trans n1)
  have Hgv := Lib.hid (fun (hg : Good ms x0) (j y : Nat) (hj : j ≤ 10) (h : ys[j]? = some y) => good_vel hms Hl.out Hx.out.1 Hx.out.2 hy hg j y hj h)
  clear own1 hy n1
  go_wp2_with fail
  go_loopw [12, 13, 28] (fun c vel i wr => StuckI (Good ms x0) w1 c vel i wr) (fun _ _ i _ => 12 - (intOf i).toNat)
  case atStart => exact ⟨0, 0, 0, by omega, rfl, rfl, rfl, by omega, fun _ => rfl, fun _ _ => zero_single.1, Nw.refl _⟩
  case round =>
    obtain ⟨k, b, n, hk, rfl, rfl, rfl, hnk, hG1, hG2, hN⟩ := hrel
    have Nr := Lib.hid hN
    have HG1 := Lib.hid hG1
    have HG2 := Lib.hid hG2
    clear hN hG1 hG2
    by_cases hlt : k < 12
    · obtain ⟨y, hyk⟩ : ∃ y, ys[k]? = some y := ⟨ys[k]'(by rw [Hy.out.1]; exact hlt), List.getElem?_eq_getElem _⟩
      obtain ⟨g1, cap1, hv1, hcap1, hmax1, -, e1⟩ := own_sample (own_nw O1.out Nr.out) hyk Hy.out.1.symm
      cases hv1
      have Hyk := Lib.hid hyk
      clear hyk hcap1 hmax1
      go_wp2_with fail
      refine (sticks_any _ (fres_wf wr .sub .f32 x0 b) _).mono ?_
      rintro e w2 ⟨⟨sb, rfl, hsb⟩, n2⟩
      have Hsb := Lib.hid (show Good ms x0 → sb = true from fun hG => by
        obtain ⟨c, hs⟩ := fit_sub x0 b Hx.out.1 (HG2.out hG (by omega)) Hx.out.2
        exact hsb (by rw [c.res]; exact hs))
      have N2 := Lib.hid (Nr.out.trans (((Nw.refl _).draw _).trans n2))
      have Hb2 := Lib.hid (show Good ms x0 → k + 1 ≤ 11 → Sm y from fun hG h => Hgv.out hG k y (by omega) Hyk.out)
      clear hsb n2
      cases hs : sb with
      | true =>
        subst hs
        go_wp2_with fail
        go_roundw
        case rel => exact ⟨k + 1, y, n + 1, by omega, by rw [show ((k + 1 : Nat) : Int) = (k : Int) + 1 from by omega], rfl, by rw [show ((n + 1 : Nat) : Int) = (n : Int) + 1 from by omega], by omega, fun h => by rw [HG1.out h], Hb2.out, N2.out⟩
        case measure => simp only [intOf]; omega
      | false =>
        subst hs
        go_wp2_with fail
        go_roundw
        case rel => exact ⟨k + 1, y, n, by omega, by rw [show ((k + 1 : Nat) : Int) = (k : Int) + 1 from by omega], rfl, rfl, by omega, (fun h => by have := Hsb.out h; simp at this), Hb2.out, N2.out⟩
        case measure => simp only [intOf]; omega
    · obtain rfl : k = 12 := by omega
      go_wp2_with fail
      go_ret2
      exact ⟨⟨n, rfl, HG1.out⟩, N1.out.trans Nr.out⟩

end Go.Proofs.Ytfgofmcpgfofaaa
