/- The walks of scaleSamples, StrikeBody and, where nothing is drawn, small.
   Conditions: those that each statement names. -/
import Derived.Test.YtfgofmcpgfofaaaStrike
namespace Go.Proofs.Ytfgofmcpgfofaaa
open Go Go.RowKit

def RowF (xs : List Nat) (n : Nat) (w : World) (e : Ending) (w' : World) : Prop :=
  ∃ v : Value, e = .returned v ∧ w'.ownsRow w.heap.size 49 1 v n (cellsS xs) ∧ Nw w w'
theorem scaled_eq (xs : List Nat) (n f : Nat) (h : xs.length = n) : (List.range n).map (fun k => opB .mul .f32 (inputOf xs k) f) = xs.map fun x => opB .mul .f32 x f := by
  subst h
  apply List.ext_getElem?
  intro i
  by_cases hi : i < xs.length
  · simp [hi, inputOf]
  · simp [hi]

set_option maxRecDepth 100000 in
theorem scaleSamples_ok (xs : List Nat) (n bi f : Nat) (v : Value) (hx : xs.length = n) (hn : n ≤ 1048576) (w : World)
    (hi : w.ownsRow bi 49 1 v n (cellsS xs)) (hc : ∀ x ∈ xs, Calm .mul .f32 x f) :
    Calls Try.prog 91 #[v, .float .f32 f] w (RowF (xs.map fun x => opB .mul .f32 x f) n w) := by
  obtain ⟨va, vc, rfl⟩ := own_shape' hi
  obtain ⟨f0, hf, hfz0, hfz1, hfz2⟩ := info_parts info_f32
  have Hi := Lib.hid hi
  have Hx := Lib.hid hx
  have Hc := Lib.hid hc
  clear hi hx hc
  go_enter Try.func91, Try.ntmps91
  go_wp2_with (first
    | (at_make; refine wpList_make_full _ rfl _ _ 47 rfl w.heap.size 49 f0 (.float .f32 0) 1 Try.underlying47 hf hfz0 hfz1 _ _ _ _ n rfl rfl rfl rfl (by rw [hfz2]; omega) (by unfold maxLen; omega) (Nat.le_refl _) ?_))
  intro w3 hown3 hgrow3
  have O3 := Lib.hid (show w3.ownsRow w.heap.size 49 1 (.slice (some ⟨w.heap.size, 0, none⟩) n n) n (cellsS (fillL (fun k => opB .mul .f32 (inputOf xs k) f) n 0)) from by
    rw [toList_madeCells_one] at hown3
    rw [fillL_zero]
    simpa [cellsS] using hown3)
  have N3 := Lib.hid (show Nw w w3 from hgrow3)
  clear hown3 hgrow3
  go_wp2_with fail
  go_loopw [13] (fun i wr => FillI w.heap.size w.heap.size n (fun k => opB .mul .f32 (inputOf xs k) f) w i wr) (fun i _ => n - (intOf i).toNat)
  case atStart => exact ⟨0, by omega, rfl, O3.out, N3.out⟩
  case round =>
    obtain ⟨k, hk, rfl, how, hnw⟩ := hrel
    have Ow := Lib.hid how
    have Nr := Lib.hid hnw
    clear how hnw
    by_cases hlt : k < n
    · obtain ⟨x, hxk⟩ : ∃ x, xs[k]? = some x := ⟨xs[k]'(by rw [Hx.out]; exact hlt), List.getElem?_eq_getElem _⟩
      obtain ⟨g, cap, hv, hcap, hmax, hgs, e0⟩ := own_sample (own_nw Hi.out Nr.out) hxk Hx.out.symm
      cases hv
      have hcx := Hc.out x (List.mem_of_getElem? hxk)
      have r1 := hcx.res
      have d1 := hcx.fdr
      have e1 := Ow.out.cellAt k (by omega)
      rw [fillL_cell _ n k hlt] at e1
      have e2 := Ow.out.frozenAt k
      have hset := Ow.out.stored k (.float .f32 (opB .mul .f32 (inputOf xs k) f))
      rw [fillL_set (fun k => opB .mul .f32 (inputOf xs k) f) n k hlt] at hset
      have hin : inputOf xs k = x := by unfold inputOf; rw [List.getD_eq_getElem?_getD, hxk]; rfl
      rw [hin] at hset
      have F := Lib.hid hset.1
      have N2 := Lib.hid (Nr.out.set (p := ⟨w.heap.size, k, none⟩) (by show w.heap.size ≤ w.heap.size; omega) (.float .f32 (opB .mul .f32 x f)))
      unfold maxLen at hmax
      clear hset hxk hcx hin
      go_wp2_with fail
      go_roundw
      case rel => exact ⟨k + 1, by omega, by rw [show ((k + 1 : Nat) : Int) = (k : Int) + 1 from by omega], F.out, N2.out⟩
      case measure => simp only [intOf]; omega
    · obtain rfl : k = n := by omega
      go_wp2_with fail
      go_ret
      exact ⟨_, rfl, by have h := Ow.out; rw [fillL_full, scaled_eq xs _ f Hx.out] at h; exact h, Nr.out⟩

set_option maxHeartbeats 3200000 in
theorem strikeBody_ok (ms : List M4) (hms : ∀ m ∈ ms, m.ok) (xs ys : List Nat) (p n q bm bi f : Nat) (v iv : Value) (hq : ms.length = q) (hq16 : q ≤ 16) (hp : xs.length = p) (hpl : p ≤ 1048576) (hn : n ≤ 2000) (w : World)
    (hm : w.ownsRow bm 38 2 v q (cellsM ms)) (hi : w.ownsRow bi 49 1 iv p (cellsS xs)) (hc : ∀ x ∈ xs, Calm .mul .f32 x f) (hys : (xs.map fun x => opB .mul .f32 x f) = ys) (hok : RingOk ms (inputOf ys) n) :
    Calls Try.prog 47 #[.agg #[v], iv, .float .f32 f, .int .i64 (n : Int)] w (RingP w.heap.size (ringS ms (inputOf ys) n) w) := by
  have hyl : ys.length = p := by rw [← hys, List.length_map, hp]
  obtain ⟨va, vc, rfl⟩ := own_shape' hm
  obtain ⟨ia, ic, rfl⟩ := own_shape' hi
  have Hs := Lib.hid (And.intro hq (And.intro hp (And.intro hc (And.intro hys hok))))
  have Hyl := Lib.hid hyl
  have Hbox := Lib.hid (Has1.new w 45 (.slice va q vc))
  have Hn0 := Lib.hid ((Nw.refl w).alloc (.cells #[.slice va q vc] 45 (0, 0)))
  have Hm0 := Lib.hid (own_nw hm Hn0.out)
  have Hi0 := Lib.hid (own_nw hi Hn0.out)
  have Hw0 := Lib.hid (show w.heap.size ≤ (w.alloc (.cells #[.slice va q vc] 45 (0, 0))).heap.size from by simp)
  clear hm hi hq hp hc hys hok hyl
  go_enter Try.func47, Try.ntmps47
  obtain ⟨b0, b1, b2⟩ := Hbox.out
  go_upto_region 1 with fail
  generalize w.alloc (.cells #[.slice va q vc] 45 (0, 0)) = w0 at *
  go_region_with (first
    | (go_at_call 91
       refine (scaleSamples_ok xs p bi f _ Hs.out.2.1 hpl _ Hi0.out.drew Hs.out.2.2.1).mono ?_
       rintro e w5 ⟨v5, rfl, own5, n5⟩
       obtain ⟨va5, vc5, rfl⟩ := own_shape' own5
       have N5 := Lib.hid (((Nw.refl w0).draw 1).trans n5)
       have O5 := Lib.hid own5
       obtain ⟨c0, c1, c2⟩ := Hbox.out.nw N5.out
       clear own5 n5)
    | (go_at_call 32
       refine (ringBody_ok' ms hms ys n q p bm _ _ _ Hs.out.1 hq16 Hyl.out hpl hn _ (own_nw Hm0.out N5.out) (by rw [← Hs.out.2.2.2.1]; exact O5.out) Hs.out.2.2.2.2).mono ?_
       rintro e w6 ⟨v6, rfl, own6, n6⟩
       have N6 := Lib.hid (N5.out.trans n6)
       have O6 := Lib.hid (own_base own6 (Nat.le_trans Hw0.out N5.out.size))
       clear own6 n6))
  all_goals
    go_wp2_with fail
    go_ret2
    exact ⟨v6, rfl, O6.out, Hn0.out.trans N6.out⟩

theorem small_calm (a b c d k : Nat) (w : World) (c1 : Calm .sub .f64 a c) (c2 : Calm .sub .f64 b d) (n1 : Flo.Nm (opB .sub .f64 a c)) (n2 : Flo.Nm (opB .sub .f64 b d)) :
    Calls Try.prog 18 #[.complex .f64 a b, .complex .f64 c d, .float .f64 k] w fun e w' => e = .returned (.bool (leB (szd (opB .sub .f64 a c) (opB .sub .f64 b d)) k)) ∧ ∃ n, w' = w.drewN n := by
  have l1 : opB .sub .f64 a c < 2 ^ 64 := by have := floatBits_wf c1; simpa [Lit.wf] using this
  have l2 : opB .sub .f64 b d < 2 ^ 64 := by have := floatBits_wf c2; simpa [Lit.wf] using this
  have r1 := c1.res
  have d1 := c1.fdr
  have r2 := c2.res
  have d2 := c2.fdr
  go_enter Try.func18, Try.ntmps18
  go_wp2_with (go_at_call 20; refine (sizeDouble_fin _ _ _ l1 l2 n1 n2).mono ?_; rintro e w' ⟨rfl, n, rfl⟩)
  all_goals (go_ret; exact ⟨rfl, _, rfl⟩)

end Go.Proofs.Ytfgofmcpgfofaaa
