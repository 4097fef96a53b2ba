/- The walk of the model's LimitSamples; eqFloat32S of two rows that are the same but for the bits of NaN.
   Conditions: those that each statement names. -/
import Derived.Test.YtcodiiajmffdoaaLimS
import Derived.Test.YtcodiiajmffdoaaFls
namespace Go.Proofs.Ytcodiiajmffdoaa
open Go Go.RowKit

def LimIs (zs : List Nat) (c r n : Nat) (w : World) (v env i : Value) (wr : World) : Prop :=
  ∃ (k : Nat) (ys : List Nat) (e : Nat), k ≤ n ∧ i = .int .i64 (k : Int) ∧ env = .float .f32 e ∧ fab .f32 e = eA zs r k ∧ Good zs c r k ys ∧
    wr.ownsRow w.heap.size 25 1 v k (cellsS ys) ∧ Nw w wr

set_option maxRecDepth 100000 in
theorem specLimS_ok (zs : List Nat) (n b c r : Nat) (v : Value) (hl : zs.length = n) (hn : n ≤ 1048576) (h32 : ∀ z ∈ zs, z < 2 ^ 32) (hr : r < 2 ^ 32) (w : World) (h : w.ownsRow b 25 1 v n (cellsS zs)) :
    Calls Try.prog 43 #[v, .float .f32 c, .float .f32 r] w (LimP zs c r n w) := by
  obtain ⟨va, vc, rfl⟩ := own_shape' h
  obtain ⟨i0, hi, hz0, hz1, hz2⟩ := info_parts info_f32
  have H := Lib.hid h
  have Hl := Lib.hid hl
  clear h hl
  cases hlim : lim c r with
  | false =>
    go_enter Try.func43, Try.ntmps43
    go_wp2_with fail
    refine (l7Limits_any c r hr _).mono ?_
    rintro e w1 ⟨rfl, n1⟩
    rw [hlim]
    have N1 := Lib.hid n1
    clear n1
    go_wp2_with fail
    all_goals
      go_ret2
      exact lim_no hlim N1.out
  | true =>
    have Hlim := Lib.hid hlim
    go_enter Try.func43, Try.ntmps43
    go_wp2_with fail
    refine (l7Limits_any c r hr _).mono ?_
    rintro e w1 ⟨rfl, n1⟩
    rw [hlim]
    have N1 := Lib.hid n1
    clear n1 hlim
    go_wp2_with fail
    go_loopw [8, 9, 21] (fun v env i wr => LimIs zs c r n w v env i wr) (fun _ _ i _ => n - (intOf i).toNat)
    case atStart => exact ⟨0, [], 0, by omega, rfl, rfl, rfl, Good.nil _ _ _, World.ownsRow_lit (base := w.heap.size) (e := 25) (size := 1) w1 #[] 0 N1.out.size (by decide) rfl, N1.out.alloc _⟩
    case round =>
      obtain ⟨k, ys, e, hk, rfl, rfl, he, hg, how, hN⟩ := hrel
      obtain ⟨sa, sc, rfl⟩ := own_shape' how
      have Ow := Lib.hid how
      have Nr := Lib.hid hN
      have Hg := Lib.hid (And.intro he hg)
      clear he hg how hN
      by_cases hlt : k < n
      · obtain ⟨x, hxk⟩ : ∃ x, zs[k]? = some x := ⟨zs[k]'(by rw [Hl.out]; exact hlt), List.getElem?_eq_getElem _⟩
        obtain ⟨g1, cap1, hv1, hcap1, hmax1, -, e1⟩ := own_sample (own_nw H.out Nr.out) hxk Hl.out.symm
        cases hv1
        unfold maxLen at hmax1
        have Hx := Lib.hid (getD_at hxk)
        have x32 := h32 x (List.mem_of_getElem? hxk)
        clear hxk
        go_wp2_with fail
        refine (specLimit_ok e x c r x32 _).mono ?_
        rintro en w5 ⟨y, d, rfl, hy, hd, ly, ld, n5⟩
        have hy' : fab .f32 y = yA zs c r k := by rw [hy, Hg.out.1]; unfold yA; rw [Hx.out]
        have hd' : fab .f32 d = eA zs r (k + 1) := by rw [hd, Hg.out.1]; show _ = limE (eA zs r k) (zs.getD k 0) r; rw [Hx.out]
        have Hy := Lib.hid (And.intro (Hg.out.2.snoc hy' ly) hd')
        have Ow5 := Lib.hid (own_nw Ow.out n5)
        have N5 := Lib.hid (Nr.out.trans n5)
        clear hy hd hy' hd' n5 e1
        go_wp2_with (at_builtin; refine wpList_append_own _ rfl _ _ 23 rfl w.heap.size 25 i0 (.float .f32 0) 1 4 Try.underlying23 hi hz0 hz1 hz2 rfl (by decide) _ _ _ rfl (Ow5.out.alloc _) ⟨w5.heap.size, 0, none⟩ 1 1 [.float .f32 y] rfl rfl ?c1 ?c2 ?c3 ?c4 ?c5 ?_)
        case c1 =>
          intro j u hj
          match j, hj with
          | 0, hj => simp at hj; subst hj; simp [Addr.add]
        case c2 => intro u hu; simp at hu; subst hu; rfl
        case c3 => unfold maxLen; omega
        case c4 => omega
        case c5 => have := N5.out.size; simp; omega
        · intro v' w6 hown6 hgrow _
          have hrow : ∀ q, (Value.slice sa k sc).ownBlock = some q → w.heap.size ≤ q := fun q hq => own_ge Ow5.out q hq
          have N6 := Lib.hid ((N5.out.alloc (.cells #[.float .f32 y] 25 (0, 0))).grown hgrow hrow)
          have O6 := Lib.hid (show w6.ownsRow w.heap.size 25 1 v' (k + 1) (cellsS (ys ++ [y])) from by simpa [cellsS] using hown6)
          clear hown6 hgrow hrow
          go_wp2_with fail
          go_roundw
          case rel => exact ⟨k + 1, ys ++ [y], d, by omega, by rw [show ((k + 1 : Nat) : Int) = (k : Int) + 1 from by omega], rfl, Hy.out.2, Hy.out.1, O6.out, N6.out⟩
          case measure => simp only [intOf]; omega
      · obtain rfl : k = n := by omega
        go_wp2_with fail
        go_ret2
        refine ⟨_, ys, by rw [Hlim.out]; rfl, ?_, ?_, Nr.out⟩
        · rw [Hg.out.2.1]; exact Ow.out
        · unfold LimG; rw [Hlim.out]; exact Hg.out.2

/-! ### two rows -/
theorem sameF_s32 {s r : Nat} (h : fab .f32 s = fab .f32 r) (w1 w2 : World) : sameF (fcv w1 .f32 s .f64) (fcv w2 .f32 r .f64) = true := by
  refine sameF_fab ?_
  rw [fab_wide, fab_wide]
  unfold wA
  cases ha : nan32 s
  · cases hb : nan32 r
    · rw [fab_some ha, fab_some hb] at h; cases h; rfl
    · rw [fab_some ha, fab_none hb] at h; cases h
  · cases hb : nan32 r
    · rw [fab_none ha, fab_some hb] at h; cases h
    · rfl
def Alike (xs ys : List Nat) : Prop := xs.length = ys.length ∧ ∀ (k : Nat) x y, xs[k]? = some x → ys[k]? = some y → fab .f32 x = fab .f32 y
theorem limG_alike {zs xs ys : List Nat} {c r n : Nat} (h1 : LimG zs c r n xs) (h2 : LimG zs c r n ys) : Alike xs ys := by
  unfold LimG at h1 h2
  split at h1
  · rw [if_pos (by assumption)] at h2
    exact ⟨h1.1.trans h2.1.symm, fun k x y hx hy => (h1.2 k x hx).1.trans (h2.2 k y hy).1.symm⟩
  · rw [if_neg (by assumption)] at h2
    subst h1; subst h2
    exact ⟨rfl, fun k x y hx _ => by simp at hx⟩

set_option maxHeartbeats 6400000 in
set_option maxRecDepth 100000 in
theorem eqFloat32S_two (xs ys : List Nat) (n b1 b2 : Nat) (v u : Value) (ha : Alike xs ys) (hx : xs.length = n) (hn : n ≤ 1048576) (w : World) (h1 : w.ownsRow b1 25 1 v n (cellsS xs)) (h2 : w.ownsRow b2 25 1 u n (cellsS ys)) :
    Calls Try.prog 36 #[v, u] w fun e w' => e = .returned (.bool true) ∧ Nw w w' := by
  obtain ⟨va, vc, rfl⟩ := own_shape' h1
  obtain ⟨ua, uc, rfl⟩ := own_shape' h2
  have H1 := Lib.hid h1
  have H2 := Lib.hid h2
  have Hx := Lib.hid hx
  have Hy := Lib.hid (ha.1.symm.trans hx)
  have Ha := Lib.hid ha.2
  clear h1 h2 hx ha
  go_enter Try.func36, Try.ntmps36
  go_wp2_with fail
  go_loopw [5] (fun i wr => CountI n w i wr) (fun i _ => n - (intOf i).toNat)
  case atStart => exact ⟨0, by omega, rfl, Nw.refl _⟩
  case round =>
    obtain ⟨k, hk, rfl, hN⟩ := hrel
    have Nr := Lib.hid hN
    clear hN
    by_cases hlt : k < n
    · obtain ⟨x, hxk⟩ : ∃ x, xs[k]? = some x := ⟨xs[k]'(by rw [Hx.out]; exact hlt), List.getElem?_eq_getElem _⟩
      obtain ⟨y, hyk⟩ : ∃ y, ys[k]? = some y := ⟨ys[k]'(by rw [Hy.out]; exact hlt), List.getElem?_eq_getElem _⟩
      obtain ⟨g1, cap1, hv1, hcap1, hmax1, -, e1⟩ := own_sample (own_nw H1.out Nr.out) hxk Hx.out.symm
      obtain ⟨g2, cap2, hv2, hcap2, hmax2, -, e2⟩ := own_sample (own_nw H2.out Nr.out) hyk Hy.out.symm
      cases hv1
      cases hv2
      unfold maxLen at hmax1 hmax2
      have hxy := Lib.hid (Ha.out k x y hxk hyk)
      clear hxk hyk
      go_upto_region 6 with fail
      go_region_with (first | (go_at_call 38; refine (sameFloat_any _ _ _).mono ?_; rintro e w5 ⟨rfl, rfl⟩; rw [sameF_s32 hxy.out]))
      all_goals
        go_wp2_with fail
        go_roundw
        case rel => exact ⟨k + 1, by omega, by rw [show ((k + 1 : Nat) : Int) = (k : Int) + 1 from by omega], Nr.out.trans ⟨rfl, rfl, rfl, Nat.le_refl _, fun _ _ _ => rfl⟩⟩
        case measure => simp only [intOf]; omega
    · obtain rfl : k = n := by omega
      go_wp2_with fail
      go_ret
      exact ⟨rfl, Nr.out⟩

end Go.Proofs.Ytcodiiajmffdoaa
