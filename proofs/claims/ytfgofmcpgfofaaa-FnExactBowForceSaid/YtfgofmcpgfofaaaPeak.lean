/- The law FnExactPeakOf, proved: for every slice of samples PeakOf answers as its model does, and leaves it as it was.
   Conditions: none beyond the statement's own. -/
import Derived.Test.YtfgofmcpgfofaaaFls
import Derived.Test.YtfgofmcpgfofaaaAbs
import Derived.Test.YtfgofmcpgfofaaaRows
namespace Go.Proofs.Ytfgofmcpgfofaaa
open Go Go.RowKit

/-- the greatest absolute value so far, as the model has it -/
def pk1 (b x : Nat) : Nat := if nan32 x then b else if FloatKind.f64.format.order (labs (wid x)) b == some .gt then labs (wid x) else b
def pkB (zs : List Nat) : Nat := zs.foldl pk1 0
theorem pkB_take (zs : List Nat) (k x : Nat) (h : zs[k]? = some x) : pkB (zs.take (k + 1)) = pk1 (pkB (zs.take k)) x := by
  obtain ⟨hk, he⟩ := List.getElem?_eq_some_iff.1 h
  unfold pkB
  rw [List.take_succ_eq_append_getElem hk, List.foldl_append, he]; rfl
theorem pk1_nan {b x : Nat} (h : nan32 x = true) : pk1 b x = b := by unfold pk1; rw [h]; rfl
theorem pk1_up {b x : Nat} (h : nan32 x = false) (g : (FloatKind.f64.format.order (labs (wid x)) b == some .gt) = true) : pk1 b x = labs (wid x) := by unfold pk1; rw [h, g]; rfl
theorem pk1_stay {b x : Nat} (h : nan32 x = false) (g : (FloatKind.f64.format.order (labs (wid x)) b == some .gt) = false) : pk1 b x = b := by unfold pk1; rw [h, g]; rfl

def PkS (zs : List Nat) (n : Nat) (w : World) (y i : Value) (wr : World) : Prop :=
  ∃ k p : Nat, k ≤ n ∧ i = .int .i64 (k : Int) ∧ y = .float .f64 (pkB (zs.take k)) ∧ Tw p (pkB (zs.take k)) ∧ Nw w wr
def PkI (zs : List Nat) (n : Nat) (w : World) (y i : Value) (wr : World) : Prop :=
  ∃ k p : Nat, k ≤ n ∧ i = .int .i64 (k : Int) ∧ y = .float .f32 p ∧ Tw p (pkB (zs.take k)) ∧ Nw w wr
def PkP (zs : List Nat) (w : World) (e : Ending) (w' : World) : Prop := ∃ p, e = .returned (.float .f32 p) ∧ Tw p (pkB zs) ∧ Nw w w'

theorem tw_again {p b : Nat} (h : Tw p b) (w : World) : Tw (fcv w .f64 b .f32) b ∧ fcd .f64 b .f32 = 0 := by
  rcases h with ⟨m, i, n, j, h1, h2, h3⟩ | ⟨h1, h2⟩
  · exact tw_narrow h1 h2 h3.symm w
  · exact tw_narrow_inf h2 w

theorem implPeak_ok (zs : List Nat) (n b : Nat) (v : Value) (hl : zs.length = n) (hn : n ≤ 1048576) (h32 : ∀ z ∈ zs, nan32 z = true → z < 2 ^ 32) (w : World) (h : w.ownsRow b 49 1 v n (cellsS zs)) :
    Calls Try.prog 62 #[v] w (PkP zs w) := by
  obtain ⟨va, vc, rfl⟩ := own_shape' h
  have H := Lib.hid h
  have Hl := Lib.hid hl
  clear h hl
  go_enter Try.func62, Try.ntmps62
  go_wp2_with fail
  go_loopw [3, 9] (fun y i wr => PkI zs n w y i wr) (fun _ i _ => n - (intOf i).toNat)
  case atStart => exact ⟨0, 0, by omega, rfl, rfl, tw_zero, Nw.refl _⟩
  case round =>
    obtain ⟨k, p, hk, rfl, rfl, hp, hN⟩ := hrel
    have Hp := Lib.hid hp
    have Nr := Lib.hid hN
    clear hp hN
    by_cases hlt : k < n
    · obtain ⟨x, hxk⟩ : ∃ x, zs[k]? = some x := ⟨zs[k]'(by rw [Hl.out]; exact hlt), List.getElem?_eq_getElem _⟩
      obtain ⟨g1, cap1, hv1, hcap1, hmax1, -, e1⟩ := own_sample (own_nw H.out Nr.out) hxk Hl.out.symm
      cases hv1
      unfold maxLen at hmax1
      have Hxk := Lib.hid (pkB_take zs k x hxk)
      have hx32' := h32 x (List.mem_of_getElem? hxk)
      clear hxk
      cases hx : nan32 x with
      | true =>
        have Hx := Lib.hid hx
        go_wp2_with fail
        refine (implAbs_nan x hx (hx32' Hx.out) _).mono ?_
        rintro e w1 ⟨⟨q, rfl, hq⟩, n1⟩
        have hno := nan_order (k := .f32) hq p
        have N1 := Lib.hid (Nr.out.trans n1)
        clear n1 hq hx
        go_wp2_with fail
        go_roundw
        case rel => exact ⟨k + 1, p, by omega, by rw [show ((k + 1 : Nat) : Int) = (k : Int) + 1 from by omega], rfl, by rw [Hxk.out, pk1_nan Hx.out]; exact Hp.out, N1.out⟩
        case measure => simp only [intOf]; omega
      | false =>
        have Hx := Lib.hid hx
        go_wp2_with fail
        refine (implAbs_wide x hx _).mono ?_
        rintro e w1 ⟨⟨q, rfl, hq⟩, rfl⟩
        have Hq := Lib.hid hq
        have ho : FloatKind.f64.format.order (labs (wid x)) (pkB (zs.take k)) = FloatKind.f32.format.order q p := hq.order Hp.out
        have Ho := Lib.hid ho
        cases hgt : (FloatKind.f32.format.order q p == some .gt) with
        | true =>
          have Hg := Lib.hid hgt
          clear hq hx ho
          go_wp2_with fail
          go_roundw
          case rel => exact ⟨k + 1, q, by omega, by rw [show ((k + 1 : Nat) : Int) = (k : Int) + 1 from by omega], rfl, by rw [Hxk.out, pk1_up Hx.out (by rw [Ho.out]; exact Hg.out)]; exact Hq.out, Nr.out⟩
          case measure => simp only [intOf]; omega
        | false =>
          have Hg := Lib.hid hgt
          clear hq hx ho
          go_wp2_with fail
          go_roundw
          case rel => exact ⟨k + 1, p, by omega, by rw [show ((k + 1 : Nat) : Int) = (k : Int) + 1 from by omega], rfl, by rw [Hxk.out, pk1_stay Hx.out (by rw [Ho.out]; exact Hg.out)]; exact Hp.out, Nr.out⟩
          case measure => simp only [intOf]; omega
    · obtain rfl : k = n := by omega
      go_wp2_with fail
      go_ret
      exact ⟨p, rfl, by have h := Hp.out; rwa [List.take_of_length_le (by rw [Hl.out]; exact Nat.le_refl _)] at h, Nr.out⟩

theorem specPeak_ok (zs : List Nat) (n b : Nat) (v : Value) (hl : zs.length = n) (hn : n ≤ 1048576) (w : World) (h : w.ownsRow b 49 1 v n (cellsS zs)) :
    Calls Try.prog 61 #[v] w (PkP zs w) := by
  obtain ⟨va, vc, rfl⟩ := own_shape' h
  have H := Lib.hid h
  have Hl := Lib.hid hl
  clear h hl
  go_enter Try.func61, Try.ntmps61
  go_wp2_with fail
  go_loopw [3, 8] (fun y i wr => PkS zs n w y i wr) (fun _ i _ => n - (intOf i).toNat)
  case atStart => exact ⟨0, 0, by omega, rfl, rfl, tw_zero, Nw.refl _⟩
  case round =>
    obtain ⟨k, p, hk, rfl, rfl, hp, hN⟩ := hrel
    have Hp := Lib.hid hp
    have Nr := Lib.hid hN
    clear hp hN
    by_cases hlt : k < n
    · obtain ⟨x, hxk⟩ : ∃ x, zs[k]? = some x := ⟨zs[k]'(by rw [Hl.out]; exact hlt), List.getElem?_eq_getElem _⟩
      obtain ⟨g1, cap1, hv1, hcap1, hmax1, -, e1⟩ := own_sample (own_nw H.out Nr.out) hxk Hl.out.symm
      cases hv1
      unfold maxLen at hmax1
      have Hxk := Lib.hid (pkB_take zs k x hxk)
      clear hxk
      cases hx : nan32 x with
      | true =>
        have Hx := Lib.hid hx
        have hno : ∀ w b, (FloatKind.f64.format.order (labs (fcv w .f32 x .f64)) b == some .gt) = false := fun w b => by
          rw [nan_labs (nan_wide Hx.out w)]
          exact nan_order (k := .f64) (nan_wide Hx.out w) b
        clear hx
        go_wp2_with (go_at_call 66; refine (l1Abs_any _ _).mono ?_; rintro e w' ⟨rfl, rfl⟩)
        go_roundw
        case rel => exact ⟨k + 1, p, by omega, by rw [show ((k + 1 : Nat) : Int) = (k : Int) + 1 from by omega], by rw [Hxk.out, pk1_nan Hx.out], by rw [Hxk.out, pk1_nan Hx.out]; exact Hp.out, Nr.out.trans ⟨rfl, rfl, rfl, Nat.le_refl _, fun _ _ _ => rfl⟩⟩
        case measure => simp only [intOf]; omega
      | false =>
        have Hx := Lib.hid hx
        have a1 := fcv_wide hx
        have a2 := fcd_wide hx
        obtain ⟨q, hq⟩ : ∃ q, Tw q (labs (wid x)) := ⟨_, (tw_abs hx w).1⟩
        have Hq := Lib.hid hq
        clear hq
        cases hgt : (FloatKind.f64.format.order (labs (wid x)) (pkB (zs.take k)) == some .gt) with
        | true =>
          have Hg := Lib.hid hgt
          clear hx
          go_wp2_with (go_at_call 66; refine (l1Abs_any _ _).mono ?_; rintro e w' ⟨rfl, rfl⟩)
          go_roundw
          case rel => exact ⟨k + 1, q, by omega, by rw [show ((k + 1 : Nat) : Int) = (k : Int) + 1 from by omega], by rw [Hxk.out, pk1_up Hx.out Hg.out], by rw [Hxk.out, pk1_up Hx.out Hg.out]; exact Hq.out, Nr.out⟩
          case measure => simp only [intOf]; omega
        | false =>
          have Hg := Lib.hid hgt
          clear hx
          go_wp2_with (go_at_call 66; refine (l1Abs_any _ _).mono ?_; rintro e w' ⟨rfl, rfl⟩)
          go_roundw
          case rel => exact ⟨k + 1, p, by omega, by rw [show ((k + 1 : Nat) : Int) = (k : Int) + 1 from by omega], by rw [Hxk.out, pk1_stay Hx.out Hg.out], by rw [Hxk.out, pk1_stay Hx.out Hg.out]; exact Hp.out, Nr.out⟩
          case measure => simp only [intOf]; omega
    · obtain rfl : k = n := by omega
      have a2 := (tw_again Hp.out w).2
      go_wp2_with fail
      go_ret
      refine ⟨_, rfl, ?_, Nr.out.trans ⟨rfl, rfl, rfl, Nat.le_refl _, fun _ _ _ => rfl⟩⟩
      have h := (tw_again Hp.out wr).1
      rwa [List.take_of_length_le (by rw [Hl.out]; exact Nat.le_refl _)] at h ⊢

end Go.Proofs.Ytfgofmcpgfofaaa
namespace Go.Proofs.Ytfgofmcpgfofaaa.fnExactPeakOf
open Go.ChangeShapes Go.WideShapes Go.ChangeAt Go.RowKit
open Go.ChangeMaps (open_string shut_string)
set_option linter.unusedVariables false
theorem nw_below {w w' : World} (hb : Nw w w') : Below w.heap.size w w' := ⟨hb.os, hb.tape, hb.output, hb.size, fun k hk => hb.block k hk (by simp)⟩

theorem walk (a0 : Option Addr) (len0 cap0 : Nat) (w : World) (w0 : len0 ≤ 1048576 → ∃ zs, Fls w.heap.size a0 len0 zs w) :
    Calls Try.prog 14 #[.slice a0 len0 cap0] w fun e w' => e = .returned (.bool true) ∧ Below w.heap.size w w' := by
  by_cases hl : len0 ≤ 1048576
  · obtain ⟨zs, hf⟩ := w0 hl
    have Hf := Lib.hid hf
    have hlen := hf.1
    clear hf
    go_enter Try.func14, Try.ntmps14
    go_wp2_with fail
    refine (toFloat32S_ok _ a0 len0 cap0 zs hl _ (Nat.le_refl _) Hf.out).mono ?_
    rintro e w1 ⟨g1, rfl, own1, n1⟩
    go_wp2_with fail
    refine (specPeak_ok zs len0 _ _ hlen hl _ own1).mono ?_
    rintro e w2 ⟨s, rfl, hs, n2⟩
    go_wp2_with fail
    refine (toFloat32S_ok _ a0 len0 cap0 zs hl _ (n1.trans n2).size (Hf.out.nw (Nat.le_refl _) (n1.trans n2))).mono ?_
    rintro e w3 ⟨g3, rfl, own3, n3⟩
    go_wp2_with fail
    refine (implPeak_ok zs len0 _ _ hlen hl (fun z hz _ => Hf.out.2.1 z hz) _ own3).mono ?_
    rintro e w4 ⟨t, rfl, ht, n4⟩
    have d1 := fcd_wide ht.nan.1
    have d2 := fcd_wide hs.nan.1
    go_wp2_with fail
    refine (sameFloat_any _ _ _).mono ?_
    rintro e w5 ⟨rfl, rfl⟩
    rw [Tw.same ht hs]
    have N4 := Lib.hid (((n1.trans n2).trans n3).trans n4)
    have Own4 := Lib.hid (own_nw own3 n4)
    clear own1 own3 hs ht n1 n2 n3 n4
    go_wp2_with fail
    refine (toFloat32S_ok _ a0 len0 cap0 zs hl _ N4.out.size (Hf.out.nw (Nat.le_refl _) N4.out)).mono ?_
    rintro e w6 ⟨g6, rfl, own6, n6⟩
    have Own6 := Lib.hid own6
    have N6 := Lib.hid (N4.out.trans n6)
    have O6 := Lib.hid (own_nw Own4.out n6)
    clear own6 n6
    go_wp2_with fail
    refine (eqFloat32S_ok zs len0 _ _ _ _ hlen hl _ O6.out Own6.out).mono ?_
    rintro e w7 ⟨rfl, n7⟩
    have N7 := Lib.hid (N6.out.trans n7)
    clear n7
    go_wp2_with fail
    go_ret
    exact ⟨rfl, nw_below N7.out⟩
  · go_enter Try.func14, Try.ntmps14
    go_wp2
    go_ret
    exact ⟨rfl, Below.refl _ _⟩

/-! ### THE ROW's STEP: WRITTEN OUT: LEAVE IT -/
set_option maxRecDepth 100000 in
theorem lifted (os : Os) (started : os.Started) (H : Type) (enc : TypeId × Value → H) :
    ReturnsInHanded {} Try.checked os 14 .any (Rows.fnExactPeakOfSpec.pre6 enc Try.prog Try.f14 Rows.fnExactPeakOfRow.domain false) (Rows.fnExactPeakOfSpec.post enc Try.prog Try.f14 false true false false) := by
  refine returnsInHanded_of_change (C := Try.checked) own started (by kernel_rfl) Try.func14
    (ChangeSpec.witness6 (enc := enc) (C := Try.checked) false ⟨#[], #[.slice none 0 0], []⟩ 8 (by kernel_rfl) (by kernel_rfl) (by kernel_rfl) (by kernel_rfl)) ?_
  intro W base args ds gs before hval0 hW hcnd _
  have hval : ∀ (j : Nat) t v, Try.f14.params[j]? = some t → args[j]? = some v → Value.okWide Try.prog W .any base t v := hval0
  have hW' := hW
  obtain ⟨p, q, hA0, hV, rfl, hfz, hnd⟩ := hW
  have hA : DataW.TrodAll enc Try.prog W 0 (fun _ => true) true Try.f14.params.toList args.toList ds p := hA0
  rw [Try.params14] at hA hval
  obtain ⟨v0, vs0, d0, ds0, p0, q0, hargs, rfl, rfl, h0, r0⟩ := trodAll_cons hA
  obtain ⟨rfl, rfl, rfl⟩ := trodAll_nil r0
  obtain rfl : args = #[v0] := by cases args; simp_all
  obtain ⟨rfl, rfl⟩ := trodVars_none hV
  obtain ⟨a0, len0, cap0, rfl⟩ := okWide_slice Try.underlying47 (hval 0 47 v0 rfl rfl)
  have k0 := h0
  have lt0 : ∀ x ∈ p0, x.block < W.heap.size := by obtain ⟨m, hm⟩ := k0; exact DataW.trod_lt m _ _ _ hm
  have w0 : len0 ≤ 1048576 → ∃ zs, Fls W.heap.size a0 len0 zs W := by
    intro _
    obtain ⟨fuel, hf⟩ := h0
    rcases open_floats Try.underlying47 Try.underlying49 (by kernel_rfl) hf with hcs | ⟨x, l, c, hcs, hl, hm, hcell⟩
    · simp [Value.cells] at hcs
      obtain ⟨rfl, rfl, rfl⟩ := hcs
      exact ⟨[], rfl, fun z hz => by simp at hz, .inl rfl⟩
    · simp [Value.cells] at hcs
      obtain ⟨rfl, rfl, rfl⟩ := hcs
      exact fls_of hcell
  clear hA0 hval0
  refine (walk a0 len0 cap0 W w0).mono fun e W' ⟨he, bel⟩ => ?_
  subst he
  exact ⟨_, rfl, _, _, _, [], _, [], hW', trodAll_mk1 (shut_bool Try.underlying4 _), (trodAll_cons_mk (Below.trod laidOut (by kernel_rfl) (of_decide_eq_true (by kernel_rfl)) k0 bel lt0) trodAll_mk0), rfl, bel.frame _, fun h => by cases h⟩

theorem over : Rows.fnExactPeakOfRow.holds Try.pinned (OpenSpec.ofChange Rows.fnExactPeakOfSpec) :=
  OpenClaim.holds_of_wide 14 Try.f14 rfl rfl rfl rfl rfl rfl rfl ⟨rfl, rfl, rfl, rfl, rfl⟩ rfl rfl rfl rfl rfl (by kernel_rfl) Try.func14 (by kernel_rfl)
    (of_decide_eq_true (by kernel_rfl)) (by unfold Func.isWrapper; first | (rw [if_pos (by decide +kernel)]; kernel_rfl) | (rw [if_neg (by decide +kernel)]; exact ⟨rfl, rfl⟩))
    (fun os started H enc _ => lifted os started H enc)

/-- ████ THE STATEMENT ████ -/
theorem proved : Rows.FnExactPeakOfSaid := over
#print axioms proved
end Go.Proofs.Ytfgofmcpgfofaaa.fnExactPeakOf
