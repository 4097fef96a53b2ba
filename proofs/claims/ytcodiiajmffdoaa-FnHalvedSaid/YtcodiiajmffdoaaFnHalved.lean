/- The law FnHalved, proved: a half life is found from as many steps on as it has, and always the same one.
   Conditions: none beyond the statement's own. -/
import Derived.Test.YtcodiiajmffdoaaHalfS
import Derived.Test.YtcodiiajmffdoaaRow
import Derived.Test.YtcodiiajmffdoaaRows
namespace Go.Proofs.Ytcodiiajmffdoaa.fnHalved
open Go Go.RowKit
theorem half_same {m : M4} {M : Nat} {r r' : Int} {ok ok' : Bool} (h : HalfR m M r ok) (h' : HalfR m M r' ok') : ok = ok' := by
  rcases h with ⟨n, rfl, -, h1, h2, h3, -⟩ | ⟨rfl, h⟩
  · rcases h' with ⟨n', rfl, -⟩ | ⟨rfl, h'⟩
    · rfl
    · rw [h' n h1 h2] at h3; cases h3
  · rcases h' with ⟨n', rfl, -, h1, h2, h3, -⟩ | ⟨rfl, h'⟩
    · rw [h n' h1 h2] at h3; cases h3
    · rfl
theorem half_none {m : M4} {M k : Nat} {r r' : Int} {ok' : Bool} (h : HalfR m M r false) (hk : k ≤ M) (h' : HalfR m k r' ok') : ok' = false := by
  rcases h with ⟨n, he, -⟩ | ⟨-, h⟩
  · cases he
  · rcases h' with ⟨n', rfl, -, h1, h2, h3, -⟩ | ⟨rfl, -⟩
    · rw [h n' h1 (by omega)] at h3; cases h3
    · rfl
theorem half_found {m : M4} {M : Nat} {r : Int} (h : HalfR m M r true) : ∃ n : Nat, r = (n : Int) ∧ 1 ≤ n ∧ n ≤ M ∧ hitH m n = true ∧ ∀ j, 1 ≤ j → j < n → hitH m j = false := by
  rcases h with ⟨n, -, a, b, c, d, e⟩ | ⟨h, -⟩
  · exact ⟨n, a, b, c, d, e⟩
  · cases h
theorem half_again {m : M4} {n : Nat} {r : Int} {ok : Bool} (h1 : 1 ≤ n) (h : hitH m n = true) (hb : ∀ j, 1 ≤ j → j < n → hitH m j = false) (h' : HalfR m n r ok) : ok = true ∧ r = (n : Int) := by
  rcases h' with ⟨k, rfl, rfl, a, b, c, -⟩ | ⟨rfl, g⟩
  · refine ⟨rfl, ?_⟩
    by_cases e : k = n
    · rw [e]
    · rw [hb k a (by omega)] at c; cases c
  · rw [g n h1 (Nat.le_refl _)] at h; cases h
theorem half_less {m : M4} {n : Nat} {r : Int} {ok : Bool} (hb : ∀ j, 1 ≤ j → j < n → hitH m j = false) (h1 : 1 < n) (h' : HalfR m (n - 1) r ok) : ok = false := by
  rcases h' with ⟨k, rfl, rfl, a, b, c, -⟩ | ⟨rfl, g⟩
  · rw [hb k a (by omega)] at c; cases c
  · rfl
theorem bys_step {w w1 : World} {a : Option Addr} {len : Nat} (h : Bys w.heap.size a len w) (hb : Below w.heap.size w w1) : Bys w1.heap.size a len w1 := (h.below hb).mono hb.size
theorem halved_below {w w' : World} (hb : Nw w w') : Below w.heap.size w w' := ⟨hb.os, hb.tape, hb.output, hb.size, fun k hk => hb.block k hk (by simp)⟩
end Go.Proofs.Ytcodiiajmffdoaa.fnHalved
namespace Go.Proofs.Ytcodiiajmffdoaa.fnHalved
open Go.ChangeShapes Go.WideShapes Go.ChangeAt Go.RowKit
open Go.ChangeMaps (open_string shut_string)
set_option linter.unusedVariables false

theorem half_at (m : M4) (hm : m.ok) (z : Nat) (hz : z ≤ 255) (w : World) : Calls Try.prog 27 #[.agg #[.complex .f32 m.pr m.pi, .complex .f32 m.gr m.gi], .int .i64 (IntKind.i64.wrap (1 + (z : Int)))] w (HalfP m (1 + z) w) := by
  have hw : IntKind.i64.wrap (1 + (z : Int)) = 1 + (z : Int) := by
    simp only [IntKind.wrap, IntKind.bits, IntKind.signed]
    simp
    try split
    all_goals omega
  rw [hw]
  have h := implHalf_ok m hm (1 + z) (by omega) (by omega) w
  rw [show (((1 + z : Nat)) : Int) = 1 + (z : Int) from by omega] at h
  exact h
set_option maxHeartbeats 1000000 in
set_option maxRecDepth 100000 in
theorem walk (a0 : Option Addr) (len0 cap0 : Nat) (z0 : List Int) (w : World) (w0 : IsRow .u8 w a0 len0 cap0 z0) :
    Calls Try.prog 5 #[.slice a0 len0 cap0] w fun e w' => e = .returned (.bool true) ∧ Below w.heap.size w w' := by
  by_cases hl : len0 ≤ 1048576
  · have Hb := Lib.hid (bys_of_row w0 (by omega))
    clear w0
    go_enter Try.func5, Try.ntmps5
    go_wp2_with fail
    refine (makeMode_any _ _ _ _ Hb.out).mono ?_
    rintro e w1 ⟨pr, pi, gr, gi, rfl, hv1, n1⟩
    have Hm := Lib.hid (show (⟨pr, pi, gr, gi⟩ : M4).ok from hv1)
    have N1 := Lib.hid (n1.alloc (.cells #[.complex .f32 pr pi, .complex .f32 gr gi] 42 (0, 0)))
    have A1 := Lib.hid (HasMode.new w1 42 pr pi gr gi)
    obtain ⟨-, k0, k1, -, -⟩ := A1.out
    clear n1 hv1
    go_wp2_with fail
    refine (implHalf_ok ⟨pr, pi, gr, gi⟩ Hm.out 2000 (by omega) (by omega) _).mono ?_
    rintro e w2 ⟨r, ok, rfl, hr, n2⟩
    have N2 := Lib.hid (N1.out.trans n2)
    have A2 := Lib.hid (A1.out.nw n2)
    have Hr := Lib.hid hr
    clear k0 k1 n2 hr
    obtain ⟨-, k0, k1, -, -⟩ := A2.out
    go_wp2_with fail
    refine (specHalf_ok ⟨pr, pi, gr, gi⟩ Hm.out 2000 (by omega) (by omega) _).mono ?_
    rintro e w3 ⟨r', ok', rfl, hr', n3⟩
    have N3 := Lib.hid (N2.out.trans n3)
    have A3 := Lib.hid (A2.out.nw n3)
    obtain rfl := half_same Hr.out hr'
    clear k0 k1 n3 hr'
    obtain ⟨-, k0, k1, -, -⟩ := A3.out
    cases ok with
    | false =>
      have nd : Nw w w3.drew := N3.out.trans ⟨rfl, rfl, rfl, Nat.le_refl _, fun _ _ _ => rfl⟩
      have Nd := Lib.hid nd
      have Ha := Lib.hid (at_any a0 len0 cap0 1 hl (by omega) w3.drew (bys_step Hb.out (halved_below nd)))
      clear nd
      have Hh := Lib.hid (half_at ⟨pr, pi, gr, gi⟩ Hm.out)
      go_upto_region 9 with fail
      go_region_with (first
        | (go_at_call 29; go_loud (refine (Ha.out).mono ?_; rintro e w4 ⟨z, hz, rfl, rfl⟩))
        | (go_at_call 27; refine (Hh.out z hz _).mono ?_; rintro e w5 ⟨r5, ok5, rfl, hr5, n5⟩; obtain rfl := half_none Hr.out (by omega) hr5; have N5 := Lib.hid (Nd.out.trans n5); clear hr5 n5))
      all_goals
        go_wp2_with fail
        go_ret
        exact ⟨rfl, halved_below N5.out⟩
    | true =>
      obtain ⟨n, rfl, h1, h2, h3, h4⟩ := half_found Hr.out
      have H := Lib.hid (And.intro h3 h4)
      clear h3 h4
      go_wp2_with fail
      refine (implHalf_ok ⟨pr, pi, gr, gi⟩ Hm.out n h1 h2 _).mono ?_
      rintro e w5 ⟨r5, ok5, rfl, hr5, n5⟩
      obtain ⟨rfl, rfl⟩ := half_again h1 H.out.1 H.out.2 hr5
      have N5 := Lib.hid (N3.out.trans n5)
      have A5 := Lib.hid (A3.out.nw n5)
      clear k0 k1 n5 hr5
      obtain ⟨-, k0, k1, -, -⟩ := A5.out
      by_cases hn : 1 < n
      · have hc : ((n : Int) - 1) = ((n - 1 : Nat) : Int) := by omega
        go_wp2_with fail
        refine (implHalf_ok ⟨pr, pi, gr, gi⟩ Hm.out (n - 1) (by omega) (by omega) _).mono ?_
        rintro e w6 ⟨r6, ok6, rfl, hr6, n6⟩
        obtain rfl := half_less H.out.2 hn hr6
        have N6 := Lib.hid (N5.out.trans n6)
        clear k0 k1 n6 hr6
        go_wp2_with fail
        all_goals
          go_ret
          exact ⟨by simp, halved_below N6.out⟩
      · go_wp2_with fail
        all_goals
          go_ret
          exact ⟨by simp, halved_below N5.out⟩
  · clear w0
    go_enter Try.func5, Try.ntmps5
    go_wp2
    go_ret
    exact ⟨rfl, Below.refl _ _⟩

/-! ### THE ROW's STEP: WRITTEN OUT: LEAVE IT -/
set_option maxRecDepth 100000 in
theorem lifted (os : Os) (started : os.Started) (H : Type) (enc : TypeId × Value → H) :
    ReturnsInHanded {} Try.checked os 5 .any (Rows.fnHalvedSpec.pre6 enc Try.prog Try.f5 Rows.fnHalvedRow.domain false) (Rows.fnHalvedSpec.post enc Try.prog Try.f5 false true false false) := by
  refine returnsInHanded_of_change (C := Try.checked) own started (by kernel_rfl) Try.func5
    (ChangeSpec.witness6 (enc := enc) (C := Try.checked) false ⟨#[], #[.slice none 0 0], []⟩ 8 (by kernel_rfl) (by kernel_rfl) (by kernel_rfl) (by kernel_rfl)) ?_
  intro W base args ds gs before hval0 hW hcnd _
  have hval : ∀ (j : Nat) t v, Try.f5.params[j]? = some t → args[j]? = some v → Value.okWide Try.prog W .any base t v := hval0
  have hW' := hW
  obtain ⟨p, q, hA0, hV, rfl, hfz, hnd⟩ := hW
  have hA : DataW.TrodAll enc Try.prog W 0 (fun _ => true) true Try.f5.params.toList args.toList ds p := hA0
  rw [Try.params5] at hA hval
  obtain ⟨v0, vs0, d0, ds0, p0, q0, hargs, rfl, rfl, h0, r0⟩ := trodAll_cons hA
  obtain ⟨rfl, rfl, rfl⟩ := trodAll_nil r0
  obtain rfl : args = #[v0] := by cases args; simp_all
  obtain ⟨rfl, rfl⟩ := trodVars_none hV
  obtain ⟨a0, len0, cap0, rfl⟩ := okWide_slice Try.underlying22 (hval 0 22 v0 rfl rfl)
  have k0 := h0
  have lt0 : ∀ x ∈ p0, x.block < W.heap.size := by obtain ⟨m, hm⟩ := k0; exact DataW.trod_lt m _ _ _ hm
  obtain ⟨z0, w0⟩ : ∃ zs, IsRow .u8 W a0 len0 cap0 zs := by
    obtain ⟨fuel, hf⟩ := h0
    rcases open_ints Try.underlying22 Try.underlying5 (by kernel_rfl) hf with ⟨hcs, _⟩ | ⟨x, l, c, zs, hcs, _, hl, hm, hz, _, hcell, hwz⟩
    · simp [Value.cells] at hcs
      obtain ⟨rfl, rfl, rfl⟩ := hcs
      exact ⟨[], .inl ⟨rfl, rfl, rfl, rfl⟩⟩
    · simp [Value.cells] at hcs
      obtain ⟨rfl, rfl, rfl⟩ := hcs
      exact ⟨zs, .inr ⟨_, rfl, hl, hm, by simpa using hz, hcell, hwz⟩⟩
  clear hA0 hval0
  refine (walk a0 len0 cap0 z0 W w0).mono fun e W' ⟨he, bel⟩ => ?_
  subst he
  exact ⟨_, rfl, _, _, _, [], _, [], hW', trodAll_mk1 (shut_bool Try.underlying4 _), (trodAll_cons_mk (Below.trod laidOut (by kernel_rfl) (of_decide_eq_true (by kernel_rfl)) k0 bel lt0) trodAll_mk0), rfl, bel.frame _, fun h => by cases h⟩

theorem over : Rows.fnHalvedRow.holds Try.pinned (OpenSpec.ofChange Rows.fnHalvedSpec) :=
  OpenClaim.holds_of_wide 5 Try.f5 rfl rfl rfl rfl rfl rfl rfl ⟨rfl, rfl, rfl, rfl, rfl⟩ rfl rfl rfl rfl rfl (by kernel_rfl) Try.func5 (by kernel_rfl)
    (of_decide_eq_true (by kernel_rfl)) (by unfold Func.isWrapper; first | (rw [if_pos (by decide +kernel)]; kernel_rfl) | (rw [if_neg (by decide +kernel)]; exact ⟨rfl, rfl⟩))
    (fun os started H enc _ => lifted os started H enc)

/-- ████ THE STATEMENT ████ -/
theorem proved : Rows.FnHalvedSaid := over
#print axioms proved
end Go.Proofs.Ytcodiiajmffdoaa.fnHalved

