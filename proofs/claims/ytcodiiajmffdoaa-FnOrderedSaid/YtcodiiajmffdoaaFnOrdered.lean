/- The law FnOrdered, proved: events are put in order, none is lost, and those of one time stay as they were.
   Conditions: none beyond the statement's own. -/
import Derived.Test.YtcodiiajmffdoaaScoM
import Derived.Test.YtcodiiajmffdoaaRow
import Derived.Test.YtcodiiajmffdoaaRows
namespace Go.Proofs.Ytcodiiajmffdoaa
open Go Go.RowKit

theorem cntE_le (l : List Ev6) (x : Int) (j k : Nat) (h : j ≤ k) : cntE l x j ≤ cntE l x k := by
  unfold cntE
  have : (l.take j).filter (fun e => e.t == x) = ((l.take k).take j).filter (fun e => e.t == x) := by rw [List.take_take, Nat.min_eq_left h]
  rw [this]
  exact (((List.take_sublist j (l.take k)).filter _)).length_le
/-- the place of an event of time x is not yet at the end -/
theorem not_end (es : List Ev6) (x : Int) (j kk n : Nat) (e : Ev6) (hn : es.length = n) (he : es[j]? = some e) (hx : e.t = x) (hc : cntE (ordE es) x kk = cntE es x j) (hk : kk ≤ n) : kk < n := by
  rcases Nat.lt_or_ge kk n with h | h
  · exact h
  · exfalso
    obtain rfl : kk = n := by omega
    have h1 : cntE (ordE es) x kk = cntE es x kk := by
      have a := cntE_all (ordE es) x
      have b := cntE_all es x
      rw [ordE_len, hn, ordE_filter] at a
      rw [hn] at b
      rw [a, b]
    have h2 := cntE_succ es x j e he
    rw [if_pos hx] at h2
    have hj := (List.getElem?_eq_some_iff.1 he).1
    have h3 := cntE_le es x (j + 1) kk (by omega)
    omega
theorem ev_sm {L nb : Nat} {e : Ev6} (h : e.ok L nb) : Sm e.f := by
  obtain ⟨-, -, -, -, ⟨_, _, _, _, _, hf⟩ | ⟨_, _, _, hf⟩ | ⟨_, _, _, hf⟩⟩ := h
  · exact hf
  · exact hf.1
  · rw [hf]; exact ⟨false, 0, -149, by decide⟩
theorem same_event (es : List Ev6) (x : Int) (j kk : Nat) (e p : Ev6) (he : es[j]? = some e) (hp : (ordE es)[kk]? = some p) (hx : e.t = x) (hy : p.t = x) (hc : cntE (ordE es) x kk = cntE es x j) : p = e := by
  have h1 := cntE_at es x j e he hx
  have h2 := cntE_at (ordE es) x kk p hp hy
  rw [ordE_filter, hc, h1] at h2
  cases h2; rfl

end Go.Proofs.Ytcodiiajmffdoaa
namespace Go.Proofs.Ytcodiiajmffdoaa.fnOrdered
open Go Go.ChangeShapes Go.WideShapes Go.ChangeAt Go.RowKit

theorem nw_below {w w' : World} (hb : Nw w w') : Below w.heap.size w w' := ⟨hb.os, hb.tape, hb.output, hb.size, fun k hk => hb.block k hk (by simp)⟩
def SortI (n : Nat) (w : World) (i : Value) (wr : World) : Prop := ∃ j : Nat, (j = 0 ∨ j < n) ∧ i = .int .i64 ((j : Int) + 1) ∧ Nw w wr
def TimeI (L : Nat) (w : World) (i : Value) (wr : World) : Prop := ∃ x : Nat, x ≤ L + 1 ∧ i = .int .i64 (x : Int) ∧ Nw w wr
def EachI (es : List Ev6) (x n : Nat) (w : World) (k i : Value) (wr : World) : Prop := ∃ j kk : Nat, j ≤ n ∧ kk ≤ n ∧ i = .int .i64 (j : Int) ∧ k = .int .i64 (kk : Int) ∧ cntE (ordE es) x kk = cntE es x j ∧ Nw w wr
def SeekI (es : List Ev6) (x n j : Nat) (w : World) (k : Value) (wr : World) : Prop := ∃ kk : Nat, kk ≤ n ∧ k = .int .i64 (kk : Int) ∧ cntE (ordE es) x kk = cntE es x j ∧ wr = w

set_option maxHeartbeats 3200000 in
set_option maxRecDepth 100000 in
theorem walk (a0 : Option Addr) (len0 cap0 : Nat) (z0 : List Int) (w : World) (w0 : IsRow .u8 w a0 len0 cap0 z0) :
    Calls Try.prog 7 #[.slice a0 len0 cap0] w fun e w' => e = .returned (.bool true) ∧ Below w.heap.size w w' := by
  by_cases hl : len0 ≤ 1048576
  · have Hb := Lib.hid (bys_of_row w0 (by omega))
    clear w0
    have q1 := neq_event
    go_enter Try.func7, Try.ntmps7
    go_wp2_with fail
    refine (makeScore_any _ _ _ 8 (by omega) (by omega) _ Hb.out).mono ?_
    rintro e w1 ⟨L, V, C, R, bs, es, sv, ev, rfl, hL, hsc, n1⟩
    obtain ⟨⟨sa, sc, rfl⟩, ea, ec, rfl⟩ := hsc.shape
    have X1 := Lib.hid (HasC.new w1 53 (.int .i64 (L : Int)) (.int .i64 (V : Int)) (.float .f32 C) (.float .f32 R) (.slice sa bs.length sc) (.slice ea es.length ec))
    have N1 := Lib.hid (n1.alloc (.cells #[.int .i64 (L : Int), .int .i64 (V : Int), .float .f32 C, .float .f32 R, .slice sa bs.length sc, .slice ea es.length ec] 53 (0, 0)))
    have S1 := Lib.hid (hsc.nw ((Nw.refl w1).alloc (.cells #[.int .i64 (L : Int), .int .i64 (V : Int), .float .f32 C, .float .f32 R, .slice sa bs.length sc, .slice ea es.length ec] 53 (0, 0))))
    clear n1 hsc
    go_wp2_with fail
    refine (orderEvents_ok _ L V C R bs es _ _ _ S1.out).mono ?_
    rintro e w3 ⟨v3, rfl, o3, n3⟩
    have N3 := Lib.hid (N1.out.trans n3)
    have S3 := Lib.hid (S1.out.nw n3)
    have X3 := Lib.hid (X1.out.nw n3)
    have O3 := Lib.hid o3
    rw [ordE_len] at o3
    obtain ⟨n, hn⟩ : ∃ n, n = es.length := ⟨_, rfl⟩
    rw [← hn] at o3 X3
    rw [← hn]
    obtain ⟨la, lc, rfl⟩ := own_shape' o3
    have O3 := Lib.hid o3
    have E3 := Lib.hid (show World.ownsRow w3 _ _ _ _ n _ from by have h5 := S3.out.evs; rwa [← hn] at h5)
    have Hn := Lib.hid hn.symm
    have hn13 : n ≤ 13 := by have := S3.out.he; omega
    clear o3 n3 hn S1 X1 N1
    obtain ⟨⟨e0, g0⟩, ⟨e1, g1⟩, ⟨e2, g2⟩, ⟨e3, g3⟩, ⟨e4, g4⟩, ⟨e5, g5⟩⟩ := six_at X3.out
    go_wp2_with fail
    go_loopw [5] (fun i wr => SortI n w3 i wr) (fun i _ => n + 1 - (intOf i).toNat)
    case atStart => exact ⟨0, .inl rfl, rfl, Nw.refl w3⟩
    case round =>
      obtain ⟨j, hj, rfl, hnw⟩ := hrel
      have Nr := Lib.hid hnw
      clear hnw e0 g0 e1 g1 e2 g2 e3 g3 e4 g4 e5 g5
      by_cases hlt : j + 1 < n
      · obtain ⟨p, hp⟩ : ∃ p, (ordE es)[j]? = some p := ⟨(ordE es)[j]'(by rw [ordE_len, Hn.out]; omega), List.getElem?_eq_getElem _⟩
        obtain ⟨q, hq⟩ : ∃ q, (ordE es)[j + 1]? = some q := ⟨(ordE es)[j + 1]'(by rw [ordE_len, Hn.out]; omega), List.getElem?_eq_getElem _⟩
        have hpq := ordE_sorted es j p q hp hq
        obtain ⟨g, cap, hv, hcap, hmax, hgs, c0, -⟩ := own_event (own_nw O3.out Nr.out) (by rw [ordE_len, Hn.out]) hp
        obtain ⟨g', cap', hv', -, -, -, d0, -⟩ := own_event (own_nw O3.out Nr.out) (by rw [ordE_len, Hn.out]) hq
        cases hv
        cases hv'
        unfold maxLen at hmax
        clear hp hq
        have hgt : ¬ q.t < p.t := by omega
        have hz : ((j : Int) + 1).toNat = j + 1 := by omega
        have hj1 : ((j : Int) + 1) < (n : Int) := by omega
        have hj0 : (0 : Int) ≤ (j : Int) + 1 := by omega
        go_wp2_with fail
        go_quiet (fail)
        go_wp2_with fail
        go_roundw
        case rel => exact ⟨j + 1, .inr hlt, by rw [show ((j + 1 : Nat) : Int) = (j : Int) + 1 from by omega], Nr.out.draw _⟩
        case measure => simp only [intOf]; omega
      · obtain ⟨⟨e0, g0⟩, ⟨e1, g1⟩, ⟨e2, g2⟩, ⟨e3, g3⟩, ⟨e4, g4⟩, ⟨e5, g5⟩⟩ := six_at (X3.out.nw Nr.out)
        have hj1 : ¬ ((j : Int) + 1) < (n : Int) := by omega
        go_wp2_with fail
        clear e0 g0 e1 g1 e2 g2 e3 g3 e4 g4 e5 g5
        go_loopw [6] (fun i wr => TimeI L w3 i wr) (fun i _ => L + 1 - (intOf i).toNat)
        case atStart => exact ⟨0, by omega, rfl, Nr.out⟩
        case round =>
          clear hj hj1 hlt Nr
          obtain ⟨x, hx, rfl, hnw⟩ := hrel
          have Nr := Lib.hid hnw
          clear hnw
          obtain ⟨⟨e0, g0⟩, ⟨e1, g1⟩, ⟨e2, g2⟩, ⟨e3, g3⟩, ⟨e4, g4⟩, ⟨e5, g5⟩⟩ := six_at (X3.out.nw Nr.out)
          by_cases hxL : x ≤ L
          · have hxi : (x : Int) ≤ (L : Int) := by omega
            go_wp2_with fail
            clear e0 g0 e1 g1 e2 g2 e3 g3 e4 g4 e5 g5
            go_loopw [7, 50] (fun k i wr => EachI es x n w3 k i wr) (fun _ i _ => n - (intOf i).toNat)
            case atStart => exact ⟨0, 0, by omega, by omega, rfl, rfl, rfl, Nr.out⟩
            case round =>
              clear Nr
              obtain ⟨j, kk, hj, hkk, rfl, rfl, hc, hnw⟩ := hrel
              obtain ⟨wo, hwo⟩ : ∃ wo, wo = wr := ⟨_, rfl⟩
              subst hwo
              have Nr := Lib.hid hnw
              have Hc := Lib.hid hc
              clear hnw hc
              by_cases hjn : j < n
              · obtain ⟨e, he⟩ : ∃ e, es[j]? = some e := ⟨es[j]'(by rw [Hn.out]; omega), List.getElem?_eq_getElem _⟩
                obtain ⟨g, cap, hv, hcap, hmax, hgs, c0, c1, c2, c3, c4, c5⟩ := own_event (own_nw E3.out Nr.out) Hn.out he
                cases hv
                unfold maxLen at hmax
                have He := Lib.hid he
                have hok := S3.out.eok e (List.mem_of_getElem? he)
                have B4 := Lib.hid (HasC.new wo 57 (.int .i64 e.t) (.int .i64 e.k) (.int .i64 e.b) (.int .i64 e.s) (.int .i64 e.m) (.float .f32 e.f))
                have N4 := Lib.hid (Nr.out.alloc (.cells #[.int .i64 e.t, .int .i64 e.k, .int .i64 e.b, .int .i64 e.s, .int .i64 e.m, .float .f32 e.f] 57 (0, 0)))
                have hji : (j : Int) < (n : Int) := by omega
                clear he
                by_cases het : e.t = (x : Int)
                · have hetb : (e.t == (x : Int)) = true := by simpa using het
                  have Het := Lib.hid het
                  clear het
                  go_wp2_with fail
                  clear c0 c1 c2 c3 c4 c5
                  go_loopw [7] (fun k wr => SeekI es x n j (wo.alloc (.cells #[.int .i64 e.t, .int .i64 e.k, .int .i64 e.b, .int .i64 e.s, .int .i64 e.m, .float .f32 e.f] 57 (0, 0))) k wr) (fun k _ => n - (intOf k).toNat)
                  case atStart => exact ⟨kk, hkk, rfl, Hc.out, rfl⟩
                  case round =>
                    clear Hc
                    obtain ⟨kp, hkp, rfl, hc, hwr⟩ := hrel
                    rw [← hwr] at B4 N4
                    have Hwr := Lib.hid hwr
                    clear hwr
                    have Hc := Lib.hid hc
                    have hlt := not_end es x j kp n e Hn.out He.out Het.out hc hkp
                    clear hc
                    obtain ⟨p, hp⟩ : ∃ p, (ordE es)[kp]? = some p := ⟨(ordE es)[kp]'(by rw [ordE_len, Hn.out]; omega), List.getElem?_eq_getElem _⟩
                    obtain ⟨g', cap', hv', hcap', hmax', hgs', d0, d1, d2, d3, d4, d5⟩ := own_event (own_nw O3.out N4.out) (by rw [ordE_len, Hn.out]) hp
                    cases hv'
                    unfold maxLen at hmax'
                    have Hp := Lib.hid hp
                    clear hp
                    have hkpi : (kp : Int) < (n : Int) := by omega
                    have hkpe : ((kp : Int) == (n : Int)) = false := by simp; omega
                    by_cases hpt : p.t = (x : Int)
                    · have hptb : (p.t == (x : Int)) = true := by simpa using hpt
                      have Hpt := Lib.hid hpt
                      clear hpt
                      obtain rfl := same_event es x j kp e p He.out Hp.out Het.out Hpt.out Hc.out
                      have hself : Ev6.eqB ⟨p.t, p.k, p.b, p.s, p.m, p.f⟩ ⟨p.t, p.k, p.b, p.s, p.m, p.f⟩ = true := Ev6.eqB_self (x := p) (ev_sm hok)
                      obtain ⟨⟨f0, h0⟩, ⟨f1, h1⟩, ⟨f2, h2⟩, ⟨f3, h3⟩, ⟨f4, h4⟩, ⟨f5, h5⟩⟩ := six_at B4.out
                      go_wp2_with fail
                      go_quiet (fail)
                      go_wp2_with fail
                      go_roundw
                      case rel => exact ⟨j + 1, kp + 1, by omega, by omega, by rw [show ((j + 1 : Nat) : Int) = (j : Int) + 1 from by omega], by rw [show ((kp + 1 : Nat) : Int) = (kp : Int) + 1 from by omega], by rw [cntE_succ es x j p He.out, if_pos Het.out, cntE_succ (ordE es) x kp p Hp.out, if_pos Het.out, Hc.out], N4.out.draw _⟩
                      case measure => simp only [intOf]; omega
                    · have hptb : (p.t == (x : Int)) = false := by simpa using hpt
                      go_wp2_with fail
                      go_roundw
                      case rel => exact ⟨kp + 1, by omega, by rw [show ((kp + 1 : Nat) : Int) = (kp : Int) + 1 from by omega], by rw [cntE_succ (ordE es) x kp p Hp.out, if_neg hpt]; exact Hc.out, Hwr.out⟩
                      case measure => simp only [intOf]; omega
                · have hetb : (e.t == (x : Int)) = false := by simpa using het
                  go_wp2_with fail
                  clear c0 c1 c2 c3 c4 c5
                  go_roundw
                  case rel => exact ⟨j + 1, kk, by omega, hkk, by rw [show ((j + 1 : Nat) : Int) = (j : Int) + 1 from by omega], rfl, by rw [cntE_succ es x j e He.out, if_neg het]; exact Hc.out, N4.out⟩
                  case measure => simp only [intOf]; omega
              · have hji : ¬ (j : Int) < (n : Int) := by omega
                go_wp2_with fail
                go_roundw
                case rel => exact ⟨x + 1, by omega, by rw [show ((x + 1 : Nat) : Int) = (x : Int) + 1 from by omega], Nr.out⟩
                case measure => simp only [intOf]; omega
          · have hxi : ¬ (x : Int) ≤ (L : Int) := by omega
            go_wp2_with fail
            go_ret
            exact ⟨rfl, nw_below (N3.out.trans Nr.out)⟩
  · clear w0
    go_enter Try.func7, Try.ntmps7
    go_wp2
    go_ret
    exact ⟨rfl, Below.refl _ _⟩

/-! ### THE ROW's STEP: WRITTEN OUT: LEAVE IT -/
set_option maxRecDepth 100000 in
theorem lifted (os : Os) (started : os.Started) (H : Type) (enc : TypeId × Value → H) :
    ReturnsInHanded {} Try.checked os 7 .any (Rows.fnOrderedSpec.pre6 enc Try.prog Try.f7 Rows.fnOrderedRow.domain false) (Rows.fnOrderedSpec.post enc Try.prog Try.f7 false true false false) := by
  refine returnsInHanded_of_change (C := Try.checked) own started (by kernel_rfl) Try.func7
    (ChangeSpec.witness6 (enc := enc) (C := Try.checked) false ⟨#[], #[.slice none 0 0], []⟩ 8 (by kernel_rfl) (by kernel_rfl) (by kernel_rfl) (by kernel_rfl)) ?_
  intro W base args ds gs before hval0 hW hcnd _
  have hval : ∀ (j : Nat) t v, Try.f7.params[j]? = some t → args[j]? = some v → Value.okWide Try.prog W .any base t v := hval0
  have hW' := hW
  obtain ⟨p, q, hA0, hV, rfl, hfz, hnd⟩ := hW
  have hA : DataW.TrodAll enc Try.prog W 0 (fun _ => true) true Try.f7.params.toList args.toList ds p := hA0
  rw [Try.params7] at hA hval
  obtain ⟨v0, vs0, d0, ds0, p0, q0, hargs, rfl, rfl, h0, r0⟩ := trodAll_cons hA
  obtain ⟨rfl, rfl, rfl⟩ := trodAll_nil r0
  obtain rfl : args = #[v0] := by cases args; simp_all
  obtain ⟨rfl, rfl⟩ := trodVars_none hV
  obtain ⟨a0, len0, cap0, rfl⟩ := okWide_slice Try.underlying22 (hval 0 22 v0 rfl rfl)
  have k0 := h0
  have lt0 : ∀ x ∈ p0, x.block < W.heap.size := by obtain ⟨m, hm⟩ := k0; exact DataW.trod_lt m _ _ _ hm
  obtain ⟨z0, w0⟩ : ∃ zs, IsRow .u8 W a0 len0 cap0 zs := by
    obtain ⟨fuel, hf⟩ := h0
    rcases open_ints Try.underlying22 Try.underlying5 (by kernel_rfl) hf with ⟨hcs, _⟩ | ⟨x, l, c, zs, hcs, _, hl, hm, hz, _, hcell, hwz⟩
    · simp [Value.cells] at hcs
      obtain ⟨rfl, rfl, rfl⟩ := hcs
      exact ⟨[], .inl ⟨rfl, rfl, rfl, rfl⟩⟩
    · simp [Value.cells] at hcs
      obtain ⟨rfl, rfl, rfl⟩ := hcs
      exact ⟨zs, .inr ⟨_, rfl, hl, hm, by simpa using hz, hcell, hwz⟩⟩
  clear hA0 hval0
  refine (walk a0 len0 cap0 z0 W w0).mono fun e W' ⟨he, bel⟩ => ?_
  subst he
  exact ⟨_, rfl, _, _, _, [], _, [], hW', trodAll_mk1 (shut_bool Try.underlying4 _), (trodAll_cons_mk (Below.trod laidOut (by kernel_rfl) (of_decide_eq_true (by kernel_rfl)) k0 bel lt0) trodAll_mk0), rfl, bel.frame _, fun h => by cases h⟩

theorem over : Rows.fnOrderedRow.holds Try.pinned (OpenSpec.ofChange Rows.fnOrderedSpec) :=
  OpenClaim.holds_of_wide 7 Try.f7 rfl rfl rfl rfl rfl rfl rfl ⟨rfl, rfl, rfl, rfl, rfl⟩ rfl rfl rfl rfl rfl (by kernel_rfl) Try.func7 (by kernel_rfl)
    (of_decide_eq_true (by kernel_rfl)) (by unfold Func.isWrapper; first | (rw [if_pos (by decide +kernel)]; kernel_rfl) | (rw [if_neg (by decide +kernel)]; exact ⟨rfl, rfl⟩))
    (fun os started H enc _ => lifted os started H enc)

/-- ████ THE STATEMENT ████ -/
theorem proved : Rows.FnOrderedSaid := over
#print axioms proved
end Go.Proofs.Ytcodiiajmffdoaa.fnOrdered

