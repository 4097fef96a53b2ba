/- Texts of a proof, put together: LpM, LpN, LpU, MkM, EqM, LpG, LpH, LpO, LpT.
   Conditions: those that each statement names. -/
import Derived.Test.YtnmjkjjmigiabaaGreatDoorKParseScE7
/- The model's IsScore, whole (FnExactParseScore).
   Conditions: those that each statement names. -/
namespace Go.Proofs.YtnmjkjjmigiabaaGreatDoor
set_option linter.unusedSimpArgs false
set_option linter.unusedVariables false
open Go Go.RowKit

theorem flX_32 {r : Nat} (h : FlX r) : r < 2 ^ 32 := h.1
set_option maxHeartbeats 3200000 in
set_option maxRecDepth 100000 in
theorem specScore_any (s : Sco) (base nb ne : Nat) (sv ev : Value) (w : World) (hnb : nb = s.bs.length) (hne : ne = s.es.length) (hN : nb ≤ 1000 ∧ ne ≤ 1000) (hR : FlX s.R) (hm16 : ∀ ms ∈ s.bs, ms.length ≤ 1000)
    (hes : ∀ e ∈ s.es, EvX e.k e.s e.m e.f) (hb : BodsR w base sv s.bs) (he : w.ownsRow base 137 6 ev ne (cellsE s.es)) :
    Calls Tryz.prog 92 #[.agg #[.int .i64 s.L, .int .i64 s.V, .float .f32 s.C, .float .f32 s.R, sv, ev]] w (TestP (scB s) w) := by
  obtain ⟨L, V, C, R, bs, es⟩ := s
  simp only at hnb hne hR hm16 hes hb he ⊢
  obtain ⟨sa, sc, rfl⟩ := hb.shape
  obtain ⟨ea, ec, rfl⟩ := own_shape' he
  rw [← hnb] at hb ⊢
  have Hn := Lib.hid (And.intro hnb hne)
  have Ok := Lib.hid (And.intro hm16 hes)
  have F := Lib.hid (fun h => scB_false (s := ⟨L, V, C, R, bs, es⟩) h)
  have St : ∀ x : Int, decide (0 ≤ x ∧ x ≤ 2000) = stB x := fun x => by unfold stB; rw [Bool.decide_and]
  have S0 := Lib.hid (Has6.new w 68 (.int .i64 L) (.int .i64 V) (.float .f32 C) (.float .f32 R) (.slice sa nb sc) (.slice ea ne ec))
  have N0 := Lib.hid ((Nw.refl w).alloc (.cells #[.int .i64 L, .int .i64 V, .float .f32 C, .float .f32 R, .slice sa nb sc, .slice ea ne ec] 68 (0, 0)))
  have Hb := Lib.hid (hb.nw N0.out)
  have He := Lib.hid (own_nw he N0.out)
  clear hb he hnb hne hm16 hes
  have hR' := flX_32 hR
  cases hst : stB L with
  | false =>
    go_enter Tryz.func92, Tryz.ntmps92
    go_wp2_with (go_at_call 150; refine (l1In_any _ _ _ _).mono ?_; rintro e w1 ⟨rfl, rfl⟩; rw [St, hst])
    all_goals
      go_ret
      exact ⟨by rw [F.out (fun h => by rw [hst] at h; cases h.1)]; first | done | rfl, N0.out⟩
  | true =>
    by_cases hV : 1 ≤ V ∧ V ≤ 8
    · have hVd : decide (1 ≤ V ∧ V ≤ 8) = true := decide_eq_true hV
      go_enter Tryz.func92, Tryz.ntmps92
      go_wp2_with (go_at_call 150; refine (l1In_any _ _ _ _).mono ?_; rintro e w1 ⟨rfl, rfl⟩; first | rw [St, hst] | rw [hVd])
      refine (l7Limits_any C R hR' _).mono ?_
      rintro e w1 ⟨rfl, n1⟩
      have S1 := Lib.hid (S0.out.nw n1)
      have N1 := Lib.hid (N0.out.trans n1)
      have Hb1 := Lib.hid (Hb.out.nw n1)
      have He1 := Lib.hid (own_nw He.out n1)
      clear n1
      obtain ⟨x0, ⟨x1, x2, x3, x4, x5, x6⟩, x7, x8, x9, x10, x11, x12⟩ := S1.out
      cases hl : lim C R with
      | false =>
        go_wp2_with fail
        go_ret
        exact ⟨by rw [F.out (fun h => by have := h.2.2.1; rw [show lim (Sco.mk L V C R bs es).C (Sco.mk L V C R bs es).R = lim C R from rfl, hl] at this; cases this)]; first | done | rfl, N1.out⟩
      | true =>
        by_cases h8 : nb ≤ 8
        · by_cases h60 : ne ≤ 60
          · have h8' : ¬ ((8 : Int) < (nb : Int)) := by omega
            have h60' : ¬ ((60 : Int) < (ne : Int)) := by omega
            go_wp2_with fail
            clear x0 x1 x2 x3 x4 x5 x6 x7 x8 x9 x10 x11 x12
            go_loopw [38] (fun i wr => AllJ bodyB bs nb w1 i wr) (fun i _ => nb - (intOf i).toNat)
            case atStart => exact ⟨0, by omega, rfl, fun j hj => absurd hj (by omega), Nw.refl w1⟩
            case round =>
              obtain ⟨k, hk, rfl, hal, hnw⟩ := hrel
              have Hnw := Lib.hid hnw
              have Al := Lib.hid hal
              clear hnw hal
              by_cases hlt : k < nb
              · obtain ⟨ms, hmk⟩ : ∃ ms, bs[k]? = some ms := ⟨bs[k]'(by rw [← Hn.out.1]; exact hlt), List.getElem?_eq_getElem _⟩
                obtain ⟨g, cap, a, c, hv, hcap, hmax, hgs, e1, own⟩ := (Hb1.out.nw Hnw.out).at Hn.out.1 hmk
                cases hv
                have Hmo := Lib.hid (Ok.out.1 ms (List.mem_of_getElem? hmk))
                have Own := Lib.hid (own.alloc (.cells #[.slice a ms.length c] 38 (0, 0)))
                have Mk := Lib.hid hmk
                unfold maxLen at hmax
                clear own hmk
                have N4 := Lib.hid (Hnw.out.alloc (.cells #[.slice a ms.length c] 38 (0, 0)))
                go_wp2_with fail
                refine (specIsBody_big ms ms.length base _ rfl Hmo.out _ Own.out).mono ?_
                rintro e w5 ⟨rfl, n5⟩
                have N5 := Lib.hid (N4.out.trans n5)
                clear n5 e1
                cases hbb : bodyB ms with
                | true =>
                  go_wp2_with fail
                  go_roundw
                  case rel =>
                    refine ⟨k + 1, by omega, by rw [show ((k + 1 : Nat) : Int) = (k : Int) + 1 from by omega], fun j hj x hx => ?_, N5.out⟩
                    by_cases hjk : j < k
                    · exact Al.out j hjk x hx
                    · obtain rfl : j = k := by omega
                      rw [Mk.out] at hx
                      cases hx
                      exact hbb
                  case measure => simp only [intOf]; omega
                | false =>
                  go_wp2_with fail
                  go_ret
                  have hF : scB ⟨L, V, C, R, bs, es⟩ = false := F.out (fun h => by
                    have := h.2.2.2.1.2 ms (List.mem_of_getElem? Mk.out)
                    rw [hbb] at this
                    cases this)
                  exact ⟨by rw [hF]; first | done | rfl, N1.out.trans N5.out⟩
              · have hkn : k = nb := by omega
                have AllB := Lib.hid (show ∀ ms ∈ bs, bodyB ms = true from List.all_eq_true.1 (allJ_of Hn.out.1 (by rw [← hkn]; exact Al.out)))
                have S2 := Lib.hid (S1.out.nw Hnw.out)
                have He2 := Lib.hid (own_nw He1.out Hnw.out)
                have N2 := Lib.hid (N1.out.trans Hnw.out)
                clear hkn
                obtain ⟨w2, hw2⟩ : ∃ w2, w2 = wr := ⟨_, rfl⟩
                subst hw2
                obtain ⟨x0, ⟨x1, x2, x3, x4, x5, x6⟩, x7, x8, x9, x10, x11, x12⟩ := S2.out
                go_wp2_with fail
                clear x0 x1 x2 x3 x4 x5 x6 x7 x8 x9 x10 x11 x12
                go_loopw [49] (fun i wr => AllJ (evB nb) es ne w2 i wr) (fun i _ => ne - (intOf i).toNat)
                case atStart => exact ⟨0, by omega, rfl, fun j hj => absurd hj (by omega), Nw.refl w2⟩
                case round =>
                  obtain ⟨j, hj, rfl, hal, hnw⟩ := hrel
                  have Hnx := Lib.hid hnw
                  have Alx := Lib.hid hal
                  have S3 := Lib.hid (S2.out.nw hnw)
                  clear hnw hal
                  obtain ⟨x0, ⟨x1, x2, x3, x4, x5, x6⟩, x7, x8, x9, x10, x11, x12⟩ := S3.out
                  by_cases hlt2 : j < ne
                  · obtain ⟨e, hek⟩ : ∃ e, es[j]? = some e := ⟨es[j]'(by rw [← Hn.out.2]; exact hlt2), List.getElem?_eq_getElem _⟩
                    obtain ⟨g, cap, hv, hcap, hmax, hgs, c0, c1, c2, c3, c4, c5⟩ := own_event (own_nw He2.out Hnx.out) Hn.out.2.symm hek
                    cases hv
                    have Hmo := Lib.hid (Ok.out.2 e (List.mem_of_getElem? hek))
                    have Mk := Lib.hid hek
                    unfold maxLen at hmax
                    clear hek
                    have N4 := Lib.hid (Hnx.out.alloc (.cells #[.int .i64 e.t, .int .i64 e.k, .int .i64 e.b, .int .i64 e.s, .int .i64 e.m, .float .f32 e.f] 137 (0, 0)))
                    go_wp2_with fail
                    refine (l7Event_any L V C R nb sa sc _ e Hmo.out hN.1 _).mono ?_
                    rintro e5 w5 ⟨rfl, n5⟩
                    have N5 := Lib.hid (N4.out.trans n5)
                    clear n5 c0 c1 c2 c3 c4 c5 x0 x1 x2 x3 x4 x5 x6 x7 x8 x9 x10 x11 x12
                    cases hbb : evB nb e with
                    | true =>
                      go_wp2_with fail
                      go_roundw
                      case rel =>
                        refine ⟨j + 1, by omega, by rw [show ((j + 1 : Nat) : Int) = (j : Int) + 1 from by omega], fun i hi x hx => ?_, N5.out⟩
                        by_cases hjk : i < j
                        · exact Alx.out i hjk x hx
                        · obtain rfl : i = j := by omega
                          rw [Mk.out] at hx
                          cases hx
                          exact hbb
                      case measure => simp only [intOf]; omega
                    | false =>
                      go_wp2_with fail
                      go_ret
                      have hF : scB ⟨L, V, C, R, bs, es⟩ = false := F.out (fun h => by
                        have := h.2.2.2.2.2 e (List.mem_of_getElem? Mk.out)
                        rw [← show nb = (Sco.mk L V C R bs es).bs.length from Hn.out.1, hbb] at this
                        cases this)
                      exact ⟨by rw [hF]; first | done | rfl, N2.out.trans N5.out⟩
                  · have hjn : j = ne := by omega
                    have AllE := Lib.hid (show ∀ e ∈ es, evB nb e = true from List.all_eq_true.1 (allJ_of Hn.out.2 (by rw [← hjn]; exact Alx.out)))
                    clear hjn
                    go_wp2_with fail
                    go_ret
                    have hT : scB ⟨L, V, C, R, bs, es⟩ = true := scB_iff.2 ⟨hst, hV, hl, ⟨by show bs.length ≤ 8; have := Hn.out.1; omega, AllB.out⟩, by show es.length ≤ 60; have := Hn.out.2; omega, fun e he => by show evB bs.length e = true; rw [← Hn.out.1]; exact AllE.out e he⟩
                    exact ⟨by rw [hT]; first | done | rfl, N2.out.trans Hnx.out⟩
          · have h8' : ¬ ((8 : Int) < (nb : Int)) := by omega
            have h60' : (60 : Int) < (ne : Int) := by omega
            go_wp2_with fail
            go_ret
            exact ⟨by rw [F.out (fun h => by have a : es.length ≤ 60 := h.2.2.2.2.1; have := Hn.out.2; omega)]; first | done | rfl, N1.out⟩
        · have h8' : (8 : Int) < (nb : Int) := by omega
          go_wp2_with fail
          go_ret
          exact ⟨by rw [F.out (fun h => by have a : bs.length ≤ 8 := h.2.2.2.1.1; have := Hn.out.1; omega)]; first | done | rfl, N1.out⟩
    · have hVd : decide (1 ≤ V ∧ V ≤ 8) = false := decide_eq_false hV
      go_enter Tryz.func92, Tryz.ntmps92
      go_wp2_with (go_at_call 150; refine (l1In_any _ _ _ _).mono ?_; rintro e w1 ⟨rfl, rfl⟩; first | rw [St, hst] | rw [hVd])
      all_goals
        go_ret
        exact ⟨by rw [F.out (fun h => hV h.2.1)]; first | done | rfl, N0.out⟩
end Go.Proofs.YtnmjkjjmigiabaaGreatDoor

/- The model's FormatScore (FnExactParseScore).
   Conditions: those that each statement names. -/
namespace Go.Proofs.YtnmjkjjmigiabaaGreatDoor
set_option linter.unusedSimpArgs false
set_option linter.unusedVariables false
open Go Go.RowKit

def NumT1 (x : Int) (w : World) (e : Ending) (w' : World) : Prop := ∃ t, e = .returned (.string ⟨t.toArray⟩) ∧ IntT t x ∧ t.length ≤ 20 ∧ Nw w w'
theorem specNumT (x : Int) (h : 0 ≤ x ∧ x ≤ 2000) (w : World) : Calls Tryz.prog 153 #[.int .i64 x] w (NumT1 x w) := by
  obtain ⟨n, rfl⟩ : ∃ n : Nat, x = n := ⟨x.toNat, by omega⟩
  refine (l1Number_ok n (by omega) w).mono ?_
  rintro e w' ⟨rfl, hn⟩
  refine ⟨byts (dgs n), rfl, ⟨by omega, ?_⟩, ?_, hn⟩
  · unfold numL
    rw [if_neg (by omega)]
    rfl
  · unfold byts
    rw [List.length_map]
    have := dgs_len 15 n (by omega)
    omega
def TxSP' (x : Nat) (w : World) (e : Ending) (w' : World) : Prop := ∃ t, e = .returned (.string ⟨t.toArray⟩) ∧ TxS t x ∧ t.length ≤ 60 ∧ Nw w w'
theorem specTxS' (x : Nat) (h : x < 4294967296 ∧ Sm x) (w : World) : Calls Tryz.prog 76 #[.float .f32 x] w (TxSP' x w) := by
  refine (specTextS x h.1 w).mono ?_
  rintro e w' ⟨xs, w1, rfl, ht, hn⟩
  rw [fcv_up h.2] at ht
  exact ⟨byts xs, rfl, ⟨h.1, h.2, wid_lt x, fin_wid h.2, xs, ht, rfl⟩, by unfold byts; rw [List.length_map]; exact txt_str ht, hn⟩

def TextSP (s : Sco) (w : World) (e : Ending) (w' : World) : Prop := ∃ l, e = .returned (.string ⟨l.toArray⟩) ∧ TextS l s ∧ l.length ≤ 1048576 ∧ Nw w w'
theorem score_facts {s : Sco} (h : scB s = true) (hC : FlX s.C) (hR : FlX s.R) : (0 ≤ s.L ∧ s.L ≤ 2000) ∧ (0 ≤ s.V ∧ s.V ≤ 2000) ∧ (s.C < 4294967296 ∧ Sm s.C) ∧ (s.R < 4294967296 ∧ Sm s.R) := by
  obtain ⟨h1, h2, h3, -⟩ := scB_iff.1 h
  rw [stB_iff] at h1
  refine ⟨h1, by omega, ⟨hC.1, ?_⟩, hR.1, ?_⟩
  · unfold lim at h3
    rw [Bool.and_eq_true, Bool.and_eq_true] at h3
    exact (fin_iff' .f32 _).1 h3.1.2
  · rcases hR.2 with h | h
    · exact h
    · rw [h] at h3
      unfold lim at h3
      rw [Bool.and_eq_true, Bool.and_eq_true, Bool.and_eq_true] at h3
      exact absurd h3.2.1 (by decide +kernel)
theorem event_facts {nb : Nat} {e : Ev6} (hn : nb ≤ 8) (h : evB nb e = true) (hx : EvX e.k e.s e.m e.f) : (0 ≤ e.t ∧ e.t ≤ 2000) ∧ (0 ≤ e.b ∧ e.b ≤ 2000) ∧
    ((e.k = 1 ∧ (0 ≤ e.s ∧ e.s ≤ 2000) ∧ (0 ≤ e.m ∧ e.m ≤ 2000) ∧ (e.f < 4294967296 ∧ Sm e.f)) ∨ (e.k = 2 ∧ e.s = 0 ∧ e.m = 0 ∧ (e.f < 4294967296 ∧ Sm e.f)) ∨ (e.k = 3 ∧ e.s = 0 ∧ e.m = 0 ∧ e.f = 0)) := by
  unfold evB at h
  rw [Bool.and_eq_true, Bool.and_eq_true, Bool.and_eq_true, decide_eq_true_iff, decide_eq_true_iff, stB_iff] at h
  obtain ⟨⟨h1, h2⟩, h3⟩ := h
  refine ⟨h1, by omega, ?_⟩
  rcases hx.2 with k | ⟨k, a, b⟩ | ⟨k, a, b, c⟩ | k
  · rw [if_pos k, Bool.and_eq_true] at h3
    have h4 : goodZ e.s e.m := by have := h3.1; unfold okZ at this; exact of_decide_eq_true this
    obtain ⟨g1, g2⟩ := h4
    exact .inl ⟨k, by omega, by omega, hx.1.1, (fin_iff' .f32 _).1 h3.2⟩
  · rw [if_neg (by omega), if_pos k, Bool.and_eq_true] at h3
    refine .inr (.inl ⟨k, a, b, hx.1.1, ?_⟩)
    rcases hx.1.2 with h | h
    · exact h
    · rw [h] at h3
      exact absurd h3.2 (by decide +kernel)
  · exact .inr (.inr ⟨k, a, b, c⟩)
  · rw [if_neg (by omega), if_neg (by omega), decide_eq_true_iff] at h3
    omega
theorem intT_sp {p : List UInt8} {n : Int} (h : IntT p n) : 32 ∉ p := by
  obtain ⟨hn, rfl⟩ := h
  intro hm
  have hb : ∀ c ∈ byts (numL n), 45 ≤ c.toNat := by
    intro c hc
    have hd : ∀ c ∈ byts (dgs n.natAbs), 45 ≤ c.toNat := fun c hc => by have := (byts_dig n.natAbs (by omega) c hc).1; omega
    unfold numL at hc
    split at hc
    · rcases List.mem_cons.1 (show c ∈ 45 :: byts (dgs n.natAbs) from hc) with rfl | hc
      · decide
      · exact hd c hc
    · exact hd c hc
  have := hb _ hm
  revert this; decide
def FmSI (hd : List UInt8) (bs : List (List M4)) (n : Nat) (w : World) (o i : Value) (wr : World) : Prop :=
  ∃ (k : Nat) (l : List UInt8) (ls : List (List UInt8)), k ≤ n ∧ i = .int .i64 (k : Int) ∧ o = .string ⟨l.toArray⟩ ∧ l = hd ++ 10 :: glueC 10 ls ∧ BodL (bs.take k) ls ∧ l.length ≤ 1000 + k * 5100 ∧ Nw w wr
def FmEI (hd : List UInt8) (es : List Ev6) (n : Nat) (w : World) (o i : Value) (wr : World) : Prop :=
  ∃ (k : Nat) (l : List UInt8) (qs : List (List UInt8)), k ≤ n ∧ i = .int .i64 (k : Int) ∧ o = .string ⟨l.toArray⟩ ∧ l = hd ++ glueC 10 qs ∧ All2 EvL qs (es.take k) ∧ l.length ≤ 50000 + k * 300 ∧ Nw w wr

set_option maxHeartbeats 6400000 in
set_option maxRecDepth 100000 in
theorem specFormatScore (s : Sco) (base nb ne : Nat) (sv ev : Value) (w : World) (hnb : nb = s.bs.length) (hne : ne = s.es.length) (hok : scB s = true) (hst : FlX s.C ∧ FlX s.R ∧ (∀ ms ∈ s.bs, ∀ m ∈ ms, m.Fin ∧ m.bits) ∧ ∀ e ∈ s.es, EvX e.k e.s e.m e.f)
    (hb : BodsR w base sv s.bs) (he : w.ownsRow base 137 6 ev ne (cellsE s.es)) :
    Calls Tryz.prog 93 #[.agg #[.int .i64 s.L, .int .i64 s.V, .float .f32 s.C, .float .f32 s.R, sv, ev]] w (TextSP s w) := by
  obtain ⟨L, V, C, R, bs, es⟩ := s
  have hI := score_facts hok hst.1 hst.2.1
  simp only at hnb hne hb he hI ⊢
  obtain ⟨sa, sc, rfl⟩ := hb.shape
  obtain ⟨ea, ec, rfl⟩ := own_shape' he
  rw [← hnb] at hb ⊢
  obtain ⟨-, -, -, ⟨hb8, hbb⟩, he60, hee⟩ := scB_iff.1 hok
  have hb8 : nb ≤ 8 := by rw [hnb]; exact hb8
  have he60 : ne ≤ 60 := by rw [hne]; exact he60
  have Hn := Lib.hid (And.intro hnb hne)
  have Ok := Lib.hid hok
  have Hs := Lib.hid hst
  have Hi := Lib.hid hI
  have Hbb := Lib.hid (show ∀ ms ∈ bs, bodyB ms = true from hbb)
  have Hee := Lib.hid (show ∀ e ∈ es, evB nb e = true from fun e he => by rw [hnb]; exact hee e he)
  have S0 := Lib.hid (Has6.new w 68 (.int .i64 L) (.int .i64 V) (.float .f32 C) (.float .f32 R) (.slice sa nb sc) (.slice ea ne ec))
  have N0 := Lib.hid ((Nw.refl w).alloc (.cells #[.int .i64 L, .int .i64 V, .float .f32 C, .float .f32 R, .slice sa nb sc, .slice ea ne ec] 68 (0, 0)))
  have Hb := Lib.hid (hb.nw N0.out)
  have He := Lib.hid (own_nw he N0.out)
  clear hb he hnb hne hok hst hI hbb hee
  obtain ⟨x0, ⟨x1, x2, x3, x4, x5, x6⟩, x7, x8, x9, x10, x11, x12⟩ := S0.out
  go_enter Tryz.func93, Tryz.ntmps93
  go_wp2_with fail
  refine (specScore_any ⟨L, V, C, R, bs, es⟩ base nb ne _ _ _ Hn.out.1 Hn.out.2 (by omega) Hs.out.2.1 (fun ms hm => by have := ((bodyB_iff ms).1 (Hbb.out ms hm)).1; omega) Hs.out.2.2.2 Hb.out He.out).mono ?_
  rintro e w1 ⟨rfl, n1⟩
  rw [Ok.out]
  have S1 := Lib.hid (S0.out.nw n1)
  have N1 := Lib.hid (N0.out.trans n1)
  have Hb1 := Lib.hid (Hb.out.nw n1)
  have He1 := Lib.hid (own_nw He.out n1)
  clear n1 x0 x1 x2 x3 x4 x5 x6 x7 x8 x9 x10 x11 x12
  obtain ⟨k, hk⟩ : ∃ k, k = w.heap.size := ⟨_, rfl⟩
  rw [← hk] at S1 ⊢
  clear hk
  obtain ⟨x0, ⟨x1, x2, x3, x4, x5, x6⟩, x7, x8, x9, x10, x11, x12⟩ := S1.out
  have Keep := Lib.hid (show ∀ W, Nw w1 W → W.cell? ⟨k, 0, none⟩ = some (.int .i64 L) ∧ W.cell? ⟨k, 1, none⟩ = some (.int .i64 V) ∧ W.cell? ⟨k, 2, none⟩ = some (.float .f32 C) ∧ W.cell? ⟨k, 3, none⟩ = some (.float .f32 R) from fun W hW => by
    obtain ⟨y0, ⟨y1, y2, y3, y4, y5, y6⟩, -⟩ := S1.out.nw hW
    exact ⟨y1, y2, y3, y4⟩)
  go_upto_region 3 with fail
  refine wp_region_held_drew (S := fun w' => w'.cell? ⟨k, 0, none⟩ = some (.int .i64 L) ∧ w'.cell? ⟨k, 1, none⟩ = some (.int .i64 V) ∧ w'.cell? ⟨k, 2, none⟩ = some (.float .f32 C) ∧ w'.cell? ⟨k, 3, none⟩ = some (.float .f32 R)) (by kernel_rfl) ?_ (fun hHeld => ?_)
  · ((try dsimp only) ; exact Keep.out _ ((Nw.refl _).draw 1))
  refine wpAnyH_take (i := 0) (oi := _) (v := ?_) rfl (by kernel_rfl) (by kernel_rfl) (by kernel_rfl) (fun _ _ _ h => h) (_root_.Or.inl ⟨by rfl, ?_⟩) (by assumption) ?_
  rotate_left
  · intro w hSw
    (try dsimp only at hSw)
    go_simp
    all_goals first | with_reducible rfl | (rw [if_neg (by omega)]; done) | (rw [if_neg (by simp; omega)]; done) | (rw [if_neg (by omega)]; with_reducible rfl)
  try simp only [Act.put, List.setIfInBounds_toArray, List.set_cons_zero, List.set_cons_succ]
  refine wpAnyH_take (i := 1) (oi := _) (v := ?_) rfl (by kernel_rfl) (by kernel_rfl) (by kernel_rfl) (fun _ _ _ h => h) (_root_.Or.inl ⟨by rfl, ?_⟩) (by assumption) ?_
  rotate_left
  · intro w hSw
    (try dsimp only at hSw)
    go_simp
    all_goals first | with_reducible rfl | (rw [if_neg (by omega)]; done) | (rw [if_neg (by simp; omega)]; done) | (rw [if_neg (by omega)]; with_reducible rfl)
  try simp only [Act.put, List.setIfInBounds_toArray, List.set_cons_zero, List.set_cons_succ]
  refine wpAnyH_take (i := 5) (oi := _) (v := ?_) rfl (by kernel_rfl) (by kernel_rfl) (by kernel_rfl) (fun _ _ _ h => h) (_root_.Or.inl ⟨by rfl, ?_⟩) (by assumption) ?_
  rotate_left
  · intro w hSw
    (try dsimp only at hSw)
    go_simp
    all_goals first | with_reducible rfl | (rw [if_neg (by omega)]; done) | (rw [if_neg (by simp; omega)]; done) | (rw [if_neg (by omega)]; with_reducible rfl)
  try simp only [Act.put, List.setIfInBounds_toArray, List.set_cons_zero, List.set_cons_succ]
  refine wpAnyH_take (i := 6) (oi := _) (v := ?_) rfl (by kernel_rfl) (by kernel_rfl) (by kernel_rfl) (fun _ _ _ h => h) (_root_.Or.inl ⟨by rfl, ?_⟩) (by assumption) ?_
  rotate_left
  · intro w hSw
    (try dsimp only at hSw)
    go_simp
    all_goals first | with_reducible rfl | (rw [if_neg (by omega)]; done) | (rw [if_neg (by simp; omega)]; done) | (rw [if_neg (by omega)]; with_reducible rfl)
  try simp only [Act.put, List.setIfInBounds_toArray, List.set_cons_zero, List.set_cons_succ]
  refine wpAnyH_take (i := 10) (oi := _) (v := ?_) rfl (by kernel_rfl) (by kernel_rfl) (by kernel_rfl) (fun _ _ _ h => h) (_root_.Or.inl ⟨by rfl, ?_⟩) (by assumption) ?_
  rotate_left
  · intro w hSw
    (try dsimp only at hSw)
    go_simp
    all_goals first | with_reducible rfl | (rw [if_neg (by omega)]; done) | (rw [if_neg (by simp; omega)]; done) | (rw [if_neg (by omega)]; with_reducible rfl)
  try simp only [Act.put, List.setIfInBounds_toArray, List.set_cons_zero, List.set_cons_succ]
  refine wpAnyH_take (i := 11) (oi := _) (v := ?_) rfl (by kernel_rfl) (by kernel_rfl) (by kernel_rfl) (fun _ _ _ h => h) (_root_.Or.inl ⟨by rfl, ?_⟩) (by assumption) ?_
  rotate_left
  · intro w hSw
    (try dsimp only at hSw)
    go_simp
    all_goals first | with_reducible rfl | (rw [if_neg (by omega)]; done) | (rw [if_neg (by simp; omega)]; done) | (rw [if_neg (by omega)]; with_reducible rfl)
  try simp only [Act.put, List.setIfInBounds_toArray, List.set_cons_zero, List.set_cons_succ]
  refine wpAnyH_take (i := 15) (oi := _) (v := ?_) rfl (by kernel_rfl) (by kernel_rfl) (by kernel_rfl) (fun _ _ _ h => h) (_root_.Or.inl ⟨by rfl, ?_⟩) (by assumption) ?_
  rotate_left
  · intro w hSw
    (try dsimp only at hSw)
    go_simp
    all_goals first | with_reducible rfl | (rw [if_neg (by omega)]; done) | (rw [if_neg (by simp; omega)]; done) | (rw [if_neg (by omega)]; with_reducible rfl)
  try simp only [Act.put, List.setIfInBounds_toArray, List.set_cons_zero, List.set_cons_succ]
  refine wpAnyH_take (i := 16) (oi := _) (v := ?_) rfl (by kernel_rfl) (by kernel_rfl) (by kernel_rfl) (fun _ _ _ h => h) (_root_.Or.inl ⟨by rfl, ?_⟩) (by assumption) ?_
  rotate_left
  · intro w hSw
    (try dsimp only at hSw)
    go_simp
    all_goals first | with_reducible rfl | (rw [if_neg (by omega)]; done) | (rw [if_neg (by simp; omega)]; done) | (rw [if_neg (by omega)]; with_reducible rfl)
  try simp only [Act.put, List.setIfInBounds_toArray, List.set_cons_zero, List.set_cons_succ]
  refine wpAnyH_ready (rs := [2]) (by kernel_rfl) (by simp) ?_
  refine AllReadyH.cons (o := _) rfl (fun K hK => ?_) AllReadyH.nil
  go_simp
  go_at_call 153
  refine (specNumT L Hi.out.1 _).mono ?_
  rintro e v1 ⟨t1, rfl, ht1, lt1, d1⟩
  have D1 := Lib.hid (((Nw.refl _).draw 1).trans d1)
  have Ht1 := Lib.hid ht1
  clear d1 ht1
  go_wp2_with fail
  refine hK.out _ _ ?_ (fun hHeld => ?_)
  · ((try dsimp only) ; exact Keep.out _ D1.out)
  clear hK K
  try simp only [Act.put, List.setIfInBounds_toArray, List.set_cons_zero, List.set_cons_succ]
  refine wpAnyH_take (i := 3) (oi := _) (v := ?_) rfl (by kernel_rfl) (by kernel_rfl) (by kernel_rfl) (fun _ _ _ h => h) (_root_.Or.inl ⟨by rfl, ?_⟩) (by assumption) ?_
  rotate_left
  · intro w hSw
    (try dsimp only at hSw)
    go_simp
    all_goals first | with_reducible rfl | (rw [if_neg (by omega)]; done) | (rw [if_neg (by simp; omega)]; done) | (rw [if_neg (by omega)]; with_reducible rfl)
  try simp only [Act.put, List.setIfInBounds_toArray, List.set_cons_zero, List.set_cons_succ]
  refine wpAnyH_take (i := 4) (oi := _) (v := ?_) rfl (by kernel_rfl) (by kernel_rfl) (by kernel_rfl) (fun _ _ _ h => h) (_root_.Or.inl ⟨by rfl, ?_⟩) (by assumption) ?_
  rotate_left
  · intro w hSw
    (try dsimp only at hSw)
    go_simp
    all_goals first | with_reducible rfl | (rw [if_neg (by omega)]; done) | (rw [if_neg (by simp; omega)]; done) | (rw [if_neg (by omega)]; with_reducible rfl)
  try simp only [Act.put, List.setIfInBounds_toArray, List.set_cons_zero, List.set_cons_succ]
  refine wpAnyH_ready (rs := [7]) (by kernel_rfl) (by simp) ?_
  refine AllReadyH.cons (o := _) rfl (fun K hK => ?_) AllReadyH.nil
  go_simp
  go_at_call 153
  refine (specNumT V Hi.out.2.1 _).mono ?_
  rintro e v2 ⟨t2, rfl, ht2, lt2, d2⟩
  have D2 := Lib.hid (D1.out.trans d2)
  have Ht2 := Lib.hid ht2
  clear d2 ht2
  go_wp2_with fail
  refine hK.out _ _ ?_ (fun hHeld => ?_)
  · ((try dsimp only) ; exact Keep.out _ D2.out)
  clear hK K
  try simp only [Act.put, List.setIfInBounds_toArray, List.set_cons_zero, List.set_cons_succ]
  refine wpAnyH_take (i := 8) (oi := _) (v := ?_) rfl (by kernel_rfl) (by kernel_rfl) (by kernel_rfl) (fun _ _ _ h => h) (_root_.Or.inl ⟨by rfl, ?_⟩) (by assumption) ?_
  rotate_left
  · intro w hSw
    (try dsimp only at hSw)
    go_simp
    all_goals first | with_reducible rfl | (rw [if_neg (by omega)]; done) | (rw [if_neg (by simp; omega)]; done) | (rw [if_neg (by omega)]; with_reducible rfl)
  try simp only [Act.put, List.setIfInBounds_toArray, List.set_cons_zero, List.set_cons_succ]
  refine wpAnyH_take (i := 9) (oi := _) (v := ?_) rfl (by kernel_rfl) (by kernel_rfl) (by kernel_rfl) (fun _ _ _ h => h) (_root_.Or.inl ⟨by rfl, ?_⟩) (by assumption) ?_
  rotate_left
  · intro w hSw
    (try dsimp only at hSw)
    go_simp
    all_goals first | with_reducible rfl | (rw [if_neg (by omega)]; done) | (rw [if_neg (by simp; omega)]; done) | (rw [if_neg (by omega)]; with_reducible rfl)
  try simp only [Act.put, List.setIfInBounds_toArray, List.set_cons_zero, List.set_cons_succ]
  refine wpAnyH_ready (rs := [12]) (by kernel_rfl) (by simp) ?_
  refine AllReadyH.cons (o := _) rfl (fun K hK => ?_) AllReadyH.nil
  go_simp
  go_at_call 76
  refine (specTxS' C Hi.out.2.2.1 _).mono ?_
  rintro e v3 ⟨t3, rfl, ht3, lt3, d3⟩
  have D3 := Lib.hid (D2.out.trans d3)
  have Ht3 := Lib.hid ht3
  clear d3 ht3
  go_wp2_with fail
  refine hK.out _ _ ?_ (fun hHeld => ?_)
  · ((try dsimp only) ; exact Keep.out _ D3.out)
  clear hK K
  try simp only [Act.put, List.setIfInBounds_toArray, List.set_cons_zero, List.set_cons_succ]
  refine wpAnyH_take (i := 13) (oi := _) (v := ?_) rfl (by kernel_rfl) (by kernel_rfl) (by kernel_rfl) (fun _ _ _ h => h) (_root_.Or.inl ⟨by rfl, ?_⟩) (by assumption) ?_
  rotate_left
  · intro w hSw
    (try dsimp only at hSw)
    go_simp
    all_goals first | with_reducible rfl | (rw [if_neg (by omega)]; done) | (rw [if_neg (by simp; omega)]; done) | (rw [if_neg (by omega)]; with_reducible rfl)
  try simp only [Act.put, List.setIfInBounds_toArray, List.set_cons_zero, List.set_cons_succ]
  refine wpAnyH_take (i := 14) (oi := _) (v := ?_) rfl (by kernel_rfl) (by kernel_rfl) (by kernel_rfl) (fun _ _ _ h => h) (_root_.Or.inl ⟨by rfl, ?_⟩) (by assumption) ?_
  rotate_left
  · intro w hSw
    (try dsimp only at hSw)
    go_simp
    all_goals first | with_reducible rfl | (rw [if_neg (by omega)]; done) | (rw [if_neg (by simp; omega)]; done) | (rw [if_neg (by omega)]; with_reducible rfl)
  try simp only [Act.put, List.setIfInBounds_toArray, List.set_cons_zero, List.set_cons_succ]
  refine wpAnyH_ready (rs := [17]) (by kernel_rfl) (by simp) ?_
  refine AllReadyH.cons (o := _) rfl (fun K hK => ?_) AllReadyH.nil
  go_simp
  go_at_call 76
  refine (specTxS' R Hi.out.2.2.2 _).mono ?_
  rintro e v4 ⟨t4, rfl, ht4, lt4, d4⟩
  have D4 := Lib.hid (D3.out.trans d4)
  have Ht4 := Lib.hid ht4
  clear d4 ht4
  go_wp2_with fail
  refine hK.out _ _ ?_ (fun hHeld => ?_)
  · ((try dsimp only) ; exact Keep.out _ D4.out)
  clear hK K
  try simp only [Act.put, List.setIfInBounds_toArray, List.set_cons_zero, List.set_cons_succ]
  refine wpAnyH_take (i := 18) (oi := _) (v := ?_) rfl (by kernel_rfl) (by kernel_rfl) (by kernel_rfl) (fun _ _ _ h => h) (_root_.Or.inl ⟨by rfl, ?_⟩) (by assumption) ?_
  rotate_left
  · intro w hSw
    (try dsimp only at hSw)
    go_simp
    all_goals first | with_reducible rfl | (rw [if_neg (by omega)]; done) | (rw [if_neg (by simp; omega)]; done) | (rw [if_neg (by omega)]; with_reducible rfl)
  try simp only [Act.put, List.setIfInBounds_toArray, List.set_cons_zero, List.set_cons_succ]
  refine wpAnyH_take (i := 19) (oi := _) (v := ?_) rfl (by kernel_rfl) (by kernel_rfl) (by kernel_rfl) (fun _ _ _ h => h) (_root_.Or.inl ⟨by rfl, ?_⟩) (by assumption) ?_
  rotate_left
  · intro w hSw
    (try dsimp only at hSw)
    go_simp
    all_goals first | with_reducible rfl | (rw [if_neg (by omega)]; done) | (rw [if_neg (by simp; omega)]; done) | (rw [if_neg (by omega)]; with_reducible rfl)
  try simp only [Act.put, List.setIfInBounds_toArray, List.set_cons_zero, List.set_cons_succ]
  refine wpAnyH_take (i := 20) (oi := _) (v := ?_) rfl (by kernel_rfl) (by kernel_rfl) (by kernel_rfl) (fun _ _ _ h => h) (_root_.Or.inl ⟨by rfl, ?_⟩) (by assumption) ?_
  rotate_left
  · intro w hSw
    (try dsimp only at hSw)
    go_simp
    all_goals first | with_reducible rfl | (rw [if_neg (by omega)]; done) | (rw [if_neg (by simp; omega)]; done) | (rw [if_neg (by omega)]; with_reducible rfl)
  try simp only [Act.put, List.setIfInBounds_toArray, List.set_cons_zero, List.set_cons_succ]
  refine wpAnyH_done (by kernel_rfl) ?_ _
  have hd3 := Lib.hid (show HeadT (wScore ++ (([t1, t2, t3, t4] : List (List UInt8)).map (32 :: ·)).flatten) L V C R from
    ⟨t1, t2, t3, t4, spl_line (by decide) (fun t ht => by
      simp only [List.mem_cons, List.not_mem_nil, or_false] at ht
      rcases ht with rfl | rfl | rfl | rfl
      · exact intT_sp Ht1.out
      · exact intT_sp Ht2.out
      · exact txS_K.sp Ht3.out
      · exact txS_K.sp Ht4.out), Ht1.out, Ht2.out, Ht3.out, Ht4.out⟩)
  have S4 := Lib.hid (S1.out.nw D4.out)
  have N4 := Lib.hid (N1.out.trans D4.out)
  have Hb4 := Lib.hid (Hb1.out.nw D4.out)
  have He4 := Lib.hid (own_nw He1.out D4.out)
  clear x0 x1 x2 x3 x4 x5 x6 x7 x8 x9 x10 x11 x12
  obtain ⟨x0, ⟨x1, x2, x3, x4, x5, x6⟩, x7, x8, x9, x10, x11, x12⟩ := S4.out
  obtain ⟨hd, hhd⟩ : ∃ hd, hd = wScore ++ (([t1, t2, t3, t4] : List (List UInt8)).map (32 :: ·)).flatten := ⟨_, rfl⟩
  rw [← hhd] at hd3
  have hdl : hd.length ≤ 300 := by rw [hhd]; simp [wScore]; omega
  go_wp2_with fail
  clear x0 x1 x2 x3 x4 x5 x6 x7 x8 x9 x10 x11 x12
  go_loopw [3, 34] (fun o i wr => FmSI hd bs nb v4 o i wr) (fun _ i _ => nb - (intOf i).toNat)
  case atStart => exact ⟨0, hd ++ [10], [], by omega, rfl, congrArg Value.string (by apply ByteArray.ext; rw [hhd]; simp [wScore]), by simp [glueC], rfl, by simp; omega, Nw.refl _⟩
  case round =>
    obtain ⟨j, l, ls, hj, rfl, rfl, hl, hls, hll, hnw⟩ := hrel
    obtain ⟨wo, hwo⟩ : ∃ wo, wo = wr := ⟨_, rfl⟩
    subst hwo
    have Nr := Lib.hid hnw
    have Ls := Lib.hid (And.intro hl hls)
    clear hnw hl hls
    by_cases hlt : j < nb
    · obtain ⟨ms, hmk⟩ : ∃ ms, bs[j]? = some ms := ⟨bs[j]'(by rw [← Hn.out.1]; exact hlt), List.getElem?_eq_getElem _⟩
      obtain ⟨g, cap, a, c, hv, hcap, hmax, hgs, e1, own⟩ := (Hb4.out.nw Nr.out).at Hn.out.1 hmk
      cases hv
      have hmm := List.mem_of_getElem? hmk
      have Fm := Lib.hid (fun w hw => specFormatBody_ok ms (Hs.out.2.2.1 ms hmm) ms.length base (.slice a ms.length c) rfl (Hbb.out ms hmm) w hw)
      have Own := Lib.hid (own.alloc (.cells #[.slice a ms.length c] 38 (0, 0)))
      have Mk := Lib.hid hmk
      have A1 := Lib.hid (Nr.out.alloc (.cells #[.slice a ms.length c] 38 (0, 0)))
      unfold maxLen at hmax
      clear own hmk hmm
      go_wp2_with fail
      refine (Fm.out _ Own.out).mono ?_
      rintro e v5 ⟨t, rfl, ht, htl, n5⟩
      have N5 := Lib.hid (A1.out.trans n5)
      have T := Lib.hid ht
      clear n5 ht e1
      go_wp2_with fail
      go_roundw
      case rel =>
        obtain ⟨ps, a1, a2⟩ := T.out
        obtain ⟨hj', he⟩ := List.getElem?_eq_some_iff.1 Mk.out
        refine ⟨j + 1, l ++ (wBody ++ 10 :: t), ls ++ wBody :: ps, by omega, by rw [show ((j + 1 : Nat) : Int) = (j : Int) + 1 from by omega], congrArg Value.string (by apply ByteArray.ext; simp [wBody]), ?_, ?_, by simp [wBody]; omega, N5.out⟩
        · rw [Ls.out.1, a2, glue_app]
          simp [glueC]
        · rw [List.take_succ_eq_append_getElem hj', he]
          exact bodL_snoc Ls.out.2 a1
      case measure => simp only [intOf]; omega
    · have hjn : j = nb := by omega
      have Lb := Lib.hid (show BodL bs ls from by have h := Ls.out.2; rw [List.take_of_length_le (by rw [← Hn.out.1]; omega)] at h; exact h)
      have S5 := Lib.hid (S4.out.nw Nr.out)
      have N5 := Lib.hid (N4.out.trans Nr.out)
      have He5 := Lib.hid (own_nw He4.out Nr.out)
      have hll5 : l.length ≤ 50000 := by omega
      clear hjn hll
      obtain ⟨x0, ⟨x1, x2, x3, x4, x5, x6⟩, x7, x8, x9, x10, x11, x12⟩ := S5.out
      go_wp2_with fail
      clear x0 x1 x2 x3 x4 x5 x6 x7 x8 x9 x10 x11 x12
      go_loopw [3, 47] (fun o i wr => FmEI l es ne wo o i wr) (fun _ i _ => ne - (intOf i).toNat)
      case atStart => exact ⟨0, l, [], by omega, rfl, rfl, by simp [glueC], trivial, by omega, Nw.refl _⟩
      case round =>
        obtain ⟨i, z, qs, hi, rfl, rfl, hz, hqs, hzl, hnw⟩ := hrel
        have Nx := Lib.hid hnw
        have Qs := Lib.hid (And.intro hz hqs)
        clear hnw hz hqs
        have hzl2 : z.length ≤ 70000 := by omega
        by_cases hlt2 : i < ne
        · obtain ⟨e, hek⟩ : ∃ e, es[i]? = some e := ⟨es[i]'(by rw [← Hn.out.2]; exact hlt2), List.getElem?_eq_getElem _⟩
          obtain ⟨g, cap, hv, hcap, hmax, hgs, c0, c1, c2, c3, c4, c5⟩ := own_event (own_nw He5.out Nx.out) Hn.out.2.symm hek
          cases hv
          have hem := List.mem_of_getElem? hek
          have Ef := Lib.hid (event_facts hb8 (Hee.out e hem) (Hs.out.2.2.2 e hem))
          have Mk := Lib.hid hek
          unfold maxLen at hmax
          have A4 := Lib.hid (Nx.out.alloc (.cells #[.int .i64 e.t, .int .i64 e.k, .int .i64 e.b, .int .i64 e.s, .int .i64 e.m, .float .f32 e.f] 137 (0, 0)))
          have E4 := Lib.hid (Has6.new wr 137 (.int .i64 e.t) (.int .i64 e.k) (.int .i64 e.b) (.int .i64 e.s) (.int .i64 e.m) (.float .f32 e.f))
          have Cn := Lib.hid (fun w => specNumT e.t Ef.out.1 w)
          clear hek hem
          go_wp2_with fail
          refine (Cn.out _).mono ?_
          rintro x5 v6 ⟨t1, rfl, ht1, lt1, n6⟩
          have N6 := Lib.hid (A4.out.trans n6)
          have E6 := Lib.hid (E4.out.nw n6)
          have Ht1 := Lib.hid ht1
          obtain ⟨q, hq⟩ : ∃ q, q = wr.heap.size := ⟨_, rfl⟩
          rw [← hq] at E6 ⊢
          clear n6 ht1 c0 c1 c2 c3 c4 c5 hq E4
          obtain ⟨y0, ⟨y1, y2, y3, y4, y5, y6⟩, y7, y8, y9, y10, y11, y12⟩ := E6.out
          have Keep := Lib.hid (show ∀ W, Nw v6 W → W.cell? ⟨q, 2, none⟩ = some (.int .i64 e.b) ∧ W.cell? ⟨q, 3, none⟩ = some (.int .i64 e.s) ∧ W.cell? ⟨q, 4, none⟩ = some (.int .i64 e.m) ∧ W.cell? ⟨q, 5, none⟩ = some (.float .f32 e.f) from fun W hW => by
            obtain ⟨y0, ⟨y1, y2, y3, y4, y5, y6⟩, -⟩ := E6.out.nw hW
            exact ⟨y3, y4, y5, y6⟩)
          rcases Ef.out.2.2 with ⟨hk1, g1, g2, g3⟩ | ⟨hk2, gs, gm, g3⟩ | ⟨hk3, gs, gm, gf⟩
          · have Hk := Lib.hid hk1
            rw [hk1] at y2
            go_upto_region 16 with fail
            refine wp_region_held_drew (S := fun w' => w'.cell? ⟨q, 2, none⟩ = some (.int .i64 e.b) ∧ w'.cell? ⟨q, 3, none⟩ = some (.int .i64 e.s) ∧ w'.cell? ⟨q, 4, none⟩ = some (.int .i64 e.m) ∧ w'.cell? ⟨q, 5, none⟩ = some (.float .f32 e.f)) (by kernel_rfl) ?_ (fun hHeld => ?_)
            · ((try dsimp only) ; exact Keep.out _ ((Nw.refl _).draw 1))
            refine wpAnyH_take (i := 0) (oi := _) (v := ?_) rfl (by kernel_rfl) (by kernel_rfl) (by kernel_rfl) (fun _ _ _ h => h) (_root_.Or.inl ⟨by rfl, ?_⟩) (by assumption) ?_
            rotate_left
            · intro w hSw
              (try dsimp only at hSw)
              go_simp
              all_goals first | with_reducible rfl | (rw [if_neg (by omega)]; done) | (rw [if_neg (by simp; omega)]; done) | (rw [if_neg (by omega)]; with_reducible rfl)
            try simp only [Act.put, List.setIfInBounds_toArray, List.set_cons_zero, List.set_cons_succ]
            refine wpAnyH_take (i := 1) (oi := _) (v := ?_) rfl (by kernel_rfl) (by kernel_rfl) (by kernel_rfl) (fun _ _ _ h => h) (_root_.Or.inl ⟨by rfl, ?_⟩) (by assumption) ?_
            rotate_left
            · intro w hSw
              (try dsimp only at hSw)
              go_simp
              all_goals first | with_reducible rfl | (rw [if_neg (by omega)]; done) | (rw [if_neg (by simp; omega)]; done) | (rw [if_neg (by omega)]; with_reducible rfl)
            try simp only [Act.put, List.setIfInBounds_toArray, List.set_cons_zero, List.set_cons_succ]
            refine wpAnyH_take (i := 2) (oi := _) (v := ?_) rfl (by kernel_rfl) (by kernel_rfl) (by kernel_rfl) (fun _ _ _ h => h) (_root_.Or.inl ⟨by rfl, ?_⟩) (by assumption) ?_
            rotate_left
            · intro w hSw
              (try dsimp only at hSw)
              go_simp
              all_goals first | with_reducible rfl | (rw [if_neg (by omega)]; done) | (rw [if_neg (by simp; omega)]; done) | (rw [if_neg (by omega)]; with_reducible rfl)
            try simp only [Act.put, List.setIfInBounds_toArray, List.set_cons_zero, List.set_cons_succ]
            refine wpAnyH_take (i := 3) (oi := _) (v := ?_) rfl (by kernel_rfl) (by kernel_rfl) (by kernel_rfl) (fun _ _ _ h => h) (_root_.Or.inl ⟨by rfl, ?_⟩) (by assumption) ?_
            rotate_left
            · intro w hSw
              (try dsimp only at hSw)
              go_simp
              all_goals first | with_reducible rfl | (rw [if_neg (by omega)]; done) | (rw [if_neg (by simp; omega)]; done) | (rw [if_neg (by omega)]; with_reducible rfl)
            try simp only [Act.put, List.setIfInBounds_toArray, List.set_cons_zero, List.set_cons_succ]
            refine wpAnyH_take (i := 7) (oi := _) (v := ?_) rfl (by kernel_rfl) (by kernel_rfl) (by kernel_rfl) (fun _ _ _ h => h) (_root_.Or.inl ⟨by rfl, ?_⟩) (by assumption) ?_
            rotate_left
            · intro w hSw
              (try dsimp only at hSw)
              go_simp
              all_goals first | with_reducible rfl | (rw [if_neg (by omega)]; done) | (rw [if_neg (by simp; omega)]; done) | (rw [if_neg (by omega)]; with_reducible rfl)
            try simp only [Act.put, List.setIfInBounds_toArray, List.set_cons_zero, List.set_cons_succ]
            refine wpAnyH_take (i := 8) (oi := _) (v := ?_) rfl (by kernel_rfl) (by kernel_rfl) (by kernel_rfl) (fun _ _ _ h => h) (_root_.Or.inl ⟨by rfl, ?_⟩) (by assumption) ?_
            rotate_left
            · intro w hSw
              (try dsimp only at hSw)
              go_simp
              all_goals first | with_reducible rfl | (rw [if_neg (by omega)]; done) | (rw [if_neg (by simp; omega)]; done) | (rw [if_neg (by omega)]; with_reducible rfl)
            try simp only [Act.put, List.setIfInBounds_toArray, List.set_cons_zero, List.set_cons_succ]
            refine wpAnyH_take (i := 12) (oi := _) (v := ?_) rfl (by kernel_rfl) (by kernel_rfl) (by kernel_rfl) (fun _ _ _ h => h) (_root_.Or.inl ⟨by rfl, ?_⟩) (by assumption) ?_
            rotate_left
            · intro w hSw
              (try dsimp only at hSw)
              go_simp
              all_goals first | with_reducible rfl | (rw [if_neg (by omega)]; done) | (rw [if_neg (by simp; omega)]; done) | (rw [if_neg (by omega)]; with_reducible rfl)
            try simp only [Act.put, List.setIfInBounds_toArray, List.set_cons_zero, List.set_cons_succ]
            refine wpAnyH_take (i := 13) (oi := _) (v := ?_) rfl (by kernel_rfl) (by kernel_rfl) (by kernel_rfl) (fun _ _ _ h => h) (_root_.Or.inl ⟨by rfl, ?_⟩) (by assumption) ?_
            rotate_left
            · intro w hSw
              (try dsimp only at hSw)
              go_simp
              all_goals first | with_reducible rfl | (rw [if_neg (by omega)]; done) | (rw [if_neg (by simp; omega)]; done) | (rw [if_neg (by omega)]; with_reducible rfl)
            try simp only [Act.put, List.setIfInBounds_toArray, List.set_cons_zero, List.set_cons_succ]
            refine wpAnyH_take (i := 17) (oi := _) (v := ?_) rfl (by kernel_rfl) (by kernel_rfl) (by kernel_rfl) (fun _ _ _ h => h) (_root_.Or.inl ⟨by rfl, ?_⟩) (by assumption) ?_
            rotate_left
            · intro w hSw
              (try dsimp only at hSw)
              go_simp
              all_goals first | with_reducible rfl | (rw [if_neg (by omega)]; done) | (rw [if_neg (by simp; omega)]; done) | (rw [if_neg (by omega)]; with_reducible rfl)
            try simp only [Act.put, List.setIfInBounds_toArray, List.set_cons_zero, List.set_cons_succ]
            refine wpAnyH_take (i := 18) (oi := _) (v := ?_) rfl (by kernel_rfl) (by kernel_rfl) (by kernel_rfl) (fun _ _ _ h => h) (_root_.Or.inl ⟨by rfl, ?_⟩) (by assumption) ?_
            rotate_left
            · intro w hSw
              (try dsimp only at hSw)
              go_simp
              all_goals first | with_reducible rfl | (rw [if_neg (by omega)]; done) | (rw [if_neg (by simp; omega)]; done) | (rw [if_neg (by omega)]; with_reducible rfl)
            try simp only [Act.put, List.setIfInBounds_toArray, List.set_cons_zero, List.set_cons_succ]
            refine wpAnyH_ready (rs := [4]) (by kernel_rfl) (by simp) ?_
            refine AllReadyH.cons (o := _) rfl (fun K hK => ?_) AllReadyH.nil
            go_simp
            go_at_call 153
            refine (specNumT e.b Ef.out.2.1 _).mono ?_
            rintro e u1 ⟨t2, rfl, ht2, lt2, d1⟩
            have D1 := Lib.hid (((Nw.refl _).draw 1).trans d1)
            have Ht2 := Lib.hid ht2
            clear d1 ht2
            go_wp2_with fail
            refine hK.out _ _ ?_ (fun hHeld => ?_)
            · ((try dsimp only) ; exact Keep.out _ D1.out)
            clear hK K
            try simp only [Act.put, List.setIfInBounds_toArray, List.set_cons_zero, List.set_cons_succ]
            refine wpAnyH_take (i := 5) (oi := _) (v := ?_) rfl (by kernel_rfl) (by kernel_rfl) (by kernel_rfl) (fun _ _ _ h => h) (_root_.Or.inl ⟨by rfl, ?_⟩) (by assumption) ?_
            rotate_left
            · intro w hSw
              (try dsimp only at hSw)
              go_simp
              all_goals first | with_reducible rfl | (rw [if_neg (by omega)]; done) | (rw [if_neg (by simp; omega)]; done) | (rw [if_neg (by omega)]; with_reducible rfl)
            try simp only [Act.put, List.setIfInBounds_toArray, List.set_cons_zero, List.set_cons_succ]
            refine wpAnyH_take (i := 6) (oi := _) (v := ?_) rfl (by kernel_rfl) (by kernel_rfl) (by kernel_rfl) (fun _ _ _ h => h) (_root_.Or.inl ⟨by rfl, ?_⟩) (by assumption) ?_
            rotate_left
            · intro w hSw
              (try dsimp only at hSw)
              go_simp
              all_goals first | with_reducible rfl | (rw [if_neg (by omega)]; done) | (rw [if_neg (by simp; omega)]; done) | (rw [if_neg (by omega)]; with_reducible rfl)
            try simp only [Act.put, List.setIfInBounds_toArray, List.set_cons_zero, List.set_cons_succ]
            refine wpAnyH_ready (rs := [9]) (by kernel_rfl) (by simp) ?_
            refine AllReadyH.cons (o := _) rfl (fun K hK => ?_) AllReadyH.nil
            go_simp
            go_at_call 153
            refine (specNumT e.s g1 _).mono ?_
            rintro e u2 ⟨t3, rfl, ht3, lt3, d2⟩
            have D2 := Lib.hid (D1.out.trans d2)
            have Ht3 := Lib.hid ht3
            clear d2 ht3
            go_wp2_with fail
            refine hK.out _ _ ?_ (fun hHeld => ?_)
            · ((try dsimp only) ; exact Keep.out _ D2.out)
            clear hK K
            try simp only [Act.put, List.setIfInBounds_toArray, List.set_cons_zero, List.set_cons_succ]
            refine wpAnyH_take (i := 10) (oi := _) (v := ?_) rfl (by kernel_rfl) (by kernel_rfl) (by kernel_rfl) (fun _ _ _ h => h) (_root_.Or.inl ⟨by rfl, ?_⟩) (by assumption) ?_
            rotate_left
            · intro w hSw
              (try dsimp only at hSw)
              go_simp
              all_goals first | with_reducible rfl | (rw [if_neg (by omega)]; done) | (rw [if_neg (by simp; omega)]; done) | (rw [if_neg (by omega)]; with_reducible rfl)
            try simp only [Act.put, List.setIfInBounds_toArray, List.set_cons_zero, List.set_cons_succ]
            refine wpAnyH_take (i := 11) (oi := _) (v := ?_) rfl (by kernel_rfl) (by kernel_rfl) (by kernel_rfl) (fun _ _ _ h => h) (_root_.Or.inl ⟨by rfl, ?_⟩) (by assumption) ?_
            rotate_left
            · intro w hSw
              (try dsimp only at hSw)
              go_simp
              all_goals first | with_reducible rfl | (rw [if_neg (by omega)]; done) | (rw [if_neg (by simp; omega)]; done) | (rw [if_neg (by omega)]; with_reducible rfl)
            try simp only [Act.put, List.setIfInBounds_toArray, List.set_cons_zero, List.set_cons_succ]
            refine wpAnyH_ready (rs := [14]) (by kernel_rfl) (by simp) ?_
            refine AllReadyH.cons (o := _) rfl (fun K hK => ?_) AllReadyH.nil
            go_simp
            go_at_call 153
            refine (specNumT e.m g2 _).mono ?_
            rintro e u3x ⟨t4, rfl, ht4, lt4, d3⟩
            have D3 := Lib.hid (D2.out.trans d3)
            have Ht4 := Lib.hid ht4
            clear d3 ht4
            go_wp2_with fail
            refine hK.out _ _ ?_ (fun hHeld => ?_)
            · ((try dsimp only) ; exact Keep.out _ D3.out)
            clear hK K
            try simp only [Act.put, List.setIfInBounds_toArray, List.set_cons_zero, List.set_cons_succ]
            refine wpAnyH_take (i := 15) (oi := _) (v := ?_) rfl (by kernel_rfl) (by kernel_rfl) (by kernel_rfl) (fun _ _ _ h => h) (_root_.Or.inl ⟨by rfl, ?_⟩) (by assumption) ?_
            rotate_left
            · intro w hSw
              (try dsimp only at hSw)
              go_simp
              all_goals first | with_reducible rfl | (rw [if_neg (by omega)]; done) | (rw [if_neg (by simp; omega)]; done) | (rw [if_neg (by omega)]; with_reducible rfl)
            try simp only [Act.put, List.setIfInBounds_toArray, List.set_cons_zero, List.set_cons_succ]
            refine wpAnyH_take (i := 16) (oi := _) (v := ?_) rfl (by kernel_rfl) (by kernel_rfl) (by kernel_rfl) (fun _ _ _ h => h) (_root_.Or.inl ⟨by rfl, ?_⟩) (by assumption) ?_
            rotate_left
            · intro w hSw
              (try dsimp only at hSw)
              go_simp
              all_goals first | with_reducible rfl | (rw [if_neg (by omega)]; done) | (rw [if_neg (by simp; omega)]; done) | (rw [if_neg (by omega)]; with_reducible rfl)
            try simp only [Act.put, List.setIfInBounds_toArray, List.set_cons_zero, List.set_cons_succ]
            refine wpAnyH_ready (rs := [19]) (by kernel_rfl) (by simp) ?_
            refine AllReadyH.cons (o := _) rfl (fun K hK => ?_) AllReadyH.nil
            go_simp
            go_at_call 76
            refine (specTxS' e.f g3 _).mono ?_
            rintro e u4x ⟨t5, rfl, ht5, lt5, d4⟩
            have D4 := Lib.hid (D3.out.trans d4)
            have Ht5 := Lib.hid ht5
            clear d4 ht5
            go_wp2_with fail
            refine hK.out _ _ ?_ (fun hHeld => ?_)
            · ((try dsimp only) ; exact Keep.out _ D4.out)
            clear hK K
            try simp only [Act.put, List.setIfInBounds_toArray, List.set_cons_zero, List.set_cons_succ]
            refine wpAnyH_take (i := 20) (oi := _) (v := ?_) rfl (by kernel_rfl) (by kernel_rfl) (by kernel_rfl) (fun _ _ _ h => h) (_root_.Or.inl ⟨by rfl, ?_⟩) (by assumption) ?_
            rotate_left
            · intro w hSw
              (try dsimp only at hSw)
              go_simp
              all_goals first | with_reducible rfl | (rw [if_neg (by omega)]; done) | (rw [if_neg (by simp; omega)]; done) | (rw [if_neg (by omega)]; with_reducible rfl)
            try simp only [Act.put, List.setIfInBounds_toArray, List.set_cons_zero, List.set_cons_succ]
            refine wpAnyH_take (i := 21) (oi := _) (v := ?_) rfl (by kernel_rfl) (by kernel_rfl) (by kernel_rfl) (fun _ _ _ h => h) (_root_.Or.inl ⟨by rfl, ?_⟩) (by assumption) ?_
            rotate_left
            · intro w hSw
              (try dsimp only at hSw)
              go_simp
              all_goals first | with_reducible rfl | (rw [if_neg (by omega)]; done) | (rw [if_neg (by simp; omega)]; done) | (rw [if_neg (by omega)]; with_reducible rfl)
            try simp only [Act.put, List.setIfInBounds_toArray, List.set_cons_zero, List.set_cons_succ]
            refine wpAnyH_done (by kernel_rfl) ?_ _
            go_wp2_with fail
            go_roundw
            case rel =>
              obtain ⟨hj', he⟩ := List.getElem?_eq_some_iff.1 Mk.out
              refine ⟨i + 1, z ++ ((wAt ++ (([t1, wStrike, t2, t3, t4, t5] : List (List UInt8)).map (32 :: ·)).flatten) ++ [10]), qs ++ [wAt ++ (([t1, wStrike, t2, t3, t4, t5] : List (List UInt8)).map (32 :: ·)).flatten], by omega, by rw [show ((i + 1 : Nat) : Int) = (i : Int) + 1 from by omega], congrArg Value.string (by apply ByteArray.ext; simp [wAt, wStrike]), ?_, ?_, by simp [wAt, wStrike]; omega, N6.out.trans D4.out⟩
              · rw [Qs.out.1, glue_snoc]; simp
              · rw [List.take_succ_eq_append_getElem hj', he]
                refine Qs.out.2.snoc (.inl ⟨t1, t2, t3, t4, t5, spl_line (by decide) (fun t ht => ?_), Ht1.out, Hk.out, Ht2.out, Ht3.out, Ht4.out, Ht5.out⟩)
                simp only [List.mem_cons, List.not_mem_nil, or_false] at ht
                rcases ht with rfl | rfl | rfl | rfl | rfl | rfl
                · exact intT_sp Ht1.out
                · decide
                · exact intT_sp Ht2.out
                · exact intT_sp Ht3.out
                · exact intT_sp Ht4.out
                · exact txS_K.sp Ht5.out
            case measure => simp only [intOf]; omega
          · have Hk := Lib.hid hk2
            have Gs := Lib.hid gs
            have Gm := Lib.hid gm
            rw [hk2] at y2
            clear gs gm
            go_upto_region 18 with fail
            refine wp_region_held_drew (S := fun w' => w'.cell? ⟨q, 2, none⟩ = some (.int .i64 e.b) ∧ w'.cell? ⟨q, 3, none⟩ = some (.int .i64 e.s) ∧ w'.cell? ⟨q, 4, none⟩ = some (.int .i64 e.m) ∧ w'.cell? ⟨q, 5, none⟩ = some (.float .f32 e.f)) (by kernel_rfl) ?_ (fun hHeld => ?_)
            · ((try dsimp only) ; exact Keep.out _ ((Nw.refl _).draw 1))
            refine wpAnyH_take (i := 0) (oi := _) (v := ?_) rfl (by kernel_rfl) (by kernel_rfl) (by kernel_rfl) (fun _ _ _ h => h) (_root_.Or.inl ⟨by rfl, ?_⟩) (by assumption) ?_
            rotate_left
            · intro w hSw
              (try dsimp only at hSw)
              go_simp
              all_goals first | with_reducible rfl | (rw [if_neg (by omega)]; done) | (rw [if_neg (by simp; omega)]; done) | (rw [if_neg (by omega)]; with_reducible rfl)
            try simp only [Act.put, List.setIfInBounds_toArray, List.set_cons_zero, List.set_cons_succ]
            refine wpAnyH_take (i := 1) (oi := _) (v := ?_) rfl (by kernel_rfl) (by kernel_rfl) (by kernel_rfl) (fun _ _ _ h => h) (_root_.Or.inl ⟨by rfl, ?_⟩) (by assumption) ?_
            rotate_left
            · intro w hSw
              (try dsimp only at hSw)
              go_simp
              all_goals first | with_reducible rfl | (rw [if_neg (by omega)]; done) | (rw [if_neg (by simp; omega)]; done) | (rw [if_neg (by omega)]; with_reducible rfl)
            try simp only [Act.put, List.setIfInBounds_toArray, List.set_cons_zero, List.set_cons_succ]
            refine wpAnyH_take (i := 2) (oi := _) (v := ?_) rfl (by kernel_rfl) (by kernel_rfl) (by kernel_rfl) (fun _ _ _ h => h) (_root_.Or.inl ⟨by rfl, ?_⟩) (by assumption) ?_
            rotate_left
            · intro w hSw
              (try dsimp only at hSw)
              go_simp
              all_goals first | with_reducible rfl | (rw [if_neg (by omega)]; done) | (rw [if_neg (by simp; omega)]; done) | (rw [if_neg (by omega)]; with_reducible rfl)
            try simp only [Act.put, List.setIfInBounds_toArray, List.set_cons_zero, List.set_cons_succ]
            refine wpAnyH_take (i := 3) (oi := _) (v := ?_) rfl (by kernel_rfl) (by kernel_rfl) (by kernel_rfl) (fun _ _ _ h => h) (_root_.Or.inl ⟨by rfl, ?_⟩) (by assumption) ?_
            rotate_left
            · intro w hSw
              (try dsimp only at hSw)
              go_simp
              all_goals first | with_reducible rfl | (rw [if_neg (by omega)]; done) | (rw [if_neg (by simp; omega)]; done) | (rw [if_neg (by omega)]; with_reducible rfl)
            try simp only [Act.put, List.setIfInBounds_toArray, List.set_cons_zero, List.set_cons_succ]
            refine wpAnyH_take (i := 7) (oi := _) (v := ?_) rfl (by kernel_rfl) (by kernel_rfl) (by kernel_rfl) (fun _ _ _ h => h) (_root_.Or.inl ⟨by rfl, ?_⟩) (by assumption) ?_
            rotate_left
            · intro w hSw
              (try dsimp only at hSw)
              go_simp
              all_goals first | with_reducible rfl | (rw [if_neg (by omega)]; done) | (rw [if_neg (by simp; omega)]; done) | (rw [if_neg (by omega)]; with_reducible rfl)
            try simp only [Act.put, List.setIfInBounds_toArray, List.set_cons_zero, List.set_cons_succ]
            refine wpAnyH_take (i := 8) (oi := _) (v := ?_) rfl (by kernel_rfl) (by kernel_rfl) (by kernel_rfl) (fun _ _ _ h => h) (_root_.Or.inl ⟨by rfl, ?_⟩) (by assumption) ?_
            rotate_left
            · intro w hSw
              (try dsimp only at hSw)
              go_simp
              all_goals first | with_reducible rfl | (rw [if_neg (by omega)]; done) | (rw [if_neg (by simp; omega)]; done) | (rw [if_neg (by omega)]; with_reducible rfl)
            try simp only [Act.put, List.setIfInBounds_toArray, List.set_cons_zero, List.set_cons_succ]
            refine wpAnyH_ready (rs := [4]) (by kernel_rfl) (by simp) ?_
            refine AllReadyH.cons (o := _) rfl (fun K hK => ?_) AllReadyH.nil
            go_simp
            go_at_call 153
            refine (specNumT e.b Ef.out.2.1 _).mono ?_
            rintro e v1 ⟨t2, rfl, ht2, lt2, d1⟩
            have D1 := Lib.hid (((Nw.refl _).draw 1).trans d1)
            have Ht2 := Lib.hid ht2
            clear d1 ht2
            go_wp2_with fail
            refine hK.out _ _ ?_ (fun hHeld => ?_)
            · ((try dsimp only) ; exact Keep.out _ D1.out)
            clear hK K
            try simp only [Act.put, List.setIfInBounds_toArray, List.set_cons_zero, List.set_cons_succ]
            refine wpAnyH_take (i := 5) (oi := _) (v := ?_) rfl (by kernel_rfl) (by kernel_rfl) (by kernel_rfl) (fun _ _ _ h => h) (_root_.Or.inl ⟨by rfl, ?_⟩) (by assumption) ?_
            rotate_left
            · intro w hSw
              (try dsimp only at hSw)
              go_simp
              all_goals first | with_reducible rfl | (rw [if_neg (by omega)]; done) | (rw [if_neg (by simp; omega)]; done) | (rw [if_neg (by omega)]; with_reducible rfl)
            try simp only [Act.put, List.setIfInBounds_toArray, List.set_cons_zero, List.set_cons_succ]
            refine wpAnyH_take (i := 6) (oi := _) (v := ?_) rfl (by kernel_rfl) (by kernel_rfl) (by kernel_rfl) (fun _ _ _ h => h) (_root_.Or.inl ⟨by rfl, ?_⟩) (by assumption) ?_
            rotate_left
            · intro w hSw
              (try dsimp only at hSw)
              go_simp
              all_goals first | with_reducible rfl | (rw [if_neg (by omega)]; done) | (rw [if_neg (by simp; omega)]; done) | (rw [if_neg (by omega)]; with_reducible rfl)
            try simp only [Act.put, List.setIfInBounds_toArray, List.set_cons_zero, List.set_cons_succ]
            refine wpAnyH_ready (rs := [9]) (by kernel_rfl) (by simp) ?_
            refine AllReadyH.cons (o := _) rfl (fun K hK => ?_) AllReadyH.nil
            go_simp
            go_at_call 76
            refine (specTxS' e.f g3 _).mono ?_
            rintro e v2 ⟨t3, rfl, ht3, lt3, d2⟩
            have D2 := Lib.hid (D1.out.trans d2)
            have Ht3 := Lib.hid ht3
            clear d2 ht3
            go_wp2_with fail
            refine hK.out _ _ ?_ (fun hHeld => ?_)
            · ((try dsimp only) ; exact Keep.out _ D2.out)
            clear hK K
            try simp only [Act.put, List.setIfInBounds_toArray, List.set_cons_zero, List.set_cons_succ]
            refine wpAnyH_take (i := 10) (oi := _) (v := ?_) rfl (by kernel_rfl) (by kernel_rfl) (by kernel_rfl) (fun _ _ _ h => h) (_root_.Or.inl ⟨by rfl, ?_⟩) (by assumption) ?_
            rotate_left
            · intro w hSw
              (try dsimp only at hSw)
              go_simp
              all_goals first | with_reducible rfl | (rw [if_neg (by omega)]; done) | (rw [if_neg (by simp; omega)]; done) | (rw [if_neg (by omega)]; with_reducible rfl)
            try simp only [Act.put, List.setIfInBounds_toArray, List.set_cons_zero, List.set_cons_succ]
            refine wpAnyH_take (i := 11) (oi := _) (v := ?_) rfl (by kernel_rfl) (by kernel_rfl) (by kernel_rfl) (fun _ _ _ h => h) (_root_.Or.inl ⟨by rfl, ?_⟩) (by assumption) ?_
            rotate_left
            · intro w hSw
              (try dsimp only at hSw)
              go_simp
              all_goals first | with_reducible rfl | (rw [if_neg (by omega)]; done) | (rw [if_neg (by simp; omega)]; done) | (rw [if_neg (by omega)]; with_reducible rfl)
            try simp only [Act.put, List.setIfInBounds_toArray, List.set_cons_zero, List.set_cons_succ]
            refine wpAnyH_done (by kernel_rfl) ?_ _
            go_wp2_with fail
            go_roundw
            case rel =>
              obtain ⟨hj', he⟩ := List.getElem?_eq_some_iff.1 Mk.out
              refine ⟨i + 1, z ++ ((wAt ++ (([t1, wDamp, t2, t3] : List (List UInt8)).map (32 :: ·)).flatten) ++ [10]), qs ++ [wAt ++ (([t1, wDamp, t2, t3] : List (List UInt8)).map (32 :: ·)).flatten], by omega, by rw [show ((i + 1 : Nat) : Int) = (i : Int) + 1 from by omega], congrArg Value.string (by apply ByteArray.ext; simp [wAt, wDamp]), ?_, ?_, by simp [wAt, wDamp]; omega, N6.out.trans D2.out⟩
              · rw [Qs.out.1, glue_snoc]; simp
              · rw [List.take_succ_eq_append_getElem hj', he]
                refine Qs.out.2.snoc (.inr (.inl ⟨t1, t2, t3, spl_line (by decide) (fun t ht => ?_), Ht1.out, Hk.out, Ht2.out, Gs.out, Gm.out, Ht3.out⟩))
                simp only [List.mem_cons, List.not_mem_nil, or_false] at ht
                rcases ht with rfl | rfl | rfl | rfl
                · exact intT_sp Ht1.out
                · decide
                · exact intT_sp Ht2.out
                · exact txS_K.sp Ht3.out
            case measure => simp only [intOf]; omega
          · have Hk := Lib.hid hk3
            have Gs := Lib.hid gs
            have Gm := Lib.hid gm
            have Gf := Lib.hid gf
            rw [hk3] at y2
            clear gs gm gf
            go_wp2_with fail
            refine (specNumT e.b Ef.out.2.1 _).mono ?_
            rintro x7 v7 ⟨t2, rfl, ht2, lt2, n7⟩
            have N7 := Lib.hid (N6.out.trans n7)
            have Ht2 := Lib.hid ht2
            clear n7 ht2
            go_wp2_with fail
            go_roundw
            case rel =>
              obtain ⟨hj', he⟩ := List.getElem?_eq_some_iff.1 Mk.out
              refine ⟨i + 1, z ++ ((wAt ++ (([t1, wStop, t2] : List (List UInt8)).map (32 :: ·)).flatten) ++ [10]), qs ++ [wAt ++ (([t1, wStop, t2] : List (List UInt8)).map (32 :: ·)).flatten], by omega, by rw [show ((i + 1 : Nat) : Int) = (i : Int) + 1 from by omega], congrArg Value.string (by apply ByteArray.ext; simp [wAt, wStop]), ?_, ?_, by simp [wAt, wStop]; omega, N7.out⟩
              · rw [Qs.out.1, glue_snoc]; simp
              · rw [List.take_succ_eq_append_getElem hj', he]
                refine Qs.out.2.snoc (.inr (.inr ⟨t1, t2, spl_line (by decide) (fun t ht => ?_), Ht1.out, Hk.out, Ht2.out, Gs.out, Gm.out, Gf.out⟩))
                simp only [List.mem_cons, List.not_mem_nil, or_false] at ht
                rcases ht with rfl | rfl | rfl
                · exact intT_sp Ht1.out
                · decide
                · exact intT_sp Ht2.out
            case measure => simp only [intOf]; omega
        · have hin : i = ne := by omega
          have Ae := Lib.hid (show All2 EvL qs es from by have h := Qs.out.2; rw [List.take_of_length_le (by rw [← Hn.out.2]; omega)] at h; exact h)
          go_wp2_with fail
          go_ret
          refine ⟨z, rfl, ⟨hd, ls, qs, hd3.out, Lb.out, Ae.out, ?_⟩, by omega, N5.out.trans Nx.out⟩
          rw [Qs.out.1, Ls.out.1]
          simp [glueC]
end Go.Proofs.YtnmjkjjmigiabaaGreatDoor

/- The model's ParseScore (FnExactParseScore).
   Conditions: those that each statement names. -/
namespace Go.Proofs.YtnmjkjjmigiabaaGreatDoor
set_option linter.unusedSimpArgs false
set_option linter.unusedVariables false
open Go Go.RowKit

theorem bodL_len {bs : List (List M4)} {ls : List (List UInt8)} (h : BodL bs ls) (k : ∀ ms ∈ bs, ms.length ≤ 16) : ls.length ≤ 17 * bs.length := by
  induction bs generalizing ls with
  | nil => cases h; simp
  | cons ms bs ih =>
    obtain ⟨ps, rs, a, b, rfl⟩ := h
    have h1 := a.len
    have h2 := k ms List.mem_cons_self
    have h3 := ih b (fun m hm => k m (List.mem_cons_of_mem _ hm))
    simp
    omega
theorem ScM.set {base : Nat} {w : World} {sv ev : Value} {s : Sco} (h : ScM base w sv ev s) {p : Addr} (hp : p.block < base) (u : Value) : ScM base (w.setCell p u) sv ev s :=
  ⟨h.bods.set hp u, own_set h.evs hp u, by simpa using h.sz⟩
structure PscI (ls : List (List UInt8)) (b : Nat) (w0 : World) (i : Value) (wr : World) (j : Nat) (s : Sco) (sv ev : Value) : Prop where
  hj : j ≤ ls.length
  hi : i = .int .i64 (j : Int)
  run : RunL sco0 (ls.take j) s
  mem : ScM (b + 1) wr sv ev s
  ok : StOk s
  bnd : StB j s
  bx : Has6 wr b (.int .i64 s.L) (.int .i64 s.V) (.float .f32 s.C) (.float .f32 s.R) sv ev
  nw : Nw w0 wr
def PscR (ls : List (List UInt8)) (b : Nat) (w0 : World) (i : Value) (wr : World) : Prop := ∃ (j : Nat) (s : Sco) (sv ev : Value), PscI ls b w0 i wr j s sv ev
def GoodS' (l : List UInt8) (s : Sco) : Prop := scB s = true ∧ TextS l s
def PscQ (l : List UInt8) (w : World) (e : Ending) (w' : World) : Prop :=
  Nw w w' ∧ ((∃ (s : Sco) (sv ev : Value), GoodS' l s ∧ StOk s ∧ e = .returned (.tuple #[.agg #[.int .i64 s.L, .int .i64 s.V, .float .f32 s.C, .float .f32 s.R, sv, ev], .bool true]) ∧ BodsR w' w.heap.size sv s.bs ∧ w'.ownsRow w.heap.size 137 6 ev s.es.length (cellsE s.es)) ∨
    ((∀ s, ¬ GoodS' l s) ∧ e = .returned (.tuple #[.agg #[.int .i64 0, .int .i64 0, .float .f32 0, .float .f32 0, .slice none 0 0, .slice none 0 0], .bool false])))

set_option maxHeartbeats 6400000 in
set_option maxRecDepth 100000 in
theorem specParseScore (s : ByteArray) (hs : s.size ≤ 1048576) (w : World) :
    Calls Tryz.prog 40 #[.string s] w (PscQ s.data.toList w) := by
  have C := Lib.hid (l1Split_any 10 s hs)
  have B := Lib.hid (Has6.new w 68 (.int .i64 0) (.int .i64 0) (.float .f32 0) (.float .f32 0) (.slice none 0 0) (.slice none 0 0))
  go_enter Tryz.func40, Tryz.ntmps40
  go_wp2_with fail
  refine (C.out _).mono ?_
  rintro e w1 ⟨ls, r, v, rfl, hl, hps, hr, own, n1⟩
  have hsp : spl 10 s.data.toList = ls ++ [r] := by rw [hl, spl_glue hps, spl_none hr]
  obtain ⟨va, vc, rfl⟩ := own_shape' own
  have Sp := Lib.hid hsp
  have B1 := Lib.hid (B.out.nw n1)
  have hw1 : w.heap.size < w1.heap.size := (B.out.nw n1).1
  have E1 := Lib.hid (Has6.new w1 68 (.int .i64 0) (.int .i64 0) (.float .f32 0) (.float .f32 0) (.slice none 0 0) (.slice none 0 0))
  have N1 := Lib.hid (((Nw.refl w).alloc (.cells #[.int .i64 0, .int .i64 0, .float .f32 0, .float .f32 0, .slice none 0 0, .slice none 0 0] 68 (0, 0))).trans n1)
  have O1 := Lib.hid own
  have hpl : ls.length ≤ 1048576 := by
    have h1 := spl_le 10 s.data.toList
    have h2 : s.data.toList.length = s.size := Array.length_toList
    rw [hsp] at h1
    simp at h1
    omega
  obtain ⟨g, hva, hcv⟩ : ∃ g, va = some ⟨g, 0, none⟩ ∧ ls.length + 1 ≤ vc ∧ vc ≤ maxLen := by
    rcases O1.out.2 with ⟨h0, h1⟩ | ⟨g, cap, cur, hv, hb, hg, hc, hm, -, -⟩
    · omega
    · cases hv; exact ⟨g, rfl, hc, hm⟩
  subst hva
  have hgw : g < w1.heap.size := (O1.out.lt g rfl).2
  unfold maxLen at hcv
  have hne : w.heap.size ≠ w1.heap.size := by omega
  clear hl hps hr own n1 hsp
  obtain ⟨s0, ⟨s1, s2, s3, s4, s5, s6⟩, s7, s8, s9, s10, s11, s12⟩ := E1.out
  by_cases h198 : ls.length + 1 ≤ 198
  · have hi198 : ¬ ((198 : Int) < (ls.length : Int) + 1) := by omega
    go_wp2_with fail
    clear s0 s1 s2 s3 s4 s5 s6 s7 s8 s9 s10 s11 s12
    go_loopw [21] (fun i wr => PscR ls w1.heap.size w1 i wr) (fun i _ => ls.length - (intOf i).toNat)
    case atStart => exact ⟨0, sco0, _, _, by omega, rfl, rfl, ⟨BodsI.nil _ _ (by simp), World.ownsRow_nil _ _ _ _, by simp⟩, ⟨flX_zero, flX_zero, by simp [sco0], by simp [sco0]⟩, ⟨by simp [sco0], by simp [sco0], by simp [sco0]⟩, E1.out, (Nw.refl w1).alloc _⟩
    case round =>
      obtain ⟨k, st, sv, ev, hI⟩ := hrel
      have I := Lib.hid hI
      have hk := hI.hj
      have hii := hI.hi
      subst hii
      obtain ⟨sa, sc, rfl⟩ := hI.mem.bods.r.shape
      obtain ⟨ea, ec, rfl⟩ := own_shape' hI.mem.evs
      obtain ⟨nb, hnb⟩ : ∃ nb, nb = st.bs.length := ⟨_, rfl⟩
      obtain ⟨ne, hne2⟩ : ∃ ne, ne = st.es.length := ⟨_, rfl⟩
      rw [← hnb, ← hne2] at I
      have Hn := Lib.hid (And.intro hnb hne2)
      have hws := Lib.hid (show w1.heap.size < wr.heap.size from hI.bx.1)
      have R := Lib.hid (B1.out.nw hI.nw)
      clear hI hnb hne2
      obtain ⟨s0, ⟨s1, s2, s3, s4, s5, s6⟩, s7, s8, s9, s10, s11, s12⟩ := (Lib.hid I.out.bx).out
      by_cases hlt : k < ls.length
      · obtain ⟨p, hpk⟩ : ∃ p, ls[k]? = some p := ⟨ls[k]'hlt, List.getElem?_eq_getElem _⟩
        have e0 := (own_nw O1.out I.out.nw).cellAt k (by omega)
        rw [show (cellsT (ls ++ [r]))[k]? = some (.string ⟨p.toArray⟩) from by unfold cellsT; rw [List.getElem?_map, List.getElem?_append_left hlt, hpk]; rfl] at e0
        have hpm : p ∈ ls := List.mem_of_getElem? hpk
        have hpl2 : p.length ≤ 1048576 := by
          have h1 : p ∈ spl 10 s.data.toList := by rw [Sp.out]; exact List.mem_append_left _ hpm
          have h1 := spl_len h1
          have h2 : s.data.toList.length = s.size := Array.length_toList
          omega
        have Pk := Lib.hid hpk
        clear hpk hpm
        go_wp2_with fail
        refine (l7Line_any k (w1.heap.size + 1) (by omega) p hpl2 st _ _ wr I.out.ok I.out.bnd I.out.mem).mono ?_
        rintro e w5 ⟨u, sv', ev', rfl, hstp, hM, hU, hok, hbd⟩
        obtain ⟨sa2, sc2, rfl⟩ := hM.bods.r.shape
        obtain ⟨ea2, ec2, rfl⟩ := own_shape' hM.evs
        have Su := Lib.hid (hU.has6 (by omega) I.out.bx)
        have N5 := Lib.hid (hU.nw I.out.nw (by omega))
        have Mu := Lib.hid hM
        have Ku := Lib.hid (And.intro hstp (And.intro hok hbd))
        clear hstp hM hU hok hbd e0 s0 s1 s2 s3 s4 s5 s6 s7 s8 s9 s10 s11 s12
        obtain ⟨s0, ⟨s1, s2, s3, s4, s5, s6⟩, s7, s8, s9, s10, s11, s12⟩ := Su.out
        go_wp2_with fail
        go_roundw
        case rel =>
          refine ⟨k + 1, u, _, _, by omega, by rw [show ((k + 1 : Nat) : Int) = (k : Int) + 1 from by omega], ?_, ?_, Ku.out.2.1, Ku.out.2.2, (((((Su.out.set0 _).set1 _).set2 _).set3 _).set4 _).set5 _, ?_⟩
          · rw [List.take_add_one, Pk.out]
            exact I.out.run.snoc Ku.out.1
          · exact (((((Mu.out.set (p := ⟨w1.heap.size, 0, none⟩) (by show w1.heap.size < w1.heap.size + 1; omega) _).set (p := ⟨w1.heap.size, 1, none⟩) (by show w1.heap.size < w1.heap.size + 1; omega) _).set (p := ⟨w1.heap.size, 2, none⟩) (by show w1.heap.size < w1.heap.size + 1; omega) _).set (p := ⟨w1.heap.size, 3, none⟩) (by show w1.heap.size < w1.heap.size + 1; omega) _).set (p := ⟨w1.heap.size, 4, none⟩) (by show w1.heap.size < w1.heap.size + 1; omega) _).set (p := ⟨w1.heap.size, 5, none⟩) (by show w1.heap.size < w1.heap.size + 1; omega) _
          · exact (((((N5.out.set (p := ⟨w1.heap.size, 0, none⟩) (by exact Nat.le_refl w1.heap.size) _).set (p := ⟨w1.heap.size, 1, none⟩) (by exact Nat.le_refl w1.heap.size) _).set (p := ⟨w1.heap.size, 2, none⟩) (by exact Nat.le_refl w1.heap.size) _).set (p := ⟨w1.heap.size, 3, none⟩) (by exact Nat.le_refl w1.heap.size) _).set (p := ⟨w1.heap.size, 4, none⟩) (by exact Nat.le_refl w1.heap.size) _).set (p := ⟨w1.heap.size, 5, none⟩) (by exact Nat.le_refl w1.heap.size) _
        case measure => simp only [intOf]; omega
      · have hkn : k = ls.length := by omega
        have Run := Lib.hid (show RunL sco0 ls st from by have h := I.out.run; rw [List.take_of_length_le (by omega)] at h; exact h)
        have hbn : nb ≤ 1000 ∧ ne ≤ 1000 := by have h1 := I.out.bnd.b; have h2 := I.out.bnd.e; have h3 := Hn.out.1; have h4 := Hn.out.2; omega
        have N3 := Lib.hid (N1.out.trans I.out.nw)
        have He0 := Lib.hid (show wr.ownsRow (w1.heap.size + 1) 137 6 (.slice ea ne ec) ne (cellsE st.es) from by have h := I.out.mem.evs; rw [← Hn.out.2] at h; exact h)
        have Hb0 := Lib.hid I.out.mem.bods.r
        have hkk : k ≤ 197 := by omega
        clear hkn
        go_wp2_with fail
        refine (specScore_any st (w1.heap.size + 1) nb ne _ _ _ Hn.out.1 Hn.out.2 hbn I.out.ok.r (fun ms hm => by have := I.out.bnd.m ms hm; omega) I.out.ok.e Hb0.out He0.out).mono ?_
        rintro e w3 ⟨rfl, n3⟩
        have S3 := Lib.hid (I.out.bx.nw n3)
        have R3 := Lib.hid (R.out.nw n3)
        have N4 := Lib.hid (N3.out.trans n3)
        have Hb3 := Lib.hid (Hb0.out.nw n3)
        have He3 := Lib.hid (own_nw He0.out n3)
        clear n3 s0 s1 s2 s3 s4 s5 s6 s7 s8 s9 s10 s11 s12
        obtain ⟨s0, ⟨s1, s2, s3, s4, s5, s6⟩, s7, s8, s9, s10, s11, s12⟩ := S3.out
        obtain ⟨b0, ⟨b1, b2, b3, b4, b5, b6⟩, b7, b8, b9, b10, b11, b12⟩ := R3.out
        cases hsc : scB st with
        | false =>
          go_wp2_with fail
          refine bodyPost_ret (v := .tuple #[.agg #[.int .i64 0, .int .i64 0, .float .f32 0, .float .f32 0, .slice none 0 0, .slice none 0 0], .bool false]) (by simp [results, Tryz.results40, go_sem, b0, b1, b2, b3, b4, b5, b6, b7, b8, b9, b10, b11, b12]) rfl
            ⟨((((((N4.out.set (by exact Nat.le_refl w.heap.size) _).set (by exact Nat.le_refl w.heap.size) _).set (by exact Nat.le_refl w.heap.size) _).set (by exact Nat.le_refl w.heap.size) _).set (by exact Nat.le_refl w.heap.size) _).set (by exact Nat.le_refl w.heap.size) _), .inr ⟨fun s' h => ?_, rfl⟩⟩
          have e := run_good Sp.out Run.out h.2
          rw [e, h.1] at hsc
          cases hsc
        | true =>
          go_wp2_with fail
          refine (specFormatScore st (w1.heap.size + 1) nb ne _ _ _ Hn.out.1 Hn.out.2 hsc ⟨I.out.ok.c, I.out.ok.r, I.out.ok.m, I.out.ok.e⟩ Hb3.out He3.out).mono ?_
          rintro e w5 ⟨t, rfl, hT, htl, n5⟩
          have S5 := Lib.hid (S3.out.nw n5)
          have R5 := Lib.hid (R3.out.nw n5)
          have N5 := Lib.hid (N4.out.trans n5)
          have Hb5 := Lib.hid (Hb3.out.nw n5)
          have He5 := Lib.hid (own_nw He3.out n5)
          have Tx := Lib.hid hT
          clear n5 hT s0 s1 s2 s3 s4 s5 s6 s7 s8 s9 s10 s11 s12 b0 b1 b2 b3 b4 b5 b6 b7 b8 b9 b10 b11 b12
          obtain ⟨s0, ⟨s1, s2, s3, s4, s5, s6⟩, s7, s8, s9, s10, s11, s12⟩ := S5.out
          obtain ⟨b0, ⟨b1, b2, b3, b4, b5, b6⟩, b7, b8, b9, b10, b11, b12⟩ := R5.out
          by_cases ht : t = s.data.toList
          · have g : (t == s.toList) = true := by rw [ByteArray.toList_eq]; simpa using ht
            have g2 : ((⟨t.toArray⟩ : ByteArray).toList == s.toList) = true := by rw [ByteArray.toList_eq, ByteArray.toList_eq]; simpa using ht
            have g3 : (t == s.data.toList) = true := by simpa using ht
            go_wp2_with fail
            refine bodyPost_ret (v := .tuple #[.agg #[.int .i64 st.L, .int .i64 st.V, .float .f32 st.C, .float .f32 st.R, .slice sa nb sc, .slice ea ne ec], .bool true]) (by simp [results, Tryz.results40, go_sem, b0, b1, b2, b3, b4, b5, b6, b7, b8, b9, b10, b11, b12]) rfl
              ⟨((((((N5.out.set (by exact Nat.le_refl w.heap.size) _).set (by exact Nat.le_refl w.heap.size) _).set (by exact Nat.le_refl w.heap.size) _).set (by exact Nat.le_refl w.heap.size) _).set (by exact Nat.le_refl w.heap.size) _).set (by exact Nat.le_refl w.heap.size) _), .inl ⟨st, _, _, ⟨hsc, by rw [← ht]; exact Tx.out⟩, I.out.ok, rfl, ?_, ?_⟩⟩
            · exact ((((((Hb5.out.set (by show w.heap.size < w1.heap.size + 1; omega) _).set (by show w.heap.size < w1.heap.size + 1; omega) _).set (by show w.heap.size < w1.heap.size + 1; omega) _).set (by show w.heap.size < w1.heap.size + 1; omega) _).set (by show w.heap.size < w1.heap.size + 1; omega) _).set (by show w.heap.size < w1.heap.size + 1; omega) _).base (by omega)
            · rw [← Hn.out.2]
              exact own_base (own_set (own_set (own_set (own_set (own_set (own_set He5.out (by show w.heap.size < w1.heap.size + 1; omega) _) (by show w.heap.size < w1.heap.size + 1; omega) _) (by show w.heap.size < w1.heap.size + 1; omega) _) (by show w.heap.size < w1.heap.size + 1; omega) _) (by show w.heap.size < w1.heap.size + 1; omega) _) (by show w.heap.size < w1.heap.size + 1; omega) _) (by omega)
          · have g : (t == s.toList) = false := by rw [ByteArray.toList_eq]; simpa using ht
            have g2 : ((⟨t.toArray⟩ : ByteArray).toList == s.toList) = false := by rw [ByteArray.toList_eq, ByteArray.toList_eq]; simpa using ht
            have g3 : (t == s.data.toList) = false := by simpa using ht
            go_wp2_with fail
            refine bodyPost_ret (v := .tuple #[.agg #[.int .i64 0, .int .i64 0, .float .f32 0, .float .f32 0, .slice none 0 0, .slice none 0 0], .bool false]) (by simp [results, Tryz.results40, go_sem, b0, b1, b2, b3, b4, b5, b6, b7, b8, b9, b10, b11, b12]) rfl
              ⟨((((((N5.out.set (by exact Nat.le_refl w.heap.size) _).set (by exact Nat.le_refl w.heap.size) _).set (by exact Nat.le_refl w.heap.size) _).set (by exact Nat.le_refl w.heap.size) _).set (by exact Nat.le_refl w.heap.size) _).set (by exact Nat.le_refl w.heap.size) _), .inr ⟨fun s' h => ?_, rfl⟩⟩
            have e := run_good Sp.out Run.out h.2
            have hT := Tx.out
            rw [e] at hT
            exact ht (textS_txt hT h.2)
  · have hi198 : ((198 : Int) < (ls.length : Int) + 1) := by omega
    obtain ⟨b0, ⟨b1, b2, b3, b4, b5, b6⟩, b7, b8, b9, b10, b11, b12⟩ := B1.out
    go_wp2_with fail
    refine bodyPost_ret (v := .tuple #[.agg #[.int .i64 0, .int .i64 0, .float .f32 0, .float .f32 0, .slice none 0 0, .slice none 0 0], .bool false]) (by simp [results, Tryz.results40, go_sem, b0, b1, b2, b3, b4, b5, b6, b7, b8, b9, b10, b11, b12]) rfl
      ⟨(((((((N1.out.set (by exact Nat.le_refl w.heap.size) _).set (by exact Nat.le_refl w.heap.size) _).set (by exact Nat.le_refl w.heap.size) _).set (by exact Nat.le_refl w.heap.size) _).set (by exact Nat.le_refl w.heap.size) _).set (by exact Nat.le_refl w.heap.size) _).alloc _), .inr ⟨fun s' h => ?_, rfl⟩⟩
    obtain ⟨h1, l1, qs, a1, a2, a3, rfl⟩ := textS_lines Sp.out h.2
    obtain ⟨-, -, -, ⟨k1, k2⟩, k3, -⟩ := scB_iff.1 h.1
    have c1 := bodL_len a2 (fun ms hm => ((bodyB_iff ms).1 (k2 ms hm)).1)
    have c2 := a3.len
    simp at h198
    omega
end Go.Proofs.YtnmjkjjmigiabaaGreatDoor

/- Modes compared with themselves, marked, and found marked: what the exact laws over bodies ask.
   Conditions: those that each statement names. -/
namespace Go.Proofs.YtnmjkjjmigiabaaGreatDoor
set_option linter.unusedSimpArgs false
set_option linter.unusedVariables false
open Go Go.RowKit

/-! ### small whole numbers in both precisions -/
def mkW (k : Nat) : Nat := floatOfInt .f32 (k : Int)
theorem mkW_all : ∀ k : Fin 64, wid (mkW k.val) = floatOfInt .f64 ((k.val : Nat) : Int) ∧ fin .f32 (mkW k.val) = true ∧ mkW k.val < 4294967296 := by decide +kernel
theorem mkW_nar (k : Nat) (h : k < 64) (z : Int) (hz : z = (k : Int)) : (∀ w, fcv w .f64 (floatOfInt .f64 z) .f32 = mkW k) ∧ fcd .f64 (floatOfInt .f64 z) .f32 = 0 := by
  subst hz
  obtain ⟨h1, h2, h3⟩ := mkW_all ⟨k, h⟩
  rw [← h1]
  exact nar_back h3 (Sm_of h2)
theorem one_nar : (∀ w, fcv w .f64 4607182418800017408 .f32 = 1065353216) ∧ fcd .f64 4607182418800017408 .f32 = 0 := by
  have e : wid 1065353216 = 4607182418800017408 := by decide +kernel
  rw [← e]
  exact nar_back (by decide) ⟨false, 8388608, -23, by decide⟩
theorem mkW_self (k : Nat) (h : k < 64) : (FloatKind.f32.format.order (mkW k) (mkW k) == some .eq) = true := by
  obtain ⟨h1, h2, h3⟩ := mkW_all ⟨k, h⟩
  have h2 : fin .f32 (mkW k) = true := h2
  rw [order_self]
  unfold fin at h2
  cases hd : FloatKind.f32.decode (mkW k) <;> rw [hd] at h2 <;> simp_all [Ieee.Datum.isNaN]
theorem one_self : (FloatKind.f32.format.order 1065353216 1065353216 == some .eq) = true := by decide +kernel

/-! ### the marks -/
def mkE (k : Nat) : M4 := ⟨mkW (2 * k + 1), 1065353216, mkW (2 * k + 2), 1065353216⟩
/-- the first k modes are marked -/
def mkM (ms : List M4) (k : Nat) : List M4 := (List.range k).map mkE ++ ms.drop k
theorem mkM_zero (ms : List M4) : mkM ms 0 = ms := by simp [mkM]
theorem mkM_len (ms : List M4) (k : Nat) (h : k ≤ ms.length) : (mkM ms k).length = ms.length := by simp [mkM]; omega
theorem mkM_get (ms : List M4) (n k : Nat) (h : k < n) : (mkM ms n)[k]? = some (mkE k) := by
  unfold mkM
  rw [List.getElem?_append_left (by simpa using h)]
  simp [h]
theorem mkM_at (ms : List M4) (k : Nat) (x : M4) (h : ms[k]? = some x) : (mkM ms k)[k]? = some x := by
  unfold mkM
  rw [List.getElem?_append_right (by simp)]
  simpa using h
theorem mkM_set (ms : List M4) (k : Nat) (h : k < ms.length) : (mkM ms k).set k (mkE k) = mkM ms (k + 1) := by
  unfold mkM
  rw [List.drop_eq_getElem_cons h, List.range_succ]
  simp only [List.map_append, List.map_cons, List.map_nil, List.append_assoc, List.singleton_append]
  rw [List.set_append_right _ _ (by simp)]
  simp only [List.length_map, List.length_range, Nat.sub_self, List.set_cons_zero]
theorem cellsM_set2 (l : List M4) (k : Nat) (m m' : M4) (h : l[k]? = some m) :
    ((cellsM l).set (k * 2) (.complex .f32 m'.pr m'.pi)).set (k * 2 + 1) (.complex .f32 m'.gr m'.gi) = cellsM (l.set k m') := by
  induction l generalizing k with
  | nil => simp at h
  | cons x l ih =>
    cases k with
    | zero => simp [cellsM, M4.cells]
    | succ k =>
      have hk := ih k (by simpa using h)
      simp only [cellsM, List.flatMap_cons, List.set_cons_succ] at *
      rw [show (k + 1) * 2 = k * 2 + 2 from by omega, show k * 2 + 2 + 1 = k * 2 + 1 + 2 from by omega]
      simp only [M4.cells, List.cons_append, List.nil_append, List.set_cons_succ]
      rw [hk]

def MarkMI (ms : List M4) (n b : Nat) (v : Value) (w : World) (m i : Value) (wr : World) : Prop :=
  ∃ k : Nat, k ≤ n ∧ i = .int .i64 (k : Int) ∧ m = .int .i64 (2 * (k : Int) + 1) ∧ wr.ownsRow b 93 2 v n (cellsM (mkM ms k)) ∧ w.grownBy wr v.ownBlock
def MarkMP (ms : List M4) (n b : Nat) (v : Value) (w : World) (e : Ending) (w' : World) : Prop :=
  e = .returned (.int .i64 (2 * (n : Int) + 1)) ∧ w'.ownsRow b 93 2 v n (cellsM (mkM ms n)) ∧ w.grownBy w' v.ownBlock
set_option maxHeartbeats 6400000 in
set_option maxRecDepth 100000 in
theorem markM_ok (ms : List M4) (n b : Nat) (v : Value) (hl : ms.length = n) (hn : n ≤ 16) (w : World) (h : w.ownsRow b 93 2 v n (cellsM ms)) :
    Calls Tryz.prog 83 #[v, .int .i64 1] w (MarkMP ms n b v w) := by
  obtain ⟨va, vc, rfl⟩ := own_shape' h
  have H := Lib.hid h
  have Hl := Lib.hid hl
  clear h hl
  obtain ⟨o1, o2⟩ := one_nar
  go_enter Tryz.func83, Tryz.ntmps83
  go_wp2_with fail
  go_loopw [1, 5] (fun m i wr => MarkMI ms n b (.slice va n vc) w m i wr) (fun _ i _ => n - (intOf i).toNat)
  case atStart => exact ⟨0, by omega, rfl, rfl, by rw [mkM_zero]; exact H.out, World.grownBy.refl _ _⟩
  case round =>
    obtain ⟨k, hk, rfl, rfl, how, hgr⟩ := hrel
    have Ow := Lib.hid how
    have Gr := Lib.hid hgr
    clear how hgr
    by_cases hlt : k < n
    · obtain ⟨x, hxk⟩ : ∃ x, ms[k]? = some x := ⟨ms[k]'(by rw [Hl.out]; exact hlt), List.getElem?_eq_getElem _⟩
      obtain ⟨g1, cap1, hv1, hcap1, hmax1, -, d1, d2⟩ := own_mode Ow.out (mkM_at ms k x hxk) (by rw [mkM_len ms k (by rw [Hl.out]; exact hk)]; exact Hl.out.symm)
      cases hv1
      unfold maxLen at hmax1
      have e2 := Ow.out.frozenAt (k * 2)
      have e3 := Ow.out.frozenAt (k * 2 + 1)
      obtain ⟨c1, c2⟩ := mkW_nar (2 * k + 1) (by omega) (2 * (k : Int) + 1) (by omega)
      obtain ⟨c3, c4⟩ := mkW_nar (2 * k + 2) (by omega) (2 * (k : Int) + 1 + 1) (by omega)
      have s1 := Ow.out.stored (k * 2) (.complex .f32 (mkW (2 * k + 1)) 1065353216)
      have s2 := s1.1.stored (k * 2 + 1) (.complex .f32 (mkW (2 * k + 2)) 1065353216)
      have e5 := cellsM_set2 (mkM ms k) k x (mkE k) (mkM_at ms k x hxk)
      rw [mkM_set ms k (by rw [Hl.out]; exact hlt)] at e5
      rw [show ((cellsM (mkM ms k)).set (k * 2) (.complex .f32 (mkW (2 * k + 1)) 1065353216)).set (k * 2 + 1) (.complex .f32 (mkW (2 * k + 2)) 1065353216) = cellsM (mkM ms (k + 1)) from e5] at s2
      have F := Lib.hid s2.1
      have G2 := Lib.hid (Kp.set (c := g1) (Kp.set (c := g1) Gr.out (k * 2) (.complex .f32 (mkW (2 * k + 1)) 1065353216)) (k * 2 + 1) (.complex .f32 (mkW (2 * k + 2)) 1065353216))
      clear s1 s2 hxk e5
      go_wp2_with fail
      go_roundw
      case rel => exact ⟨k + 1, by omega, by rw [show ((k + 1 : Nat) : Int) = (k : Int) + 1 from by omega], by rw [show 2 * ((k + 1 : Nat) : Int) + 1 = 2 * (k : Int) + 1 + 1 + 1 from by omega], F.out, G2.out⟩
      case measure => simp only [intOf]; omega
    · obtain rfl : k = n := by omega
      go_wp2_with fail
      go_ret
      exact ⟨rfl, Ow.out, Gr.out⟩

def HeldMI (n : Nat) (w : World) (m i : Value) (wr : World) : Prop := ∃ k : Nat, k ≤ n ∧ i = .int .i64 (k : Int) ∧ m = .int .i64 (2 * (k : Int) + 1) ∧ Nw w wr
set_option maxHeartbeats 6400000 in
set_option maxRecDepth 100000 in
theorem heldM_ok (ms : List M4) (n b : Nat) (v : Value) (hl : ms.length = n) (hn : n ≤ 16) (w : World) (h : w.ownsRow b 93 2 v n (cellsM (mkM ms n))) :
    Calls Tryz.prog 84 #[v, .int .i64 1] w fun e w' => e = .returned (.int .i64 (2 * (n : Int) + 1)) ∧ Nw w w' := by
  obtain ⟨va, vc, rfl⟩ := own_shape' h
  have H := Lib.hid h
  have Hl := Lib.hid hl
  clear h hl
  obtain ⟨o1, o2⟩ := one_nar
  have o3 := one_self
  go_enter Tryz.func84, Tryz.ntmps84
  go_wp2_with fail
  go_loopw [1, 5] (fun m i wr => HeldMI n w m i wr) (fun _ i _ => n - (intOf i).toNat)
  case atStart => exact ⟨0, by omega, rfl, rfl, Nw.refl _⟩
  case round =>
    obtain ⟨k, hk, rfl, rfl, hN⟩ := hrel
    have Nr := Lib.hid hN
    clear hN
    by_cases hlt : k < n
    · obtain ⟨g1, cap1, hv1, hcap1, hmax1, -, e1, e2⟩ := own_mode (own_nw H.out Nr.out) (mkM_get ms n k hlt) (by rw [mkM_len ms n (by rw [Hl.out]; exact Nat.le_refl _)]; exact Hl.out.symm)
      cases hv1
      unfold maxLen at hmax1
      obtain ⟨c1, c2⟩ := mkW_nar (2 * k + 1) (by omega) (2 * (k : Int) + 1) (by omega)
      obtain ⟨c3, c4⟩ := mkW_nar (2 * k + 2) (by omega) (2 * (k : Int) + 1 + 1) (by omega)
      have q1 := mkW_self (2 * k + 1) (by omega)
      have q2 := mkW_self (2 * k + 2) (by omega)
      unfold mkE at e1 e2
      simp only at e1 e2
      go_wp2_with fail
      go_roundw
      case rel => exact ⟨k + 1, by omega, by rw [show ((k + 1 : Nat) : Int) = (k : Int) + 1 from by omega], by rw [show 2 * ((k + 1 : Nat) : Int) + 1 = 2 * (k : Int) + 1 + 1 + 1 from by omega], Nr.out⟩
      case measure => simp only [intOf]; omega
    · obtain rfl : k = n := by omega
      go_wp2_with fail
      go_ret
      exact ⟨rfl, Nr.out⟩

end Go.Proofs.YtnmjkjjmigiabaaGreatDoor

/- eqBody, markBody, heldBody.
   Conditions: those that each statement names. -/
namespace Go.Proofs.YtnmjkjjmigiabaaGreatDoor
set_option linter.unusedSimpArgs false
set_option linter.unusedVariables false
open Go Go.RowKit

set_option maxRecDepth 100000 in
theorem sameComplex_self (a b : Nat) (w : World) :
    Calls Tryz.prog 143 #[.complex .f64 a b, .complex .f64 a b] w fun e w' => e = .returned (.bool true) ∧ w = w' := by
  go_enter Tryz.func143, Tryz.ntmps143
  go_wp2_with (go_at_call 100; refine (sameFloat_any _ _ _).mono ?_; rintro e w5 ⟨rfl, rfl⟩; rw [sameF_self])
  all_goals
    go_ret
    exact ⟨rfl, rfl⟩

set_option maxRecDepth 100000 in
theorem eqMode_ok (m : M4) (hm : m.Fin) (w : World) :
    Calls Tryz.prog 141 #[.agg #[.complex .f32 m.pr m.pi, .complex .f32 m.gr m.gi], .agg #[.complex .f32 m.pr m.pi, .complex .f32 m.gr m.gi]] w fun e w' => e = .returned (.bool true) ∧ Nw w w' := by
  have u1 := fun w => fcv_up hm.1 w
  have u2 := fun w => fcv_up hm.2.1 w
  have u3 := fun w => fcv_up hm.2.2.1 w
  have u4 := fun w => fcv_up hm.2.2.2 w
  have v1 := fcd_up hm.1
  have v2 := fcd_up hm.2.1
  have v3 := fcd_up hm.2.2.1
  have v4 := fcd_up hm.2.2.2
  go_enter Tryz.func141, Tryz.ntmps141
  go_wp2_with (go_at_call 143; refine (sameComplex_self _ _ _).mono ?_; rintro e w5 ⟨rfl, rfl⟩)
  all_goals
    go_ret
    exact ⟨rfl, ((Nw.refl _).alloc _).alloc _⟩

set_option maxHeartbeats 6400000 in
set_option maxRecDepth 100000 in
theorem eqModeS_ok (ms : List M4) (hf : ∀ m ∈ ms, m.Fin) (n b1 b2 : Nat) (v u : Value) (hl : ms.length = n) (hn : n ≤ 1048576) (w : World) (h1 : w.ownsRow b1 93 2 v n (cellsM ms)) (h2 : w.ownsRow b2 93 2 u n (cellsM ms)) :
    Calls Tryz.prog 82 #[v, u] w fun e w' => e = .returned (.bool true) ∧ Nw w w' := by
  obtain ⟨va, vc, rfl⟩ := own_shape' h1
  obtain ⟨ua, uc, rfl⟩ := own_shape' h2
  have H1 := Lib.hid h1
  have H2 := Lib.hid h2
  have Hl := Lib.hid hl
  have Hf := Lib.hid hf
  clear h1 h2 hl hf
  go_enter Tryz.func82, Tryz.ntmps82
  go_wp2_with fail
  go_loopw [5] (fun i wr => CountI n w i wr) (fun i _ => n - (intOf i).toNat)
  case atStart => exact ⟨0, by omega, rfl, Nw.refl _⟩
  case round =>
    obtain ⟨k, hk, rfl, hN⟩ := hrel
    have Nr := Lib.hid hN
    clear hN
    by_cases hlt : k < n
    · obtain ⟨x, hxk⟩ : ∃ x, ms[k]? = some x := ⟨ms[k]'(by rw [Hl.out]; exact hlt), List.getElem?_eq_getElem _⟩
      obtain ⟨g1, cap1, hv1, hcap1, hmax1, -, e1, e1'⟩ := own_mode (own_nw H1.out Nr.out) hxk Hl.out.symm
      obtain ⟨g2, cap2, hv2, hcap2, hmax2, -, e2, e2'⟩ := own_mode (own_nw H2.out Nr.out) hxk Hl.out.symm
      cases hv1
      cases hv2
      unfold maxLen at hmax1 hmax2
      have Fx := Lib.hid (Hf.out x (List.mem_of_getElem? hxk))
      clear hxk
      go_upto_region 6 with fail
      have K1 := Lib.hid (eqMode_ok x Fx.out wr.drew)
      go_region_with (first
        | (go_at_call 141
           refine K1.out.mono ?_
           rintro e w5 ⟨rfl, n5⟩
           have N5 := Lib.hid (((Nw.refl wr).draw 1).trans n5)
           clear n5))
      all_goals
        go_wp2_with fail
        go_roundw
        case rel => exact ⟨k + 1, by omega, by rw [show ((k + 1 : Nat) : Int) = (k : Int) + 1 from by omega], Nr.out.trans N5.out⟩
        case measure => simp only [intOf]; omega
    · obtain rfl : k = n := by omega
      go_wp2_with fail
      go_ret
      exact ⟨rfl, Nr.out⟩

set_option maxRecDepth 100000 in
theorem eqBody_ok (ms : List M4) (hf : ∀ m ∈ ms, m.Fin) (n b1 b2 : Nat) (v u : Value) (hl : ms.length = n) (hn : n ≤ 1048576) (w : World) (h1 : w.ownsRow b1 93 2 v n (cellsM ms)) (h2 : w.ownsRow b2 93 2 u n (cellsM ms)) :
    Calls Tryz.prog 29 #[.agg #[v], .agg #[u]] w fun e w' => e = .returned (.bool true) ∧ Nw w w' := by
  obtain ⟨va, vc, rfl⟩ := own_shape' h1
  obtain ⟨ua, uc, rfl⟩ := own_shape' h2
  have C := Lib.hid (fun w => eqModeS_ok ms hf n b1 b2 (.slice va n vc) (.slice ua n uc) hl hn w)
  have H1 := Lib.hid h1
  have H2 := Lib.hid h2
  clear h1 h2 hl hf
  go_enter Tryz.func29, Tryz.ntmps29
  go_wp2_with fail
  refine (C.out _ ((H1.out.alloc _).alloc _) ((H2.out.alloc _).alloc _)).mono ?_
  rintro e w1 ⟨rfl, n1⟩
  have N1 := Lib.hid ((((Nw.refl w).alloc _).alloc _).trans n1)
  clear n1
  go_wp2_with fail
  go_ret
  exact ⟨rfl, N1.out⟩
set_option maxRecDepth 100000 in
theorem markBody_ok (ms : List M4) (n b : Nat) (v : Value) (hl : ms.length = n) (hn : n ≤ 16) (w : World) (h : w.ownsRow b 93 2 v n (cellsM ms)) :
    Calls Tryz.prog 30 #[.agg #[v], .int .i64 1] w (MarkMP ms n b v w) := by
  obtain ⟨va, vc, rfl⟩ := own_shape' h
  have C := Lib.hid (fun w => markM_ok ms n b (.slice va n vc) hl hn w)
  have H := Lib.hid h
  clear h hl
  go_enter Tryz.func30, Tryz.ntmps30
  go_wp2_with fail
  refine (C.out _ (H.out.alloc _)).mono ?_
  rintro e w1 ⟨rfl, o1, g1⟩
  have O1 := Lib.hid o1
  have G1 := Lib.hid ((World.grownBy_alloc w _ (Value.slice va n vc).ownBlock).trans' g1)
  clear o1 g1
  go_wp2_with fail
  go_ret
  exact ⟨rfl, O1.out, G1.out⟩
set_option maxRecDepth 100000 in
theorem heldBody_ok (ms : List M4) (n b : Nat) (v : Value) (hl : ms.length = n) (hn : n ≤ 16) (w : World) (h : w.ownsRow b 93 2 v n (cellsM (mkM ms n))) :
    Calls Tryz.prog 31 #[.agg #[v], .int .i64 1] w fun e w' => e = .returned (.int .i64 (2 * (n : Int) + 1)) ∧ Nw w w' := by
  obtain ⟨va, vc, rfl⟩ := own_shape' h
  have C := Lib.hid (fun w => heldM_ok ms n b (.slice va n vc) hl hn w)
  have H := Lib.hid h
  clear h hl
  go_enter Tryz.func31, Tryz.ntmps31
  go_wp2_with fail
  refine (C.out _ (H.out.alloc _)).mono ?_
  rintro e w1 ⟨rfl, n1⟩
  have N1 := Lib.hid (((Nw.refl w).alloc _).trans n1)
  clear n1
  have h0 : ¬ (2 * (n : Int) + 1 < 0) := by omega
  go_wp2_with fail
  go_ret
  exact ⟨rfl, N1.out⟩
end Go.Proofs.YtnmjkjjmigiabaaGreatDoor

/- eqScore (FnExactParseScore).
   Conditions: those that each statement names. -/
namespace Go.Proofs.YtnmjkjjmigiabaaGreatDoor
set_option linter.unusedSimpArgs false
set_option linter.unusedVariables false
open Go Go.RowKit

set_option maxHeartbeats 6400000 in
set_option maxRecDepth 100000 in
theorem eqBods_ok (bs : List (List M4)) (n b1 b2 : Nat) (v u : Value) (hP : bs.length = n) (hn : n ≤ 1048576) (hr : ∀ r ∈ bs, (∀ m ∈ r, m.Fin) ∧ r.length ≤ 1048576) (w : World) (h1 : BodsR w b1 v bs) (h2 : BodsR w b2 u bs) :
    Calls Tryz.prog 101 #[v, u] w fun e w' => e = .returned (.bool true) ∧ Nw w w' := by
  obtain ⟨va, vc, rfl⟩ := h1.shape
  obtain ⟨ua, uc, rfl⟩ := h2.shape
  rw [hP] at h1 h2 ⊢
  have H1 := Lib.hid h1
  have H2 := Lib.hid h2
  have Hr := Lib.hid hr
  have E := Lib.hid hP
  clear h1 h2 hr hP
  go_enter Tryz.func101, Tryz.ntmps101
  go_wp2_with fail
  go_loopw [5] (fun i wr => CountI n w i wr) (fun i _ => n - (intOf i).toNat)
  case atStart => exact ⟨0, by omega, rfl, Nw.refl _⟩
  case round =>
    obtain ⟨k, hk, rfl, hN⟩ := hrel
    have Nr := Lib.hid hN
    clear hN
    by_cases hlt : k < n
    · obtain ⟨r, hrk⟩ : ∃ r, bs[k]? = some r := ⟨bs[k]'(by rw [E.out]; exact hlt), List.getElem?_eq_getElem _⟩
      obtain ⟨g1, cap1, ra1, rc1, hv1, hcap1, hmax1, hgs1, e1, o1⟩ := (H1.out.nw Nr.out).at E.out.symm hrk
      obtain ⟨g2, cap2, ra2, rc2, hv2, hcap2, hmax2, hgs2, e2, o2⟩ := (H2.out.nw Nr.out).at E.out.symm hrk
      cases hv1
      cases hv2
      unfold maxLen at hmax1 hmax2
      have hrl := Hr.out r (List.mem_of_getElem? hrk)
      have nd : Nw wr wr.drew := ⟨rfl, rfl, rfl, Nat.le_refl _, fun _ _ _ => rfl⟩
      have K1 := Lib.hid (eqBody_ok r hrl.1 r.length b1 b2 _ _ rfl hrl.2 wr.drew (own_nw o1 nd) (own_nw o2 nd))
      have Nd := Lib.hid (Nr.out.trans nd)
      clear hrk o1 o2 nd
      go_upto_region 6 with fail
      go_region_with (first | (go_at_call 29; refine K1.out.mono ?_; rintro e w5 ⟨rfl, n5⟩))
      all_goals
        go_wp2_with fail
        go_roundw
        case rel => exact ⟨k + 1, by omega, by rw [show ((k + 1 : Nat) : Int) = (k : Int) + 1 from by omega], Nd.out.trans n5⟩
        case measure => simp only [intOf]; omega
    · obtain rfl : k = n := by omega
      go_wp2_with fail
      go_ret
      exact ⟨rfl, Nr.out⟩


set_option maxRecDepth 100000 in
theorem eqEvent_ok (x : Ev6) (hf : Sm x.f) (w : World) :
    Calls Tryz.prog 163 #[.agg #[.int .i64 x.t, .int .i64 x.k, .int .i64 x.b, .int .i64 x.s, .int .i64 x.m, .float .f32 x.f], .agg #[.int .i64 x.t, .int .i64 x.k, .int .i64 x.b, .int .i64 x.s, .int .i64 x.m, .float .f32 x.f]] w fun e w' => e = .returned (.bool true) ∧ Nw w w' := by
  have u1 := fun w => fcv_up hf w
  have v1 := fcd_up hf
  go_enter Tryz.func163, Tryz.ntmps163
  go_wp2_with (go_at_call 100; refine (sameFloat_any _ _ _).mono ?_; rintro e w5 ⟨rfl, rfl⟩; rw [sameF_self])
  all_goals
    go_ret
    exact ⟨rfl, ((Nw.refl _).alloc _).alloc _⟩

set_option maxHeartbeats 6400000 in
set_option maxRecDepth 100000 in
theorem eqEvents_ok (es : List Ev6) (n b1 b2 : Nat) (v u : Value) (hP : es.length = n) (hn : n ≤ 1048576) (hr : ∀ r ∈ es, Sm r.f) (w : World) (h1 : w.ownsRow b1 137 6 v n (cellsE es)) (h2 : w.ownsRow b2 137 6 u n (cellsE es)) :
    Calls Tryz.prog 102 #[v, u] w fun e w' => e = .returned (.bool true) ∧ Nw w w' := by
  obtain ⟨va, vc, rfl⟩ := own_shape' h1
  obtain ⟨ua, uc, rfl⟩ := own_shape' h2
  have H1 := Lib.hid h1
  have H2 := Lib.hid h2
  have Hr := Lib.hid hr
  have E := Lib.hid hP
  clear h1 h2 hr hP
  go_enter Tryz.func102, Tryz.ntmps102
  go_wp2_with fail
  go_loopw [5] (fun i wr => CountI n w i wr) (fun i _ => n - (intOf i).toNat)
  case atStart => exact ⟨0, by omega, rfl, Nw.refl _⟩
  case round =>
    obtain ⟨k, hk, rfl, hN⟩ := hrel
    have Nr := Lib.hid hN
    clear hN
    by_cases hlt : k < n
    · obtain ⟨r, hrk⟩ : ∃ r, es[k]? = some r := ⟨es[k]'(by rw [E.out]; exact hlt), List.getElem?_eq_getElem _⟩
      obtain ⟨g1, cap1, hv1, hcap1, hmax1, hgs1, c0, c1, c2, c3, c4, c5⟩ := own_event (own_nw H1.out Nr.out) E.out hrk
      obtain ⟨g2, cap2, hv2, hcap2, hmax2, hgs2, d0, d1, d2, d3, d4, d5⟩ := own_event (own_nw H2.out Nr.out) E.out hrk
      cases hv1
      cases hv2
      unfold maxLen at hmax1 hmax2
      have hrl := Hr.out r (List.mem_of_getElem? hrk)
      have K1 := Lib.hid (eqEvent_ok r hrl wr.drew)
      have Nd := Lib.hid (Nr.out.draw 1)
      clear hrk
      go_upto_region 6 with fail
      go_region_with (first | (go_at_call 163; refine K1.out.mono ?_; rintro e w5 ⟨rfl, n5⟩))
      all_goals
        go_wp2_with fail
        go_roundw
        case rel => exact ⟨k + 1, by omega, by rw [show ((k + 1 : Nat) : Int) = (k : Int) + 1 from by omega], Nd.out.trans n5⟩
        case measure => simp only [intOf]; omega
    · obtain rfl : k = n := by omega
      go_wp2_with fail
      go_ret
      exact ⟨rfl, Nr.out⟩

set_option maxHeartbeats 3200000 in
set_option maxRecDepth 100000 in
theorem eqScore_ok (s : Sco) (nb ne b1 b2 : Nat) (v u v' u' : Value) (hnb : s.bs.length = nb) (hnb2 : nb ≤ 1048576) (hne : s.es.length = ne) (hne2 : ne ≤ 1048576) (hC : Sm s.C) (hR : Sm s.R) (hb : ∀ r ∈ s.bs, (∀ m ∈ r, m.Fin) ∧ r.length ≤ 1048576) (he : ∀ r ∈ s.es, Sm r.f) (w : World)
    (h1 : BodsR w b1 v s.bs) (r1 : w.ownsRow b1 137 6 u ne (cellsE s.es)) (h2 : BodsR w b2 v' s.bs) (r2 : w.ownsRow b2 137 6 u' ne (cellsE s.es)) :
    Calls Tryz.prog 42 #[.agg #[.int .i64 s.L, .int .i64 s.V, .float .f32 s.C, .float .f32 s.R, v, u], .agg #[.int .i64 s.L, .int .i64 s.V, .float .f32 s.C, .float .f32 s.R, v', u']] w fun e w' => e = .returned (.bool true) ∧ Nw w w' := by
  obtain ⟨L, V, C, R, bs, es⟩ := s
  simp only at hnb hne hC hR hb he h1 r1 h2 r2 ⊢
  obtain ⟨va, vc, rfl⟩ := h1.shape
  obtain ⟨va', vc', rfl⟩ := h2.shape
  obtain ⟨ua, uc, rfl⟩ := own_shape' r1
  obtain ⟨ua', uc', rfl⟩ := own_shape' r2
  rw [hnb] at h1 h2 ⊢
  have u1 := fun w => fcv_up hC w
  have v1 := fcd_up hC
  have u2 := fun w => fcv_up hR w
  have v2 := fcd_up hR
  have Cb := Lib.hid (fun w => eqBods_ok bs nb b1 b2 (.slice va nb vc) (.slice va' nb vc') hnb hnb2 hb w)
  have Ce := Lib.hid (fun w => eqEvents_ok es ne b1 b2 (.slice ua ne uc) (.slice ua' ne uc') hne hne2 he w)
  have N0 := Lib.hid (((Nw.refl w).alloc (.cells #[.int .i64 L, .int .i64 V, .float .f32 C, .float .f32 R, .slice va nb vc, .slice ua ne uc] 68 (0, 0))).alloc (.cells #[.int .i64 L, .int .i64 V, .float .f32 C, .float .f32 R, .slice va' nb vc', .slice ua' ne uc'] 68 (0, 0)))
  have B1 := Lib.hid ((Has6.new w 68 (.int .i64 L) (.int .i64 V) (.float .f32 C) (.float .f32 R) (.slice va nb vc) (.slice ua ne uc)).nw ((Nw.refl _).alloc (.cells #[.int .i64 L, .int .i64 V, .float .f32 C, .float .f32 R, .slice va' nb vc', .slice ua' ne uc'] 68 (0, 0))))
  have B2 := Lib.hid (Has6.new (w.alloc (.cells #[.int .i64 L, .int .i64 V, .float .f32 C, .float .f32 R, .slice va nb vc, .slice ua ne uc] 68 (0, 0))) 68 (.int .i64 L) (.int .i64 V) (.float .f32 C) (.float .f32 R) (.slice va' nb vc') (.slice ua' ne uc'))
  have H := Lib.hid (And.intro h1 (And.intro h2 (And.intro r1 r2)))
  have hs0 : (w.alloc (.cells #[.int .i64 L, .int .i64 V, .float .f32 C, .float .f32 R, .slice va nb vc, .slice ua ne uc] 68 (0, 0))).heap.size = w.heap.size + 1 := by simp
  rw [hs0] at B2
  clear h1 h2 r1 r2 hs0 hb he hnb hne
  go_enter Tryz.func42, Tryz.ntmps42
  go_wp2_with (go_at_call 100; refine (sameFloat_any _ _ _).mono ?_; rintro e w5 ⟨rfl, rfl⟩; rw [sameF_self])
  refine (Cb.out _ (H.out.1.nw N0.out) (H.out.2.1.nw N0.out)).mono ?_
  rintro e w1 ⟨rfl, n1⟩
  have N1 := Lib.hid (N0.out.trans n1)
  obtain ⟨x0, ⟨x1, x2, x3, x4, x5, x6⟩, x7, x8, x9, x10, x11, x12⟩ := B1.out.nw n1
  obtain ⟨y0, ⟨y1, y2, y3, y4, y5, y6⟩, y7, y8, y9, y10, y11, y12⟩ := B2.out.nw n1
  clear n1
  go_wp2_with fail
  refine (Ce.out _ (own_nw H.out.2.2.1 N1.out) (own_nw H.out.2.2.2 N1.out)).mono ?_
  rintro e w2 ⟨rfl, n2⟩
  have N2 := Lib.hid (N1.out.trans n2)
  clear n2 x0 x1 x2 x3 x4 x5 x6 x7 x8 x9 x10 x11 x12 y0 y1 y2 y3 y4 y5 y6 y7 y8 y9 y10 y11 y12
  go_wp2_with fail
  go_ret
  exact ⟨rfl, N2.out⟩
end Go.Proofs.YtnmjkjjmigiabaaGreatDoor

/- The marks of scores: modes and events from a start on (FnExactParseScore).
   Conditions: those that each statement names. -/
namespace Go.Proofs.YtnmjkjjmigiabaaGreatDoor
set_option linter.unusedSimpArgs false
set_option linter.unusedVariables false
open Go Go.RowKit

theorem mkW_all2 : ∀ k : Fin 1024, wid (mkW k.val) = floatOfInt .f64 ((k.val : Nat) : Int) ∧ fin .f32 (mkW k.val) = true ∧ mkW k.val < 4294967296 := by decide +kernel
theorem mkW_nar2 (k : Nat) (h : k < 1024) (z : Int) (hz : z = (k : Int)) : (∀ w, fcv w .f64 (floatOfInt .f64 z) .f32 = mkW k) ∧ fcd .f64 (floatOfInt .f64 z) .f32 = 0 := by
  subst hz
  obtain ⟨h1, h2, h3⟩ := mkW_all2 ⟨k, h⟩
  rw [← h1]
  exact nar_back h3 (Sm_of h2)
theorem mkW_self2 (k : Nat) (h : k < 1024) : (FloatKind.f32.format.order (mkW k) (mkW k) == some .eq) = true := by
  obtain ⟨h1, h2, h3⟩ := mkW_all2 ⟨k, h⟩
  have h2 : fin .f32 (mkW k) = true := h2
  rw [order_self]
  unfold fin at h2
  cases hd : FloatKind.f32.decode (mkW k) <;> rw [hd] at h2 <;> simp_all [Ieee.Datum.isNaN]
def mkD (M k : Nat) : M4 := ⟨mkW (M + 2 * k), 1065353216, mkW (M + 2 * k + 1), 1065353216⟩
/-- the first k modes are marked -/
def mkN (M : Nat) (ms : List M4) (k : Nat) : List M4 := (List.range k).map (mkD M) ++ ms.drop k
theorem mkN_zero (M : Nat) (ms : List M4) : mkN M ms 0 = ms := by simp [mkN]
theorem mkN_len (M : Nat) (ms : List M4) (k : Nat) (h : k ≤ ms.length) : (mkN M ms k).length = ms.length := by simp [mkN]; omega
theorem mkN_get (M : Nat) (ms : List M4) (n k : Nat) (h : k < n) : (mkN M ms n)[k]? = some (mkD M k) := by
  unfold mkN
  rw [List.getElem?_append_left (by simpa using h)]
  simp [h]
theorem mkN_at (M : Nat) (ms : List M4) (k : Nat) (x : M4) (h : ms[k]? = some x) : (mkN M ms k)[k]? = some x := by
  unfold mkN
  rw [List.getElem?_append_right (by simp)]
  simpa using h
theorem mkN_set (M : Nat) (ms : List M4) (k : Nat) (h : k < ms.length) : (mkN M ms k).set k (mkD M k) = mkN M ms (k + 1) := by
  unfold mkN
  rw [List.drop_eq_getElem_cons h, List.range_succ]
  simp only [List.map_append, List.map_cons, List.map_nil, List.append_assoc, List.singleton_append]
  rw [List.set_append_right _ _ (by simp)]
  simp only [List.length_map, List.length_range, Nat.sub_self, List.set_cons_zero]

def MarkNI (M : Nat) (ms : List M4) (n b : Nat) (v : Value) (w : World) (m i : Value) (wr : World) : Prop :=
  ∃ k A : Nat, k ≤ n ∧ A = M + 2 * k ∧ i = .int .i64 (k : Int) ∧ m = .int .i64 (A : Int) ∧ wr.ownsRow b 93 2 v n (cellsM (mkN M ms k)) ∧ w.grownBy wr v.ownBlock
def MarkNP (M : Nat) (ms : List M4) (n b : Nat) (v : Value) (w : World) (e : Ending) (w' : World) : Prop :=
  e = .returned (.int .i64 ((M + 2 * n : Nat) : Int)) ∧ w'.ownsRow b 93 2 v n (cellsM (mkN M ms n)) ∧ w.grownBy w' v.ownBlock
set_option maxHeartbeats 3200000 in
set_option maxRecDepth 100000 in
theorem markN_ok (M : Nat) (hM : M ≤ 900) (ms : List M4) (n b : Nat) (v : Value) (hl : ms.length = n) (hn : n ≤ 16) (w : World) (h : w.ownsRow b 93 2 v n (cellsM ms)) :
    Calls Tryz.prog 83 #[v, .int .i64 (M : Int)] w (MarkNP M ms n b v w) := by
  obtain ⟨va, vc, rfl⟩ := own_shape' h
  have H := Lib.hid h
  have Hl := Lib.hid hl
  clear h hl
  obtain ⟨o1, o2⟩ := one_nar
  go_enter Tryz.func83, Tryz.ntmps83
  go_wp2_with fail
  go_loopw [1, 5] (fun m i wr => MarkNI M ms n b (.slice va n vc) w m i wr) (fun _ i _ => n - (intOf i).toNat)
  case atStart => exact ⟨0, M, by omega, by omega, rfl, rfl, by rw [mkN_zero]; exact H.out, World.grownBy.refl _ _⟩
  case round =>
    obtain ⟨k, A, hk, hA, rfl, rfl, how, hgr⟩ := hrel
    have HA := Lib.hid hA
    have hAb : A ≤ 932 := by omega
    clear hA
    have Ow := Lib.hid how
    have Gr := Lib.hid hgr
    clear how hgr
    by_cases hlt : k < n
    · obtain ⟨x, hxk⟩ : ∃ x, ms[k]? = some x := ⟨ms[k]'(by rw [Hl.out]; exact hlt), List.getElem?_eq_getElem _⟩
      obtain ⟨g1, cap1, hv1, hcap1, hmax1, -, d1, d2⟩ := own_mode Ow.out (mkN_at M ms k x hxk) (by rw [mkN_len M ms k (by rw [Hl.out]; exact hk)]; exact Hl.out.symm)
      cases hv1
      unfold maxLen at hmax1
      have e2 := Ow.out.frozenAt (k * 2)
      have e3 := Ow.out.frozenAt (k * 2 + 1)
      obtain ⟨c1, c2⟩ := mkW_nar2 A (by omega) (A : Int) rfl
      obtain ⟨c3, c4⟩ := mkW_nar2 (A + 1) (by omega) ((A : Int) + 1) (by omega)
      have s1 := Ow.out.stored (k * 2) (.complex .f32 (mkW A) 1065353216)
      have s2 := s1.1.stored (k * 2 + 1) (.complex .f32 (mkW (A + 1)) 1065353216)
      have e5 := cellsM_set2 (mkN M ms k) k x (mkD M k) (mkN_at M ms k x hxk)
      rw [mkN_set M ms k (by rw [Hl.out]; exact hlt)] at e5
      rw [show ((cellsM (mkN M ms k)).set (k * 2) (.complex .f32 (mkW A) 1065353216)).set (k * 2 + 1) (.complex .f32 (mkW (A + 1)) 1065353216) = cellsM (mkN M ms (k + 1)) from by rw [HA.out]; exact e5] at s2
      have F := Lib.hid s2.1
      have G2 := Lib.hid (Kp.set (c := g1) (Kp.set (c := g1) Gr.out (k * 2) (.complex .f32 (mkW A) 1065353216)) (k * 2 + 1) (.complex .f32 (mkW (A + 1)) 1065353216))
      clear s1 s2 hxk e5
      go_wp2_with fail
      go_roundw
      case rel => exact ⟨k + 1, A + 2, by omega, by have := HA.out; omega, by rw [show ((k + 1 : Nat) : Int) = (k : Int) + 1 from by omega], by rw [show ((A + 2 : Nat) : Int) = (A : Int) + 1 + 1 from by omega], F.out, G2.out⟩
      case measure => simp only [intOf]; omega
    · obtain rfl : k = n := by omega
      go_wp2_with fail
      go_ret
      exact ⟨by rw [← HA.out]; rfl, Ow.out, Gr.out⟩

def HeldNI (M n : Nat) (w : World) (m i : Value) (wr : World) : Prop := ∃ k A : Nat, k ≤ n ∧ A = M + 2 * k ∧ i = .int .i64 (k : Int) ∧ m = .int .i64 (A : Int) ∧ Nw w wr
set_option maxHeartbeats 3200000 in
set_option maxRecDepth 100000 in
theorem heldN_ok (M : Nat) (hM : M ≤ 900) (ms : List M4) (n b : Nat) (v : Value) (hl : ms.length = n) (hn : n ≤ 16) (w : World) (h : w.ownsRow b 93 2 v n (cellsM (mkN M ms n))) :
    Calls Tryz.prog 84 #[v, .int .i64 (M : Int)] w fun e w' => e = .returned (.int .i64 ((M + 2 * n : Nat) : Int)) ∧ Nw w w' := by
  obtain ⟨va, vc, rfl⟩ := own_shape' h
  have H := Lib.hid h
  have Hl := Lib.hid hl
  clear h hl
  obtain ⟨o1, o2⟩ := one_nar
  have o3 := one_self
  go_enter Tryz.func84, Tryz.ntmps84
  go_wp2_with fail
  go_loopw [1, 5] (fun m i wr => HeldNI M n w m i wr) (fun _ i _ => n - (intOf i).toNat)
  case atStart => exact ⟨0, M, by omega, by omega, rfl, rfl, Nw.refl _⟩
  case round =>
    obtain ⟨k, A, hk, hA, rfl, rfl, hN⟩ := hrel
    have HA := Lib.hid hA
    have hAb : A ≤ 932 := by omega
    clear hA
    have Nr := Lib.hid hN
    clear hN
    by_cases hlt : k < n
    · obtain ⟨g1, cap1, hv1, hcap1, hmax1, -, e1, e2⟩ := own_mode (own_nw H.out Nr.out) (mkN_get M ms n k hlt) (by rw [mkN_len M ms n (by rw [Hl.out]; exact Nat.le_refl _)]; exact Hl.out.symm)
      cases hv1
      unfold maxLen at hmax1
      obtain ⟨c1, c2⟩ := mkW_nar2 A (by omega) (A : Int) rfl
      obtain ⟨c3, c4⟩ := mkW_nar2 (A + 1) (by omega) ((A : Int) + 1) (by omega)
      have q1 := mkW_self2 A (by omega)
      have q2 := mkW_self2 (A + 1) (by omega)
      unfold mkD at e1 e2
      simp only at e1 e2
      rw [← HA.out] at e1 e2
      go_wp2_with fail
      go_roundw
      case rel => exact ⟨k + 1, A + 2, by omega, by have := HA.out; omega, by rw [show ((k + 1 : Nat) : Int) = (k : Int) + 1 from by omega], by rw [show ((A + 2 : Nat) : Int) = (A : Int) + 1 + 1 from by omega], Nr.out⟩
      case measure => simp only [intOf]; omega
    · obtain rfl : k = n := by omega
      go_wp2_with fail
      go_ret
      exact ⟨by rw [← HA.out]; rfl, Nr.out⟩


/-! ### events -/
def mkV (M k : Nat) : Ev6 := ⟨((M + 6 * k : Nat) : Int), ((M + 6 * k + 1 : Nat) : Int), ((M + 6 * k + 2 : Nat) : Int), ((M + 6 * k + 3 : Nat) : Int), ((M + 6 * k + 4 : Nat) : Int), mkW (M + 6 * k + 5)⟩
def mkVs (M : Nat) (es : List Ev6) (k : Nat) : List Ev6 := (List.range k).map (mkV M) ++ es.drop k
theorem mkVs_zero (M : Nat) (es : List Ev6) : mkVs M es 0 = es := by simp [mkVs]
theorem mkVs_len (M : Nat) (es : List Ev6) (k : Nat) (h : k ≤ es.length) : (mkVs M es k).length = es.length := by simp [mkVs]; omega
theorem mkVs_get (M : Nat) (es : List Ev6) (n k : Nat) (h : k < n) : (mkVs M es n)[k]? = some (mkV M k) := by
  unfold mkVs
  rw [List.getElem?_append_left (by simpa using h)]
  simp [h]
theorem mkVs_at (M : Nat) (es : List Ev6) (k : Nat) (x : Ev6) (h : es[k]? = some x) : (mkVs M es k)[k]? = some x := by
  unfold mkVs
  rw [List.getElem?_append_right (by simp)]
  simpa using h
theorem mkVs_set (M : Nat) (es : List Ev6) (k : Nat) (h : k < es.length) : (mkVs M es k).set k (mkV M k) = mkVs M es (k + 1) := by
  unfold mkVs
  rw [List.drop_eq_getElem_cons h, List.range_succ]
  simp only [List.map_append, List.map_cons, List.map_nil, List.append_assoc, List.singleton_append]
  rw [List.set_append_right _ _ (by simp)]
  simp only [List.length_map, List.length_range, Nat.sub_self, List.set_cons_zero]
theorem cellsE_set6 (l : List Ev6) (k : Nat) (m m' : Ev6) (h : l[k]? = some m) :
    ((((((cellsE l).set (k * 6) (.int .i64 m'.t)).set (k * 6 + 1) (.int .i64 m'.k)).set (k * 6 + 2) (.int .i64 m'.b)).set (k * 6 + 3) (.int .i64 m'.s)).set (k * 6 + 4) (.int .i64 m'.m)).set (k * 6 + 5) (.float .f32 m'.f) = cellsE (l.set k m') := by
  induction l generalizing k with
  | nil => simp at h
  | cons x l ih =>
    cases k with
    | zero => simp [cellsE, Ev6.cells]
    | succ k =>
      have hk := ih k (by simpa using h)
      simp only [cellsE, List.flatMap_cons, List.set_cons_succ] at *
      rw [show (k + 1) * 6 = k * 6 + 6 from by omega, show k * 6 + 6 + 1 = k * 6 + 1 + 6 from by omega, show k * 6 + 6 + 2 = k * 6 + 2 + 6 from by omega, show k * 6 + 6 + 3 = k * 6 + 3 + 6 from by omega, show k * 6 + 6 + 4 = k * 6 + 4 + 6 from by omega, show k * 6 + 6 + 5 = k * 6 + 5 + 6 from by omega]
      simp only [Ev6.cells, List.cons_append, List.nil_append, List.set_cons_succ]
      rw [hk]
def MkVI (M : Nat) (es : List Ev6) (n b : Nat) (v : Value) (w : World) (m i : Value) (wr : World) : Prop :=
  ∃ k A : Nat, k ≤ n ∧ A = M + 6 * k ∧ i = .int .i64 (k : Int) ∧ m = .int .i64 (A : Int) ∧ wr.ownsRow b 137 6 v n (cellsE (mkVs M es k)) ∧ w.grownBy wr v.ownBlock
def MkVP (M : Nat) (es : List Ev6) (n b : Nat) (v : Value) (w : World) (e : Ending) (w' : World) : Prop :=
  e = .returned (.int .i64 ((M + 6 * n : Nat) : Int)) ∧ w'.ownsRow b 137 6 v n (cellsE (mkVs M es n)) ∧ w.grownBy w' v.ownBlock
set_option maxHeartbeats 6400000 in
set_option maxRecDepth 100000 in
theorem markEvents_ok (M : Nat) (hM : M ≤ 400) (es : List Ev6) (n b : Nat) (v : Value) (hl : es.length = n) (hn : n ≤ 60) (w : World) (h : w.ownsRow b 137 6 v n (cellsE es)) :
    Calls Tryz.prog 104 #[v, .int .i64 (M : Int)] w (MkVP M es n b v w) := by
  obtain ⟨va, vc, rfl⟩ := own_shape' h
  have H := Lib.hid h
  have Hl := Lib.hid hl
  clear h hl
  go_enter Tryz.func104, Tryz.ntmps104
  go_wp2_with fail
  go_loopw [1, 5] (fun m i wr => MkVI M es n b (.slice va n vc) w m i wr) (fun _ i _ => n - (intOf i).toNat)
  case atStart => exact ⟨0, M, by omega, by omega, rfl, rfl, by rw [mkVs_zero]; exact H.out, World.grownBy.refl _ _⟩
  case round =>
    obtain ⟨k, A, hk, hA, rfl, rfl, how, hgr⟩ := hrel
    have HA := Lib.hid hA
    have hAb : A ≤ 760 := by omega
    have Ow := Lib.hid how
    have Gr := Lib.hid hgr
    clear how hgr hA
    by_cases hlt : k < n
    · obtain ⟨x, hxk⟩ : ∃ x, es[k]? = some x := ⟨es[k]'(by rw [Hl.out]; exact hlt), List.getElem?_eq_getElem _⟩
      obtain ⟨g1, cap1, hv1, hcap1, hmax1, hgs, d0, d1, d2, d3, d4, d5⟩ := own_event Ow.out (by rw [mkVs_len M es k (by rw [Hl.out]; exact hk)]; exact Hl.out) (mkVs_at M es k x hxk)
      cases hv1
      unfold maxLen at hmax1
      have f0 := Ow.out.frozenAt (k * 6)
      have f1 := Ow.out.frozenAt (k * 6 + 1)
      have f2 := Ow.out.frozenAt (k * 6 + 2)
      have f3 := Ow.out.frozenAt (k * 6 + 3)
      have f4 := Ow.out.frozenAt (k * 6 + 4)
      have f5 := Ow.out.frozenAt (k * 6 + 5)
      have s1 := Ow.out.stored (k * 6) (.int .i64 (A : Int))
      have s2 := s1.1.stored (k * 6 + 1) (.int .i64 ((A : Int) + 1))
      have s3 := s2.1.stored (k * 6 + 2) (.int .i64 ((A : Int) + 1 + 1))
      have s4 := s3.1.stored (k * 6 + 3) (.int .i64 ((A : Int) + 1 + 1 + 1))
      have s5 := s4.1.stored (k * 6 + 4) (.int .i64 ((A : Int) + 1 + 1 + 1 + 1))
      have s6 := s5.1.stored (k * 6 + 5) (.float .f32 (floatOfInt .f32 ((A : Int) + 1 + 1 + 1 + 1 + 1)))
      have e5 := cellsE_set6 (mkVs M es k) k x (mkV M k) (mkVs_at M es k x hxk)
      rw [mkVs_set M es k (by rw [Hl.out]; exact hlt)] at e5
      have e6 : mkV M k = ⟨(A : Int), (A : Int) + 1, (A : Int) + 1 + 1, (A : Int) + 1 + 1 + 1, (A : Int) + 1 + 1 + 1 + 1, floatOfInt .f32 ((A : Int) + 1 + 1 + 1 + 1 + 1)⟩ := by
        unfold mkV mkW
        rw [← HA.out]
        refine ev6_ext ?_ ?_ ?_ ?_ ?_ ?_
        all_goals first | rfl | (simp only; omega) | (simp only; congr 1; omega)
      rw [e6] at e5
      simp only at e5
      rw [e5] at s6
      have F := Lib.hid s6.1
      have G2 := Lib.hid (Kp.set (c := g1) (Kp.set (c := g1) (Kp.set (c := g1) (Kp.set (c := g1) (Kp.set (c := g1) (Kp.set (c := g1) Gr.out (k * 6) (.int .i64 (A : Int))) (k * 6 + 1) (.int .i64 ((A : Int) + 1))) (k * 6 + 2) (.int .i64 ((A : Int) + 1 + 1))) (k * 6 + 3) (.int .i64 ((A : Int) + 1 + 1 + 1))) (k * 6 + 4) (.int .i64 ((A : Int) + 1 + 1 + 1 + 1))) (k * 6 + 5) (.float .f32 (floatOfInt .f32 ((A : Int) + 1 + 1 + 1 + 1 + 1))))
      clear s1 s2 s3 s4 s5 s6 hxk e5 e6
      go_wp2_with fail
      go_roundw
      case rel => exact ⟨k + 1, A + 6, by omega, by have := HA.out; omega, by rw [show ((k + 1 : Nat) : Int) = (k : Int) + 1 from by omega], by rw [show ((A + 6 : Nat) : Int) = (A : Int) + 1 + 1 + 1 + 1 + 1 + 1 from by omega], F.out, G2.out⟩
      case measure => simp only [intOf]; omega
    · obtain rfl : k = n := by omega
      go_wp2_with fail
      go_ret
      exact ⟨by rw [← HA.out]; rfl, Ow.out, Gr.out⟩
def HdVI (M n : Nat) (w : World) (m i : Value) (wr : World) : Prop := ∃ k A : Nat, k ≤ n ∧ A = M + 6 * k ∧ i = .int .i64 (k : Int) ∧ m = .int .i64 (A : Int) ∧ Nw w wr
set_option maxHeartbeats 6400000 in
set_option maxRecDepth 100000 in
theorem heldEvents_ok (M : Nat) (hM : M ≤ 400) (es : List Ev6) (n b : Nat) (v : Value) (hl : es.length = n) (hn : n ≤ 60) (w : World) (h : w.ownsRow b 137 6 v n (cellsE (mkVs M es n))) :
    Calls Tryz.prog 106 #[v, .int .i64 (M : Int)] w fun e w' => e = .returned (.int .i64 ((M + 6 * n : Nat) : Int)) ∧ Nw w w' := by
  obtain ⟨va, vc, rfl⟩ := own_shape' h
  have H := Lib.hid h
  have Hl := Lib.hid hl
  clear h hl
  go_enter Tryz.func106, Tryz.ntmps106
  go_wp2_with fail
  go_loopw [1, 5] (fun m i wr => HdVI M n w m i wr) (fun _ i _ => n - (intOf i).toNat)
  case atStart => exact ⟨0, M, by omega, by omega, rfl, rfl, Nw.refl _⟩
  case round =>
    obtain ⟨k, A, hk, hA, rfl, rfl, hN⟩ := hrel
    have HA := Lib.hid hA
    have hAb : A ≤ 760 := by omega
    have Nr := Lib.hid hN
    clear hN hA
    by_cases hlt : k < n
    · obtain ⟨g1, cap1, hv1, hcap1, hmax1, hgs, d0, d1, d2, d3, d4, d5⟩ := own_event (own_nw H.out Nr.out) (by rw [mkVs_len M es n (by rw [Hl.out]; exact Nat.le_refl _)]; exact Hl.out) (mkVs_get M es n k hlt)
      cases hv1
      unfold maxLen at hmax1
      have q1 := mkW_self2 (A + 5) (by omega)
      unfold mkW at q1
      rw [show ((A + 5 : Nat) : Int) = (A : Int) + 1 + 1 + 1 + 1 + 1 from by omega] at q1
      have q2 : (FloatKind.f32.format.order (floatOfInt .f32 ((A : Int) + 1 + 1 + 1 + 1 + 1)) (floatOfInt .f32 ((A : Int) + 1 + 1 + 1 + 1 + 1)) != some .eq) = false := by unfold bne; rw [q1]; rfl
      unfold mkV mkW at d0 d1 d2 d3 d4 d5
      simp only at d0 d1 d2 d3 d4 d5
      rw [← HA.out] at d0 d1 d2 d3 d4 d5
      rw [show ((A + 1 : Nat) : Int) = (A : Int) + 1 from by omega] at d1
      rw [show ((A + 2 : Nat) : Int) = (A : Int) + 1 + 1 from by omega] at d2
      rw [show ((A + 3 : Nat) : Int) = (A : Int) + 1 + 1 + 1 from by omega] at d3
      rw [show ((A + 4 : Nat) : Int) = (A : Int) + 1 + 1 + 1 + 1 from by omega] at d4
      rw [show ((A + 5 : Nat) : Int) = (A : Int) + 1 + 1 + 1 + 1 + 1 from by omega] at d5
      go_wp2_with fail
      go_roundw
      case rel => exact ⟨k + 1, A + 6, by omega, by have := HA.out; omega, by rw [show ((k + 1 : Nat) : Int) = (k : Int) + 1 from by omega], by rw [show ((A + 6 : Nat) : Int) = (A : Int) + 1 + 1 + 1 + 1 + 1 + 1 from by omega], Nr.out⟩
      case measure => simp only [intOf]; omega
    · obtain rfl : k = n := by omega
      go_wp2_with fail
      go_ret
      exact ⟨by rw [← HA.out]; rfl, Nr.out⟩
end Go.Proofs.YtnmjkjjmigiabaaGreatDoor

/- The marks of scores, whole (FnExactParseScore).
   Conditions: those that each statement names. -/
namespace Go.Proofs.YtnmjkjjmigiabaaGreatDoor
set_option linter.unusedSimpArgs false
set_option linter.unusedVariables false
open Go Go.RowKit

/-! ### marked bodies -/
def markB : Nat → List (List M4) → List (List M4)
  | _, [] => []
  | M, ms :: bs => mkN M ms ms.length :: markB (M + 2 * ms.length) bs
def endB : Nat → List (List M4) → Nat
  | M, [] => M
  | M, ms :: bs => endB (M + 2 * ms.length) bs
theorem markB_len (M : Nat) (bs : List (List M4)) : (markB M bs).length = bs.length := by
  induction bs generalizing M with
  | nil => rfl
  | cons ms bs ih => simp [markB, ih]
theorem markB_snoc (M : Nat) (bs : List (List M4)) (ms : List M4) : markB M (bs ++ [ms]) = markB M bs ++ [mkN (endB M bs) ms ms.length] := by
  induction bs generalizing M with
  | nil => rfl
  | cons a bs ih => simp [markB, endB, ih]
theorem endB_snoc (M : Nat) (bs : List (List M4)) (ms : List M4) : endB M (bs ++ [ms]) = endB M bs + 2 * ms.length := by
  induction bs generalizing M with
  | nil => rfl
  | cons a bs ih => simp [endB, ih]
theorem endB_le (M : Nat) (bs : List (List M4)) (h : ∀ ms ∈ bs, ms.length ≤ 16) : endB M bs ≤ M + 32 * bs.length := by
  induction bs generalizing M with
  | nil => simp [endB]
  | cons a bs ih =>
    have h1 := ih (M + 2 * a.length) (fun m hm => h m (List.mem_cons_of_mem _ hm))
    have h2 := h a List.mem_cons_self
    simp [endB]
    omega
def markP (M : Nat) (bs : List (List M4)) (k : Nat) : List (List M4) := markB M (bs.take k) ++ bs.drop k
theorem markP_zero (M : Nat) (bs : List (List M4)) : markP M bs 0 = bs := by simp [markP, markB]
theorem markP_full (M : Nat) (bs : List (List M4)) (n : Nat) (h : bs.length = n) : markP M bs n = markB M bs := by subst h; simp [markP]
theorem markP_len (M : Nat) (bs : List (List M4)) (k : Nat) (h : k ≤ bs.length) : (markP M bs k).length = bs.length := by
  unfold markP; rw [List.length_append, markB_len]; simp; omega
theorem markP_at (M : Nat) (bs : List (List M4)) (k : Nat) (x : List M4) (h : bs[k]? = some x) : (markP M bs k)[k]? = some x := by
  have hk := (List.getElem?_eq_some_iff.1 h).1
  have hl : (markB M (bs.take k)).length = k := by rw [markB_len]; simp; omega
  unfold markP
  rw [List.getElem?_append_right (by omega), hl]
  simpa using h
theorem markP_set (M : Nat) (bs : List (List M4)) (k : Nat) (x : List M4) (h : bs[k]? = some x) : (markP M bs k).set k (mkN (endB M (bs.take k)) x x.length) = markP M bs (k + 1) := by
  obtain ⟨hk, he⟩ := List.getElem?_eq_some_iff.1 h
  have hl : (markB M (bs.take k)).length = k := by rw [markB_len]; simp; omega
  unfold markP
  rw [List.take_succ_eq_append_getElem hk, he, markB_snoc, List.drop_eq_getElem_cons hk, he, List.set_append_right _ _ (by omega), hl]
  simp
/-- one body's modes are turned -/
theorem BodsN.turn {w w' : World} {base N k n : Nat} {sv rv : Value} {cs : List (List M4)} {xs : List Value} {ms' : List M4} (h : BodsN w base N sv cs) (hk : k < cs.length)
    (hv : ∀ vs : List Value, w.ownsRow base 38 1 sv cs.length vs → vs[k]? = some rv) (ho : w.ownsRow base 93 2 rv n xs) (hn : w'.ownsRow base 93 2 rv ms'.length (cellsM ms')) (hg : w.grownBy w' rv.ownBlock) : BodsN w' base N sv (cs.set k ms') := by
  obtain ⟨vs, h1, h2, h3, h4⟩ := h
  have hvk := hv vs h1
  refine ⟨vs, by rw [List.length_set]; exact h1.kept hg (rows_apart h1 ho (by decide)), fun p r' hp => ?_, h3, h4⟩
  rcases Nat.lt_trichotomy p k with g | g | g
  · rw [List.getElem?_set_ne (by omega)] at hp
    obtain ⟨v, a, b⟩ := h2 p _ hp
    exact ⟨v, a, b.kept hg (h3 p k v rv g a hvk)⟩
  · subst g
    rw [List.getElem?_set_self hk] at hp
    cases hp
    exact ⟨rv, hvk, hn⟩
  · rw [List.getElem?_set_ne (by omega)] at hp
    obtain ⟨v, a, b⟩ := h2 p _ hp
    refine ⟨v, a, b.kept hg ?_⟩
    rcases h3 k p rv v g hvk a with e | e
    · cases hvb : v.ownBlock with
      | none => exact .inl rfl
      | some x => right; rw [e]; simp
    · exact .inr (fun e2 => e e2.symm)
/-- what lies outside of the bodies' blocks is as it was -/
structure Rb (base N : Nat) (w w' : World) : Prop where
  os : w'.os = w.os
  tape : w'.tape = w.tape
  output : w'.output = w.output
  size : w.heap.size ≤ w'.heap.size
  block : ∀ i, i < w.heap.size → (i < base ∨ N ≤ i) → w'.heap[i]? = w.heap[i]?
  ev : ∀ (b n : Nat) (v : Value) (xs : List Value), w.ownsRow b 137 6 v n xs → w'.ownsRow b 137 6 v n xs
theorem Rb.refl (base N : Nat) (w : World) : Rb base N w w := ⟨rfl, rfl, rfl, Nat.le_refl _, fun _ _ _ => rfl, fun _ _ _ _ h => h⟩
theorem Rb.trans {base N : Nat} {a b c : World} (h : Rb base N a b) (k : Rb base N b c) : Rb base N a c :=
  ⟨k.os.trans h.os, k.tape.trans h.tape, k.output.trans h.output, Nat.le_trans h.size k.size, fun i hi hb => (k.block i (Nat.lt_of_lt_of_le hi h.size) hb).trans (h.block i hi hb), fun b n v xs ho => k.ev b n v xs (h.ev b n v xs ho)⟩
theorem Rb.of {base N n : Nat} {w w' : World} {v : Value} {xs : List Value} (ho : w.ownsRow base 93 2 v n xs) (hN : ∀ q, v.ownBlock = some q → q < N) (hg : w.grownBy w' v.ownBlock) : Rb base N w w' :=
  ⟨hg.os, hg.tape, hg.output, hg.size, fun i hi hb => hg.block i hi (fun e => by have h1 := own_ge ho i e.symm; have h2 := hN i e.symm; omega), fun b n v' xs' h => h.kept hg (rows_apart h ho (by decide))⟩
theorem Rb.nw {base N : Nat} {W w w' : World} (h : Rb base N w w') (hW : Nw W w) (hb : W.heap.size ≤ base) : Nw W w' :=
  ⟨h.os.trans hW.os, h.tape.trans hW.tape, h.output.trans hW.output, Nat.le_trans hW.size h.size, fun i hi hne => (h.block i (Nat.lt_of_lt_of_le hi hW.size) (.inl (by omega))).trans (hW.block i hi hne)⟩
theorem Rb.has6 {base N b : Nat} {w w' : World} {x0 x1 x2 x3 x4 x5 : Value} (h : Rb base N w w') (hb : N ≤ b ∨ b < base) (k : Has6 w b x0 x1 x2 x3 x4 x5) : Has6 w' b x0 x1 x2 x3 x4 x5 := k.of h.size (h.block b k.1 (hb.symm))

def MkBI (n base N : Nat) (bs : List (List M4)) (sv : Value) (w : World) (m i : Value) (wr : World) : Prop :=
  ∃ k A : Nat, k ≤ n ∧ A = endB 1 (bs.take k) ∧ i = .int .i64 (k : Int) ∧ m = .int .i64 (A : Int) ∧ BodsN wr base N sv (markP 1 bs k) ∧ Rb base N w wr
def MkBP (base N : Nat) (bs : List (List M4)) (sv : Value) (w : World) (e : Ending) (w' : World) : Prop :=
  e = .returned (.int .i64 ((endB 1 bs : Nat) : Int)) ∧ BodsN w' base N sv (markB 1 bs) ∧ Rb base N w w'
theorem take_end {bs : List (List M4)} {n k : Nat} (hn : bs.length = n) (h8 : n ≤ 8) (h16 : ∀ ms ∈ bs, ms.length ≤ 16) : endB 1 (bs.take k) ≤ 257 := by
  have h1 := endB_le 1 (bs.take k) (fun m hm => h16 m (List.mem_of_mem_take hm))
  have h2 : (bs.take k).length ≤ 8 := by simp; omega
  omega
set_option maxHeartbeats 6400000 in
set_option maxRecDepth 100000 in
theorem markBods_ok (n base N : Nat) (bs : List (List M4)) (sv : Value) (hn : bs.length = n) (h8 : n ≤ 8) (h16 : ∀ ms ∈ bs, ms.length ≤ 16) (w : World) (h : BodsN w base N sv bs) :
    Calls Tryz.prog 103 #[sv, .int .i64 1] w (MkBP base N bs sv w) := by
  obtain ⟨sa, sc, rfl⟩ := h.r.shape
  rw [hn] at h ⊢
  have H := Lib.hid h
  have E := Lib.hid hn
  have Hr := Lib.hid h16
  have Te := Lib.hid (fun k => take_end (k := k) hn h8 h16)
  clear h hn h16
  go_enter Tryz.func103, Tryz.ntmps103
  go_wp2_with fail
  go_loopw [1, 5] (fun m i wr => MkBI n base N bs (.slice sa n sc) w m i wr) (fun _ i _ => n - (intOf i).toNat)
  case atStart => exact ⟨0, 1, by omega, rfl, rfl, rfl, by rw [markP_zero]; exact H.out, Rb.refl _ _ _⟩
  case round =>
    obtain ⟨k, A, hk, hA, rfl, rfl, hrw, hrg⟩ := hrel
    have Rw := Lib.hid hrw
    have Rr := Lib.hid hrg
    have hAb : A ≤ 257 := by rw [hA]; exact Te.out k
    have HA := Lib.hid hA
    clear hrw hrg hA
    by_cases hlt : k < n
    · obtain ⟨r, hrk⟩ : ∃ r, bs[k]? = some r := ⟨bs[k]'(by rw [E.out]; exact hlt), List.getElem?_eq_getElem _⟩
      have hlen := markP_len 1 bs k (by rw [E.out]; exact hk)
      obtain ⟨g, cap, ra, rc, hv, hcap, hmax, hgs, e1, own⟩ := Rw.out.r.at (n := n) (by rw [hlen]; exact E.out.symm) (markP_at 1 bs k r hrk)
      cases hv
      have hr16 := Hr.out r (List.mem_of_getElem? hrk)
      have Rk := Lib.hid hrk
      have Ow := Lib.hid own
      have hvv := Lib.hid (show ∀ vs : List Value, wr.ownsRow base 38 1 (.slice (some ⟨g, 0, none⟩) n sc) (markP 1 bs k).length vs → vs[k]? = some (.slice ra r.length rc) from fun vs ho => by
        rw [hlen, E.out] at ho
        rw [← ho.cellAt k (by omega)]; exact e1)
      have Hlen := Lib.hid hlen
      unfold maxLen at hmax
      clear hrk own hlen
      obtain ⟨q, hq⟩ : ∃ q, q = r.length := ⟨_, rfl⟩
      rw [← hq] at e1 hr16
      have Hq := Lib.hid hq
      clear hq
      go_wp2_with fail
      refine (markN_ok A (by omega) r q base (.slice ra q rc) Hq.out.symm hr16 _ (by rw [Hq.out]; exact Ow.out)).mono ?_
      rintro e w5 ⟨rfl, o5, g5⟩
      have hNb : ∀ x, (Value.slice ra r.length rc).ownBlock = some x → x < N := fun x hx => by
        obtain ⟨vs, h1, h2, h3, h4⟩ := Rw.out
        exact h4 k _ (hvv.out vs h1) x hx
      rw [Hq.out] at o5 g5
      have R5 := Lib.hid (show BodsN w5 base N (.slice (some ⟨g, 0, none⟩) n sc) (markP 1 bs (k + 1)) from by
        rw [← markP_set 1 bs k r Rk.out, ← HA.out]
        exact BodsN.turn Rw.out (by rw [Hlen.out, E.out]; exact hlt) hvv.out Ow.out (by rw [mkN_len A r r.length (Nat.le_refl _)]; exact o5) g5)
      have G5 := Lib.hid (Rr.out.trans (Rb.of Ow.out hNb g5))
      clear o5 g5 hNb e1
      go_wp2_with fail
      go_roundw
      case rel =>
        refine ⟨k + 1, A + 2 * q, by omega, ?_, by rw [show ((k + 1 : Nat) : Int) = (k : Int) + 1 from by omega], rfl, R5.out, G5.out⟩
        obtain ⟨hk', he⟩ := List.getElem?_eq_some_iff.1 Rk.out
        rw [List.take_succ_eq_append_getElem hk', he, endB_snoc, ← HA.out, Hq.out]
      case measure => simp only [intOf]; omega
    · obtain rfl : k = n := by omega
      go_wp2_with fail
      go_ret
      have e : bs.take k = bs := List.take_of_length_le (by rw [E.out]; exact Nat.le_refl _)
      exact ⟨by rw [← e, ← HA.out]; rfl, by rw [← markP_full 1 bs k E.out]; exact Rw.out, Rr.out⟩

def HdBI (n : Nat) (bs : List (List M4)) (w : World) (m i : Value) (wr : World) : Prop :=
  ∃ k A : Nat, k ≤ n ∧ A = endB 1 (bs.take k) ∧ i = .int .i64 (k : Int) ∧ m = .int .i64 (A : Int) ∧ Nw w wr
theorem markB_get (M : Nat) (bs : List (List M4)) (k : Nat) (x : List M4) (h : bs[k]? = some x) : (markB M bs)[k]? = some (mkN (endB M (bs.take k)) x x.length) := by
  induction bs generalizing M k with
  | nil => simp at h
  | cons a bs ih =>
    cases k with
    | zero => simp at h; subst h; simp [markB, endB]
    | succ k => simpa [markB, endB] using ih (M + 2 * a.length) k (by simpa using h)
set_option maxHeartbeats 6400000 in
set_option maxRecDepth 100000 in
theorem heldBods_ok (n base N : Nat) (bs : List (List M4)) (sv : Value) (hn : bs.length = n) (h8 : n ≤ 8) (h16 : ∀ ms ∈ bs, ms.length ≤ 16) (w : World) (h : BodsN w base N sv (markB 1 bs)) :
    Calls Tryz.prog 105 #[sv, .int .i64 1] w fun e w' => e = .returned (.int .i64 ((endB 1 bs : Nat) : Int)) ∧ Nw w w' := by
  obtain ⟨sa, sc, rfl⟩ := h.r.shape
  have hlen := markB_len 1 bs
  rw [hlen, hn] at h ⊢
  have H := Lib.hid h
  have E := Lib.hid (And.intro hn hlen)
  have Hr := Lib.hid h16
  have Te := Lib.hid (fun k => take_end (k := k) hn h8 h16)
  clear h hn h16 hlen
  go_enter Tryz.func105, Tryz.ntmps105
  go_wp2_with fail
  go_loopw [1, 5] (fun m i wr => HdBI n bs w m i wr) (fun _ i _ => n - (intOf i).toNat)
  case atStart => exact ⟨0, 1, by omega, rfl, rfl, rfl, Nw.refl _⟩
  case round =>
    obtain ⟨k, A, hk, hA, rfl, rfl, hN⟩ := hrel
    have Nr := Lib.hid hN
    have hAb : A ≤ 257 := by rw [hA]; exact Te.out k
    have HA := Lib.hid hA
    clear hN hA
    by_cases hlt : k < n
    · obtain ⟨r, hrk⟩ : ∃ r, bs[k]? = some r := ⟨bs[k]'(by rw [E.out.1]; exact hlt), List.getElem?_eq_getElem _⟩
      obtain ⟨g, cap, ra, rc, hv, hcap, hmax, hgs, e1, own⟩ := (H.out.nw Nr.out).r.at (n := n) (by rw [E.out.2]; exact E.out.1.symm) (markB_get 1 bs k r hrk)
      cases hv
      have hr16 := Hr.out r (List.mem_of_getElem? hrk)
      have Rk := Lib.hid hrk
      have hml := mkN_len A r r.length (Nat.le_refl _)
      rw [← HA.out] at e1 own
      rw [hml] at e1 own
      have Ow := Lib.hid own
      unfold maxLen at hmax
      clear hrk own hml
      obtain ⟨q, hq⟩ : ∃ q, q = r.length := ⟨_, rfl⟩
      rw [← hq] at e1 hr16
      have Hq := Lib.hid hq
      clear hq
      have hpos : ¬ (((A + 2 * q : Nat) : Int) < 0) := by omega
      go_wp2_with fail
      refine (heldN_ok A (by omega) r q base (.slice ra q rc) Hq.out.symm hr16 _ (by rw [Hq.out]; exact Ow.out)).mono ?_
      rintro e w5 ⟨rfl, n5⟩
      have N5 := Lib.hid (Nr.out.trans n5)
      clear n5 e1
      obtain ⟨A2, hA2⟩ : ∃ A2, A2 = A + 2 * q := ⟨_, rfl⟩
      rw [← hA2] at hpos ⊢
      have HA2 := Lib.hid hA2
      clear hA2
      have hpos2 : ¬ ((A2 : Int) < 0) := by omega
      go_wp2_with fail
      go_roundw
      case rel =>
        refine ⟨k + 1, A2, by omega, ?_, by rw [show ((k + 1 : Nat) : Int) = (k : Int) + 1 from by omega], rfl, N5.out⟩
        obtain ⟨hk', he⟩ := List.getElem?_eq_some_iff.1 Rk.out
        rw [List.take_succ_eq_append_getElem hk', he, endB_snoc, ← HA.out, HA2.out, Hq.out]
      case measure => simp only [intOf]; omega
    · obtain rfl : k = n := by omega
      go_wp2_with fail
      go_ret
      have e : bs.take k = bs := List.take_of_length_le (by rw [E.out.1]; exact Nat.le_refl _)
      exact ⟨by rw [← e, ← HA.out]; rfl, Nr.out⟩

/-! ### scores -/
theorem has6_gr {w w' : World} {b : Nat} {x0 x1 x2 x3 x4 x5 : Value} {row : Option Nat} (k : Has6 w b x0 x1 x2 x3 x4 x5) (hg : w.grownBy w' row) (hr : row ≠ some b) : Has6 w' b x0 x1 x2 x3 x4 x5 := k.of hg.size (hg.block b k.1 (fun e => hr e.symm))
def MkSP (s : Sco) (nb ne base N : Nat) (v u : Value) (w : World) (e : Ending) (w' : World) : Prop :=
  e = .returned (.int .i64 ((endB 1 s.bs + 6 * ne : Nat) : Int)) ∧ BodsN w' base N v (markB 1 s.bs) ∧ w'.ownsRow base 137 6 u ne (cellsE (mkVs (endB 1 s.bs) s.es ne)) ∧
    (∀ W : World, Nw W w → W.heap.size ≤ base → Nw W w') ∧ ∀ (b : Nat) (x0 x1 x2 x3 x4 x5 : Value), N ≤ b → Has6 w b x0 x1 x2 x3 x4 x5 → Has6 w' b x0 x1 x2 x3 x4 x5
set_option maxHeartbeats 3200000 in
set_option maxRecDepth 100000 in
theorem markScore_ok (s : Sco) (nb ne base N : Nat) (v u : Value) (hnb : s.bs.length = nb) (hne : s.es.length = ne) (h8 : nb ≤ 8) (h60 : ne ≤ 60) (h16 : ∀ ms ∈ s.bs, ms.length ≤ 16) (w : World)
    (hN : ∀ x, u.ownBlock = some x → x < N) (hNs : N ≤ w.heap.size) (h1 : BodsN w base N v s.bs) (r1 : w.ownsRow base 137 6 u ne (cellsE s.es)) :
    Calls Tryz.prog 43 #[.agg #[.int .i64 s.L, .int .i64 s.V, .float .f32 s.C, .float .f32 s.R, v, u], .int .i64 1] w (MkSP s nb ne base N v u w) := by
  obtain ⟨L, V, C, R, bs, es⟩ := s
  simp only at hnb hne h16 h1 r1 ⊢
  obtain ⟨va, vc, rfl⟩ := h1.r.shape
  obtain ⟨ua, uc, rfl⟩ := own_shape' r1
  rw [hnb] at h1 ⊢
  have Te := Lib.hid (show endB 1 bs ≤ 257 from by have h := take_end (k := bs.length) hnb h8 h16; rwa [List.take_length] at h)
  have Cb := Lib.hid (fun w => markBods_ok nb base N bs (.slice va nb vc) hnb h8 h16 w)
  have Ce := Lib.hid (fun (A : Nat) (hA : A ≤ 400) w => markEvents_ok A hA es ne base (.slice ua ne uc) hne h60 w)
  have A0 := Lib.hid (show Nw w (w.alloc (.cells #[.int .i64 L, .int .i64 V, .float .f32 C, .float .f32 R, .slice va nb vc, .slice ua ne uc] 68 (0, 0))) from (Nw.refl w).alloc _)
  have B := Lib.hid (Has6.new w 68 (.int .i64 L) (.int .i64 V) (.float .f32 C) (.float .f32 R) (.slice va nb vc) (.slice ua ne uc))
  have H1 := Lib.hid (h1.nw A0.out)
  have R1 := Lib.hid (own_nw r1 A0.out)
  have HN := Lib.hid hN
  have hNw := Lib.hid (show ∀ x, (Value.slice ua ne uc).ownBlock = some x → x < w.heap.size from fun x hx => (r1.lt x hx).2)
  clear h1 r1 hN hnb hne h16
  go_enter Tryz.func43, Tryz.ntmps43
  go_wp2_with fail
  refine (Cb.out _ H1.out).mono ?_
  rintro e w1 ⟨rfl, o1, g1⟩
  have O1 := Lib.hid o1
  have G1 := Lib.hid g1
  have Rv1 := Lib.hid (g1.ev _ _ _ _ R1.out)
  obtain ⟨A, hA⟩ : ∃ A, A = endB 1 bs := ⟨_, rfl⟩
  rw [← hA] at Te ⊢
  have HA := Lib.hid hA
  have BX := Lib.hid (g1.has6 (.inl hNs) B.out)
  clear o1 g1 hA
  obtain ⟨x0, ⟨x1, x2, x3, x4, x5, x6⟩, x7, x8, x9, x10, x11, x12⟩ := BX.out
  go_wp2_with fail
  refine (Ce.out A (by have := Te.out; omega) _ Rv1.out).mono ?_
  rintro e w2 ⟨rfl, o2, g2⟩
  have O2 := Lib.hid o2
  have G2 := Lib.hid g2
  have Ob2 := Lib.hid (O1.out.grown Rv1.out (by decide) (by decide) g2)
  clear o2 g2 x0 x1 x2 x3 x4 x5 x6 x7 x8 x9 x10 x11 x12
  go_wp2_with fail
  go_ret
  refine ⟨by rw [← HA.out]; rfl, Ob2.out, by rw [← HA.out]; exact O2.out, fun W hW hb => ?_, fun b y0 y1 y2 y3 y4 y5 hb hx => ?_⟩
  · exact nwg (G1.out.nw (hW.trans A0.out) hb) G2.out (fun q hq => Nat.le_trans hb (own_ge Rv1.out q hq))
  · exact has6_gr (G1.out.has6 (.inl hb) (hx.nw A0.out)) G2.out (fun e => by have := HN.out _ e; omega)
set_option maxHeartbeats 3200000 in
set_option maxRecDepth 100000 in
theorem heldScore_ok (s : Sco) (nb ne base N : Nat) (v u : Value) (hnb : s.bs.length = nb) (hne : s.es.length = ne) (h8 : nb ≤ 8) (h60 : ne ≤ 60) (h16 : ∀ ms ∈ s.bs, ms.length ≤ 16) (w : World)
    (h1 : BodsN w base N v (markB 1 s.bs)) (r1 : w.ownsRow base 137 6 u ne (cellsE (mkVs (endB 1 s.bs) s.es ne))) :
    Calls Tryz.prog 44 #[.agg #[.int .i64 s.L, .int .i64 s.V, .float .f32 s.C, .float .f32 s.R, v, u], .int .i64 1] w fun e w' => e = .returned (.int .i64 ((endB 1 s.bs + 6 * ne : Nat) : Int)) ∧ Nw w w' := by
  obtain ⟨L, V, C, R, bs, es⟩ := s
  simp only at hnb hne h16 h1 r1 ⊢
  obtain ⟨va, vc, rfl⟩ := h1.r.shape
  obtain ⟨ua, uc, rfl⟩ := own_shape' r1
  rw [markB_len, hnb] at h1 ⊢
  have Te := Lib.hid (show endB 1 bs ≤ 257 from by have h := take_end (k := bs.length) hnb h8 h16; rwa [List.take_length] at h)
  have Cb := Lib.hid (fun w => heldBods_ok nb base N bs (.slice va nb vc) hnb h8 h16 w)
  have Ce := Lib.hid (fun (A : Nat) (hA : A ≤ 400) w => heldEvents_ok A hA es ne base (.slice ua ne uc) hne h60 w)
  have A0 := Lib.hid (show Nw w (w.alloc (.cells #[.int .i64 L, .int .i64 V, .float .f32 C, .float .f32 R, .slice va nb vc, .slice ua ne uc] 68 (0, 0))) from (Nw.refl w).alloc _)
  have B := Lib.hid (Has6.new w 68 (.int .i64 L) (.int .i64 V) (.float .f32 C) (.float .f32 R) (.slice va nb vc) (.slice ua ne uc))
  have H1 := Lib.hid (h1.nw A0.out)
  have R1 := Lib.hid (own_nw r1 A0.out)
  clear h1 r1 hnb hne h16
  go_enter Tryz.func44, Tryz.ntmps44
  go_wp2_with fail
  refine (Cb.out _ H1.out).mono ?_
  rintro e w1 ⟨rfl, n1⟩
  have N1 := Lib.hid (A0.out.trans n1)
  have R2 := Lib.hid (own_nw R1.out n1)
  obtain ⟨x0, ⟨x1, x2, x3, x4, x5, x6⟩, x7, x8, x9, x10, x11, x12⟩ := B.out.nw n1
  obtain ⟨A, hA⟩ : ∃ A, A = endB 1 bs := ⟨_, rfl⟩
  rw [← hA] at Te R2 ⊢
  have HA := Lib.hid hA
  have hpos : ¬ ((A : Int) < 0) := by omega
  clear n1 hA
  go_wp2_with fail
  refine (Ce.out A (by have := Te.out; omega) _ R2.out).mono ?_
  rintro e w2 ⟨rfl, n2⟩
  have N2 := Lib.hid (N1.out.trans n2)
  obtain ⟨T, hT⟩ : ∃ T, T = A + 6 * ne := ⟨_, rfl⟩
  rw [← hT]
  have HT := Lib.hid hT
  have hpos2 : ¬ ((T : Int) < 0) := by omega
  clear n2 hT x0 x1 x2 x3 x4 x5 x6 x7 x8 x9 x10 x11 x12
  go_wp2_with fail
  go_ret
  exact ⟨by rw [← HA.out, ← HT.out]; rfl, N2.out⟩
end Go.Proofs.YtnmjkjjmigiabaaGreatDoor

/- The law FnExactParseScore as a call.
   Conditions: those that each statement names. -/
namespace Go.Proofs.YtnmjkjjmigiabaaGreatDoor
set_option linter.unusedSimpArgs false
set_option linter.unusedVariables false
open Go Go.RowKit

def PsA (s : Sco) (nb ne : Nat) (b : Bool) (w : World) (e : Ending) (w' : World) : Prop :=
  ∃ v u, e = .returned (.tuple #[.agg #[.int .i64 s.L, .int .i64 s.V, .float .f32 s.C, .float .f32 s.R, v, u], .bool b]) ∧ BodsR w' w.heap.size v s.bs ∧ w'.ownsRow w.heap.size 137 6 u ne (cellsE s.es) ∧ Nw w w'
def PsB (s : Sco) (nb ne : Nat) (b : Bool) (w : World) (e : Ending) (w' : World) : Prop :=
  ∃ v u, e = .returned (.tuple #[.agg #[.int .i64 s.L, .int .i64 s.V, .float .f32 s.C, .float .f32 s.R, v, u], .bool b]) ∧ BodsN w' w.heap.size w'.heap.size v s.bs ∧ w'.ownsRow w.heap.size 137 6 u ne (cellsE s.es) ∧ Nw w w'
structure ScF (s : Sco) : Prop where
  c : Sm s.C
  r : Sm s.R
  m : ∀ ms ∈ s.bs, (∀ m ∈ ms, m.Fin) ∧ ms.length ≤ 16
  e : ∀ x ∈ s.es, Sm x.f
  b8 : s.bs.length ≤ 8
  e60 : s.es.length ≤ 60
theorem bodL_mem {bs : List (List M4)} {ls : List (List UInt8)} (h : BodL bs ls) : ∀ ms ∈ bs, ∃ ps, All2 LineM ps ms := by
  induction bs generalizing ls with
  | nil => simp
  | cons a bs ih =>
    obtain ⟨ps, rs, h1, h2, rfl⟩ := h
    intro ms hm
    rcases List.mem_cons.1 hm with rfl | hm
    · exact ⟨ps, h1⟩
    · exact ih h2 ms hm
theorem scF_of {l : List UInt8} {s : Sco} (h : GoodS l s) : ScF s := by
  obtain ⟨g1, g2, g3⟩ := goodS_len h
  obtain ⟨h1, ls, qs, ⟨t1, t2, t3, t4, -, -, -, k3, k4⟩, a2, a3, -⟩ := h.2
  refine ⟨k3.2.1, k4.2.1, fun ms hm => ⟨fun m hmm => ?_, g1 ms hm⟩, fun x hx => ?_, g2, g3⟩
  · obtain ⟨ps, hp⟩ := bodL_mem a2 ms hm
    obtain ⟨p, hp⟩ := hp.memr m hmm
    exact (lineM_fin hp).1
  · obtain ⟨p, hp⟩ := a3.memr x hx
    exact (evL_G hp).1.1
theorem parseScore_both (x : ByteArray) (hs : x.size ≤ 1048576) : ∃ s b, ScF s ∧ (∀ w, Calls Tryz.prog 40 #[.string x] w (PsA s s.bs.length s.es.length b w)) ∧ (∀ w, LibW w → Calls Tryz.prog 41 #[.string x] w (PsB s s.bs.length s.es.length b w)) := by
  by_cases h : ∃ s, GoodS x.data.toList s
  · obtain ⟨s, g⟩ := h
    refine ⟨s, true, scF_of g, fun w => (specParseScore x hs w).mono fun e w' h => ?_, fun w hL => (implParseScore x hs w hL).mono fun e w' h => ?_⟩
    · obtain ⟨hn, ⟨s', v, u, g2, -, rfl, own, rws⟩ | ⟨hno, -⟩⟩ := h
      · have e1 := textS_val g2.2 g.2
        subst e1
        exact ⟨v, u, rfl, own, rws, hn⟩
      · exact absurd g (hno s)
    · obtain ⟨hn, ⟨s', v, u, g2, rfl, own, rws⟩ | ⟨hno, -⟩⟩ := h
      · have e1 := textS_val g2.2 g.2
        subst e1
        exact ⟨v, u, rfl, own, rws, hn⟩
      · exact absurd g (hno s)
  · have h0 : ScF sco0 := ⟨sm_zero0, sm_zero0, by simp [sco0], by simp [sco0], by simp [sco0], by simp [sco0]⟩
    have hno : ∀ s, ¬ GoodS x.data.toList s := fun s g => h ⟨s, g⟩
    refine ⟨sco0, false, h0, fun w => (specParseScore x hs w).mono fun e w' h => ?_, fun w hL => (implParseScore x hs w hL).mono fun e w' h => ?_⟩
    · obtain ⟨hn, ⟨s', v, u, g2, -⟩ | ⟨-, rfl⟩⟩ := h
      · exact absurd g2 (hno s')
      · exact ⟨_, _, rfl, BodsR.nil _ _, World.ownsRow_nil _ _ _ _, hn⟩
    · obtain ⟨hn, ⟨s', v, u, g2, -⟩ | ⟨-, rfl⟩⟩ := h
      · exact absurd g2 (hno s')
      · exact ⟨_, _, rfl, BodsN.nil _ _ _, World.ownsRow_nil _ _ _ _, hn⟩

set_option maxHeartbeats 12800000 in
set_option maxRecDepth 100000 in
theorem law_parseScore (x : ByteArray) (w : World) (hL : LibW w) :
    Calls Tryz.prog 7 #[.string x] w fun e w' => e = .returned (.bool true) ∧ Nw w w' := by
  by_cases hs : x.size ≤ 1048576
  · obtain ⟨s, b, hf, k1, k2⟩ := parseScore_both x hs
    obtain ⟨nb, hnb⟩ : ∃ nb, nb = s.bs.length := ⟨_, rfl⟩
    obtain ⟨ne, hne⟩ : ∃ ne, ne = s.es.length := ⟨_, rfl⟩
    unfold PsA at k1
    unfold PsB at k2
    rw [← hne] at k1 k2
    have Hn := Lib.hid (And.intro hnb.symm hne.symm)
    have hb8 : nb ≤ 8 := by rw [hnb]; exact hf.b8
    have he60 : ne ≤ 60 := by rw [hne]; exact hf.e60
    have Hf := Lib.hid hf
    have C1 := Lib.hid k1
    have C2 := Lib.hid k2
    have L := Lib.hid hL
    obtain ⟨T, hT⟩ : ∃ T, T = endB 1 s.bs + 6 * ne := ⟨_, rfl⟩
    have hT0 : ¬ ((T : Int) < 0) := by omega
    have HT := Lib.hid hT
    clear hnb hne hf k1 k2 hL hT
    go_enter Tryz.func7, Tryz.ntmps7
    go_wp2_with fail
    refine (C1.out _).mono ?_
    rintro e w1 ⟨v0, u0, rfl, own0, rws0, n1⟩
    obtain ⟨va, vc, rfl⟩ := own0.shape
    obtain ⟨ua, uc, rfl⟩ := own_shape' rws0
    rw [Hn.out.1] at own0 ⊢
    have B0 := Lib.hid (Has6.new w1 68 (.int .i64 s.L) (.int .i64 s.V) (.float .f32 s.C) (.float .f32 s.R) (.slice va nb vc) (.slice ua ne uc))
    have A1 := Lib.hid (show Nw w1 (w1.alloc (.cells #[.int .i64 s.L, .int .i64 s.V, .float .f32 s.C, .float .f32 s.R, .slice va nb vc, .slice ua ne uc] 68 (0, 0))) from (Nw.refl w1).alloc _)
    have O1 := Lib.hid (own0.nw A1.out)
    have U1 := Lib.hid (own_nw rws0 A1.out)
    have N1 := Lib.hid (n1.trans A1.out)
    have hs1 := Lib.hid (show w.heap.size ≤ w1.heap.size from n1.size)
    have hs1' := Lib.hid (show (w1.alloc (.cells #[.int .i64 s.L, .int .i64 s.V, .float .f32 s.C, .float .f32 s.R, .slice va nb vc, .slice ua ne uc] 68 (0, 0))).heap.size = w1.heap.size + 1 from by simp)
    clear own0 rws0 n1
    go_wp2_with fail
    refine (C2.out _ (L.out.nw N1.out)).mono ?_
    rintro e w2 ⟨g0, g1, rfl, own1, rws1, n2⟩
    rw [hs1'.out] at own1 rws1
    obtain ⟨ga, gc, rfl⟩ := own1.r.shape
    obtain ⟨ka, kc, rfl⟩ := own_shape' rws1
    rw [Hn.out.1] at own1 ⊢
    have A2 := Lib.hid (show Nw w2 (w2.alloc (.cells #[.int .i64 s.L, .int .i64 s.V, .float .f32 s.C, .float .f32 s.R, .slice ga nb gc, .slice ka ne kc] 68 (0, 0))) from (Nw.refl w2).alloc _)
    have B1 := Lib.hid ((B0.out.nw n2).nw A2.out)
    have D1 := Lib.hid (Has6.new w2 68 (.int .i64 s.L) (.int .i64 s.V) (.float .f32 s.C) (.float .f32 s.R) (.slice ga nb gc) (.slice ka ne kc))
    have O2 := Lib.hid ((O1.out.nw n2).nw A2.out)
    have U2 := Lib.hid (own_nw (own_nw U1.out n2) A2.out)
    have G2 := Lib.hid (own1.nw A2.out)
    have K2 := Lib.hid (own_nw rws1 A2.out)
    have N2 := Lib.hid ((N1.out.trans n2).trans A2.out)
    have M2 := Lib.hid (n2.trans A2.out)
    have hs2 : w1.heap.size < w2.heap.size := by have := (B0.out.nw n2).1; omega
    have Gb := Lib.hid (fun q hq => (rws1.lt q hq).2)
    clear own1 rws1 n2
    obtain ⟨x0, ⟨x1, x2, x3, x4, x5, x6⟩, x7, x8, x9, x10, x11, x12⟩ := B1.out
    obtain ⟨y0, ⟨y1, y2, y3, y4, y5, y6⟩, y7, y8, y9, y10, y11, y12⟩ := D1.out
    go_wp2_with fail
    refine (eqScore_ok s nb ne _ _ (.slice ga nb gc) (.slice ka ne kc) (.slice va nb vc) (.slice ua ne uc) Hn.out.1 (by omega) Hn.out.2 (by omega) Hf.out.c Hf.out.r (fun r hr => ⟨(Hf.out.m r hr).1, by have := (Hf.out.m r hr).2; omega⟩) Hf.out.e _ G2.out.r K2.out O2.out U2.out).mono ?_
    rintro e w3 ⟨rfl, n3⟩
    have D3 := Lib.hid (D1.out.nw n3)
    have G3 := Lib.hid (G2.out.nw n3)
    have K3 := Lib.hid (own_nw K2.out n3)
    have N3 := Lib.hid (N2.out.trans n3)
    have M3 := Lib.hid (M2.out.trans n3)
    have hs3 := Lib.hid (show w2.heap.size ≤ w3.heap.size from by have := A2.out.size; have := n3.size; omega)
    clear x0 x1 x2 x3 x4 x5 x6 x7 x8 x9 x10 x11 x12 y0 y1 y2 y3 y4 y5 y6 y7 y8 y9 y10 y11 y12 n3
    obtain ⟨x0, ⟨x1, x2, x3, x4, x5, x6⟩, x7, x8, x9, x10, x11, x12⟩ := B0.out.nw M3.out
    obtain ⟨y0, ⟨y1, y2, y3, y4, y5, y6⟩, y7, y8, y9, y10, y11, y12⟩ := D3.out
    go_wp2_with fail
    refine (markScore_ok s nb ne _ _ (.slice ga nb gc) (.slice ka ne kc) Hn.out.1 Hn.out.2 hb8 he60 (fun ms hm => (Hf.out.m ms hm).2) _ Gb.out hs3.out G3.out K3.out).mono ?_
    rintro e w4 ⟨rfl, g4, k4, hW, hB⟩
    rw [← HT.out]
    have G4 := Lib.hid g4
    have K4 := Lib.hid k4
    have N4 := Lib.hid (hW w N3.out (by have := hs1.out; omega))
    have M4 := Lib.hid (hW _ M3.out (by rw [hs1'.out]; exact Nat.le_refl _))
    have D4 := Lib.hid (hB _ _ _ _ _ _ _ (Nat.le_refl _) D3.out)
    clear x0 x1 x2 x3 x4 x5 x6 x7 x8 x9 x10 x11 x12 y0 y1 y2 y3 y4 y5 y6 y7 y8 y9 y10 y11 y12 g4 k4 hW hB
    obtain ⟨x0, ⟨x1, x2, x3, x4, x5, x6⟩, x7, x8, x9, x10, x11, x12⟩ := B0.out.nw M4.out
    obtain ⟨y0, ⟨y1, y2, y3, y4, y5, y6⟩, y7, y8, y9, y10, y11, y12⟩ := D4.out
    go_wp2_with fail
    refine (heldScore_ok s nb ne _ _ (.slice ga nb gc) (.slice ka ne kc) Hn.out.1 Hn.out.2 hb8 he60 (fun ms hm => (Hf.out.m ms hm).2) _ G4.out K4.out).mono ?_
    rintro e w5 ⟨rfl, n5⟩
    rw [← HT.out]
    have D5 := Lib.hid (D4.out.nw n5)
    have G5 := Lib.hid (G4.out.nw n5)
    have K5 := Lib.hid (own_nw K4.out n5)
    have N5 := Lib.hid (N4.out.trans n5)
    have M5 := Lib.hid (M4.out.trans n5)
    clear x0 x1 x2 x3 x4 x5 x6 x7 x8 x9 x10 x11 x12 y0 y1 y2 y3 y4 y5 y6 y7 y8 y9 y10 y11 y12 n5
    go_wp2_with fail
    refine (C2.out _ (L.out.nw N5.out)).mono ?_
    rintro e w6 ⟨h0', h1', rfl, own6, rws6, n6⟩
    obtain ⟨ha, hc, rfl⟩ := own6.r.shape
    obtain ⟨ja, jc, rfl⟩ := own_shape' rws6
    rw [Hn.out.1] at own6 ⊢
    have A6 := Lib.hid (show Nw w6 (w6.alloc (.cells #[.int .i64 s.L, .int .i64 s.V, .float .f32 s.C, .float .f32 s.R, .slice ha nb hc, .slice ja ne jc] 68 (0, 0))) from (Nw.refl w6).alloc _)
    have D6 := Lib.hid ((D5.out.nw n6).nw A6.out)
    have E6 := Lib.hid (Has6.new w6 68 (.int .i64 s.L) (.int .i64 s.V) (.float .f32 s.C) (.float .f32 s.R) (.slice ha nb hc) (.slice ja ne jc))
    have G6 := Lib.hid ((G5.out.nw n6).nw A6.out)
    have K6 := Lib.hid (own_nw (own_nw K5.out n6) A6.out)
    have H6 := Lib.hid (own6.nw A6.out)
    have J6 := Lib.hid (own_nw rws6 A6.out)
    have N6 := Lib.hid ((N5.out.trans n6).trans A6.out)
    have M6 := Lib.hid ((M5.out.trans n6).trans A6.out)
    clear own6 rws6 n6
    obtain ⟨x0, ⟨x1, x2, x3, x4, x5, x6⟩, x7, x8, x9, x10, x11, x12⟩ := B0.out.nw M6.out
    obtain ⟨z0, ⟨z1, z2, z3, z4, z5, z6⟩, z7, z8, z9, z10, z11, z12⟩ := E6.out
    go_wp2_with fail
    refine (eqScore_ok s nb ne _ _ (.slice ha nb hc) (.slice ja ne jc) (.slice va nb vc) (.slice ua ne uc) Hn.out.1 (by omega) Hn.out.2 (by omega) Hf.out.c Hf.out.r (fun r hr => ⟨(Hf.out.m r hr).1, by have := (Hf.out.m r hr).2; omega⟩) Hf.out.e _ H6.out.r J6.out (O1.out.nw M6.out) (own_nw U1.out M6.out)).mono ?_
    rintro e w7 ⟨rfl, n7⟩
    have G7 := Lib.hid (G6.out.nw n7)
    have K7 := Lib.hid (own_nw K6.out n7)
    have N7 := Lib.hid (N6.out.trans n7)
    have D7 := Lib.hid (D6.out.nw n7)
    clear x0 x1 x2 x3 x4 x5 x6 x7 x8 x9 x10 x11 x12 z0 z1 z2 z3 z4 z5 z6 z7 z8 z9 z10 z11 z12 n7
    obtain ⟨y0, ⟨y1, y2, y3, y4, y5, y6⟩, y7, y8, y9, y10, y11, y12⟩ := D7.out
    go_wp2_with fail
    refine (heldScore_ok s nb ne _ _ (.slice ga nb gc) (.slice ka ne kc) Hn.out.1 Hn.out.2 hb8 he60 (fun ms hm => (Hf.out.m ms hm).2) _ G7.out K7.out).mono ?_
    rintro e w8 ⟨rfl, n8⟩
    rw [← HT.out]
    have N8 := Lib.hid (N7.out.trans n8)
    clear y0 y1 y2 y3 y4 y5 y6 y7 y8 y9 y10 y11 y12 n8
    go_wp2_with fail
    go_ret
    exact ⟨rfl, N8.out⟩
  · have hs' : 1048576 < x.size := by omega
    clear hs hL
    go_enter Tryz.func7, Tryz.ntmps7
    go_wp2_with fail
    all_goals
      go_ret
      exact ⟨rfl, Nw.refl _⟩
end Go.Proofs.YtnmjkjjmigiabaaGreatDoor
