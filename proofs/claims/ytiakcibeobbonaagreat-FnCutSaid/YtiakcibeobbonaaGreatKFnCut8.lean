/- Texts of a proof, put together: OpC, OpD, OpE, LimS, LimB, OpF.
   Conditions: those that each statement names. -/
import Derived.Test.YtiakcibeobbonaaGreatKFnCut7
import Derived.BigQuiet
import Derived.Deep.RegionHeld3
/- The model's OpenStream (FnCut).
   Conditions: those that each statement names. -/
namespace Go.Proofs.YtiakcibeobbonaaGreat
set_option linter.unusedSimpArgs false
set_option linter.unusedVariables false
open Go Go.RowKit

theorem mem_of_ordE {es : List Ev6} {e : Ev6} (h : e ∈ ordE es) : e ∈ es := by
  have k := ordE_filter es e.t
  have h1 : e ∈ (ordE es).filter (fun x => x.t == e.t) := List.mem_filter.2 ⟨h, by simp⟩
  rw [k] at h1
  exact (List.mem_filter.1 h1).1
def OpnP (L V C R : Nat) (bs : List (List M4)) (es : List Ev6) (w : World) (e : Ending) (w' : World) : Prop :=
  ∃ (sv ev : Value), e = .returned (.tuple #[strA L V C R sv ev 0 (dAt (ordE es) 0) (.slice none 0 0) 0, .bool true]) ∧ StrV w' w.heap.size L V C R bs es 0 sv ev (.slice none 0 0) 0 [] ∧ Nw w w'
set_option maxHeartbeats 6400000 in
set_option maxRecDepth 100000 in
theorem openStream_c (base L V C R : Nat) (bs : List (List M4)) (es : List Ev6) (sv ev : Value) (w : World) (h : ScoV w base L V C R bs es sv ev) (hL70 : L ≤ 70) :
    Calls Tryz.prog 5 #[.agg #[.int .i64 (L : Int), .int .i64 (V : Int), .float .f32 C, .float .f32 R, sv, ev]] w (OpnP L V C R bs es w) := by
  obtain ⟨⟨sa, sc, rfl⟩, ea, ec, rfl⟩ := h.shape
  obtain ⟨w1, hw1⟩ : ∃ w1, w1 = w.alloc (.cells #[.int .i64 (L : Int), .int .i64 (V : Int), .float .f32 C, .float .f32 R, .slice sa bs.length sc, .slice ea es.length ec] 27 (0, 0)) := ⟨_, rfl⟩
  obtain ⟨w2, hw2⟩ : ∃ w2, w2 = w1.alloc (.cells #[.int .i64 0, .int .i64 0, .float .f32 0, .float .f32 0, .slice none 0 0, .slice none 0 0, .int .i64 0, .int .i64 0, .slice none 0 0, .float .f32 0] 31 (0, 0)) := ⟨_, rfl⟩
  have s1 : w1.heap.size = w.heap.size + 1 := by rw [hw1]; simp
  have s2 : w2.heap.size = w.heap.size + 2 := by rw [hw2]; simp [s1]
  have N2 := Lib.hid (show Nw w w2 from by rw [hw2, hw1]; exact ((Nw.refl w).alloc _).alloc _)
  have X2 := Lib.hid (show HasC w2 w.heap.size [.int .i64 (L : Int), .int .i64 (V : Int), .float .f32 C, .float .f32 R, .slice sa bs.length sc, .slice ea es.length ec] from by rw [hw2, hw1]; exact (HasC.new w _ _ _ _ _ _ _).alloc _)
  have Z2 := Lib.hid (show HasC w2 (w.heap.size + 1) [.int .i64 0, .int .i64 0, .float .f32 0, .float .f32 0, .slice none 0 0, .slice none 0 0, .int .i64 0, .int .i64 0, .slice none 0 0, .float .f32 0] from by rw [hw2, ← s1]; exact HasC.newB w1 _ _)
  have H := Lib.hid h
  have Hw := Lib.hid (And.intro hw1 hw2)
  have d0 : dAt (ordE es) 0 = 0 := dAt_zero _ (fun e he => (h.eok e (mem_of_ordE he)).1)
  have D0 := Lib.hid d0
  clear h hw1 hw2 s1 d0
  go_enter Tryz.func5, Tryz.ntmps5
  go_upto_region 1 with fail
  rw [← Hw.out.1, ← Hw.out.2]
  clear Hw
  obtain ⟨⟨e0, g0⟩, ⟨e1, g1⟩, ⟨e2, g2⟩, ⟨e3, g3⟩, ⟨e4, g4⟩, ⟨e5, g5⟩⟩ := six_at X2.out
  go_wp2_with fail
  refine (specScore_v base L V C R bs es _ _ _ (H.out.nw N2.out)).mono ?_
  rintro e w3 ⟨rfl, n3⟩
  have N3 := Lib.hid (N2.out.trans n3)
  have X3 := Lib.hid (X2.out.nw n3)
  have Z3 := Lib.hid (Z2.out.nw n3)
  clear n3 e0 g0 e1 g1 e2 g2 e3 g3 e4 g4 e5 g5
  obtain ⟨⟨e0, g0⟩, ⟨e1, g1⟩, ⟨e2, g2⟩, ⟨e3, g3⟩, ⟨e4, g4⟩, ⟨e5, g5⟩⟩ := six_at X3.out
  have hz3 := Z3.out.1
  go_wp2_with fail
  refine (l7Copy_c base L V C R bs es _ _ _ (H.out.nw N3.out)).mono ?_
  rintro e w5 ⟨sv5, ev5, rfl, hb5, he5, n5⟩
  have hsc : ScoV w5 w3.heap.size L V C R bs es sv5 ev5 := ⟨H.out.hL, H.out.hV, H.out.hC, H.out.hR, H.out.hb, H.out.he, H.out.bok, H.out.eok, hb5, he5⟩
  have hvo : VoicesR w5 w3.heap.size (.slice none 0 0) [] := VoicesR.nil _ _
  obtain ⟨⟨ba, bc, rfl⟩, ca, cc, rfl⟩ := hsc.shape
  have N5 := Lib.hid (N3.out.trans n5)
  have Z5 := Lib.hid (Z3.out.nw n5)
  have T1 := Lib.hid (ten_str (b := w.heap.size + 1) (.int .i64 (L : Int)) (.int .i64 (V : Int)) (.float .f32 C) (.float .f32 R) (.slice ba bs.length bc) (.slice ca es.length cc) (.int .i64 0) (.int .i64 0) (.slice none 0 0) (.float .f32 0) hsc hvo (by omega))
  have T2 := Lib.hid (ten_low (w := w5) (b := w.heap.size + 1) (.int .i64 (L : Int)) (.int .i64 (V : Int)) (.float .f32 C) (.float .f32 R) (.slice ba bs.length bc) (.slice ca es.length cc) (.int .i64 0) (.int .i64 0) (.slice none 0 0) (.float .f32 0))
  have Nf := Lib.hid (T2.out.2 w N5.out (by omega))
  have Fin := Lib.hid (show OpnP L V C R bs es w (.returned (.tuple #[strA L V C R (.slice ba bs.length bc) (.slice ca es.length cc) 0 (dAt (ordE es) 0) (.slice none 0 0) 0, .bool true])) _ from
    ⟨_, _, rfl, ⟨T1.out.1.base (by omega), T1.out.2.base (by omega), rfl, rfl, by omega, hL70⟩, Nf.out⟩)
  rw [D0.out] at Fin
  unfold strA at Fin
  obtain ⟨r0, r1, r2, r3, r4, r5, r6, r7, r8, r9⟩ := ten_at Z5.out
  obtain ⟨f0, f1, f2, f3, f4, f5, f6, f7, f8, f9⟩ := ten_fz Z5.out
  have hz5 := Z5.out.1
  clear hsc hvo n5 hb5 he5 e0 g0 e1 g1 e2 g2 e3 g3 e4 g4 e5 g5
  go_wp2_with fail
  exact bodyPost_ret (v := .tuple #[.agg #[.int .i64 (L : Int), .int .i64 (V : Int), .float .f32 C, .float .f32 R, .slice ba bs.length bc, .slice ca es.length cc, .int .i64 0, .int .i64 0, .slice none 0 0, .float .f32 0], .bool true]) (by simp [results, Tryz.results5, go_sem, r0, r1, r2, r3, r4, r5, r6, r7, r8, r9, f0]) rfl Fin.out
end Go.Proofs.YtiakcibeobbonaaGreat

/- The model's comparison of voices: l8SameComplex, l8SameVoice (FnCut).
   Conditions: those that each statement names. -/
namespace Go.Proofs.YtiakcibeobbonaaGreat
set_option linter.unusedSimpArgs false
set_option linter.unusedVariables false
open Go Go.RowKit

set_option maxRecDepth 100000 in
theorem l8SameComplex_self (a b : Nat) (ha : Sm a) (hb : Sm b) (w : World) :
    Calls Tryz.prog 41 #[.complex .f32 a b, .complex .f32 a b] w fun e w' => e = .returned (.bool true) ∧ w = w' := by
  have a1 := fcv_up ha
  have a2 := fcd_up ha
  have b1 := fcv_up hb
  have b2 := fcd_up hb
  have s1 := sameB_self (wid a)
  have s2 := sameB_self (wid b)
  go_enter Tryz.func41, Tryz.ntmps41
  go_wp2_with (go_at_call 19; refine (l8Same_any _ _ _).mono ?_; rintro e w1 ⟨rfl, rfl⟩; first | rw [s1] | rw [s2])
  all_goals
    go_ret
    exact ⟨rfl, rfl⟩
/-- the numbers of a voice are numbers -/
structure PSm (p : Prt) : Prop where
  ms : ∀ m ∈ p.ms, (Sm m.pr ∧ Sm m.pi) ∧ Sm m.gr ∧ Sm m.gi
  st : ∀ s ∈ p.st, Sm s.1 ∧ Sm s.2
  xs : ∀ x ∈ p.xs, Sm x
  sz : p.ms.length ≤ 1000 ∧ p.st.length = p.ms.length ∧ p.xs.length ≤ 1000
set_option maxHeartbeats 3200000 in
set_option maxRecDepth 100000 in
theorem l8SameVoice_self (p : Prt) (l1 l2 : Loc) (b1 b2 : Nat) (w : World) (h1 : PartIn w b1 (p, l1)) (h2 : PartIn w b2 (p, l2)) (hl : PSm p) :
    Calls Tryz.prog 20 #[.agg #[.int .i64 p.b, l1.vm, .slice (some ⟨l1.g, 0, none⟩) p.ms.length p.ms.length, l1.vi], .agg #[.int .i64 p.b, l2.vm, .slice (some ⟨l2.g, 0, none⟩) p.ms.length p.ms.length, l2.vi]] w fun e w' => e = .returned (.bool true) ∧ Nw w w' := by
  obtain ⟨⟨ma, mc, hm1⟩, ia, ic, hi1⟩ := h1.shape
  obtain ⟨⟨na, nc, hm2⟩, ja, jc, hi2⟩ := h2.shape
  obtain ⟨vm1, g1, vi1, t1⟩ := l1
  obtain ⟨vm2, g2, vi2, t2⟩ := l2
  simp only at hm1 hi1 hm2 hi2
  subst hm1; subst hi1; subst hm2; subst hi2
  obtain ⟨n, hn⟩ : ∃ n, n = p.ms.length := ⟨_, rfl⟩
  obtain ⟨m, hm⟩ : ∃ m, m = p.xs.length := ⟨_, rfl⟩
  have hn1 : n ≤ 1000 := by have := hl.sz.1; omega
  have hm1 : m ≤ 1000 := by have := hl.sz.2.2; omega
  have M1 := Lib.hid (show w.ownsRow b1 _ _ _ n _ from by have h := h1.ms; simp only at h; rw [← hn] at h; exact h)
  have M2 := Lib.hid (show w.ownsRow b2 _ _ _ n _ from by have h := h2.ms; simp only at h; rw [← hn] at h; exact h)
  have T1 := Lib.hid (show w.ownsRow b1 _ _ _ n _ from by have h := h1.st; simp only at h; rw [← hn] at h; exact h)
  have T2 := Lib.hid (show w.ownsRow b2 _ _ _ n _ from by have h := h2.st; simp only at h; rw [← hn] at h; exact h)
  have I1 := Lib.hid (show View w b1 (.slice ia m ic) p.xs from by rw [hm]; exact h1.xs)
  have I2 := Lib.hid (show View w b2 (.slice ja m jc) p.xs from by rw [hm]; exact h2.xs)
  have Hn := Lib.hid (And.intro hn (And.intro hm hl))
  simp only
  rw [← hn, ← hm]
  clear h1 h2 hn hl
  obtain ⟨q1, o1, x1, cu1, hv1, hc1, hx1, -, hh1, ex⟩ := I1.out
  obtain ⟨q2, o2, x2, cu2, hv2, hc2, hx2, -, hh2, ey⟩ := I2.out
  rw [← hm] at hv1 hv2 hc1 hc2
  cases hv1
  cases hv2
  have hq1 : q1 < w.heap.size := (Array.getElem?_eq_some_iff.1 hh1).1
  have hq2 : q2 < w.heap.size := (Array.getElem?_eq_some_iff.1 hh2).1
  have Ex := Lib.hid ex
  have Ey := Lib.hid ey
  unfold maxLen at hx1 hx2
  clear ex ey hh1 hh2 hm I1 I2
  obtain ⟨w1, hw1⟩ : ∃ w1, w1 = w.alloc (.cells #[.int .i64 p.b, .slice ma n mc, .slice (some ⟨g1, 0, none⟩) n n, .slice (some ⟨q1, o1, none⟩) m ic] 59 (0, 0)) := ⟨_, rfl⟩
  obtain ⟨w2, hw2⟩ : ∃ w2, w2 = w1.alloc (.cells #[.int .i64 p.b, .slice na n nc, .slice (some ⟨g2, 0, none⟩) n n, .slice (some ⟨q2, o2, none⟩) m jc] 59 (0, 0)) := ⟨_, rfl⟩
  have B0 := Lib.hid (show HasC w2 w.heap.size [.int .i64 p.b, .slice ma n mc, .slice (some ⟨g1, 0, none⟩) n n, .slice (some ⟨q1, o1, none⟩) m ic] from by rw [hw2, hw1]; exact (HasC.newB w _ _).alloc _)
  have B1 := Lib.hid (show HasC w2 w1.heap.size [.int .i64 p.b, .slice na n nc, .slice (some ⟨g2, 0, none⟩) n n, .slice (some ⟨q2, o2, none⟩) m jc] from by rw [hw2]; exact HasC.newB w1 _ _)
  have N2 := Lib.hid (show Nw w w2 from by rw [hw2, hw1]; exact ((Nw.refl w).alloc _).alloc _)
  have Hw := Lib.hid (And.intro hw1 hw2)
  have Hs := Lib.hid (show w1.heap.size = w.heap.size + 1 from by rw [hw1]; simp)
  clear hw1 hw2
  go_enter Tryz.func20, Tryz.ntmps20
  go_upto_region 1 with fail
  rw [← Hw.out.1, ← Hw.out.2, ← Hs.out]
  clear Hw
  obtain ⟨⟨a0, -⟩, ⟨a1, -⟩, ⟨a2, -⟩, a3, -⟩ := four_at B0.out
  obtain ⟨⟨c0, -⟩, ⟨c1, -⟩, ⟨c2, -⟩, c3, -⟩ := four_at B1.out
  go_wp2_with fail
  clear a0 a1 a2 a3 c0 c1 c2 c3
  go_loopw [43] (fun i wr => ∃ k : Nat, k ≤ n ∧ i = .int .i64 (k : Int) ∧ Nw w2 wr) (fun i _ => n - (intOf i).toNat)
  case atStart => exact ⟨0, by omega, rfl, Nw.refl _⟩
  case round =>
    obtain ⟨k, hk, rfl, hN⟩ := hrel
    have Nr := Lib.hid hN
    clear hN
    obtain ⟨⟨a0, -⟩, ⟨a1, -⟩, ⟨a2, -⟩, a3, -⟩ := four_at (B0.out.nw Nr.out)
    obtain ⟨⟨c0, -⟩, ⟨c1, -⟩, ⟨c2, -⟩, c3, -⟩ := four_at (B1.out.nw Nr.out)
    by_cases hlt : k < n
    · obtain ⟨x, hmk⟩ : ∃ x, p.ms[k]? = some x := ⟨p.ms[k]'(by rw [← Hn.out.1]; exact hlt), List.getElem?_eq_getElem _⟩
      obtain ⟨g, cap, hv, hcap, hmax, hgs, e1, e2⟩ := own_mode (own_nw (own_nw M1.out N2.out) Nr.out) hmk Hn.out.1
      cases hv
      obtain ⟨g', cap', hv', hcap', hmax', hgs', f1, f2⟩ := own_mode (own_nw (own_nw M2.out N2.out) Nr.out) hmk Hn.out.1
      cases hv'
      have Sx := Lib.hid (Hn.out.2.2.ms x (List.mem_of_getElem? hmk))
      unfold maxLen at hmax hmax'
      clear hmk
      go_upto_region 6 with fail
      go_quiet (first
        | (go_at_call 41; with_reducible exact quiet_eq (l8SameComplex_self x.pr x.pi Sx.out.1.1 Sx.out.1.2 _))
        | (go_at_call 41; with_reducible exact quiet_eq (l8SameComplex_self x.gr x.gi Sx.out.2.1 Sx.out.2.2 _)))
      all_goals
        go_wp2_with fail
        go_roundw
        case rel => exact ⟨k + 1, by omega, by rw [show ((k + 1 : Nat) : Int) = (k : Int) + 1 from by omega], Nr.out.draw _⟩
        case measure => simp only [intOf]; omega
    · obtain rfl : n = k := by omega
      have Nz := Lib.hid Nr.out
      go_wp2_with fail
      clear a0 a1 a2 a3 c0 c1 c2 c3
      go_loopw [80] (fun i wr => ∃ k : Nat, k ≤ n ∧ i = .int .i64 (k : Int) ∧ Nw w2 wr) (fun i _ => n - (intOf i).toNat)
      case atStart => exact ⟨0, by omega, rfl, Nz.out⟩
      case round =>
        obtain ⟨k, hk, rfl, hN⟩ := hrel
        have Nr := Lib.hid hN
        clear hN
        obtain ⟨⟨a0, -⟩, ⟨a1, -⟩, ⟨a2, -⟩, a3, -⟩ := four_at (B0.out.nw Nr.out)
        obtain ⟨⟨c0, -⟩, ⟨c1, -⟩, ⟨c2, -⟩, c3, -⟩ := four_at (B1.out.nw Nr.out)
        by_cases hlt : k < n
        · obtain ⟨x, hmk⟩ : ∃ x, p.st[k]? = some x := ⟨p.st[k]'(by rw [Hn.out.2.2.sz.2.1, ← Hn.out.1]; exact hlt), List.getElem?_eq_getElem _⟩
          have hsl : n = p.st.length := by rw [Hn.out.2.2.sz.2.1]; exact Hn.out.1
          have e1 := own_state (own_nw (own_nw T1.out N2.out) Nr.out) hmk hsl
          have f1 := own_state (own_nw (own_nw T2.out N2.out) Nr.out) hmk hsl
          have Sx := Lib.hid (Hn.out.2.2.st x (List.mem_of_getElem? hmk))
          clear hmk
          go_upto_region 12 with fail
          go_quiet (first | (go_at_call 41; with_reducible exact quiet_eq (l8SameComplex_self x.1 x.2 Sx.out.1 Sx.out.2 _)))
          all_goals
            go_wp2_with fail
            go_roundw
            case rel => exact ⟨k + 1, by omega, by rw [show ((k + 1 : Nat) : Int) = (k : Int) + 1 from by omega], Nr.out.draw _⟩
            case measure => simp only [intOf]; omega
        · obtain rfl : n = k := by omega
          have Nx := Lib.hid Nr.out
          go_wp2_with fail
          clear a0 a1 a2 a3 c0 c1 c2 c3
          go_loopw [99] (fun i wr => ∃ k : Nat, k ≤ m ∧ i = .int .i64 (k : Int) ∧ Nw w2 wr) (fun i _ => m - (intOf i).toNat)
          case atStart => exact ⟨0, by omega, rfl, Nx.out⟩
          case round =>
            obtain ⟨k, hk, rfl, hN⟩ := hrel
            have Nr := Lib.hid hN
            clear hN
            obtain ⟨⟨a0, -⟩, ⟨a1, -⟩, ⟨a2, -⟩, a3, -⟩ := four_at (B0.out.nw Nr.out)
            obtain ⟨⟨c0, -⟩, ⟨c1, -⟩, ⟨c2, -⟩, c3, -⟩ := four_at (B1.out.nw Nr.out)
            by_cases hlt : k < m
            · obtain ⟨x, hxk⟩ : ∃ x, p.xs[k]? = some x := ⟨p.xs[k]'(by rw [← Hn.out.2.1]; exact hlt), List.getElem?_eq_getElem _⟩
              have e1 : wr.cell? ⟨q1, o1 + k, none⟩ = some (.float .f32 x) := ((N2.out.trans Nr.out).cell (p := ⟨q1, o1 + k, none⟩) hq1).trans (Ex.out k x hxk)
              have e2 : wr.cell? ⟨q2, o2 + k, none⟩ = some (.float .f32 x) := ((N2.out.trans Nr.out).cell (p := ⟨q2, o2 + k, none⟩) hq2).trans (Ey.out k x hxk)
              have sx := Hn.out.2.2.xs x (List.mem_of_getElem? hxk)
              have z1 := fcv_up sx
              have z2 := fcd_up sx
              have z3 := sameB_self (wid x)
              clear hxk sx
              go_upto_region 18 with fail
              go_quiet (first | (go_at_call 19; with_reducible exact quiet_eq (l8Same_any _ _ _)))
              all_goals
                go_wp2_with fail
                go_roundw
                case rel => exact ⟨k + 1, by omega, by rw [show ((k + 1 : Nat) : Int) = (k : Int) + 1 from by omega], Nr.out.draw _⟩
                case measure => simp only [intOf]; omega
            · obtain rfl : k = m := by omega
              go_wp2_with fail
              go_ret
              exact ⟨rfl, N2.out.trans Nr.out⟩
end Go.Proofs.YtiakcibeobbonaaGreat

/- The model's comparison of streams: MakeSame (FnCut).
   Conditions: those that each statement names. -/
namespace Go.Proofs.YtiakcibeobbonaaGreat
set_option linter.unusedSimpArgs false
set_option linter.unusedVariables false
open Go Go.RowKit

set_option maxHeartbeats 12800000 in
set_option maxRecDepth 100000 in
theorem makeSame_ok {base base2 L V C R : Nat} {bs : List (List M4)} {es : List Ev6} {i : Nat} {sv ev vv sv2 ev2 vv2 : Value} {env : Nat} {zs zs2 : List (Prt × Loc)} {w : World} (h : StrV w base L V C R bs es i sv ev vv env zs) (h2 : StrV w base2 L V C R bs es i sv2 ev2 vv2 env zs2)
    (hE : Sm env) (hP : ∀ z ∈ zs, PSm z.1) :
    Calls Tryz.prog 9 #[strA L V C R sv ev i (dAt (ordE es) i) vv env, strA L V C R sv2 ev2 i (dAt (ordE es) i) vv2 env] w fun e w' => e = .returned (.bool true) ∧ Nw w w' := by
  have hzz : zs.map Prod.fst = zs2.map Prod.fst := by rw [h.hz, h2.hz]
  have hl2 : zs2.length = zs.length := by have := congrArg List.length hzz; simp at this; omega
  have hz4 := h.sz.1
  obtain ⟨⟨sa, sc, rfl⟩, ea, ec, rfl⟩ := h.sco.shape
  obtain ⟨⟨ta, tc, rfl⟩, fa, fc, rfl⟩ := h2.sco.shape
  obtain ⟨va, vc, rfl⟩ := own_shape' h.voi.row
  obtain ⟨ua, uc, rfl⟩ := own_shape' h2.voi.row
  rw [hl2] at h2 ⊢
  obtain ⟨n, hn⟩ : ∃ n, n = zs.length := ⟨_, rfl⟩
  obtain ⟨d, hd⟩ : ∃ d, d = dAt (ordE es) i := ⟨_, rfl⟩
  rw [← hn] at h h2 hl2 hz4 ⊢
  rw [← hd]
  unfold strA
  obtain ⟨w1, hw1⟩ : ∃ w1, w1 = w.alloc (.cells #[.int .i64 (L : Int), .int .i64 (V : Int), .float .f32 C, .float .f32 R, .slice sa bs.length sc, .slice ea es.length ec, .int .i64 (i : Int), .int .i64 (d : Int), .slice va n vc, .float .f32 env] 31 (0, 0)) := ⟨_, rfl⟩
  obtain ⟨w2, hw2⟩ : ∃ w2, w2 = w1.alloc (.cells #[.int .i64 (L : Int), .int .i64 (V : Int), .float .f32 C, .float .f32 R, .slice ta bs.length tc, .slice fa es.length fc, .int .i64 (i : Int), .int .i64 (d : Int), .slice ua n uc, .float .f32 env] 31 (0, 0)) := ⟨_, rfl⟩
  have B0 := Lib.hid (show HasC w2 w.heap.size [.int .i64 (L : Int), .int .i64 (V : Int), .float .f32 C, .float .f32 R, .slice sa bs.length sc, .slice ea es.length ec, .int .i64 (i : Int), .int .i64 (d : Int), .slice va n vc, .float .f32 env] from by rw [hw2, hw1]; exact (HasC.newB w _ _).alloc _)
  have B1 := Lib.hid (show HasC w2 w1.heap.size [.int .i64 (L : Int), .int .i64 (V : Int), .float .f32 C, .float .f32 R, .slice ta bs.length tc, .slice fa es.length fc, .int .i64 (i : Int), .int .i64 (d : Int), .slice ua n uc, .float .f32 env] from by rw [hw2]; exact HasC.newB w1 _ _)
  have N2 := Lib.hid (show Nw w w2 from by rw [hw2, hw1]; exact ((Nw.refl w).alloc _).alloc _)
  have Hw := Lib.hid (And.intro hw1 hw2)
  have Hs := Lib.hid (show w1.heap.size = w.heap.size + 1 from by rw [hw1]; simp)
  have H := Lib.hid h
  have H2 := Lib.hid h2
  have Hn := Lib.hid (And.intro hn (And.intro hl2 (And.intro hzz hP)))
  have z1 := fcv_up hE
  have z2 := fcd_up hE
  have z3 := sameB_self (wid env)
  clear h h2 hn hd hw1 hw2 hl2 hzz hP
  go_enter Tryz.func9, Tryz.ntmps9
  go_upto_region 1 with fail
  rw [← Hw.out.1, ← Hw.out.2, ← Hs.out]
  clear Hw
  obtain ⟨q, hq⟩ : ∃ q, q = w.heap.size := ⟨_, rfl⟩
  obtain ⟨r, hr⟩ : ∃ r, r = w1.heap.size := ⟨_, rfl⟩
  rw [← hq] at B0 ⊢
  rw [← hr] at B1 ⊢
  clear hq hr Hs
  have KeepS := Lib.hid (show ∀ W', Nw w2 W' → (W'.cell? ⟨q, 0, none⟩ = some (.int .i64 (L : Int)) ∧ W'.cell? ⟨q, 1, none⟩ = some (.int .i64 (V : Int)) ∧ W'.cell? ⟨q, 2, none⟩ = some (.float .f32 C) ∧ W'.cell? ⟨q, 3, none⟩ = some (.float .f32 R) ∧ W'.cell? ⟨q, 4, none⟩ = some (.slice sa bs.length sc) ∧ W'.cell? ⟨q, 5, none⟩ = some (.slice ea es.length ec) ∧ W'.cell? ⟨q, 6, none⟩ = some (.int .i64 (i : Int)) ∧ W'.cell? ⟨q, 7, none⟩ = some (.int .i64 (d : Int)) ∧ W'.cell? ⟨q, 8, none⟩ = some (.slice va n vc) ∧ W'.cell? ⟨q, 9, none⟩ = some (.float .f32 env)) ∧
      (W'.cell? ⟨r, 0, none⟩ = some (.int .i64 (L : Int)) ∧ W'.cell? ⟨r, 1, none⟩ = some (.int .i64 (V : Int)) ∧ W'.cell? ⟨r, 2, none⟩ = some (.float .f32 C) ∧ W'.cell? ⟨r, 3, none⟩ = some (.float .f32 R) ∧ W'.cell? ⟨r, 4, none⟩ = some (.slice ta bs.length tc) ∧ W'.cell? ⟨r, 5, none⟩ = some (.slice fa es.length fc) ∧ W'.cell? ⟨r, 6, none⟩ = some (.int .i64 (i : Int)) ∧ W'.cell? ⟨r, 7, none⟩ = some (.int .i64 (d : Int)) ∧ W'.cell? ⟨r, 8, none⟩ = some (.slice ua n uc) ∧ W'.cell? ⟨r, 9, none⟩ = some (.float .f32 env)) from fun W' hW => ⟨ten_at (B0.out.nw hW), ten_at (B1.out.nw hW)⟩)
  have F1 := Lib.hid (fun W (hW : Nw w2 W) => formatScore_f base L V C R bs es _ _ W (H.out.sco.nw (N2.out.trans hW)))
  have F2 := Lib.hid (fun W (hW : Nw w2 W) => formatScore_f base2 L V C R bs es _ _ W (H2.out.sco.nw (N2.out.trans hW)))
  generalize scoreF L V C R bs es = txt at F1 F2
  have acc := Lib.hid (show Nw w2 w2.drew from (Nw.refl w2).draw 1)
  go_region_held3 (fun W' => (W'.cell? ⟨q, 0, none⟩ = some (.int .i64 (L : Int)) ∧ W'.cell? ⟨q, 1, none⟩ = some (.int .i64 (V : Int)) ∧ W'.cell? ⟨q, 2, none⟩ = some (.float .f32 C) ∧ W'.cell? ⟨q, 3, none⟩ = some (.float .f32 R) ∧ W'.cell? ⟨q, 4, none⟩ = some (.slice sa bs.length sc) ∧ W'.cell? ⟨q, 5, none⟩ = some (.slice ea es.length ec) ∧ W'.cell? ⟨q, 6, none⟩ = some (.int .i64 (i : Int)) ∧ W'.cell? ⟨q, 7, none⟩ = some (.int .i64 (d : Int)) ∧ W'.cell? ⟨q, 8, none⟩ = some (.slice va n vc) ∧ W'.cell? ⟨q, 9, none⟩ = some (.float .f32 env)) ∧
      (W'.cell? ⟨r, 0, none⟩ = some (.int .i64 (L : Int)) ∧ W'.cell? ⟨r, 1, none⟩ = some (.int .i64 (V : Int)) ∧ W'.cell? ⟨r, 2, none⟩ = some (.float .f32 C) ∧ W'.cell? ⟨r, 3, none⟩ = some (.float .f32 R) ∧ W'.cell? ⟨r, 4, none⟩ = some (.slice ta bs.length tc) ∧ W'.cell? ⟨r, 5, none⟩ = some (.slice fa es.length fc) ∧ W'.cell? ⟨r, 6, none⟩ = some (.int .i64 (i : Int)) ∧ W'.cell? ⟨r, 7, none⟩ = some (.int .i64 (d : Int)) ∧ W'.cell? ⟨r, 8, none⟩ = some (.slice ua n uc) ∧ W'.cell? ⟨r, 9, none⟩ = some (.float .f32 env))) (exact KeepS.out _ acc.out) (first
    | (go_at_call 18; (with_reducible refine (F1.out _ acc.out).mono ?_); rintro e u ⟨rfl, nu⟩; replace acc := Lib.hid (acc.out.trans nu); clear nu)
    | (go_at_call 18; (with_reducible refine (F2.out _ acc.out).mono ?_); rintro e u ⟨rfl, nu⟩; replace acc := Lib.hid (acc.out.trans nu); clear nu)
    | (go_at_call 19; (with_reducible refine (l8Same_any _ _ _).mono ?_); rintro e u ⟨rfl, rfl⟩; rw [z3]))
  all_goals
    obtain ⟨wq, hwq⟩ : ∃ wq, wq = u := ⟨_, rfl⟩
    subst hwq
    have Nq := acc
    obtain ⟨a0, a1, a2, a3, a4, a5, a6, a7, a8, a9⟩ := ten_at (B0.out.nw Nq.out)
    obtain ⟨c0, c1, c2, c3, c4, c5, c6, c7, c8, c9⟩ := ten_at (B1.out.nw Nq.out)
    go_wp2_with fail
    clear a0 a1 a2 a3 a4 a5 a6 a7 a8 a9 c0 c1 c2 c3 c4 c5 c6 c7 c8 c9
    go_loopw [49] (fun i wr => ∃ k : Nat, k ≤ n ∧ i = .int .i64 (k : Int) ∧ Nw w2 wr) (fun i _ => n - (intOf i).toNat)
    case atStart => exact ⟨0, by omega, rfl, Nq.out⟩
    case round =>
      obtain ⟨k, hk, rfl, hN⟩ := hrel
      have Nr := Lib.hid hN
      clear hN
      by_cases hlt : k < n
      · obtain ⟨⟨p, l1⟩, hzk⟩ : ∃ z, zs[k]? = some z := ⟨zs[k]'(by rw [← Hn.out.1]; exact hlt), List.getElem?_eq_getElem _⟩
        obtain ⟨⟨p', l2⟩, hzk2⟩ : ∃ z, zs2[k]? = some z := ⟨zs2[k]'(by rw [Hn.out.2.1]; exact hlt), List.getElem?_eq_getElem _⟩
        have hpp : p' = p := by
          have e := congrArg (fun l => l[k]?) Hn.out.2.2.1
          simp only [List.getElem?_map, hzk, hzk2, Option.map_some] at e
          injection e with e
          exact e.symm
        subst hpp
        have o1 := own_nw H.out.voi.row (N2.out.trans Nr.out)
        rw [← Hn.out.1] at o1
        have o2 := own_nw H2.out.voi.row (N2.out.trans Nr.out)
        rw [Hn.out.2.1] at o2
        obtain ⟨g, cap, hv, hcap, hmax, hgs, e0, e1, e2, e3⟩ := voice_at o1 Hn.out.1 hzk
        cases hv
        obtain ⟨g2, cap2, hv2, hcap2, hmax2, hgs2, f0, f1, f2, f3⟩ := voice_at o2 Hn.out.2.1.symm hzk2
        cases hv2
        simp only at e0 e1 e2 e3 f0 f1 f2 f3
        have Sv := Lib.hid (fun W (hW : Nw wr W) => l8SameVoice_self p' l1 l2 base base2 W ((H.out.voi.ins _ (List.mem_of_getElem? hzk)).nw ((N2.out.trans Nr.out).trans hW)) ((H2.out.voi.ins _ (List.mem_of_getElem? hzk2)).nw ((N2.out.trans Nr.out).trans hW)) (Hn.out.2.2.2 _ (List.mem_of_getElem? hzk)))
        unfold maxLen at hmax hmax2
        have KeepV := Lib.hid (show ∀ W', Nw wr W' → (W'.cell? ⟨q, 8, none⟩ = some (.slice (some ⟨g, 0, none⟩) n vc) ∧ W'.cell? ⟨r, 8, none⟩ = some (.slice (some ⟨g2, 0, none⟩) n uc) ∧ W'.cell? ⟨g, k * 4, none⟩ = some (.int .i64 p'.b) ∧ W'.cell? ⟨g, k * 4 + 1, none⟩ = some l1.vm ∧ W'.cell? ⟨g, k * 4 + 2, none⟩ = some (.slice (some ⟨l1.g, 0, none⟩) p'.ms.length p'.ms.length) ∧ W'.cell? ⟨g, k * 4 + 3, none⟩ = some l1.vi ∧ W'.cell? ⟨g2, k * 4, none⟩ = some (.int .i64 p'.b) ∧ W'.cell? ⟨g2, k * 4 + 1, none⟩ = some l2.vm ∧ W'.cell? ⟨g2, k * 4 + 2, none⟩ = some (.slice (some ⟨l2.g, 0, none⟩) p'.ms.length p'.ms.length) ∧ W'.cell? ⟨g2, k * 4 + 3, none⟩ = some l2.vi) from fun W' hW =>
          ⟨(ten_at ((B0.out.nw Nr.out).nw hW)).2.2.2.2.2.2.2.2.1, (ten_at ((B1.out.nw Nr.out).nw hW)).2.2.2.2.2.2.2.2.1,
            (hW.cell (p := ⟨g, k * 4, none⟩) hgs).trans e0, (hW.cell (p := ⟨g, k * 4 + 1, none⟩) hgs).trans e1, (hW.cell (p := ⟨g, k * 4 + 2, none⟩) hgs).trans e2, (hW.cell (p := ⟨g, k * 4 + 3, none⟩) hgs).trans e3,
            (hW.cell (p := ⟨g2, k * 4, none⟩) hgs2).trans f0, (hW.cell (p := ⟨g2, k * 4 + 1, none⟩) hgs2).trans f1, (hW.cell (p := ⟨g2, k * 4 + 2, none⟩) hgs2).trans f2, (hW.cell (p := ⟨g2, k * 4 + 3, none⟩) hgs2).trans f3⟩)
        clear hzk hzk2 o1 o2 e0 e1 e2 e3 f0 f1 f2 f3 acc
        go_upto_region 6 with fail
        have acc := Lib.hid (show Nw wr wr.drew from (Nw.refl wr).draw 1)
        go_region_held3 (fun W' => W'.cell? ⟨q, 8, none⟩ = some (.slice (some ⟨g, 0, none⟩) n vc) ∧ W'.cell? ⟨r, 8, none⟩ = some (.slice (some ⟨g2, 0, none⟩) n uc) ∧ W'.cell? ⟨g, k * 4, none⟩ = some (.int .i64 p'.b) ∧ W'.cell? ⟨g, k * 4 + 1, none⟩ = some l1.vm ∧ W'.cell? ⟨g, k * 4 + 2, none⟩ = some (.slice (some ⟨l1.g, 0, none⟩) p'.ms.length p'.ms.length) ∧ W'.cell? ⟨g, k * 4 + 3, none⟩ = some l1.vi ∧ W'.cell? ⟨g2, k * 4, none⟩ = some (.int .i64 p'.b) ∧ W'.cell? ⟨g2, k * 4 + 1, none⟩ = some l2.vm ∧ W'.cell? ⟨g2, k * 4 + 2, none⟩ = some (.slice (some ⟨l2.g, 0, none⟩) p'.ms.length p'.ms.length) ∧ W'.cell? ⟨g2, k * 4 + 3, none⟩ = some l2.vi) (exact KeepV.out _ acc.out) (first
          | (go_at_call 20; (with_reducible refine (Sv.out _ acc.out).mono ?_); rintro e u ⟨rfl, nu⟩; replace acc := Lib.hid (acc.out.trans nu); clear nu))
        all_goals
          go_wp2_with fail
          go_roundw
          case rel => exact ⟨k + 1, by omega, by rw [show ((k + 1 : Nat) : Int) = (k : Int) + 1 from by omega], Nr.out.trans acc.out⟩
          case measure => simp only [intOf]; omega
      · obtain rfl : n = k := by omega
        go_wp2_with fail
        go_ret
        exact ⟨rfl, N2.out.trans Nr.out⟩
end Go.Proofs.YtiakcibeobbonaaGreat

/- The walks of LimitSamples, the program's and the model's, for any numbers, and what they answer but for the bits of NaN.
   Conditions: those that each statement names. -/
namespace Go.Proofs.YtiakcibeobbonaaGreat
set_option linter.unusedSimpArgs false
set_option linter.unusedVariables false
open Go Go.RowKit

/-- the envelope after k samples -/
def eA (zs : List Nat) (r : Nat) : Nat → Option Nat
  | 0 => fab .f32 0
  | k + 1 => limE (eA zs r k) (zs.getD k 0) r
def yA (zs : List Nat) (c r k : Nat) : Option Nat := limY (eA zs r k) (zs.getD k 0) c r
/-- the first k samples of ys are those told -/
def Good (zs : List Nat) (c r k : Nat) (ys : List Nat) : Prop := ys.length = k ∧ ∀ (j : Nat) y, ys[j]? = some y → fab .f32 y = yA zs c r j ∧ y < 2 ^ 32
theorem Good.nil (zs : List Nat) (c r : Nat) : Good zs c r 0 [] := ⟨rfl, fun j y h => by simp at h⟩
theorem Good.snoc {zs ys : List Nat} {c r k y : Nat} (h : Good zs c r k ys) (hy : fab .f32 y = yA zs c r k) (hl : y < 2 ^ 32) : Good zs c r (k + 1) (ys ++ [y]) := by
  refine ⟨by rw [List.length_append, h.1]; rfl, fun j z hz => ?_⟩
  by_cases hj : j < k
  · rw [List.getElem?_append_left (by rw [h.1]; exact hj)] at hz
    exact h.2 j z hz
  · rw [List.getElem?_append_right (by rw [h.1]; omega)] at hz
    have hb := (List.getElem?_eq_some_iff.1 hz).1
    simp at hb
    have e : j = k := by rw [h.1] at hb; omega
    subst e
    rw [h.1, Nat.sub_self] at hz
    simp at hz
    subst hz
    exact ⟨hy, hl⟩
theorem getD_at {zs : List Nat} {k x : Nat} (h : zs[k]? = some x) : zs.getD k 0 = x := by rw [List.getD_eq_getElem?_getD, h]; rfl
theorem fill_set (ys : List Nat) (n k y : Nat) (hl : ys.length = k) (h : k < n) : (cellsS (ys ++ List.replicate (n - k) 0)).set k (.float .f32 y) = cellsS ((ys ++ [y]) ++ List.replicate (n - (k + 1)) 0) := by
  rw [show n - k = (n - (k + 1)) + 1 from by omega, List.replicate_succ]
  simp only [cellsS, List.map_append, List.map_cons, List.map_nil, List.append_assoc, List.singleton_append]
  rw [List.set_append_right _ _ (by simp; omega)]
  simp [hl]
theorem fill_cell (ys : List Nat) (n k : Nat) (hl : ys.length = k) (h : k < n) : (cellsS (ys ++ List.replicate (n - k) 0))[k]? = some (.float .f32 0) := by
  unfold cellsS
  rw [List.getElem?_map, List.getElem?_append_right (by omega)]
  simp [List.getElem?_replicate, hl]
  omega

def LimG (zs : List Nat) (c r n : Nat) (ys : List Nat) : Prop := if lim c r then Good zs c r n ys else ys = []
def LimP (zs : List Nat) (c r n : Nat) (w : World) (e : Ending) (w' : World) : Prop :=
  ∃ v ys, e = .returned (.tuple #[v, .bool (lim c r)]) ∧ w'.ownsRow w.heap.size 23 1 v ys.length (cellsS ys) ∧ LimG zs c r n ys ∧ Nw w w'
def LimIi (zs : List Nat) (c r n g : Nat) (B : Nat) (w : World) (env i : Value) (wr : World) : Prop :=
  ∃ (k : Nat) (ys : List Nat) (e : Nat), k ≤ n ∧ i = .int .i64 (k : Int) ∧ env = .float .f32 e ∧ fab .f32 e = eA zs r k ∧ Good zs c r k ys ∧
    wr.ownsRow B 23 1 (.slice (some ⟨g, 0, none⟩) n n) n (cellsS (ys ++ List.replicate (n - k) 0)) ∧ Nw w wr

theorem lim_no {zs : List Nat} {c r n : Nat} {w w' : World} (h : lim c r = false) (hn : Nw w w') : LimP zs c r n w (.returned (.tuple #[.slice none 0 0, .bool false])) w' := by
  refine ⟨.slice none 0 0, [], by rw [h], World.ownsRow_nil _ _ _ _, by unfold LimG; rw [h]; rfl, hn⟩

end Go.Proofs.YtiakcibeobbonaaGreat

/- Plain facts on the limiter: the envelope of finite samples, and how great a limited sample is.
   Conditions: those that each statement names. No program stands in it. -/
namespace Go.Proofs.YtiakcibeobbonaaGreat
set_option linter.unusedSimpArgs false
set_option linter.unusedVariables false
open Go

namespace Flo
open Ieee
theorem div_ok8 (f : Format) (he : 2 ≤ f.exponentBits) (x y : Nat) (hx : IsNum f x) (hy : IsNum f y) (hy0 : V f y ≠ 0) (q B : Rat) (hq : q * V f y = V f x) (h1 : q ≤ B) (h2 : -B ≤ q) (hB : 2 * B < pw (top f)) :
    ∃ r, f.div x y = some r ∧ IsNum f r ∧ Near (V f r) q (B * (7 / 8 * pw (-f.fractionBits)) + pw f.leastPlace) := by
  obtain ⟨s, m, i, hx⟩ := hx
  obtain ⟨t, n, j, hy⟩ := hy
  rw [V_eq hx] at *
  rw [V_eq hy] at *
  obtain ⟨k, b, h3, h4⟩ := quot_signed s t m n i j (f.fractionBits + 2) (by omega) (val_ne_zero _ _ _ hy0) q B hq h1 h2
  unfold Format.div
  rw [hx, hy, h3]
  refine ⟨_, rfl, ?_⟩
  have hu : pw (-((f.fractionBits + 2 : Nat) : Int)) = pw (-(f.fractionBits : Int)) / 4 := by
    have : pw (-(f.fractionBits : Int)) = 2 * (2 * pw (-((f.fractionBits + 2 : Nat) : Int))) := by rw [← pw_succ, ← pw_succ]; congr 1; omega
    rw [this]; grind
  rw [hu] at h4
  have hup := pw_pos (-(f.fractionBits : Int))
  have hu1 : pw (-(f.fractionBits : Int)) ≤ 1 := by rw [← pw_zero]; exact pw_le (by omega)
  have hB0 : 0 ≤ B := by grind
  have hBu := Rat.mul_le_mul_of_nonneg_left hu1 hB0
  obtain ⟨n1, n2⟩ := h4
  have hw := write_ok f he (s ^^ t) k b (B + B * (pw (-(f.fractionBits : Int)) / 4)) (by grind) (by grind) (by grind)
  refine ⟨hw.1, ?_⟩
  obtain ⟨w1, w2⟩ := hw.2
  have hlp := pw_pos f.leastPlace
  have hBuu := Rat.mul_le_mul_of_nonneg_right hBu (Rat.le_of_lt hup)
  have := Rat.mul_nonneg hB0 (Rat.le_of_lt hup)
  generalize pw (-(f.fractionBits : Int)) = u at *
  generalize pw f.leastPlace = l at *
  unfold Near
  constructor <;> grind

theorem s_div8 (x y : Nat) (hx : Sm x) (hy : Sm y) (hy0 : S y ≠ 0) (q B : Rat) (hq : q * S y = S x) (h : Ab q B) (hB : B < pw 126) :
    ∃ r, floatBits .quo .f32 x y = some r ∧ Sm r ∧ Ab (S r - q) (7 / 4 * (B * v) + es) := by
  obtain ⟨r, h1, h2, h3⟩ := div_ok8 Ieee.single (by decide) x y hx hy hy0 q B hq h.2 h.1 (by
    rw [top_single, show (127 : Int) = 126 + 1 from rfl, pw_succ]; grind)
  rw [lp_single, fb_single] at h3
  have e : pw (-23) = 2 * pw (-24) := by rw [← pw_succ]; rfl
  rw [e] at h3
  refine ⟨r, h1, h2, ?_⟩
  unfold Near at h3; unfold Ab S v es; grind

end Flo

/-- a number that is not negative, and no -0 -/
def Pn (x : Nat) : Prop := ∃ m p, Ieee.single.read x = .number false m p
theorem Pn.sm {x : Nat} (h : Pn x) : Sm x := by obtain ⟨m, p, h⟩ := h; exact ⟨_, _, _, h⟩
theorem Pn.nonneg {x : Nat} (h : Pn x) : 0 ≤ S x := by
  obtain ⟨m, p, h⟩ := h
  rw [show S x = _ from Flo.V_eq h]
  unfold Flo.val
  have := Flo.mag_nonneg m p
  simp; exact this
theorem fab_sm {x : Nat} (h : Sm x) : fab .f32 x = some x := by
  refine fab_some ?_
  obtain ⟨s, m, p, h⟩ := h
  rw [show FloatKind.f32.decode x = _ from h]; rfl
theorem abs_pn {x : Nat} (h : Sm x) : absA x = some (x % 2147483648) ∧ Pn (x % 2147483648) ∧ S (x % 2147483648) = ra (S x) := by
  have hn := sm_nn h
  obtain ⟨s, m, p, h⟩ := h
  have hm := read_mod (x := x)
  rw [show FloatKind.f32.decode x = _ from h] at hm
  refine ⟨by unfold absA; rw [hn]; rfl, ⟨m, p, hm⟩, ?_⟩
  rw [show S (x % 2147483648) = _ from Flo.V_eq (show Ieee.single.read _ = _ from hm), show S x = _ from Flo.V_eq h, Flo.val_ra]
  unfold Flo.val; simp
theorem gtA_val {a b : Nat} (ha : Sm a) (hb : Sm b) : gtA (some a) (some b) = decide (S b < S a) := by
  have o := Flo.order_num Ieee.single a b ha hb
  show (FloatKind.f32.format.order a b == some .gt) = _
  by_cases h : S b < S a
  · rw [decide_eq_true h]
    simpa using (show FloatKind.f32.format.order a b = some .gt from o.2.2.2 h)
  · rw [decide_eq_false h]
    cases hg : (FloatKind.f32.format.order a b == some .gt) with
    | false => rfl
    | true => exact absurd (o.2.2.1 (show FloatKind.f32.format.order a b = some .gt by simpa using hg)) h
theorem mul_shrink {a r : Nat} (ha : Pn a) (hr : Pn r) (h1 : S r ≤ 1) (hB : S a < Flo.pw 127) : ∃ p, fA .mul .f32 (some a) (some r) = some p ∧ Pn p ∧ S p ≤ S a := by
  obtain ⟨m, i, ha⟩ := ha
  obtain ⟨n, j, hr⟩ := hr
  have ea : S a = (m : Rat) * Flo.pw i := by rw [show S a = _ from Flo.V_eq ha]; unfold Flo.val; simp
  have er : S r = (n : Rat) * Flo.pw j := by rw [show S r = _ from Flo.V_eq hr]; unfold Flo.val; simp
  have hm0 := Flo.mag_nonneg m i
  have hle : ((m * n : Nat) : Rat) * Flo.pw (i + j) ≤ (m : Rat) * Flo.pw i := by
    rw [Flo.pw_add, Rat.natCast_mul]
    have k := Rat.mul_le_mul_of_nonneg_left (show (n : Rat) * Flo.pw j ≤ 1 by rw [← er]; exact h1) hm0
    grind
  obtain ⟨m', p', n', q', k1, k2, k3⟩ := Flo.write_mono Ieee.single (by decide) false false (m * n) m (i + j) i hle (by rw [← ea, Flo.top_single]; exact hB)
  rw [Flo.read_back Ieee.single (by decide) ha] at k2
  injection k2 with _ e1 e2
  refine ⟨Ieee.single.write (.number false (m * n) (i + j)), ?_, ⟨_, _, k1⟩, ?_⟩
  · show Ieee.single.mul a r = _
    unfold Ieee.Format.mul
    rw [ha, hr]; rfl
  · rw [show S (Ieee.single.write (.number false (m * n) (i + j))) = _ from Flo.V_eq k1, ea, e1, e2]
    unfold Flo.val; simp; exact k3
theorem limE_ok {e x r : Nat} (he : Pn e) (hx : Sm x) (hr : Pn r) (h1 : S r ≤ 1) (hB : S e < Flo.pw 127) : ∃ d, limE (some e) x r = some d ∧ Pn d ∧ ra (S x) ≤ S d ∧ (S d ≤ S e ∨ S d = ra (S x)) := by
  obtain ⟨a1, a2, a3⟩ := abs_pn hx
  obtain ⟨p, p1, p2, p3⟩ := mul_shrink he hr h1 hB
  unfold limE
  rw [a1, fab_sm hr.sm, p1, gtA_val a2.sm p2.sm]
  by_cases h : S p < S (x % 2147483648)
  · rw [decide_eq_true h]
    exact ⟨_, rfl, a2, by rw [a3]; exact Rat.le_refl, .inr a3⟩
  · rw [decide_eq_false h]
    exact ⟨p, rfl, p2, by rw [a3] at h; grind, .inl p3⟩
theorem env_ok (zs : List Nat) (r : Nat) (M : Rat) (hz : ∀ x ∈ zs, Sm x) (hr : Pn r) (h1 : S r ≤ 1) (h0 : 0 ≤ M) (hM : M < Flo.pw 127) (hb : ∀ x ∈ zs, ra (S x) ≤ M) :
    ∀ k, k ≤ zs.length → ∃ e, eA zs r k = some e ∧ Pn e ∧ S e ≤ M ∧ ∀ C, 0 ≤ C → (∀ j, j < k → ra (S (zs.getD j 0)) ≤ C) → S e ≤ C
  | 0, _ => by
    have z0 : Ieee.single.read 0 = .number false 0 (-149) := by decide
    have s0 : S 0 = 0 := by rw [show S 0 = _ from Flo.V_eq z0, Flo.val_zero]
    exact ⟨0, fab_some (by decide), ⟨_, _, z0⟩, by rw [s0]; exact h0, fun C hC _ => by rw [s0]; exact hC⟩
  | k + 1, hk => by
    obtain ⟨e, e1, e2, e3, e4⟩ := env_ok zs r M hz hr h1 h0 hM hb k (by omega)
    have hmem : zs.getD k 0 ∈ zs := by
      rw [List.getD_eq_getElem?_getD, List.getElem?_eq_getElem (show k < zs.length by omega)]
      exact List.getElem_mem _
    obtain ⟨d, d1, d2, d3, d4⟩ := limE_ok e2 (hz _ hmem) hr h1 (by grind)
    refine ⟨d, ?_, d2, ?_, fun C hC hj => ?_⟩
    · show limE (eA zs r k) (zs.getD k 0) r = _
      rw [e1]; exact d1
    · rcases d4 with g | g
      · grind
      · rw [g]; exact hb _ hmem
    · rcases d4 with g | g
      · have := e4 C hC (fun j hj' => hj j (by omega))
        grind
      · rw [g]; exact hj k (by omega)

/-- a limited sample: at most the ceiling and three parts in 2^24 of it; the sample itself, where none before it was greater -/
theorem lim_ok (zs : List Nat) (c r : Nat) (M : Rat) (hz : ∀ x ∈ zs, Sm x) (hr : Pn r) (h1 : S r ≤ 1) (h0 : 0 ≤ M) (hM : M ≤ Flo.pw 61) (hb : ∀ x ∈ zs, ra (S x) ≤ M) (hc : Pn c) (c1 : Flo.pw (-41) ≤ S c) (c2 : S c ≤ Flo.pw 41) (k : Nat) (hk : k < zs.length) :
    ∃ y, yA zs c r k = some y ∧ Sm y ∧ Flo.Ab (S y) (S c + 3 * (S c * Flo.v)) ∧ ((∀ j, j ≤ k → ra (S (zs.getD j 0)) ≤ S c) → y = zs.getD k 0) := by
  have hM127 : M < Flo.pw 127 := by have := Flo.pw_lt (a := 61) (b := 127) (by omega); grind
  obtain ⟨e, e1, e2, e3, -⟩ := env_ok zs r M hz hr h1 h0 hM127 hb k (by omega)
  have hmem : zs.getD k 0 ∈ zs := by
    rw [List.getD_eq_getElem?_getD, List.getElem?_eq_getElem (show k < zs.length by omega)]
    exact List.getElem_mem _
  have hx := hz _ hmem
  obtain ⟨d, d1, d2, d3, d4⟩ := limE_ok e2 hx hr h1 (by grind)
  obtain ⟨d', f1, f2, f3, f4⟩ := env_ok zs r M hz hr h1 h0 hM127 hb (k + 1) (by omega)
  have hdd : d' = d := by
    have : eA zs r (k + 1) = some d := by show limE (eA zs r k) (zs.getD k 0) r = _; rw [e1]; exact d1
    rw [this] at f1
    injection f1 with f1
    exact f1.symm
  subst hdd
  have hxd := ra_ab (S (zs.getD k 0))
  have v0 := Flo.v_pos
  have ve := Flo.v_eq
  have c0 : 0 < S c := by have := Flo.pw_pos (-41); grind
  have cv : 0 ≤ S c * Flo.v := Rat.mul_nonneg (Rat.le_of_lt c0) (Rat.le_of_lt v0)
  unfold yA limY
  rw [e1, d1, fab_sm hc.sm, fab_sm hx, gtA_val d2.sm hc.sm]
  generalize zs.getD k 0 = x at *
  by_cases h : S c < S d'
  · rw [decide_eq_true h]
    have hd0 : 0 < S d' := by grind
    have rx0 := ra_nonneg (S x)
    -- the product
    have hxc : Flo.Ab (S x * S c) (ra (S x) * S c) := hxd.mul ⟨by grind, Rat.le_refl⟩
    have hdc : ra (S x) * S c ≤ S d' * S c := Rat.mul_le_mul_of_nonneg_right d3 (Rat.le_of_lt c0)
    have hMc : S d' * S c ≤ Flo.pw 61 * Flo.pw 41 := by
      have k1 := Rat.mul_le_mul_of_nonneg_right (show S d' ≤ Flo.pw 61 by grind) (Rat.le_of_lt c0)
      have k2 := Rat.mul_le_mul_of_nonneg_left c2 (Rat.le_of_lt (Flo.pw_pos 61))
      grind
    rw [← Flo.pw_add, show (61 + 41 : Int) = 102 from rfl] at hMc
    have l102 : Flo.pw 102 < Flo.pw 126 := Flo.pw_lt (by omega)
    have l103 : Flo.pw 126 < Flo.pw 127 := Flo.pw_lt (by omega)
    obtain ⟨q, q1, q2, q3⟩ := Flo.s_mul x c hx hc.sm (S d' * S c) (hxc.mono hdc) (by grind)
    have es0 := Flo.es_pos
    -- es against the ceiling
    have hes : Flo.es ≤ S c * (S c * Flo.v) / 1024 := by
      have k1 := Rat.mul_le_mul_of_nonneg_left c1 (Rat.le_of_lt (Flo.pw_pos (-41)))
      have k2 := Rat.mul_le_mul_of_nonneg_right c1 (Rat.le_of_lt c0)
      have k3 : Flo.pw (-82) ≤ S c * S c := by rw [show (-82 : Int) = -41 + -41 from rfl, Flo.pw_add]; grind
      have k4 := Rat.mul_le_mul_of_nonneg_right k3 (Rat.le_of_lt v0)
      have k5 : Flo.pw (-116) ≤ Flo.pw (-82) * Flo.v / 1024 := by
        have e1 : Flo.v = Flo.pw (-24) := rfl
        rw [e1, ← Flo.pw_add, show (-82 + -24 : Int) = -106 from rfl]
        have e2 : Flo.pw (-106) = Flo.pw 10 * Flo.pw (-116) := by rw [← Flo.pw_add]; rfl
        have e3 : Flo.pw 10 = 1024 := Flo.pw_nat 10
        rw [e2, e3]; grind
      have k6 : Flo.es ≤ Flo.pw (-116) := Flo.pw_le (by omega)
      grind
    have hq : Flo.Ab (S q) (S d' * S c + (S d' * S c * Flo.v + Flo.es)) := (((hxc.mono hdc).add q3).eq (show _ = S q by grind))
    have hdv : S d' * S c * Flo.v = S d' * (S c * Flo.v) := by grind
    have hed : Flo.es ≤ S d' * (S c * Flo.v) / 1024 := by
      have := Rat.mul_le_mul_of_nonneg_right (Rat.le_of_lt h) cv
      grind
    have hqt : S q / S d' * S d' = S q := by grind
    have hqa : Flo.Ab (S q / S d') (S c + S c * Flo.v + S c * Flo.v / 1024) := by
      refine Flo.Ab.div (y := S d') (D := S d') ?_ hd0 Rat.le_refl
      rw [hqt]
      refine hq.mono ?_
      rw [hdv]; grind
    have l41 : Flo.pw 41 < Flo.pw 102 := Flo.pw_lt (by omega)
    have hv1 : S c * Flo.v ≤ S c / 1024 := by
      have : Flo.v = 1 / 16777216 := by grind
      rw [this]; grind
    have p125 : 4 * Flo.pw 102 ≤ Flo.pw 126 := by
      have e : Flo.pw 104 = 4 * Flo.pw 102 := by rw [show (104 : Int) = 102 + 1 + 1 from rfl, Flo.pw_succ, Flo.pw_succ]; grind
      have l : Flo.pw 104 ≤ Flo.pw 126 := Flo.pw_le (by omega)
      grind
    obtain ⟨y, y1, y2, y3⟩ := Flo.s_div8 q d' q2 d2.sm (by grind) (S q / S d') _ hqt hqa (by grind)
    have hesc : Flo.es ≤ S c * Flo.v / 1024 := by
      have k : Flo.pw (-149) ≤ Flo.pw (-41) * Flo.v / 1024 := by
        have e1 : Flo.v = Flo.pw (-24) := rfl
        rw [e1, ← Flo.pw_add, show (-41 + -24 : Int) = -65 from rfl]
        have e2 : Flo.pw (-65) = Flo.pw 10 * Flo.pw (-75) := by rw [← Flo.pw_add]; rfl
        have e3 : Flo.pw 10 = 1024 := Flo.pw_nat 10
        have l : Flo.pw (-149) ≤ Flo.pw (-75) := Flo.pw_le (by omega)
        rw [e2, e3]; grind
      have k2 := Rat.mul_le_mul_of_nonneg_right c1 (Rat.le_of_lt v0)
      unfold Flo.es; grind
    refine ⟨y, ?_, y2, ?_, fun hall => ?_⟩
    · show fA .quo .f32 (floatBits .mul .f32 x c) (some d') = some y
      rw [q1]; exact y1
    · refine ((y3.add hqa).eq (show _ = S y by grind)).mono ?_
      have hvv : S c * Flo.v * Flo.v ≤ S c * Flo.v / 1024 := by
        have : Flo.v ≤ 1 / 1024 := by grind
        have := Rat.mul_le_mul_of_nonneg_left this cv
        grind
      grind
    · exfalso
      have := f4 (S c) (Rat.le_of_lt c0) (fun j hj => hall j (by omega))
      grind
  · rw [decide_eq_false h]
    refine ⟨x, rfl, hx, hxd.mono ?_, fun _ => rfl⟩
    grind

end Go.Proofs.YtiakcibeobbonaaGreat

/- Plain facts on a stream's numbers (FnCut): the envelope and the voices are finite.
   Conditions: those that each statement names. -/
namespace Go.Proofs.YtiakcibeobbonaaGreat
set_option linter.unusedSimpArgs false
set_option linter.unusedVariables false
open Go Go.RowKit

theorem fab32_eq {x b : Nat} (h : fab .f32 x = some b) : x = b := by
  unfold Go.Proofs.YtiakcibeobbonaaGreat.fab at h
  split at h
  · cases h
  · simpa using h
theorem sumAt_sm (bs : List (List M4)) (hbs : ∀ ms ∈ bs, ms.length ≤ 4 ∧ ∀ m ∈ ms, m.ok) (L V : Nat) (hV : 1 ≤ V) (hV4 : V ≤ 4) (es : List Ev6) (hes : ∀ e ∈ es, e.ok L bs.length) (i : Nat) (hi : i ≤ 70) :
    Sm (sumAt bs V es i) ∧ ra (S (sumAt bs V es i)) ≤ Flo.pw 120 := by
  have h := tk_ok bs hbs L V hV es hes i hi
  have hX0 : (0 : Rat) ≤ 2097152 := by grind
  have l2 : Flo.pw 40 ≤ Flo.pw 104 := Flo.pw_le (by omega)
  rw [show Flo.pw 40 = 1099511627776 from Flo.pw_nat 40] at l2
  have hX2 : (4096 : Rat) * 2097152 + 1 ≤ Flo.pw 104 := by grind
  obtain ⟨a, b, -⟩ := sumP_ok (tkP bs V es i) (fun p hp => ((h.2 p hp).step hX0 (boxAt_nonneg i) (boxAt_le i hi) hX2).2.2.2) (by have := h.1; omega) (tkP bs V es i).length (Nat.le_refl _)
  rw [List.take_length] at a b
  refine ⟨a, Rat.le_trans (ra_le b) ?_⟩
  have h4 : ((tkP bs V es i).length : Rat) ≤ ((4 : Nat) : Rat) := by exact_mod_cast (show (tkP bs V es i).length ≤ 4 from by have := h.1; omega)
  have p0 := Rat.le_of_lt (Flo.pw_pos 112)
  have e1 : Flo.pw 120 = 256 * Flo.pw 112 := by rw [show (120 : Int) = 8 + 112 from rfl, Flo.pw_add, show Flo.pw 8 = 256 from Flo.pw_nat 8]
  have h5 := Rat.mul_le_mul_of_nonneg_right h4 (show (0 : Rat) ≤ 2 * Flo.pw 112 by grind)
  rw [e1]
  grind
theorem env_pn (bs : List (List M4)) (hbs : ∀ ms ∈ bs, ms.length ≤ 4 ∧ ∀ m ∈ ms, m.ok) (L V R : Nat) (hV : 1 ≤ V) (hV4 : V ≤ 4) (es : List Ev6) (hes : ∀ e ∈ es, e.ok L bs.length) (hR : Rel R) : ∀ k, k ≤ 70 →
    ∃ d, eAt bs V es R 0 (fab .f32 0) k = some d ∧ Pn d ∧ S d ≤ Flo.pw 120 := by
  have hp := Rat.le_of_lt (Flo.pw_pos 120)
  intro k
  induction k with
  | zero =>
    intro _
    have h0 : Ieee.single.read 0 = .number false 0 (-149) := by decide
    refine ⟨0, (show fab .f32 0 = some 0 from fab_some (by decide)), ⟨_, _, h0⟩, ?_⟩
    rw [show S 0 = _ from Flo.V_eq h0]
    unfold Flo.val; simp; exact hp
  | succ k ih =>
    intro hk
    obtain ⟨e, e1, e2, e3⟩ := ih (by omega)
    obtain ⟨s1, s2⟩ := sumAt_sm bs hbs L V hV hV4 es hes (0 + k) (by omega)
    obtain ⟨m, j, hr⟩ := rel_sign hR
    have hlt : Flo.pw 120 < Flo.pw 127 := by
      have e1 : Flo.pw 127 = 128 * Flo.pw 120 := by rw [show (127 : Int) = 7 + 120 from rfl, Flo.pw_add, show Flo.pw 7 = 128 from Flo.pw_nat 7]
      have := Flo.pw_pos 120
      rw [e1]; grind
    obtain ⟨d, d1, d2, -, d4⟩ := limE_ok e2 s1 ⟨m, j, hr⟩ hR.1.range.2 (by grind)
    refine ⟨d, ?_, d2, ?_⟩
    · show limE (eAt bs V es R 0 (fab .f32 0) k) (sumAt bs V es (0 + k)) R = some d
      rw [e1, d1]
    · rcases d4 with h | h
      · exact Rat.le_trans h e3
      · rw [h]; exact s2
theorem StrV.plain {w : World} {base L V C R : Nat} {bs : List (List M4)} {es : List Ev6} {i : Nat} {sv ev vv : Value} {env : Nat} {zs : List (Prt × Loc)} (h : StrV w base L V C R bs es i sv ev vv env zs) :
    Sm env ∧ eAt bs V es R 0 (fab .f32 0) i = some env ∧ ∀ z ∈ zs, PSm z.1 := by
  have hi : i ≤ 70 := by have := h.hi; have := h.hL; omega
  obtain ⟨d, d1, d2, -⟩ := env_pn bs h.sco.bok L V R h.sco.hV.1 h.sco.hV.2 es h.sco.eok h.sco.hR i hi
  have he := h.he
  rw [d1] at he
  have := fab32_eq he
  subst this
  have hp := pre_ok bs h.sco.bok L V h.sco.hV.1 es h.sco.eok i hi
  rw [← h.hz] at hp
  refine ⟨d2.sm, d1, fun z hz => ?_⟩
  have p := hp.2 z.1 (List.mem_map_of_mem hz)
  exact ⟨fun m hm => ⟨⟨(p.ms m hm).nums.1, (p.ms m hm).nums.2.1⟩, (p.ms m hm).nums.2.2⟩, fun s hs => ⟨(p.box s hs).1, (p.box s hs).2.1⟩, fun x hx => (p.xs x hx).1, p.sz⟩
theorem StrV.env_eq {w w2 : World} {base base2 L V C R : Nat} {bs : List (List M4)} {es : List Ev6} {i : Nat} {sv ev vv sv2 ev2 vv2 : Value} {env env2 : Nat} {zs zs2 : List (Prt × Loc)} (h : StrV w base L V C R bs es i sv ev vv env zs) (h2 : StrV w2 base2 L V C R bs es i sv2 ev2 vv2 env2 zs2) : env2 = env := by
  have a := h.plain.2.1
  have b := h2.plain.2.1
  rw [a] at b
  injection b with b
  exact b.symm
end Go.Proofs.YtiakcibeobbonaaGreat
