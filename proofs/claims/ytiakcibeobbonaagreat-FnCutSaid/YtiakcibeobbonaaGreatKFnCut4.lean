/- Texts of a proof, put together: ScoF, ScoQ, En, EnN, Abs, Peak, StepD, Traj, RingD, TrajS, Ev, Ng, Lev, ScoH, ScoP, Clone, ScoS, ScoI, DampB, Play, Unit, Half, Less, PlayB.
   Conditions: those that each statement names. -/
import Derived.Test.YtiakcibeobbonaaGreatKFnCut3
import Derived.Laws.StructEq
import Derived.Test.YtiakcibeobbonaaGreatRows
import Derived.StillTailTactics
import Derived.Shelf.SlSortCmp.InsertionK
import Derived.Lib.SliceRun
import Derived.Deep.RegionHeld3
/- What draws scores, fourth part: the ceiling; the walk of l7Score.
   Conditions: those that each statement names. -/
namespace Go.Proofs.YtiakcibeobbonaaGreat
set_option linter.unusedSimpArgs false
set_option linter.unusedVariables false
open Go Go.RowKit

/-- the ceiling of a score -/
def ceilF (z : Int) : Nat := opB .quo .f32 (floatOfInt .f32 z) 1090519040
def ceilFOk (z : Int) : Bool := (floatBits .quo .f32 (floatOfInt .f32 z) 1090519040).isSome && fin .f32 (ceilF z) && (FloatKind.f32.format.order (ceilF z) 0 == some .gt)
set_option maxRecDepth 100000 in
theorem ceilF_all : (([1, 8, 100] : List Int).all ceilFOk) = true := by decide +kernel
theorem ceilF_ok (z : Int) (hz : z ∈ ([1, 8, 100] : List Int)) : (∀ w, fres w .quo .f32 (floatOfInt .f32 z) 1090519040 = ceilF z) ∧ fdr .quo .f32 (floatOfInt .f32 z) 1090519040 = 0 ∧ Sm (ceilF z) ∧ (FloatKind.f32.format.order (ceilF z) 0 == some .gt) = true := by
  have h := ceilF_all
  rw [List.all_eq_true] at h
  have h := h z hz
  unfold ceilFOk at h
  simp only [Bool.and_eq_true] at h
  obtain ⟨⟨h1, h2⟩, h3⟩ := h
  obtain ⟨r, hr⟩ := Option.isSome_iff_exists.1 h1
  exact ⟨fun w => (Calm.of hr).1.res w, (Calm.of hr).1.fdr, Sm_of h2, h3⟩
theorem ints3L (w : World) (T : TypeId) (z0 z1 z2 : Int) : IntsL ((w.alloc (.cells #[.int .i64 z0, .int .i64 z1, .int .i64 z2] T (0, 0)))) w.heap.size [z0, z1, z2] := by
  intro k z hk
  match k, hk with
  | 0, hk => simp at hk; subst hk; go_simp
  | 1, hk => simp at hk; subst hk; go_simp
  | 2, hk => simp at hk; subst hk; go_simp
  | k + 3, hk => simp at hk

def relOkB (z : Int) : Bool := decide (dampF z < 4294967296) && !(dampF z == 2147483648)
set_option maxRecDepth 100000 in
theorem relF_all : (([0, 500, 990, 1000] : List Int).all relOkB) = true := by decide +kernel
/-- a release -/
def Rel (R : Nat) : Prop := Fact R ∧ R < 2 ^ 32 ∧ R ≠ 2147483648
theorem relF_ok (z : Int) (hz : z ∈ ([0, 500, 990, 1000] : List Int)) : Rel (dampF z) := by
  have h := relF_all
  rw [List.all_eq_true] at h
  have h := h z hz
  unfold relOkB at h
  simp only [Bool.and_eq_true, decide_eq_true_eq, Bool.not_eq_true', beq_eq_false_iff_ne] at h
  exact ⟨(dampF_ok z (by simp at hz ⊢; omega)).2.2, h.1, h.2⟩
/-- a score of at most M samples, with bodies and events in memory from 'base' on -/
def ScoP (B : Nat) (w0 : World) (a : Option Addr) (len cap c M base : Nat) (e : Ending) (w' : World) : Prop :=
  ∃ (L V C R : Nat) (bs : List (List M4)) (es : List Ev6) (sv ev : Value), e = .returned (.agg #[.int .i64 (L : Int), .int .i64 (V : Int), .float .f32 C, .float .f32 R, sv, ev]) ∧ L ≤ M ∧ 1 ≤ V ∧ V ≤ 4 ∧
    (Sm C ∧ (FloatKind.f32.format.order C 0 == some .gt) = true) ∧ Rel R ∧ bs.length ≤ 3 ∧ es.length ≤ 13 ∧ (∀ ms ∈ bs, ms.length ≤ 4 ∧ ∀ m ∈ ms, m.ok) ∧ (∀ x ∈ es, x.ok L bs.length) ∧
    BodsR w' base sv bs ∧ w'.ownsRow base 68 6 ev es.length (cellsE es) ∧ At B w0 a len cap c w'

theorem ScoP.of {B : Nat} {w0 : World} {a : Option Addr} {len cap c M base b' : Nat} {e : Ending} {w' : World} {L V C R : Nat} {bs : List (List M4)} {es : List Ev6} {sv ev : Value} (he : e = .returned (.agg #[.int .i64 (L : Int), .int .i64 (V : Int), .float .f32 C, .float .f32 R, sv, ev])) (h1 : L ≤ M) (h2 : 1 ≤ V) (h3 : V ≤ 4)
    (h4 : Sm C ∧ (FloatKind.f32.format.order C 0 == some .gt) = true) (h5 : Rel R) (h6 : bs.length ≤ 3) (h7 : es.length ≤ 13) (h8 : ∀ ms ∈ bs, ms.length ≤ 4 ∧ ∀ m ∈ ms, m.ok) (h9 : ∀ x ∈ es, x.ok L bs.length)
    (z1 : BodsR w' base sv bs) (z2 : w'.ownsRow base 68 6 ev es.length (cellsE es)) (z3 : At B w0 a len cap c w') (hb : b' ≤ base) : ScoP B w0 a len cap c M b' e w' :=
  ⟨L, V, C, R, bs, es, sv, ev, he, h1, h2, h3, h4, h5, h6, h7, h8, h9, z1.base hb, own_base z2 hb, z3⟩
def ScoB (B : Nat) (w0 : World) (a : Option Addr) (len cap c bS bR base L V C R : Nat) (i : Value) (wr : World) : Prop :=
  ∃ (k : Nat) (bs : List (List M4)) (sv : Value), i = .int .i64 (k : Int) ∧ k + bs.length ≤ 3 ∧ ScoI B w0 a len cap c bS bR base L (V : Int) C R bs [] sv (.slice none 0 0) wr
def ScoE (B : Nat) (w0 : World) (a : Option Addr) (len cap c bS bR base L V C R : Nat) (bs : List (List M4)) (sv : Value) (i : Value) (wr : World) : Prop :=
  ∃ (k : Nat) (es : List Ev6) (ev : Value), i = .int .i64 (k : Int) ∧ k + es.length ≤ 13 ∧ ScoI B w0 a len cap c bS bR base L (V : Int) C R bs es sv ev wr

set_option maxHeartbeats 3200000 in
set_option maxRecDepth 100000 in
theorem l7Score_at (B : Nat) (w0 : World) (a : Option Addr) (len cap c M : Nat) (hM : M ≤ 500) (w : World) (hc : At B w0 a len cap c w) :
    Calls Tryz.prog 11 #[.pointer (some ⟨c, 0, none⟩), .int .i64 (M : Int)] w (ScoP B w0 a len cap c M w.heap.size) := by
  obtain ⟨i0, hi, hz0, hz1, hz2⟩ := info_parts info_int
  have hui := Tryz.underlying63
  have hcs : c < w.heap.size := hc.1.2.1
  have hBc : B ≤ c := hc.1.1
  have hw0 : w0.heap.size ≤ w.heap.size := hc.2.size
  have R0 := Lib.hid (HasC.new w 27 (.int .i64 0) (.int .i64 0) (.float .f32 0) (.float .f32 0) (.slice none 0 0) (.slice none 0 0))
  have Hc := Lib.hid (hc.alloc (.cells #[.int .i64 0, .int .i64 0, .float .f32 0, .float .f32 0, .slice none 0 0, .slice none 0 0] 27 (0, 0)))
  clear hc
  go_enter Tryz.func11, Tryz.ntmps11
  go_wp2_with fail
  refine (below_at _ _ _ _ _ _ _ (by omega) (by omega) _ Hc.out.here).mono ?_
  rintro e w1 ⟨x1, x10, x11, rfl, hc1⟩
  have hs1 := hc1.2.size
  simp at hs1
  have H1 := Lib.hid (show At B w0 a len cap c w1 from ⟨hc1.1, Hc.out.2.trans hc1.2⟩)
  have R1 := Lib.hid (R0.out.kp hc1.2 (by omega))
  clear hc1
  go_wp2_with fail
  refine (below_at _ _ _ _ _ _ _ (by omega) (by omega) _ H1.out.here).mono ?_
  rintro e w2 ⟨x2, x20, x21, rfl, hc2⟩
  have hs2 := hc2.2.size
  have H2 := Lib.hid (show At B w0 a len cap c w2 from ⟨hc2.1, H1.out.2.trans hc2.2⟩)
  have R2 := Lib.hid (R1.out.kp hc2.2 (by omega))
  clear hc2
  go_wp2_with fail
  refine (l01Int_in _ _ _ _ _ _ w2.heap.size 3 3 [1, 8, 100] rfl (by omega) (by omega) _ (H2.out.alloc (.cells #[.int .i64 1, .int .i64 8, .int .i64 100] 3 (0, 0))).here (by simp) (by omega) (ints3L w2 3 1 8 100)).mono ?_
  rintro e w3 ⟨x3, hm3, rfl, hc3⟩
  have hs3 := hc3.2.size
  simp at hs3
  have H3 := Lib.hid (show At B w0 a len cap c w3 from ⟨hc3.1, (H2.out.alloc (.cells #[.int .i64 1, .int .i64 8, .int .i64 100] 3 (0, 0))).2.trans hc3.2⟩)
  have R3 := Lib.hid ((R2.out.alloc (.cells #[.int .i64 1, .int .i64 8, .int .i64 100] 3 (0, 0))).kp hc3.2 (by omega))
  clear hc3
  obtain ⟨q1, q2, q3, q3'⟩ := ceilF_ok x3 hm3
  go_wp2_with fail
  refine (l01Int_in _ _ _ _ _ _ w3.heap.size 4 4 [0, 500, 990, 1000] rfl (by omega) (by omega) _ (H3.out.alloc (.cells #[.int .i64 0, .int .i64 500, .int .i64 990, .int .i64 1000] 3 (0, 0))).here (by simp) (by omega) (ints4L w3 3 0 500 990 1000)).mono ?_
  rintro e w4 ⟨x4, hm4, rfl, hc4⟩
  have hs4 := hc4.2.size
  simp at hs4
  have H4 := Lib.hid (show At B w0 a len cap c w4 from ⟨hc4.1, (H3.out.alloc (.cells #[.int .i64 0, .int .i64 500, .int .i64 990, .int .i64 1000] 3 (0, 0))).2.trans hc4.2⟩)
  have R4 := Lib.hid ((R3.out.alloc (.cells #[.int .i64 0, .int .i64 500, .int .i64 990, .int .i64 1000] 3 (0, 0))).kp hc4.2 (by omega))
  clear hc4
  obtain ⟨q4, q5, q6⟩ := dampF_ok x4 (by simp at hm4 ⊢; omega)
  obtain ⟨L, rfl⟩ : ∃ L : Nat, x1 = L := ⟨x1.toNat, by omega⟩
  have hV : ∃ V : Nat, 1 + x2 = (V : Int) ∧ 1 ≤ V ∧ V ≤ 4 := ⟨(1 + x2).toNat, by omega, by omega, by omega⟩
  obtain ⟨V, hV0, hV1, hV2⟩ := hV
  have I4 := Lib.hid (show ScoI B w0 a len cap c w4.heap.size w.heap.size (w4.heap.size + 1) L V (ceilF x3) (dampF x4) [] [] (.slice none 0 0) (.slice none 0 0) (w4.alloc (.cells #[.int .i64 L, .int .i64 V, .float .f32 (ceilF x3), .float .f32 (dampF x4), .slice none 0 0, .slice none 0 0] 27 (0, 0))) from
    ⟨H4.out.alloc _, HasC.new _ _ _ _ _ _ _ _, R4.out.alloc _, BodsR.nil _ _, World.ownsRow_nil _ _ _ _, by simp, by simp, by simp⟩)
  have Q := Lib.hid (And.intro q3 (And.intro q3' (relF_ok x4 hm4)))
  go_wp2_with fail
  refine (below_at _ _ _ _ _ _ _ (by omega) (by omega) _ I4.out.at'.here).mono ?_
  rintro e w5 ⟨x5, x50, x51, rfl, hc5⟩
  have I5 := Lib.hid (I4.out.kp ⟨hc5.1, I4.out.at'.2.trans hc5.2⟩ hc5.2 (by omega) (by omega) (by omega))
  clear hc5
  obtain ⟨bS, hbS⟩ : ∃ bS, bS = w4.heap.size := ⟨_, rfl⟩
  have hSR : w.heap.size + 1 ≤ bS := by omega
  rw [← hbS] at I5
  rw [← hbS]
  have hRw := hw0
  have hcR := hcs
  obtain ⟨C, hC⟩ : ∃ C, C = ceilF x3 := ⟨_, rfl⟩
  obtain ⟨R, hR⟩ : ∃ R, R = dampF x4 := ⟨_, rfl⟩
  rw [← hC] at I5 Q ⊢
  rw [← hR] at I5 Q ⊢
  clear I4 H1 H2 H3 H4 R0 R1 R2 R3 R4 Hc q1 q2 q3 q3' q4 q5 q6 hm3 hm4 hC hR hs1 hs2 hs3 hs4 hbS hcs
  go_wp2_with fail
  go_loopw [6] (fun i wr => ScoB B w0 a len cap c bS w.heap.size (bS + 1) L V C R i wr) (fun i _ => (intOf i).toNat)
  case atStart => exact ⟨x5.toNat, [], _, by rw [Int.toNat_of_nonneg x50], by simp; omega, I5.out⟩
  case round =>
    obtain ⟨k, bs, sv, rfl, hk, hI⟩ := hrel
    have Ir := Lib.hid hI
    clear hI
    obtain ⟨⟨l0, g0⟩, ⟨l1, g1⟩, ⟨l2, g2⟩, ⟨l3, g3⟩, ⟨l4, g4⟩, ⟨l5, g5⟩⟩ := six_at Ir.out.hs
    obtain ⟨vs, ho, hin⟩ := Ir.out.bods
    obtain ⟨ta, tc, rfl⟩ := own_shape' ho
    by_cases hk0 : 0 < k
    · have Ho := Lib.hid (And.intro ho hin)
      clear ho hin
      go_upto_region 5 with fail
      have J := Lib.hid (Ir.out.nw ((Nw.refl wr).draw 1))
      have k1 := l2Body_at _ _ _ _ _ _ 4 (by omega) wr.drew (show At B w0 a len cap c wr.drew from J.out.at').here
      rw [show ((4 : Nat) : Int) = 4 from rfl] at k1
      have K1 := Lib.hid k1
      clear k1
      go_region_law (first
        | (go_simp
           go_at_call 24
           with_reducible refine K1.out.mono ?_
           rintro e w6 ⟨ms, mv, rfl, hms, hok, hown, hc6⟩
           obtain ⟨pa, pc, rfl⟩ := own_shape' hown
           have J6 := Lib.hid (J.out.kp ⟨hc6.1, J.out.at'.2.trans hc6.2⟩ hc6.2 (by omega) (by omega) (by omega))
           have O6 := Lib.hid hown
           have Mo6 := Lib.hid (And.intro hms hok)
           have Ho6 := Lib.hid (own_kp (show World.ownsRow wr.drew _ _ _ _ _ _ from own_nw Ho.out.1 ((Nw.refl wr).draw 1)) hc6.2 (by omega))
           have Hi6 := Lib.hid (fun p r hp => show ∃ v, vs[p]? = some v ∧ w6.ownsRow (bS + 1) 93 2 v r.length (cellsM r) from by obtain ⟨v, a, b⟩ := Ho.out.2 p r hp; exact ⟨v, a, own_kp (show World.ownsRow wr.drew _ _ _ _ _ _ from own_nw b ((Nw.refl wr).draw 1)) hc6.2 (by omega)⟩)
           have hS6 : bS < w6.heap.size := J6.out.hs.1
           obtain ⟨⟨m0, n0⟩, ⟨m1, n1⟩, ⟨m2, n2⟩, ⟨m3, n3⟩, ⟨m4, n4⟩, ⟨m5, n5⟩⟩ := six_at J6.out.hs
           clear hown hc6 hms hok)
        | (refine step_append_body rfl (.tmp 33) (.tmp 36) rfl (bS + 1) bs.length w6.heap.size (.slice ta bs.length tc) (.slice pa ms.length pc) vs rfl rfl (Ho6.out.alloc _) (by go_simp) rfl (by omega) (by have := J6.out.sz; simp; omega) ?_
           intro v7 w7 own7 gr7
           obtain ⟨B7, F7⟩ := ScoI.body (J6.out.nw ((Nw.refl w6).alloc _)) (Ho6.out.alloc _) (fun p r hp => by obtain ⟨v, a, b⟩ := Hi6.out p r hp; exact ⟨v, a, b.alloc _⟩) (O6.out.alloc _) (by have := Ir.out.sz; show bS + 1 ≤ wr.drew.heap.size; exact this) Mo6.out own7 gr7 (by omega) (by omega) (by omega) (by omega) (by omega) (by omega) (by omega) (by omega) (by omega)
           have Hf7 := Lib.hid F7
           obtain ⟨qa, qn, qc, rfl⟩ := own_shape own7
           obtain ⟨⟨o0, h0⟩, ⟨o1, h1⟩, ⟨o2, h2⟩, ⟨o3, h3⟩, ⟨o4, h4⟩, ⟨o5, h5⟩⟩ := six_at B7
           clear F7 B7 own7 gr7))
      all_goals
        go_wp2_with fail
        go_roundw
        case rel => exact ⟨k - 1, bs ++ [ms], _, by rw [show ((k - 1 : Nat) : Int) = (k : Int) - 1 from by omega], by simp; omega, Hf7.out⟩
        case measure => simp only [intOf]; omega
    · clear ho hin
      have hk' : k = 0 := by omega
      subst hk'
      by_cases hb0 : bs.length = 0
      · have hb0' : ((bs.length : Int) == 0) = true := by simp [hb0]
        clear hb0
        obtain ⟨⟨r0, f0⟩, ⟨r1, f1⟩, ⟨r2, f2⟩, ⟨r3, f3⟩, ⟨r4, f4⟩, ⟨r5, f5⟩⟩ := six_at Ir.out.hr
        obtain ⟨z1, z2, z3⟩ := Ir.out.ret (by omega) (by omega) (by omega) hRw (.int .i64 (L : Int)) (.int .i64 (V : Int)) (.float .f32 C) (.float .f32 R) (.slice ta bs.length tc) (.slice none 0 0)
        have hfin := ScoP.of (e := .returned (.agg #[.int .i64 (L : Int), .int .i64 (V : Int), .float .f32 C, .float .f32 R, .slice ta bs.length tc, .slice none 0 0])) (M := M) rfl (by omega) hV1 hV2 ⟨Q.out.1, Q.out.2.1⟩ Q.out.2.2 (by omega) (by decide) Ir.out.bok Ir.out.eok z1 z2 z3 (b' := w.heap.size) (Nat.le_refl _)
        have Hfin := Lib.hid hfin
        clear hfin z1 z2 z3
        go_wp2_with fail
        exact bodyPost_ret (v := .agg #[.int .i64 (L : Int), .int .i64 (V : Int), .float .f32 C, .float .f32 R, .slice ta bs.length tc, .slice none 0 0]) (by simp [results, Tryz.results11, go_sem, r0, r1, r2, r3, r4, r5, f0]) rfl
          Hfin.out
      · have hb0' : ((bs.length : Int) == 0) = false := by simpa using hb0
        have hb1 : 1 ≤ bs.length := by omega
        clear hb0
        go_wp2_with fail
        refine (below_at _ _ _ _ _ _ _ (by omega) (by omega) _ Ir.out.at'.here).mono ?_
        rintro e w6 ⟨x6, x60, x61, rfl, hc6⟩
        have I6 := Lib.hid (Ir.out.kp ⟨hc6.1, Ir.out.at'.2.trans hc6.2⟩ hc6.2 (by omega) (by omega) (by omega))
        clear hc6 l0 g0 l1 g1 l2 g2 l3 g3 l4 g4 l5 g5 Ir
        go_wp2_with fail
        go_loopw [7] (fun i wr => ScoE B w0 a len cap c bS w.heap.size (bS + 1) L V C R bs (.slice ta bs.length tc) i wr) (fun i _ => (intOf i).toNat)
        case atStart => exact ⟨x6.toNat, [], _, by rw [Int.toNat_of_nonneg x60], by simp; omega, I6.out⟩
        case round =>
          obtain ⟨k, es, ev, rfl, hke, hI⟩ := hrel
          have Ir := Lib.hid hI
          clear hI
          obtain ⟨⟨l0, g0⟩, ⟨l1, g1⟩, ⟨l2, g2⟩, ⟨l3, g3⟩, ⟨l4, g4⟩, ⟨l5, g5⟩⟩ := six_at Ir.out.hs
          have ho := Ir.out.evs
          obtain ⟨ua, uc, rfl⟩ := own_shape' ho
          by_cases hk0 : 0 < k
          · clear ho
            go_upto_region 11 with fail
            have J := Lib.hid (Ir.out.nw ((Nw.refl wr).draw 1))
            have k1 := l7Some_at _ _ _ _ _ _ L bs.length (by omega) (by omega) (by omega) wr.drew (show At B w0 a len cap c wr.drew from J.out.at').here
            have K1 := Lib.hid k1
            clear k1
            go_region_law (first
              | (go_simp
                 go_at_call 25
                 with_reducible refine K1.out.mono ?_
                 rintro e w7 ⟨et, ek, eb, es', em, ef, rfl, heok, hc7⟩
                 have J7 := Lib.hid (J.out.kp ⟨hc7.1, J.out.at'.2.trans hc7.2⟩ hc7.2 (by omega) (by omega) (by omega))
                 have E7 := Lib.hid (show Ev6.ok L bs.length ⟨et, ek, eb, es', em, ef⟩ from heok)
                 have hS7 : bS < w7.heap.size := J7.out.hs.1
                 obtain ⟨⟨m0, n0⟩, ⟨m1, n1⟩, ⟨m2, n2⟩, ⟨m3, n3⟩, ⟨m4, n4⟩, ⟨m5, n5⟩⟩ := six_at J7.out.hs
                 unfold evV
                 clear heok hc7)
              | (refine step_append_event rfl (.tmp 51) (.tmp 59) rfl (bS + 1) es.length w7.heap.size (.slice ua es.length uc) ⟨et, ek, eb, es', em, ef⟩ es rfl rfl (J7.out.evs.alloc _) (fun j u hj => ((HasC.new w7 68 (.int .i64 et) (.int .i64 ek) (.int .i64 eb) (.int .i64 es') (.int .i64 em) (.float .f32 ef)).2 j u hj).1) (by omega) (by have := J7.out.sz; simp; omega) ?_
                 intro v8 w8 own8 gr8
                 obtain ⟨B8, F8⟩ := ScoI.event (J7.out.nw ((Nw.refl w7).alloc _)) E7.out own8 gr8 (by omega) (by omega) (by omega) (by omega) (by omega) (by omega) (by omega) (by omega) (by omega)
                 have Hf8 := Lib.hid F8
                 obtain ⟨qa, qn, qc, rfl⟩ := own_shape own8
                 obtain ⟨⟨o0, h0⟩, ⟨o1, h1⟩, ⟨o2, h2⟩, ⟨o3, h3⟩, ⟨o4, h4⟩, ⟨o5, h5⟩⟩ := six_at B8
                 clear F8 B8 own8 gr8))
            all_goals
              go_wp2_with fail
              go_roundw
              case rel => exact ⟨k - 1, es ++ [⟨et, ek, eb, es', em, ef⟩], _, by rw [show ((k - 1 : Nat) : Int) = (k : Int) - 1 from by omega], by simp; omega, Hf8.out⟩
              case measure => simp only [intOf]; omega
          · clear ho
            have hk' : k = 0 := by omega
            subst hk'
            obtain ⟨⟨r0, f0⟩, ⟨r1, f1⟩, ⟨r2, f2⟩, ⟨r3, f3⟩, ⟨r4, f4⟩, ⟨r5, f5⟩⟩ := six_at Ir.out.hr
            obtain ⟨z1, z2, z3⟩ := Ir.out.ret (by omega) (by omega) (by omega) hRw (.int .i64 (L : Int)) (.int .i64 (V : Int)) (.float .f32 C) (.float .f32 R) (.slice ta bs.length tc) (.slice ua es.length uc)
            have hfin := ScoP.of (e := .returned (.agg #[.int .i64 (L : Int), .int .i64 (V : Int), .float .f32 C, .float .f32 R, .slice ta bs.length tc, .slice ua es.length uc])) (M := M) rfl (by omega) hV1 hV2 ⟨Q.out.1, Q.out.2.1⟩ Q.out.2.2 (by omega) (by omega) Ir.out.bok Ir.out.eok z1 z2 z3 (b' := w.heap.size) (Nat.le_refl _)
            have Hfin := Lib.hid hfin
            clear hfin z1 z2 z3
            go_wp2_with fail
            exact bodyPost_ret (v := .agg #[.int .i64 (L : Int), .int .i64 (V : Int), .float .f32 C, .float .f32 R, .slice ta bs.length tc, .slice ua es.length uc]) (by simp [results, Tryz.results11, go_sem, r0, r1, r2, r3, r4, r5, f0]) rfl
              Hfin.out

end Go.Proofs.YtiakcibeobbonaaGreat

/- Events compared.
   Conditions: those that each statement names. -/
namespace Go.Proofs.YtiakcibeobbonaaGreat
set_option linter.unusedSimpArgs false
set_option linter.unusedVariables false
open Go Go.RowKit

end Go.Proofs.YtiakcibeobbonaaGreat

/- The walks of EnergyOf, the program's and the model's: the sum of the squares, but for the bits of NaN; of finite samples it is a number.
   Conditions: those that each statement names. -/
namespace Go.Proofs.YtiakcibeobbonaaGreat
set_option linter.unusedSimpArgs false
set_option linter.unusedVariables false
open Go Go.RowKit

/-- the sum of the squares, but for the bits of NaN -/
def enA (zs : List Nat) : Option Nat := zs.foldl (fun s x => fA .add .f64 s (fA .mul .f64 (wA x) (wA x))) (fab .f64 0)
theorem enA_take (zs : List Nat) (k x : Nat) (h : zs[k]? = some x) : enA (zs.take (k + 1)) = fA .add .f64 (enA (zs.take k)) (fA .mul .f64 (wA x) (wA x)) := by
  obtain ⟨hk, he⟩ := List.getElem?_eq_some_iff.1 h
  unfold enA
  rw [List.take_succ_eq_append_getElem hk, List.foldl_append, he]; rfl

def EnI (zs : List Nat) (n : Nat) (w : World) (y i : Value) (wr : World) : Prop :=
  ∃ k s : Nat, k ≤ n ∧ i = .int .i64 (k : Int) ∧ y = .float .f64 s ∧ fab .f64 s = enA (zs.take k) ∧ Nw w wr
def EnP (zs : List Nat) (w : World) (e : Ending) (w' : World) : Prop := ∃ s, e = .returned (.float .f64 s) ∧ fab .f64 s = enA zs ∧ Nw w w'

end Go.Proofs.YtiakcibeobbonaaGreat

/- The energy of finite samples is a number: plain facts, and the walk of EnergyOf that says its bits.
   Conditions: those that each statement names. -/
namespace Go.Proofs.YtiakcibeobbonaaGreat
set_option linter.unusedSimpArgs false
set_option linter.unusedVariables false
open Go Go.RowKit

/-! ### the energy of finite samples is a number -/
def enB : Rat := Flo.pw 260
theorem en_step (s x : Nat) (k : Nat) (hk : k ≤ 1000) (hs : Flo.Nm s) (hb : Flo.Ab (Flo.W s) ((k : Rat) * enB)) (hx : Sm x) :
    ∃ r, fA .add .f64 (some s) (fA .mul .f64 (wA x) (wA x)) = some r ∧ Flo.Nm r ∧ Flo.Ab (Flo.W r) (((k + 1 : Nat) : Rat) * enB) := by
  obtain ⟨n, v⟩ := wid_num hx
  have hwa : wA x = some (wid x) := by unfold wA; rw [show nan32 x = false from by obtain ⟨s, m, p, h⟩ := hx; unfold nan32; rw [show FloatKind.f32.decode x = _ from h]; rfl]; rfl
  have a := single_abs hx
  have hm := a.mul a
  have e256 : Flo.pw 128 * Flo.pw 128 = Flo.pw 256 := by rw [← Flo.pw_add]; rfl
  rw [e256, ← v] at hm
  have l1 : Flo.pw 256 < Flo.pw 1023 := Flo.pw_lt (by omega)
  have l2 : Flo.pw 260 = 16 * Flo.pw 256 := by rw [show (260 : Int) = 4 + 256 from rfl, Flo.pw_add, show Flo.pw 4 = 16 from Flo.pw_nat 4]
  have l3 : Flo.pw 280 < Flo.pw 1023 := Flo.pw_lt (by omega)
  have l4 : Flo.pw 280 = 1048576 * Flo.pw 260 := by rw [show (280 : Int) = 20 + 260 from rfl, Flo.pw_add, show Flo.pw 20 = 1048576 from Flo.pw_nat 20]
  have p0 : 1 ≤ Flo.pw 256 := by rw [← Flo.pw_zero]; exact Flo.pw_le (by omega)
  have u1 := Flo.u_le
  have u0 := Flo.u_pos
  have e0 := Flo.et_pos
  have eu : Flo.et ≤ Flo.u := Flo.pw_le (by omega)
  obtain ⟨r1, q1, q2, q3⟩ := Flo.d_mul (wid x) (wid x) n n _ hm l1
  have k0 : (0 : Rat) ≤ (k : Rat) := by exact_mod_cast Nat.zero_le k
  have k1 : (k : Rat) ≤ 1000 := by
    have : ((k : Nat) : Rat) ≤ ((1000 : Nat) : Rat) := by exact_mod_cast hk
    exact this
  have u2 : Flo.u ≤ 1 / 1048576 := by grind
  have hP := Rat.mul_le_mul_of_nonneg_left u2 (show (0 : Rat) ≤ Flo.pw 256 by grind)
  have hr1 : Flo.Ab (Flo.W r1) (2 * Flo.pw 256) := ((q3.add hm).eq (by grind)).mono (by grind)
  have hsum : Flo.Ab (Flo.W s + Flo.W r1) ((k : Rat) * enB + 2 * Flo.pw 256) := hb.add hr1
  have hkb : (k : Rat) * enB ≤ 1000 * enB := Rat.mul_le_mul_of_nonneg_right k1 (by unfold enB; grind)
  unfold enB at *
  obtain ⟨r2, t1, t2, t3⟩ := Flo.d_add s r1 hs q2 _ hsum (by grind)
  refine ⟨r2, ?_, t2, ?_⟩
  · rw [hwa]
    show fA .add .f64 (some s) (floatBits .mul .f64 (wid x) (wid x)) = _
    rw [q1]
    exact t1
  · have hB : 0 ≤ (k : Rat) * Flo.pw 260 + 2 * Flo.pw 256 := hsum.nonneg
    have hu := Rat.mul_le_mul_of_nonneg_left u2 hB
    have e1 : ((k + 1 : Nat) : Rat) = (k : Rat) + 1 := by push_cast; rfl
    rw [e1]
    refine ((t3.add hsum).eq (by grind)).mono ?_
    grind
theorem en_fold : ∀ (zs : List Nat) (s k : Nat), k + zs.length ≤ 1000 → Flo.Nm s → Flo.Ab (Flo.W s) ((k : Rat) * enB) → (∀ x ∈ zs, Sm x) → ∃ r, zs.foldl (fun s x => fA .add .f64 s (fA .mul .f64 (wA x) (wA x))) (some s) = some r ∧ Flo.Nm r
  | [], s, k, _, hs, _, _ => ⟨s, rfl, hs⟩
  | x :: zs, s, k, hk, hs, hb, hx => by
    simp only [List.length_cons] at hk
    obtain ⟨r, h1, h2, h3⟩ := en_step s x k (by omega) hs hb (hx x (List.mem_cons_self ..))
    rw [List.foldl_cons, h1]
    exact en_fold zs r (k + 1) (by omega) h2 h3 (fun y hy => hx y (List.mem_cons_of_mem _ hy))
theorem zero_double : Flo.Nm 0 ∧ Flo.W 0 = 0 := by
  have h : Ieee.double.read 0 = .number false 0 (-1074) := by decide
  refine ⟨⟨_, _, _, h⟩, ?_⟩
  rw [show Flo.W 0 = _ from Flo.V_eq h, Flo.val_zero]
/-- the energy's bits -/
def enN (zs : List Nat) : Nat := (enA zs).getD 0
theorem en_num (zs : List Nat) (hl : zs.length ≤ 1000) (hx : ∀ x ∈ zs, Sm x) : enA zs = some (enN zs) ∧ Flo.Nm (enN zs) := by
  have h0 : fab .f64 0 = some 0 := fab_some (by decide)
  obtain ⟨r, h1, h2⟩ := en_fold zs 0 0 (by omega) zero_double.1 (by rw [zero_double.2]; unfold enB; have := Flo.pw_pos 260; constructor <;> grind) hx
  have e : enA zs = some r := by unfold enA; rw [h0]; exact h1
  unfold enN
  rw [e]
  exact ⟨rfl, h2⟩
theorem fab_eq {k : FloatKind} {s r : Nat} (h : fab k s = some r) : s = r := by
  unfold fab at h
  split at h
  · cases h
  · injection h
end Go.Proofs.YtiakcibeobbonaaGreat

/- Absolute values of single precision: the walk of absoluteSingle.
   Conditions: those that each statement names. -/
namespace Go.Proofs.YtiakcibeobbonaaGreat
set_option linter.unusedSimpArgs false
set_option linter.unusedVariables false
open Go Go.RowKit

theorem implAbs_wide (x : Nat) (hx : nan32 x = false) (w : World) :
    Calls Tryz.prog 63 #[.float .f32 x] w fun e w' => (∃ p, e = .returned (.float .f32 p) ∧ Tw p (labs (wid x))) ∧ w = w' := by
  have a1 := fcv_wide hx
  have a2 := fcd_wide hx
  have a3 := fun w => (tw_abs hx w).2
  have a3 := a3 w
  have lt := wid_lt x
  go_enter Tryz.func63, Tryz.ntmps63
  go_wp2_with (go_at_call 96; refine (abs_any _ _ lt).mono ?_; rintro e w' ⟨rfl, rfl⟩)
  all_goals (go_ret; exact ⟨⟨_, rfl, (tw_abs hx _).1⟩, rfl⟩)
theorem nan_abs {z : Nat} (h : nan64 z = true) (w : World) : nan32 (fcv w .f64 (z % signBit) .f32) = true := by
  unfold nan64 at h
  have hm := mod_read z
  cases hd : FloatKind.f64.decode z with
  | number s m p => rw [hd] at h; cases h
  | infinity s => rw [hd] at h; cases h
  | nan s f =>
    rw [hd] at hm
    unfold fcv
    rw [if_neg (by decide), hm]
    exact nan_conv _ _ _
theorem nan_order {k : FloatKind} {z : Nat} (h : (k.decode z).isNaN = true) (b : Nat) : (k.format.order z b == some .gt) = false := by
  unfold Ieee.Format.order
  unfold FloatKind.decode at h
  cases hd : k.format.read z <;> rw [hd] at h <;> simp [Ieee.Datum.isNaN] at h
  simp [Ieee.Datum.order]
theorem nan_labs {z : Nat} (h : nan64 z = true) : labs z = z := by
  have h0 : FloatKind.f64.format.order z 0 = none := by
    unfold Ieee.Format.order
    unfold nan64 FloatKind.decode at h
    cases hd : FloatKind.f64.format.read z <;> rw [hd] at h <;> simp [Ieee.Datum.isNaN] at h
    simp [Ieee.Datum.order]
  unfold labs; rw [h0]; simp
theorem implAbs_nan (x : Nat) (hx : nan32 x = true) (h32 : x < 2 ^ 32) (w : World) :
    Calls Tryz.prog 63 #[.float .f32 x] w fun e w' => (∃ p, e = .returned (.float .f32 p) ∧ nan32 p = true) ∧ Nw w w' := by
  have lt := fun w => fcv_wf w .f32 x .f64 (show x < 2 ^ FloatKind.f32.format.width from h32)
  have hn := fun w => nan_wide hx w
  go_enter Tryz.func63, Tryz.ntmps63
  go_wp2_with (go_at_call 96; refine (abs_any _ _ (lt _)).mono ?_; rintro e w' ⟨rfl, rfl⟩)
  all_goals (go_ret; exact ⟨⟨_, rfl, nan_abs (hn _) _⟩, ⟨rfl, rfl, rfl, Nat.le_refl _, fun _ _ _ => rfl⟩⟩)

end Go.Proofs.YtiakcibeobbonaaGreat

/- The law FnExactPeakOf, proved: for every slice of samples PeakOf answers as its model does, and leaves it as it was.
   Conditions: none beyond the statement's own. -/
namespace Go.Proofs.YtiakcibeobbonaaGreat
set_option linter.unusedSimpArgs false
set_option linter.unusedVariables false
open Go Go.RowKit

/-- the greatest absolute value so far, as the model has it -/
def pk1 (b x : Nat) : Nat := if nan32 x then b else if FloatKind.f64.format.order (labs (wid x)) b == some .gt then labs (wid x) else b
def pkB (zs : List Nat) : Nat := zs.foldl pk1 0
theorem pkB_take (zs : List Nat) (k x : Nat) (h : zs[k]? = some x) : pkB (zs.take (k + 1)) = pk1 (pkB (zs.take k)) x := by
  obtain ⟨hk, he⟩ := List.getElem?_eq_some_iff.1 h
  unfold pkB
  rw [List.take_succ_eq_append_getElem hk, List.foldl_append, he]; rfl
theorem pk1_nan {b x : Nat} (h : nan32 x = true) : pk1 b x = b := by unfold pk1; rw [h]; rfl
theorem pk1_up {b x : Nat} (h : nan32 x = false) (g : (FloatKind.f64.format.order (labs (wid x)) b == some .gt) = true) : pk1 b x = labs (wid x) := by unfold pk1; rw [h, g]; rfl
theorem pk1_stay {b x : Nat} (h : nan32 x = false) (g : (FloatKind.f64.format.order (labs (wid x)) b == some .gt) = false) : pk1 b x = b := by unfold pk1; rw [h, g]; rfl

def PkS (zs : List Nat) (n : Nat) (w : World) (y i : Value) (wr : World) : Prop :=
  ∃ k p : Nat, k ≤ n ∧ i = .int .i64 (k : Int) ∧ y = .float .f64 (pkB (zs.take k)) ∧ Tw p (pkB (zs.take k)) ∧ Nw w wr
def PkI (zs : List Nat) (n : Nat) (w : World) (y i : Value) (wr : World) : Prop :=
  ∃ k p : Nat, k ≤ n ∧ i = .int .i64 (k : Int) ∧ y = .float .f32 p ∧ Tw p (pkB (zs.take k)) ∧ Nw w wr
def PkP (zs : List Nat) (w : World) (e : Ending) (w' : World) : Prop := ∃ p, e = .returned (.float .f32 p) ∧ Tw p (pkB zs) ∧ Nw w w'

theorem tw_again {p b : Nat} (h : Tw p b) (w : World) : Tw (fcv w .f64 b .f32) b ∧ fcd .f64 b .f32 = 0 := by
  rcases h with ⟨m, i, n, j, h1, h2, h3⟩ | ⟨h1, h2⟩
  · exact tw_narrow h1 h2 h3.symm w
  · exact tw_narrow_inf h2 w

end Go.Proofs.YtiakcibeobbonaaGreat

/- One step of a mode in double precision: its bits, how near it is to the exact step, and the walk of stepDouble; no NaN and no infinity is met.
   Conditions: those that each statement names. -/
namespace Go.Proofs.YtiakcibeobbonaaGreat
set_option linter.unusedSimpArgs false
set_option linter.unusedVariables false
open Go Go.RowKit

def mulDre (a b c d : Nat) : Nat := opB .sub .f64 (opB .mul .f64 a c) (opB .mul .f64 b d)
def mulDim (a b c d : Nat) : Nat := opB .add .f64 (opB .mul .f64 a d) (opB .mul .f64 b c)
def stepD (m : M4) (s : Nat × Nat) (x : Nat) : Nat × Nat :=
  (opB .add .f64 (mulDre s.1 s.2 (wid m.pr) (wid m.pi)) (opB .mul .f64 (wid m.gr) x), opB .add .f64 (mulDim s.1 s.2 (wid m.pr) (wid m.pi)) (opB .mul .f64 (wid m.gi) x))

structure StepDOk (m : M4) (s : Nat × Nat) (x : Nat) : Prop where
  a1 : Calm .mul .f64 s.1 (wid m.pr)
  a2 : Calm .mul .f64 s.2 (wid m.pi)
  a3 : Calm .sub .f64 (opB .mul .f64 s.1 (wid m.pr)) (opB .mul .f64 s.2 (wid m.pi))
  a4 : Calm .mul .f64 s.1 (wid m.pi)
  a5 : Calm .mul .f64 s.2 (wid m.pr)
  a6 : Calm .add .f64 (opB .mul .f64 s.1 (wid m.pi)) (opB .mul .f64 s.2 (wid m.pr))
  c1 : Calm .mul .f64 (wid m.gr) x
  c2 : Calm .mul .f64 (wid m.gi) x
  c3 : Calm .add .f64 (mulDre s.1 s.2 (wid m.pr) (wid m.pi)) (opB .mul .f64 (wid m.gr) x)
  c4 : Calm .add .f64 (mulDim s.1 s.2 (wid m.pr) (wid m.pi)) (opB .mul .f64 (wid m.gi) x)

/-- the sums of the errors of one part, in plain numbers -/
theorem stepD_sum (D R H u v et es : Rat) (hD : 0 ≤ D) (hR : 0 ≤ R) (hH : 0 ≤ H) (u0 : 0 < u) (huv : u ≤ v / 536870912) (ve : v * 16777216 = 1) (e0 : 0 < et) (ee : et ≤ es / 1024) :
    0 ≤ R * u ∧ 0 ≤ D * u ∧ 0 ≤ H * u ∧ 0 ≤ et * u ∧ R * u ≤ R / 1048576 ∧ D * u ≤ D / 1048576 ∧ H * u ≤ H / 1048576 ∧ et * u ≤ et ∧ 
    (D + 2 * (2 * R * u + et)) * u + et + 2 * (2 * R * u + et) ≤ D / 1048576 + R / 65536 + es ∧
    (D + ((D + 2 * (2 * R * u + et)) * u + et + 2 * (2 * R * u + et)) + (H + (H * u + et))) * u + et + ((D + 2 * (2 * R * u + et)) * u + et + 2 * (2 * R * u + et)) + (H * u + et) ≤ (2 * D + 2 * H) * v + (D + R + H) * v / 1024 + 6 * es := by
  have hv : v = 1 / 16777216 := by grind
  subst hv
  have u1 : u ≤ 1 / 1048576 := by grind
  have k1 := Rat.mul_le_mul_of_nonneg_left huv hR
  have k2 := Rat.mul_nonneg hR (Rat.le_of_lt u0)
  have d1 := Rat.mul_le_mul_of_nonneg_left huv hD
  have d2 := Rat.mul_nonneg hD (Rat.le_of_lt u0)
  have h1 := Rat.mul_le_mul_of_nonneg_left huv hH
  have h2 := Rat.mul_nonneg hH (Rat.le_of_lt u0)
  have t1 := Rat.mul_le_mul_of_nonneg_left u1 (Rat.le_of_lt e0)
  have t2 := Rat.mul_nonneg (Rat.le_of_lt e0) (Rat.le_of_lt u0)
  have k3 := Rat.mul_le_mul_of_nonneg_left u1 k2
  have k4 := Rat.mul_nonneg k2 (Rat.le_of_lt u0)
  have k5 := Rat.mul_le_mul_of_nonneg_left u1 k4
  have d3 := Rat.mul_le_mul_of_nonneg_left u1 d2
  have d4 := Rat.mul_nonneg d2 (Rat.le_of_lt u0)
  have h3 := Rat.mul_le_mul_of_nonneg_left u1 h2
  have t3 := Rat.mul_le_mul_of_nonneg_left u1 t2
  refine ⟨k2, d2, h2, t2, by grind, by grind, by grind, by grind, by grind, by grind⟩

theorem partD_step (o : BinOp) (a c b d g x : Nat) (ha : Flo.Nm a) (hc : Flo.Nm c) (hb : Flo.Nm b) (hd : Flo.Nm d) (hg : Flo.Nm g) (hx : Flo.Nm x) (e D R H : Rat) (ho : (o = .sub ∧ e = Flo.W a * Flo.W c - Flo.W b * Flo.W d) ∨ (o = .add ∧ e = Flo.W a * Flo.W c + Flo.W b * Flo.W d))
    (h1 : Flo.Ab (Flo.W a * Flo.W c) (2 * R)) (h2 : Flo.Ab (Flo.W b * Flo.W d) (2 * R)) (he : Flo.Ab e D) (hH : Flo.Ab (Flo.W g * Flo.W x) H) (hRt : R ≤ Flo.pw 110) (hDt : D ≤ Flo.pw 112) (hHt : H ≤ Flo.pw 112) :
    Calm .mul .f64 a c ∧ Calm .mul .f64 b d ∧ Calm o .f64 (opB .mul .f64 a c) (opB .mul .f64 b d) ∧ Calm .mul .f64 g x ∧ Calm .add .f64 (opB o .f64 (opB .mul .f64 a c) (opB .mul .f64 b d)) (opB .mul .f64 g x) ∧
      Flo.Nm (opB .add .f64 (opB o .f64 (opB .mul .f64 a c) (opB .mul .f64 b d)) (opB .mul .f64 g x)) ∧
      Flo.Ab (Flo.W (opB .add .f64 (opB o .f64 (opB .mul .f64 a c) (opB .mul .f64 b d)) (opB .mul .f64 g x)) - (e + Flo.W g * Flo.W x)) ((2 * D + 2 * H) * Flo.v + (D + R + H) * Flo.v / 1024 + 6 * Flo.es) := by
  have hR0 : 0 ≤ R := by have := h1.nonneg; grind
  obtain ⟨s1, s2, s3, s4, s5, s6, s7, s8, s9, s10⟩ := stepD_sum D R H Flo.u Flo.v Flo.et Flo.es he.nonneg hR0 hH.nonneg Flo.u_pos uv Flo.v_eq Flo.et_pos small'.ee
  have l1 : Flo.pw 112 = 4 * Flo.pw 110 := by rw [show (112 : Int) = 2 + 110 from rfl, Flo.pw_add, show Flo.pw 2 = 4 from Flo.pw_nat 2]
  have l2 : Flo.pw 120 = 256 * Flo.pw 112 := by rw [show (120 : Int) = 8 + 112 from rfl, Flo.pw_add, show Flo.pw 8 = 256 from Flo.pw_nat 8]
  have l3 := Flo.pw_lt (a := 120) (b := 1023) (by omega)
  have l4 : 1 ≤ Flo.pw 110 := by rw [← Flo.pw_zero]; exact Flo.pw_le (by omega)
  have es1 := small'.es1
  have ee := small'.ee
  have et0 := Flo.et_pos
  obtain ⟨p, p1, p2, p3⟩ := Flo.d_mul a c ha hc (2 * R) h1 (by grind)
  obtain ⟨q, q1, q2, q3⟩ := Flo.d_mul b d hb hd (2 * R) h2 (by grind)
  obtain ⟨c1, b1⟩ := Calm.of p1
  obtain ⟨c2, b2⟩ := Calm.of q1
  obtain ⟨r, r1, r2, r3⟩ : ∃ r, floatBits o .f64 p q = some r ∧ Flo.Nm r ∧ Flo.Ab (Flo.W r - e) ((D + 2 * (2 * R * Flo.u + Flo.et)) * Flo.u + Flo.et + 2 * (2 * R * Flo.u + Flo.et)) := by
    rcases ho with ⟨rfl, rfl⟩ | ⟨rfl, rfl⟩
    · have hpq : Flo.Ab (Flo.W p - Flo.W q) (D + 2 * (2 * R * Flo.u + Flo.et)) := ((he.add (p3.sub q3)).eq (by grind)).mono (by grind)
      obtain ⟨r, r1, r2, r3⟩ := Flo.d_sub p q p2 q2 _ hpq (by grind)
      exact ⟨r, r1, r2, ((r3.add (p3.sub q3)).eq (by grind)).mono (by grind)⟩
    · have hpq : Flo.Ab (Flo.W p + Flo.W q) (D + 2 * (2 * R * Flo.u + Flo.et)) := ((he.add (p3.add q3)).eq (by grind)).mono (by grind)
      obtain ⟨r, r1, r2, r3⟩ := Flo.d_add p q p2 q2 _ hpq (by grind)
      exact ⟨r, r1, r2, ((r3.add (p3.add q3)).eq (by grind)).mono (by grind)⟩
  obtain ⟨c3, b3⟩ := Calm.of r1
  obtain ⟨y, y1, y2, y3⟩ := Flo.d_mul g x hg hx H hH (by grind)
  obtain ⟨c4, b4⟩ := Calm.of y1
  have hs : Flo.Ab (Flo.W r + Flo.W y) (D + ((D + 2 * (2 * R * Flo.u + Flo.et)) * Flo.u + Flo.et + 2 * (2 * R * Flo.u + Flo.et)) + (H + (H * Flo.u + Flo.et))) := ((he.add r3).add (hH.add y3)).eq (by grind)
  obtain ⟨z, z1, z2, z3⟩ := Flo.d_add r y r2 y2 _ hs (by grind)
  obtain ⟨c5, b5⟩ := Calm.of z1
  rw [← b1, ← b2] at c3 b3
  rw [← b3, ← b4] at c5 b5
  refine ⟨c1, c2, c3, c4, c5, by rw [b5]; exact z2, ?_⟩
  rw [b5]
  exact (((z3.add r3).add y3).eq (by grind)).mono s10

/-- ONE STEP OF A VALID MODE, in double precision. -/
theorem stepD_ok (m : M4) (hm : m.ok) (s : Nat × Nat) (x : Nat) (h1 : Flo.Nm s.1) (h2 : Flo.Nm s.2) (hx : Flo.Nm x) (R D H : Rat) (r1 : Flo.Ab (Flo.W s.1) R) (r2 : Flo.Ab (Flo.W s.2) R)
    (d1 : Flo.Ab (Flo.W s.1 * S m.pr - Flo.W s.2 * S m.pi) D) (d2 : Flo.Ab (Flo.W s.1 * S m.pi + Flo.W s.2 * S m.pr) D) (g1 : Flo.Ab (S m.gr * Flo.W x) H) (g2 : Flo.Ab (S m.gi * Flo.W x) H) (hRt : R ≤ Flo.pw 110) (hDt : D ≤ Flo.pw 112) (hHt : H ≤ Flo.pw 112) :
    StepDOk m s x ∧ Flo.Nm (stepD m s x).1 ∧ Flo.Nm (stepD m s x).2 ∧
      Flo.Ab (Flo.W (stepD m s x).1 - (Flo.W s.1 * S m.pr - Flo.W s.2 * S m.pi + S m.gr * Flo.W x)) ((2 * D + 2 * H) * Flo.v + (D + R + H) * Flo.v / 1024 + 6 * Flo.es) ∧
      Flo.Ab (Flo.W (stepD m s x).2 - (Flo.W s.1 * S m.pi + Flo.W s.2 * S m.pr + S m.gi * Flo.W x)) ((2 * D + 2 * H) * Flo.v + (D + R + H) * Flo.v / 1024 + 6 * Flo.es) := by
  obtain ⟨n1, n2, n3, n4⟩ := hm.nums
  obtain ⟨q1, q2⟩ := hm.pole
  obtain ⟨m1, v1⟩ := wid_num n1
  obtain ⟨m2, v2⟩ := wid_num n2
  obtain ⟨m3, v3⟩ := wid_num n3
  obtain ⟨m4, v4⟩ := wid_num n4
  rw [← v1] at d1 d2 q1 ⊢
  rw [← v2] at d1 d2 q2 ⊢
  rw [← v3] at g1 ⊢
  rw [← v4] at g2 ⊢
  have k1 : Flo.Ab (Flo.W s.1 * Flo.W (wid m.pr)) (2 * R) := (r1.mul q1).mono (by grind)
  have k2 : Flo.Ab (Flo.W s.2 * Flo.W (wid m.pi)) (2 * R) := (r2.mul q2).mono (by grind)
  have k3 : Flo.Ab (Flo.W s.1 * Flo.W (wid m.pi)) (2 * R) := (r1.mul q2).mono (by grind)
  have k4 : Flo.Ab (Flo.W s.2 * Flo.W (wid m.pr)) (2 * R) := (r2.mul q1).mono (by grind)
  obtain ⟨a1, a2, a3, a4, a5, a6, a7⟩ := partD_step .sub s.1 (wid m.pr) s.2 (wid m.pi) (wid m.gr) x h1 m1 h2 m2 m3 hx _ D R H (.inl ⟨rfl, rfl⟩) k1 k2 d1 g1 hRt hDt hHt
  obtain ⟨b1, b2, b3, b4, b5, b6, b7⟩ := partD_step .add s.1 (wid m.pi) s.2 (wid m.pr) (wid m.gi) x h1 m2 h2 m1 m4 hx _ D R H (.inr ⟨rfl, rfl⟩) k3 k4 d2 g2 hRt hDt hHt
  exact ⟨⟨a1, a2, a3, b1, b2, b3, a4, b4, a5, b5⟩, a6, b6, a7, b7⟩

/-! ### the walks -/
end Go.Proofs.YtiakcibeobbonaaGreat

/- Plain facts: how far the states of a mode that is stepped with small errors lie from those of the mode that is stepped exactly. No program stands in it.
   Conditions: those that each statement names. -/
namespace Go.Proofs.YtiakcibeobbonaaGreat
set_option linter.unusedSimpArgs false
set_option linter.unusedVariables false
open Go

/-! ### sizes in the plane -/
def N (a b B : Rat) : Prop := 0 ≤ B ∧ a * a + b * b ≤ B * B
theorem le_of_sq {a B : Rat} (hB : 0 ≤ B) (h : a * a ≤ B * B) : a ≤ B := by
  rcases Rat.le_total (a := a) (b := B) with g | g
  · exact g
  · have h1 := Rat.mul_nonneg (show 0 ≤ a - B by grind) hB
    have h2 := Rat.mul_nonneg (show 0 ≤ a - B by grind) (show 0 ≤ a - B by grind)
    by_cases e : a = B
    · grind
    · have : 0 < a - B := by grind
      have h3 := Rat.mul_pos this this
      grind
theorem N.ab {a b B : Rat} (h : N a b B) : Flo.Ab a B ∧ Flo.Ab b B := by
  obtain ⟨h0, h1⟩ := h
  have ha := square_nonneg a
  have hb := square_nonneg b
  have k1 := le_of_sq h0 (show a * a ≤ B * B by grind)
  have k2 := le_of_sq h0 (show b * b ≤ B * B by grind)
  have k3 := le_of_sq (a := -a) h0 (by grind)
  have k4 := le_of_sq (a := -b) h0 (by grind)
  exact ⟨⟨by grind, k1⟩, ⟨by grind, k2⟩⟩
theorem N.zero : N 0 0 0 := ⟨by grind, by grind⟩
theorem N.mono {a b B C : Rat} (h : N a b B) (hC : B ≤ C) : N a b C := by
  obtain ⟨h0, h1⟩ := h
  refine ⟨by grind, ?_⟩
  have h2 := Rat.mul_le_mul_of_nonneg_left hC h0
  have h3 := Rat.mul_le_mul_of_nonneg_right hC (show 0 ≤ C by grind)
  grind
theorem N.eq {a b a' b' B : Rat} (h : N a b B) (h1 : a = a') (h2 : b = b') : N a' b' B := h1 ▸ h2 ▸ h
theorem N.add {a b c d B C : Rat} (h : N a b B) (g : N c d C) : N (a + c) (b + d) (B + C) := by
  obtain ⟨h0, h1⟩ := h
  obtain ⟨g0, g1⟩ := g
  refine ⟨by grind, ?_⟩
  have hBC := Rat.mul_nonneg h0 g0
  have k1 := Rat.mul_le_mul_of_nonneg_left g1 (show 0 ≤ a * a + b * b by have := square_nonneg a; have := square_nonneg b; grind)
  have k2 := Rat.mul_le_mul_of_nonneg_right h1 (square_nonneg C)
  have k3 := square_nonneg (a * d - b * c)
  have k4 := le_of_sq (a := a * c + b * d) hBC (by grind)
  grind
theorem N.mul {a b c d B T : Rat} (h : N a b B) (hT : 0 ≤ T) (g : c * c + d * d ≤ T * T) : N (a * c - b * d) (a * d + b * c) (B * T) := by
  obtain ⟨h0, h1⟩ := h
  refine ⟨Rat.mul_nonneg h0 hT, ?_⟩
  have k1 := Rat.mul_le_mul_of_nonneg_left g (show 0 ≤ a * a + b * b by have := square_nonneg a; have := square_nonneg b; grind)
  have k2 := Rat.mul_le_mul_of_nonneg_right h1 (square_nonneg T)
  grind
theorem N.parts {a b L : Rat} (h : Flo.Ab a L) (g : Flo.Ab b L) : N a b (3 / 2 * L) := by
  have hL := h.nonneg
  have h2 := h.mul h
  have g2 := g.mul g
  unfold Flo.Ab at h2 g2
  have := square_nonneg L
  exact ⟨by grind, by grind⟩
theorem N.gain (g h x : Rat) : N (g * x) (h * x) ((ra g + ra h) * ra x) := by
  have a := ra_nonneg g
  have b := ra_nonneg h
  have c := ra_nonneg x
  refine ⟨Rat.mul_nonneg (by grind) c, ?_⟩
  have e1 := ra_sq g
  have e2 := ra_sq h
  have e3 := ra_sq x
  have k := Rat.mul_nonneg (Rat.mul_nonneg a b) (square_nonneg (ra x))
  have : g * x * (g * x) + h * x * (h * x) = (ra g * ra g) * (ra x * ra x) + (ra h * ra h) * (ra x * ra x) := by rw [e1, e2, e3]; grind
  rw [this]
  grind

/-! ### trajectories -/
def psum (x : Nat → Rat) : Nat → Rat
  | 0 => 0
  | i + 1 => psum x i + ra (x i)
theorem psum_nonneg (x : Nat → Rat) : ∀ i, 0 ≤ psum x i
  | 0 => by simp [psum]
  | i + 1 => by have := psum_nonneg x i; have := ra_nonneg (x i); simp only [psum]; grind

/-- the states of a mode that is stepped exactly -/
def zt (c d g h : Rat) (x : Nat → Rat) : Nat → Rat × Rat
  | 0 => (0, 0)
  | i + 1 => ((zt c d g h x i).1 * c - (zt c d g h x i).2 * d + g * x i, (zt c d g h x i).1 * d + (zt c d g h x i).2 * c + h * x i)

theorem pole_T {c d : Rat} (hp : c * c + d * d ≤ 1 + 1 / 100000) : c * c + d * d ≤ (1 + 1 / 200000) * (1 + 1 / 200000) := by grind

/-- growth by at most one part in 200,000 a step -/
theorem grow (i : Nat) (hi : i < 2000) : (1 + (i : Rat) / 100000) * (1 + 1 / 200000) ≤ 1 + ((i + 1 : Nat) : Rat) / 100000 := by
  have h1 : (i : Rat) ≤ 2000 := by have : ((i : Nat) : Rat) ≤ ((2000 : Nat) : Rat) := by exact_mod_cast (by omega : i ≤ 2000)
                                   exact this
  have h2 : ((i + 1 : Nat) : Rat) = (i : Rat) + 1 := by exact_mod_cast rfl
  rw [h2]
  grind

theorem zt_N (c d g h : Rat) (x : Nat → Rat) (hp : c * c + d * d ≤ 1 + 1 / 100000) : ∀ i, i ≤ 2000 → N (zt c d g h x i).1 (zt c d g h x i).2 ((ra g + ra h) * psum x i * (1 + (i : Rat) / 100000))
  | 0, _ => by
    have : (ra g + ra h) * psum x 0 * (1 + ((0 : Nat) : Rat) / 100000) = 0 := by simp [psum]
    rw [this]; exact N.zero
  | i + 1, hi => by
    have ih := zt_N c d g h x hp i (by omega)
    have h1 := (ih.mul (show (0 : Rat) ≤ 1 + 1 / 200000 by grind) (pole_T hp)).add (N.gain g h (x i))
    refine (h1.eq rfl rfl).mono ?_
    have hG : 0 ≤ ra g + ra h := by have := ra_nonneg g; have := ra_nonneg h; grind
    have hP := psum_nonneg x i
    have hgr := grow i (by omega)
    have k1 := Rat.mul_le_mul_of_nonneg_left hgr (Rat.mul_nonneg hG hP)
    have hx := Rat.mul_nonneg hG (ra_nonneg (x i))
    have h2 : ((i + 1 : Nat) : Rat) = (i : Rat) + 1 := by exact_mod_cast rfl
    have hi0 : (0 : Rat) ≤ (i : Rat) := by exact_mod_cast Nat.zero_le i
    have k2 := Rat.mul_nonneg hx (show (0 : Rat) ≤ ((i : Rat) + 1) / 100000 by grind)
    rw [h2] at k1 ⊢
    simp only [psum]
    grind

/-- a mode that is stepped with errors of at most L in each part -/
theorem traj (c d g h : Rat) (x : Nat → Rat) (hp : c * c + d * d ≤ 1 + 1 / 100000) (s : Nat → Rat × Rat) (h0 : s 0 = (0, 0)) (X M L : Rat) (n : Nat) (hn : n ≤ 2000) (hL : 0 ≤ L)
    (hX : ∀ i, i ≤ n → psum x i ≤ X) (hM : 51 / 50 * ((ra g + ra h) * X + (n : Rat) * (3 / 2 * L)) ≤ M) (Q : Nat → Prop) (q0 : Q 0)
    (hstep : ∀ i, i < n → Q i → N (s i).1 (s i).2 M → Q (i + 1) ∧ Flo.Ab ((s (i + 1)).1 - ((s i).1 * c - (s i).2 * d + g * x i)) L ∧ Flo.Ab ((s (i + 1)).2 - ((s i).1 * d + (s i).2 * c + h * x i)) L) :
    ∀ i, i ≤ n → Q i ∧ N ((s i).1 - (zt c d g h x i).1) ((s i).2 - (zt c d g h x i).2) ((i : Rat) * (3 / 2 * L) * (1 + (i : Rat) / 100000)) ∧ N (s i).1 (s i).2 M := by
  have hG : 0 ≤ ra g + ra h := by have := ra_nonneg g; have := ra_nonneg h; grind
  have toM : ∀ i, i ≤ n → N ((s i).1 - (zt c d g h x i).1) ((s i).2 - (zt c d g h x i).2) ((i : Rat) * (3 / 2 * L) * (1 + (i : Rat) / 100000)) → N (s i).1 (s i).2 M := by
    intro i hi e
    have hz := zt_N c d g h x hp i (by omega)
    refine ((e.add hz).eq (by grind) (by grind)).mono ?_
    have hin : (i : Rat) ≤ (n : Rat) := by exact_mod_cast hi
    have hi2 : (i : Rat) ≤ 2000 := by
      have : ((i : Nat) : Rat) ≤ ((2000 : Nat) : Rat) := by exact_mod_cast (by omega : i ≤ 2000)
      exact this
    have hi0 : (0 : Rat) ≤ (i : Rat) := by exact_mod_cast Nat.zero_le i
    have f : 1 + (i : Rat) / 100000 ≤ 51 / 50 := by grind
    have a1 := Rat.mul_le_mul_of_nonneg_right hin (show 0 ≤ 3 / 2 * L by grind)
    have a2 := Rat.mul_nonneg hi0 (show 0 ≤ 3 / 2 * L by grind)
    have a3 := Rat.mul_le_mul_of_nonneg_left f a2
    have b1 := Rat.mul_le_mul_of_nonneg_left (hX i hi) hG
    have b2 := Rat.mul_nonneg hG (psum_nonneg x i)
    have b3 := Rat.mul_le_mul_of_nonneg_left f b2
    grind
  intro i
  induction i with
  | zero =>
    intro hi
    have e : N ((s 0).1 - (zt c d g h x 0).1) ((s 0).2 - (zt c d g h x 0).2) (((0 : Nat) : Rat) * (3 / 2 * L) * (1 + ((0 : Nat) : Rat) / 100000)) := by
      rw [h0]
      simp only [zt]
      have : ((0 : Nat) : Rat) * (3 / 2 * L) * (1 + ((0 : Nat) : Rat) / 100000) = 0 := by simp
      rw [this]
      exact N.zero.eq (by grind) (by grind)
    exact ⟨q0, e, toM 0 hi e⟩
  | succ i ih =>
    intro hi
    obtain ⟨q, e, hs⟩ := ih (by omega)
    obtain ⟨q', l1, l2⟩ := hstep i (by omega) q hs
    have e' : N ((s (i + 1)).1 - (zt c d g h x (i + 1)).1) ((s (i + 1)).2 - (zt c d g h x (i + 1)).2) (((i + 1 : Nat) : Rat) * (3 / 2 * L) * (1 + ((i + 1 : Nat) : Rat) / 100000)) := by
      have k := (e.mul (show (0 : Rat) ≤ 1 + 1 / 200000 by grind) (pole_T hp)).add (N.parts l1 l2)
      refine (k.eq ?_ ?_).mono ?_
      · simp only [zt]; grind
      · simp only [zt]; grind
      · have hgr := grow i (by omega)
        have hi0 : (0 : Rat) ≤ (i : Rat) := by exact_mod_cast Nat.zero_le i
        have a2 := Rat.mul_nonneg hi0 (show 0 ≤ 3 / 2 * L by grind)
        have a3 := Rat.mul_le_mul_of_nonneg_left hgr a2
        have h2 : ((i + 1 : Nat) : Rat) = (i : Rat) + 1 := by exact_mod_cast rfl
        have a4 := Rat.mul_nonneg (show 0 ≤ 3 / 2 * L by grind) (show (0 : Rat) ≤ ((i : Rat) + 1) / 100000 by grind)
        rw [h2] at a3 ⊢
        grind
    exact ⟨q', e', toM (i + 1) hi e'⟩

end Go.Proofs.YtiakcibeobbonaaGreat

/- The walk of RingDouble, where no NaN and no infinity is met: bit for bit.
   Conditions: those that each statement names. -/
namespace Go.Proofs.YtiakcibeobbonaaGreat
set_option linter.unusedSimpArgs false
set_option linter.unusedVariables false
open Go Go.RowKit

def stepAllD (ms : List M4) (ss : List (Nat × Nat)) (x : Nat) : List (Nat × Nat) := List.zipWith (fun m s => stepD m s x) ms ss
def outD (ss : List (Nat × Nat)) : Nat := ss.foldl (fun y s => opB .add .f64 y s.1) 0
def cellsD (ss : List (Nat × Nat)) : List Value := ss.map fun s => .complex .f64 s.1 s.2
def cellsF (xs : List Nat) : List Value := xs.map (Value.float .f64)
def SumDOk (ss : List (Nat × Nat)) : Prop := ∀ (k : Nat) s, ss[k]? = some s → Calm .add .f64 (outD (ss.take k)) s.1
theorem outD_take (ss : List (Nat × Nat)) (k : Nat) (s : Nat × Nat) (h : ss[k]? = some s) : outD (ss.take (k + 1)) = opB .add .f64 (outD (ss.take k)) s.1 := by
  obtain ⟨hk, he⟩ := List.getElem?_eq_some_iff.1 h
  rw [List.take_succ_eq_append_getElem hk, he]
  simp [outD, List.foldl_append]
def mixedD (ms : List M4) (ss : List (Nat × Nat)) (x k : Nat) : List (Nat × Nat) := (stepAllD ms ss x).take k ++ ss.drop k
theorem mixedD_at (ms : List M4) (ss : List (Nat × Nat)) (x k : Nat) (s : Nat × Nat) (hl : ms.length = ss.length) (h : ss[k]? = some s) : (cellsD (mixedD ms ss x k))[k]? = some (.complex .f64 s.1 s.2) := by
  have hk := (List.getElem?_eq_some_iff.1 h).1
  have hlen : ((stepAllD ms ss x).take k).length = k := by simp [stepAllD]; omega
  unfold mixedD cellsD
  rw [List.getElem?_map, List.getElem?_append_right (by omega), hlen, Nat.sub_self, List.getElem?_drop, Nat.add_zero, h]
  rfl
theorem stepAllD_at (ms : List M4) (ss : List (Nat × Nat)) (x k : Nat) (m : M4) (s : Nat × Nat) (hm : ms[k]? = some m) (hs : ss[k]? = some s) : (stepAllD ms ss x)[k]? = some (stepD m s x) := by
  unfold stepAllD; rw [List.getElem?_zipWith, hm, hs]
theorem mixedD_step (ms : List M4) (ss : List (Nat × Nat)) (x k : Nat) (m : M4) (s : Nat × Nat) (hm : ms[k]? = some m) (hs : ss[k]? = some s) :
    (cellsD (mixedD ms ss x k)).set k (.complex .f64 (stepD m s x).1 (stepD m s x).2) = cellsD (mixedD ms ss x (k + 1)) := by
  obtain ⟨hkm, -⟩ := List.getElem?_eq_some_iff.1 hm
  obtain ⟨hks, hse⟩ := List.getElem?_eq_some_iff.1 hs
  have hat := stepAllD_at ms ss x k m s hm hs
  obtain ⟨hka, hae⟩ := List.getElem?_eq_some_iff.1 hat
  unfold mixedD
  rw [List.take_succ_eq_append_getElem hka, hae, List.drop_eq_getElem_cons hks, hse]
  simp only [cellsD, List.map_append, List.map_cons, List.map_nil, List.append_assoc, List.singleton_append]
  rw [List.set_append_right _ _ (by simp [stepAllD]; omega)]
  simp [stepAllD, show k - min k (min ms.length ss.length) = 0 from by omega]
theorem mixedD_after (ms : List M4) (ss : List (Nat × Nat)) (x k : Nat) (m : M4) (s : Nat × Nat) (hm : ms[k]? = some m) (hs : ss[k]? = some s) :
    (cellsD (mixedD ms ss x (k + 1)))[k]? = some (.complex .f64 (stepD m s x).1 (stepD m s x).2) := by
  obtain ⟨hkm, -⟩ := List.getElem?_eq_some_iff.1 hm
  obtain ⟨hks, hse⟩ := List.getElem?_eq_some_iff.1 hs
  rw [← mixedD_step ms ss x k m s hm hs, List.getElem?_set_self]
  simp [cellsD, mixedD, stepAllD]; omega
theorem mixedD_full (ms : List M4) (ss : List (Nat × Nat)) (x : Nat) (hl : ms.length = ss.length) : mixedD ms ss x ms.length = stepAllD ms ss x := by
  unfold mixedD
  rw [List.take_of_length_le (by simp [stepAllD]; omega), List.drop_of_length_le (by omega), List.append_nil]

def stDAt (ms : List M4) (x : Nat → Nat) : Nat → List (Nat × Nat)
  | 0 => ms.map fun _ => (0, 0)
  | i + 1 => stepAllD ms (stDAt ms x i) (wid (x i))
theorem stDAt_len (ms : List M4) (x : Nat → Nat) : ∀ i, (stDAt ms x i).length = ms.length
  | 0 => by simp [stDAt]
  | i + 1 => by simp [stDAt, stepAllD, stDAt_len ms x i]
def RingDOk (ms : List M4) (x : Nat → Nat) (n : Nat) : Prop :=
  ∀ i, i < n → Sm (x i) ∧ (∀ (k : Nat) m s, ms[k]? = some m → (stDAt ms x i)[k]? = some s → StepDOk m s (wid (x i))) ∧ SumDOk (stDAt ms x (i + 1))
def ringD (ms : List M4) (x : Nat → Nat) (n : Nat) : List Nat := (List.range n).map fun i => outD (stDAt ms x (i + 1))

/-- the outputs when k steps are done, and the next one is y so far -/
def outsDAt (ms : List M4) (x : Nat → Nat) (n k y : Nat) : List Nat := ((ringD ms x n).take k ++ List.replicate (n - k) 0).set k y
theorem outsD_zero (ms : List M4) (x : Nat → Nat) (n : Nat) : cellsF (outsDAt ms x n 0 0) = List.replicate n (.float .f64 0) := by
  unfold outsDAt cellsF
  cases n <;> simp [List.replicate_succ]
theorem outsD_cell (ms : List M4) (x : Nat → Nat) (n k y : Nat) (h : k < n) : (cellsF (outsDAt ms x n k y))[k]? = some (.float .f64 y) := by
  unfold outsDAt cellsF
  rw [List.getElem?_map, List.getElem?_set_self (by simp [ringD]; omega)]; rfl
theorem outsD_set (ms : List M4) (x : Nat → Nat) (n k y z : Nat) : (cellsF (outsDAt ms x n k y)).set k (.float .f64 z) = cellsF (outsDAt ms x n k z) := by
  unfold outsDAt cellsF
  rw [List.map_set, List.set_set, List.map_set]
theorem outsD_next (ms : List M4) (x : Nat → Nat) (n k : Nat) (h : k < n) : outsDAt ms x n k (outD (stDAt ms x (k + 1))) = outsDAt ms x n (k + 1) 0 := by
  have hk : k < (ringD ms x n).length := by simpa [ringD] using h
  have hv : (ringD ms x n)[k] = outD (stDAt ms x (k + 1)) := by simp [ringD]
  unfold outsDAt
  rw [List.take_succ_eq_append_getElem hk, hv, show n - k = (n - (k + 1)) + 1 from by omega, List.replicate_succ]
  rw [List.set_append_right _ _ (by simp [ringD]; omega)]
  have e : k - ((ringD ms x n).take k).length = 0 := by simp [ringD]; omega
  rw [e, List.set_cons_zero, List.append_assoc, List.singleton_append]
  rw [List.set_append_right _ _ (by simp [ringD]; omega)]
  have e2 : k + 1 - ((ringD ms x n).take k).length = 1 := by simp [ringD]; omega
  rw [e2, List.set_cons_succ]
  congr 2
  cases hq : n - (k + 1) <;> simp [List.replicate_succ]
theorem outsD_full (ms : List M4) (x : Nat → Nat) (n : Nat) : outsDAt ms x n n 0 = ringD ms x n := by
  unfold outsDAt; rw [List.take_of_length_le (by simp [ringD]), Nat.sub_self, List.replicate_zero, List.append_nil, List.set_eq_of_length_le (by simp [ringD])]

theorem info_c128 : (Tryz.prog.info? 123).map (fun i => (i.zero, i.size, i.bytes)) = some (some (.complex .f64 0 0), 1, 16) := by kernel_rfl
theorem info_f64 : (Tryz.prog.info? 54).map (fun i => (i.zero, i.size, i.bytes)) = some (some (.float .f64 0), 1, 8) := by kernel_rfl

/-- what holds at the head of a round: k steps are done; the states of the next one are done for the first j modes -/
def RingDI (B bb gs gu n q : Nat) (ms : List M4) (x : Nat → Nat) (bv : Value) (w : World) (k j y : Nat) (wr : World) : Prop :=
  wr.ownsRow B 123 1 (.slice (some ⟨gs, 0, none⟩) q q) q (cellsD (mixedD ms (stDAt ms x k) (wid (x k)) j)) ∧
    wr.ownsRow B 54 1 (.slice (some ⟨gu, 0, none⟩) n n) n (cellsF (outsDAt ms x n k y)) ∧ Has1 wr bb bv ∧ Nw w wr

def RingDP (B : Nat) (outs : List Nat) (w : World) (e : Ending) (w' : World) : Prop :=
  ∃ v : Value, e = .returned (.tuple #[v, .bool true]) ∧ w'.ownsRow B 54 1 v outs.length (cellsF outs) ∧ Nw w w'

def OutI (B bb gs gu n q : Nat) (ms : List M4) (x : Nat → Nat) (bv : Value) (w : World) (i : Value) (wr : World) : Prop :=
  ∃ k : Nat, k ≤ n ∧ i = .int .i64 (k : Int) ∧ RingDI B bb gs gu n q ms x bv w k 0 0 wr
def InI (B bb gs gu n q : Nat) (ms : List M4) (x : Nat → Nat) (bv : Value) (w : World) (k : Nat) (i : Value) (wr : World) : Prop :=
  ∃ j : Nat, j ≤ q ∧ i = .int .i64 (j : Int) ∧ RingDI B bb gs gu n q ms x bv w k j (outD ((stepAllD ms (stDAt ms x k) (wid (x k))).take j)) wr

end Go.Proofs.YtiakcibeobbonaaGreat

/- Plain facts: ringing in single precision and in double precision stays near exact ringing. No program stands in it.
   Conditions: those that each statement names. -/
namespace Go.Proofs.YtiakcibeobbonaaGreat
set_option linter.unusedSimpArgs false
set_option linter.unusedVariables false
open Go

/-! ### one mode -/
def st1 (m : M4) (x : Nat → Nat) : Nat → Nat × Nat
  | 0 => (0, 0)
  | i + 1 => stepS m (st1 m x i) (x i)
def st1D (m : M4) (x : Nat → Nat) : Nat → Nat × Nat
  | 0 => (0, 0)
  | i + 1 => stepD m (st1D m x i) (wid (x i))
theorem zip_map (f : M4 → Nat × Nat → Nat × Nat) (g : M4 → Nat × Nat) : ∀ ms : List M4, List.zipWith f ms (ms.map g) = ms.map fun m => f m (g m)
  | [] => rfl
  | m :: ms => by simp [zip_map f g ms]
theorem stAt_map (ms : List M4) (x : Nat → Nat) : ∀ i, stAt ms x i = ms.map fun m => st1 m x i
  | 0 => rfl
  | i + 1 => by
    simp only [stAt, stepAll, stAt_map ms x i]
    exact zip_map (fun m s => stepS m s (x i)) (fun m => st1 m x i) ms
theorem stDAt_map (ms : List M4) (x : Nat → Nat) : ∀ i, stDAt ms x i = ms.map fun m => st1D m x i
  | 0 => rfl
  | i + 1 => by
    simp only [stDAt, stepAllD, stDAt_map ms x i]
    exact zip_map (fun m s => stepD m s (wid (x i))) (fun m => st1D m x i) ms

def gm (m : M4) : Rat := ra (S m.gr) + ra (S m.gi)
theorem gm_nonneg (m : M4) : 0 ≤ gm m := by unfold gm; have := ra_nonneg (S m.gr); have := ra_nonneg (S m.gi); grind
/-- bounds, by the product P of a mode's gain and the input's sum -/
def bM' (P : Rat) : Rat := 26 / 25 * P + 60000 * Flo.es
def bM (P : Rat) : Rat := 21 / 20 * P + 65536 * Flo.es
def bL (P : Rat) : Rat := (2 * bM P + 2 * P) * Flo.v + (bM P + bM' P + P) * Flo.v / 1024 + 6 * Flo.es
theorem bL_le (P : Rat) (hP : 0 ≤ P) : 0 ≤ bL P ∧ bL P ≤ 42 / 10 * (P * Flo.v) + 7 * Flo.es := by
  have ve := Flo.v_eq
  have hv : Flo.v = 1 / 16777216 := by grind
  have e0 := Flo.es_pos
  unfold bL bM bM'
  rw [hv]
  constructor <;> grind
theorem bM'_ok (P : Rat) (hP : 0 ≤ P) (n : Nat) (hn : n ≤ 2000) : 51 / 50 * (P + (n : Rat) * (3 / 2 * bL P)) ≤ bM' P := by
  obtain ⟨h0, h1⟩ := bL_le P hP
  have hn1 : (n : Rat) ≤ 2000 := by
    have : ((n : Nat) : Rat) ≤ ((2000 : Nat) : Rat) := by exact_mod_cast hn
    exact this
  have hn0 : (0 : Rat) ≤ (n : Rat) := by exact_mod_cast Nat.zero_le n
  have k := Rat.mul_le_mul_of_nonneg_right hn1 (show 0 ≤ 3 / 2 * bL P by grind)
  have ve := Flo.v_eq
  have hv : Flo.v = 1 / 16777216 := by grind
  have e0 := Flo.es_pos
  rw [hv] at h1
  unfold bM'
  grind

theorem bounds_110 (P : Rat) (hP : 0 ≤ P) (h : P ≤ Flo.pw 100) : bM' P ≤ Flo.pw 110 ∧ bM P ≤ Flo.pw 110 ∧ P ≤ Flo.pw 110 := by
  have l : Flo.pw 110 = 1024 * Flo.pw 100 := by rw [show (110 : Int) = 10 + 100 from rfl, Flo.pw_add, show Flo.pw 10 = 1024 from Flo.pw_nat 10]
  have o : 1 ≤ Flo.pw 100 := by rw [← Flo.pw_zero]; exact Flo.pw_le (by omega)
  have es1 := small'.es1
  have e0 := Flo.es_pos
  unfold bM bM'
  refine ⟨by grind, by grind, by grind⟩

theorem inner_le (x : Nat → Rat) (X : Rat) (n i : Nat) (hi : i < n) (hX : ∀ i, i ≤ n → psum x i ≤ X) : ra (x i) ≤ X := by
  have h := hX (i + 1) (by omega)
  have := psum_nonneg x i
  simp only [psum] at h
  grind

/-- what one step needs, from the bound on the state -/
theorem step_in (m : M4) (hm : m.ok) (a b y X : Rat) (hy : ra y ≤ X) (hN : N a b (bM' (gm m * X))) :
    Flo.Ab (a * S m.pr - b * S m.pi) (bM (gm m * X)) ∧ Flo.Ab (a * S m.pi + b * S m.pr) (bM (gm m * X)) ∧ Flo.Ab (S m.gr * y) (gm m * X) ∧ Flo.Ab (S m.gi * y) (gm m * X) ∧ 0 ≤ gm m * X := by
  have hX0 : 0 ≤ X := by have := ra_nonneg y; grind
  have hP := Rat.mul_nonneg (gm_nonneg m) hX0
  have e0 := Flo.es_pos
  have k := (hN.mul (show (0 : Rat) ≤ 1 + 1 / 200000 by grind) (pole_T (Valid.square hm))).mono (show bM' (gm m * X) * (1 + 1 / 200000) ≤ bM (gm m * X) by unfold bM' bM; grind)
  have g := (N.gain (S m.gr) (S m.gi) y).mono (show (ra (S m.gr) + ra (S m.gi)) * ra y ≤ gm m * X from Rat.mul_le_mul_of_nonneg_left hy (gm_nonneg m))
  exact ⟨k.ab.1, k.ab.2, g.ab.1, g.ab.2, hP⟩

theorem zero_single : Sm 0 ∧ S 0 = 0 := by
  have h : Ieee.single.read 0 = .number false 0 (-149) := by decide
  exact ⟨⟨_, _, _, h⟩, by rw [show S 0 = _ from Flo.V_eq h]; exact Flo.val_zero _ _⟩

theorem mode_single (m : M4) (hm : m.ok) (x : Nat → Nat) (n : Nat) (hn : n ≤ 2000) (hx : ∀ i, i < n → Sm (x i)) (X : Rat) (hX : ∀ i, i ≤ n → psum (fun j => S (x j)) i ≤ X) (hP : gm m * X ≤ Flo.pw 100) (hX0 : 0 ≤ X) :
    (∀ i, i ≤ n → (Sm (st1 m x i).1 ∧ Sm (st1 m x i).2) ∧ N (S (st1 m x i).1 - (zt (S m.pr) (S m.pi) (S m.gr) (S m.gi) (fun j => S (x j)) i).1) (S (st1 m x i).2 - (zt (S m.pr) (S m.pi) (S m.gr) (S m.gi) (fun j => S (x j)) i).2) ((i : Rat) * (3 / 2 * bL (gm m * X)) * (1 + (i : Rat) / 100000)) ∧
      N (S (st1 m x i).1) (S (st1 m x i).2) (bM' (gm m * X))) ∧ ∀ i, i < n → StepOk m (st1 m x i) (x i) := by
  have hP0 := Rat.mul_nonneg (gm_nonneg m) hX0
  obtain ⟨t1, t2, t3⟩ := bounds_110 _ hP0 hP
  have l2 := Flo.pw_le (show (110 : Int) ≤ 112 by omega)
  have one : ∀ i, i < n → (Sm (st1 m x i).1 ∧ Sm (st1 m x i).2) → N (S (st1 m x i).1) (S (st1 m x i).2) (bM' (gm m * X)) → StepOk m (st1 m x i) (x i) ∧ (Sm (st1 m x (i + 1)).1 ∧ Sm (st1 m x (i + 1)).2) ∧
      Flo.Ab (S (st1 m x (i + 1)).1 - (S (st1 m x i).1 * S m.pr - S (st1 m x i).2 * S m.pi + S m.gr * S (x i))) (bL (gm m * X)) ∧ Flo.Ab (S (st1 m x (i + 1)).2 - (S (st1 m x i).1 * S m.pi + S (st1 m x i).2 * S m.pr + S m.gi * S (x i))) (bL (gm m * X)) := by
    intro i hi q hN
    obtain ⟨k1, k2, k3, k4, -⟩ := step_in m hm _ _ (S (x i)) X (inner_le (fun j => S (x j)) X n i hi hX) hN
    obtain ⟨a1, a2, a3, a4, a5⟩ := step_ok m hm (st1 m x i) (x i) q.1 q.2 (hx i hi) (bM' (gm m * X)) (bM (gm m * X)) (gm m * X) hN.ab.1 hN.ab.2 k1 k2 k3 k4 t1 (by grind) (by grind)
    exact ⟨a1, ⟨a2, a3⟩, a4.mono (by unfold bL; exact Rat.le_refl), a5.mono (by unfold bL; exact Rat.le_refl)⟩
  have tr := traj (S m.pr) (S m.pi) (S m.gr) (S m.gi) (fun j => S (x j)) (Valid.square hm) (fun i => (S (st1 m x i).1, S (st1 m x i).2)) (by simp only [st1]; rw [zero_single.2]) X (bM' (gm m * X)) (bL (gm m * X)) n hn (bL_le _ hP0).1 hX (bM'_ok _ hP0 n hn) (fun i => Sm (st1 m x i).1 ∧ Sm (st1 m x i).2) ⟨zero_single.1, zero_single.1⟩ (fun i hi q hN => (one i hi q hN).2)
  exact ⟨tr, fun i hi => (one i hi (tr i (by omega)).1 (tr i (by omega)).2.2).1⟩

theorem mode_double (m : M4) (hm : m.ok) (x : Nat → Nat) (n : Nat) (hn : n ≤ 2000) (hx : ∀ i, i < n → Sm (x i)) (X : Rat) (hX : ∀ i, i ≤ n → psum (fun j => S (x j)) i ≤ X) (hP : gm m * X ≤ Flo.pw 100) (hX0 : 0 ≤ X) :
    (∀ i, i ≤ n → (Flo.Nm (st1D m x i).1 ∧ Flo.Nm (st1D m x i).2) ∧ N (Flo.W (st1D m x i).1 - (zt (S m.pr) (S m.pi) (S m.gr) (S m.gi) (fun j => S (x j)) i).1) (Flo.W (st1D m x i).2 - (zt (S m.pr) (S m.pi) (S m.gr) (S m.gi) (fun j => S (x j)) i).2) ((i : Rat) * (3 / 2 * bL (gm m * X)) * (1 + (i : Rat) / 100000)) ∧
      N (Flo.W (st1D m x i).1) (Flo.W (st1D m x i).2) (bM' (gm m * X))) ∧ ∀ i, i < n → StepDOk m (st1D m x i) (wid (x i)) := by
  have hP0 := Rat.mul_nonneg (gm_nonneg m) hX0
  obtain ⟨t1, t2, t3⟩ := bounds_110 _ hP0 hP
  have l2 := Flo.pw_le (show (110 : Int) ≤ 112 by omega)
  have one : ∀ i, i < n → (Flo.Nm (st1D m x i).1 ∧ Flo.Nm (st1D m x i).2) → N (Flo.W (st1D m x i).1) (Flo.W (st1D m x i).2) (bM' (gm m * X)) → StepDOk m (st1D m x i) (wid (x i)) ∧ (Flo.Nm (st1D m x (i + 1)).1 ∧ Flo.Nm (st1D m x (i + 1)).2) ∧
      Flo.Ab (Flo.W (st1D m x (i + 1)).1 - (Flo.W (st1D m x i).1 * S m.pr - Flo.W (st1D m x i).2 * S m.pi + S m.gr * S (x i))) (bL (gm m * X)) ∧ Flo.Ab (Flo.W (st1D m x (i + 1)).2 - (Flo.W (st1D m x i).1 * S m.pi + Flo.W (st1D m x i).2 * S m.pr + S m.gi * S (x i))) (bL (gm m * X)) := by
    intro i hi q hN
    obtain ⟨k1, k2, k3, k4, -⟩ := step_in m hm _ _ (S (x i)) X (inner_le (fun j => S (x j)) X n i hi hX) hN
    obtain ⟨nx, vx⟩ := wid_num (hx i hi)
    rw [← vx] at k3 k4
    obtain ⟨a1, a2, a3, a4, a5⟩ := stepD_ok m hm (st1D m x i) (wid (x i)) q.1 q.2 nx (bM' (gm m * X)) (bM (gm m * X)) (gm m * X) hN.ab.1 hN.ab.2 k1 k2 k3 k4 t1 (by grind) (by grind)
    rw [vx] at a4 a5
    exact ⟨a1, ⟨a2, a3⟩, a4.mono (by unfold bL; exact Rat.le_refl), a5.mono (by unfold bL; exact Rat.le_refl)⟩
  have tr := traj (S m.pr) (S m.pi) (S m.gr) (S m.gi) (fun j => S (x j)) (Valid.square hm) (fun i => (Flo.W (st1D m x i).1, Flo.W (st1D m x i).2)) (by simp only [st1D]; rw [zero_num.2]) X (bM' (gm m * X)) (bL (gm m * X)) n hn (bL_le _ hP0).1 hX (bM'_ok _ hP0 n hn) (fun i => Flo.Nm (st1D m x i).1 ∧ Flo.Nm (st1D m x i).2) ⟨zero_num.1, zero_num.1⟩ (fun i hi q hN => (one i hi q hN).2)
  exact ⟨tr, fun i hi => (one i hi (tr i (by omega)).1 (tr i (by omega)).2.2).1⟩

end Go.Proofs.YtiakcibeobbonaaGreat

/- Equal numbers, 0 and -0 alike: every operation takes equal numbers to equal numbers; what is read decides what an operation gives. No program stands in it.
   Conditions: none beyond those that each statement names. -/
namespace Go.Proofs.YtiakcibeobbonaaGreat
set_option linter.unusedSimpArgs false
set_option linter.unusedVariables false
open Go
namespace Flo
open Ieee

def Zr (f : Format) (a : Nat) : Prop := ∃ s p, f.read a = .number s 0 p
/-- the same bits, or two zeros -/
def Ev (f : Format) (a b : Nat) : Prop := a = b ∨ (Zr f a ∧ Zr f b)
theorem Ev.refl (f : Format) (a : Nat) : Ev f a a := .inl rfl
theorem Ev.symm {f : Format} {a b : Nat} (h : Ev f a b) : Ev f b a := by
  rcases h with rfl | ⟨h1, h2⟩
  · exact .inl rfl
  · exact .inr ⟨h2, h1⟩
theorem Ev.trans {f : Format} {a b c : Nat} (h : Ev f a b) (k : Ev f b c) : Ev f a c := by
  rcases h with rfl | ⟨h1, h2⟩
  · exact k
  · rcases k with rfl | ⟨k1, k2⟩
    · exact .inr ⟨h1, h2⟩
    · exact .inr ⟨h1, k2⟩
theorem Ev.zr {f : Format} {a b : Nat} (h : Ev f a b) (k : Zr f b) : Zr f a := by
  rcases h with rfl | ⟨h1, h2⟩
  · exact k
  · exact h1
def EvO (f : Format) : Option Nat → Option Nat → Prop
  | none, none => True
  | some a, some b => Ev f a b
  | _, _ => False
theorem EvO.refl (f : Format) (a : Option Nat) : EvO f a a := by cases a <;> simp [EvO, Ev.refl]
theorem EvO.trans {f : Format} {a b c : Option Nat} (h : EvO f a b) (k : EvO f b c) : EvO f a c := by
  cases a <;> cases b <;> cases c <;> simp only [EvO] at * <;> first | trivial | contradiction | exact Ev.trans h k
theorem EvO.getD {f : Format} {a b : Option Nat} (h : EvO f a b) : Ev f (a.getD 0) (b.getD 0) := by
  cases a <;> cases b <;> simp only [EvO] at h <;> first | contradiction | exact Ev.refl f _ | exact h

theorem write_zero (f : Format) (s : Bool) (p : Int) : Zr f (f.write (.number s 0 p)) := by
  refine ⟨s, f.leastPlace, ?_⟩
  show f.read (f.nearest s 0 p) = _
  have : f.nearest s 0 p = f.word s 0 := by unfold Format.nearest; simp
  rw [this, zero_read]

/-- of equal numbers other than 0 the same word is written -/
theorem write_same (f : Format) (s : Bool) (m n : Nat) (p q : Int) (hm : m ≠ 0) (h : (m : Rat) * pw p = (n : Rat) * pw q) : f.write (.number s m p) = f.write (.number s n q) := by
  have hn : n ≠ 0 := by
    intro hn; subst hn
    exact hm (mag_zero (by rw [h]; simp))
  show f.nearest s m p = f.nearest s n q
  rw [nearest_eq f s m p hm, nearest_eq f s n q hn]
  have z1 := size_pw m p hm
  have z2 := size_pw n q hn
  have l1 : p + (m.log2 : Int) < q + n.log2 + 1 := lt_of_pw_lt (by grind)
  have l2 : q + (n.log2 : Int) < p + m.log2 + 1 := lt_of_pw_lt (by grind)
  have hl : lastOf f m p = lastOf f n q := by unfold lastOf; omega
  have k1 := kept_mono f s s m n p q hm hn (by rw [h]; exact Rat.le_refl)
  have k2 := kept_mono f s s n m q p hn hm (by rw [h]; exact Rat.le_refl)
  rw [hl] at k1 k2
  have hp := pw_pos (lastOf f n q)
  have e1 : keptOf f s m p ≤ keptOf f s n q := le_nat_of _ _ (lastOf f n q) (by grind)
  have e2 : keptOf f s n q ≤ keptOf f s m p := le_nat_of _ _ (lastOf f n q) (by grind)
  have e3 : keptOf f s m p = keptOf f s n q := by omega
  unfold rungOf
  rw [hl, e3]

theorem write_ev (f : Format) (s t : Bool) (m n : Nat) (p q : Int) (h : val s m p = val t n q) : Ev f (f.write (.number s m p)) (f.write (.number t n q)) := by
  have hm0 := mag_nonneg m p
  have hn0 := mag_nonneg n q
  by_cases hm : m = 0
  · subst hm
    have hn : n = 0 := by
      rw [val_zero] at h
      apply mag_zero (p := q)
      unfold val at h
      cases t <;> simp at h <;> grind
    subst hn
    exact .inr ⟨write_zero f s p, write_zero f t q⟩
  · have hmp : 0 < (m : Rat) * pw p := by
      rcases Classical.em ((m : Rat) * pw p ≤ 0) with h0 | h0
      · exact absurd (mag_zero h0) hm
      · grind
    have hst : s = t := by
      unfold val at h
      cases s <;> cases t <;> simp at h <;> first | rfl | (exfalso; grind)
    subst hst
    left
    apply write_same f s m n p q hm
    unfold val at h
    cases s <;> simp at h <;> grind

/-! ### the operations -/
theorem sum_zero (f : Format) (s t : Bool) (p q : Int) (d : Datum) : EvO f ((Datum.sum (.number s 0 p) d).map f.write) ((Datum.sum (.number t 0 q) d).map f.write) := by
  cases d with
  | nan a b => simp [Datum.sum, EvO]
  | infinity a => simp [Datum.sum, EvO, Ev.refl]
  | number u n j =>
    obtain ⟨a, k, b, h1, h2⟩ := sum_val s u 0 n p j
    obtain ⟨a', k', b', h1', h2'⟩ := sum_val t u 0 n q j
    rw [h1, h1']
    show Ev f _ _
    apply write_ev
    rw [h2, h2', val_zero, val_zero]
theorem sum_comm (a b : Datum) : a.sum b = b.sum a := by
  cases a <;> cases b <;> simp only [Datum.sum]
  · rename_i s m i t n j
    congr 2
    · rw [Int.min_comm, Int.add_comm]
      split <;> simp [Bool.and_comm]
    · rw [Int.min_comm, Int.add_comm]
    · exact Int.min_comm _ _
  · rename_i s t
    by_cases h : s = t
    · subst h; rfl
    · rw [if_neg h, if_neg (fun e => h e.symm)]
theorem add_ev_left (f : Format) (x x' y : Nat) (h : Ev f x x') : EvO f (f.add x y) (f.add x' y) := by
  rcases h with rfl | ⟨⟨s, p, h1⟩, ⟨t, q, h2⟩⟩
  · exact EvO.refl f _
  · unfold Format.add; rw [h1, h2]; exact sum_zero f s t p q _
theorem add_comm' (f : Format) (x y : Nat) : f.add x y = f.add y x := by unfold Format.add; rw [sum_comm]
theorem add_ev (f : Format) (x x' y y' : Nat) (h : Ev f x x') (k : Ev f y y') : EvO f (f.add x y) (f.add x' y') :=
  (add_ev_left f x x' y h).trans (by rw [add_comm' f x' y, add_comm' f x' y']; exact add_ev_left f y y' x' k)
theorem sub_ev (f : Format) (x x' y y' : Nat) (h : Ev f x x') (k : Ev f y y') : EvO f (f.sub x y) (f.sub x' y') := by
  refine EvO.trans (b := f.sub x' y) ?_ ?_
  · rcases h with rfl | ⟨⟨s, p, h1⟩, ⟨t, q, h2⟩⟩
    · exact EvO.refl f _
    · unfold Format.sub; rw [h1, h2]; exact sum_zero f s t p q _
  · rcases k with rfl | ⟨⟨s, p, h1⟩, ⟨t, q, h2⟩⟩
    · exact EvO.refl f _
    · unfold Format.sub; rw [h1, h2]
      show EvO f ((Datum.sum _ (.number (!s) 0 p)).map f.write) ((Datum.sum _ (.number (!t) 0 q)).map f.write)
      rw [sum_comm, sum_comm (f.read x')]
      exact sum_zero f _ _ p q _
theorem product_comm (a b : Datum) : a.product b = b.product a := by
  cases a <;> cases b <;> simp only [Datum.product, Bool.xor_comm, Nat.mul_comm, Int.add_comm]
theorem mul_comm' (f : Format) (x y : Nat) : f.mul x y = f.mul y x := by unfold Format.mul; rw [product_comm]
theorem mul_ev_left (f : Format) (x x' y : Nat) (h : Ev f x x') : EvO f (f.mul x y) (f.mul x' y) := by
  rcases h with rfl | ⟨⟨s, p, h1⟩, ⟨t, q, h2⟩⟩
  · exact EvO.refl f _
  · unfold Format.mul; rw [h1, h2]
    cases f.read y with
    | nan a b => simp [Datum.product, EvO]
    | infinity a => simp [Datum.product, EvO]
    | number u n j =>
      simp only [Datum.product, Nat.zero_mul, Option.map_some]
      exact .inr ⟨write_zero f _ _, write_zero f _ _⟩
theorem mul_ev (f : Format) (x x' y y' : Nat) (h : Ev f x x') (k : Ev f y y') : EvO f (f.mul x y) (f.mul x' y') :=
  (mul_ev_left f x x' y h).trans (by rw [mul_comm' f x' y, mul_comm' f x' y']; exact mul_ev_left f y y' x' k)
theorem mul_zr {f : Format} {x y : Nat} (h : Zr f x) (k : IsNum f y) : ∃ r, f.mul x y = some r ∧ Zr f r := by
  obtain ⟨s, p, h⟩ := h
  obtain ⟨t, n, j, k⟩ := k
  refine ⟨_, by unfold Format.mul; rw [h, k]; simp only [Datum.product, Nat.zero_mul]; rfl, write_zero f _ _⟩
theorem add_zr {f : Format} {x y : Nat} (h : Zr f x) (k : Zr f y) : ∃ r, f.add x y = some r ∧ Zr f r := by
  obtain ⟨s, p, h⟩ := h
  obtain ⟨t, q, k⟩ := k
  obtain ⟨a, c, b, h1, h2⟩ := sum_val s t 0 0 p q
  rw [val_zero, val_zero] at h2
  have hc : c = 0 := by
    apply mag_zero (p := b)
    unfold val at h2
    have := mag_nonneg c b
    cases a <;> simp at h2 <;> grind
  subst hc
  exact ⟨_, by unfold Format.add; rw [h, k, h1]; rfl, write_zero f _ _⟩
theorem sub_zr {f : Format} {x y : Nat} (h : Zr f x) (k : Zr f y) : ∃ r, f.sub x y = some r ∧ Zr f r := by
  obtain ⟨s, p, h⟩ := h
  obtain ⟨t, q, k⟩ := k
  obtain ⟨a, c, b, h1, h2⟩ := sum_val s (!t) 0 0 p q
  rw [val_zero, val_zero] at h2
  have hc : c = 0 := by
    apply mag_zero (p := b)
    unfold val at h2
    have := mag_nonneg c b
    cases a <;> simp at h2 <;> grind
  subst hc
  exact ⟨_, by unfold Format.sub; rw [h, k]; show (Datum.sum _ (.number (!t) 0 q)).map f.write = _; rw [h1]; rfl, write_zero f _ _⟩

/-- what is read is written, and read, as it is -/
theorem read_back (f : Format) (hbi : f.binade ≤ f.infRung) {b : Nat} {s : Bool} {m : Nat} {p : Int} (h : f.read b = .number s m p) : f.read (f.write (.number s m p)) = .number s m p := by
  have hb := bin_pos f
  have hbb : f.binade = 2 ^ f.fractionBits := rfl
  by_cases hm : m = 0
  · subst hm
    have hp : p = f.leastPlace := by
      unfold Format.read at h
      simp only at h
      split at h
      · injection h with a b c; exact c.symm
      · split at h
        · injection h with a b c; omega
        · split at h <;> cases h
    subst hp
    show f.read (f.nearest s 0 f.leastPlace) = _
    have : f.nearest s 0 f.leastPlace = f.word s 0 := by unfold Format.nearest; simp
    rw [this, zero_read]
  · -- the rung
    obtain ⟨r, hr, hrd⟩ : ∃ r, r < f.infRung ∧ (if r < f.binade then Datum.number s r f.leastPlace else .number s (f.binade + r % f.binade) (f.leastPlace + (r / f.binade - 1 : Nat))) = .number s m p := by
      unfold Format.read at h
      simp only at h
      by_cases h1 : b % f.signWeight < f.binade
      · rw [if_pos h1] at h
        injection h with a1 a2 a3
        refine ⟨b % f.signWeight, ?_, by rw [if_pos h1, a2, a3]⟩
        omega
      · rw [if_neg h1] at h
        by_cases h2 : b % f.signWeight < f.infRung
        · rw [if_pos h2] at h
          injection h with a1 a2 a3
          exact ⟨b % f.signWeight, h2, by rw [if_neg h1, a2, a3]⟩
        · rw [if_neg h2] at h
          split at h <;> cases h
    have hw : f.write (.number s m p) = f.word s r := by
      show f.nearest s m p = _
      rw [nearest_eq f s m p hm]
      by_cases h1 : r < f.binade
      · rw [if_pos h1] at hrd
        injection hrd with a1 a2 a3
        subst a2; subst a3
        have hl : lastOf f r f.leastPlace = f.leastPlace := by
          have : r.log2 < f.fractionBits := (Nat.log2_lt hm).2 (by rw [← hbb]; exact h1)
          unfold lastOf; omega
        have hk : keptOf f s r f.leastPlace = r := by
          unfold keptOf; rw [hl]; simp [Toward.cut, Nat.mod_one]
        unfold rungOf
        rw [hl, hk, Int.sub_self, Int.toNat_zero, Nat.zero_mul, Nat.zero_add, Nat.min_eq_left (Nat.le_of_lt hr)]
      · rw [if_neg h1] at hrd
        injection hrd with a1 a2 a3
        have hlt := Nat.mod_lt r hb
        have hlog : m.log2 = f.fractionBits := by
          have h3 : m < 2 ^ (f.fractionBits + 1) := by rw [Nat.pow_succ, ← hbb]; omega
          have h4 : 2 ^ f.fractionBits ≤ m := by rw [← hbb]; omega
          have h5 := (Nat.log2_lt hm).2 h3
          have h6 := (Nat.le_log2 hm).2 h4
          omega
        have hl : lastOf f m p = p := by unfold lastOf; omega
        have hk : keptOf f s m p = m := by
          unfold keptOf; rw [hl]; simp [Toward.cut, Nat.mod_one]
        have hdiv := Nat.div_add_mod r f.binade
        have hq : 1 ≤ r / f.binade := Nat.div_pos (by omega) hb
        unfold rungOf
        rw [hl, hk]
        have e1 : (p - f.leastPlace).toNat = r / f.binade - 1 := by omega
        rw [e1]
        have e2 : (r / f.binade - 1) * f.binade + m = r := by
          rw [Nat.sub_mul, Nat.one_mul, ← a2]
          have e3 : r / f.binade * f.binade = f.binade * (r / f.binade) := Nat.mul_comm _ _
          have e4 : f.binade ≤ f.binade * (r / f.binade) := Nat.le_mul_of_pos_right _ hq
          omega
        rw [e2, Nat.min_eq_left (Nat.le_of_lt hr)]
    rw [hw, read_word f s hr]
    exact hrd
end Flo
end Go.Proofs.YtiakcibeobbonaaGreat

/- Plain facts: a number of single precision with its sign turned.
   Conditions: those that each statement names. No program stands in it. -/
namespace Go.Proofs.YtiakcibeobbonaaGreat
set_option linter.unusedSimpArgs false
set_option linter.unusedVariables false
open Go

abbrev ng (b : Nat) : Nat := Op.negFloat .f32 b
theorem ng_eq (b : Nat) : ng b = b ^^^ 2 ^ 31 := rfl
theorem ng_ng (b : Nat) : ng (ng b) = b := by rw [ng_eq, ng_eq, Nat.xor_assoc, Nat.xor_self, Nat.xor_zero]
theorem ng_mod (b : Nat) : ng b % 2 ^ 31 = b % 2 ^ 31 := by
  rw [ng_eq, Nat.xor_mod_two_pow]
  simp
theorem ng_bit (b : Nat) : (ng b / 2 ^ 31 % 2 == 1) = !(b / 2 ^ 31 % 2 == 1) := by
  have h1 := Nat.testBit_xor b (2 ^ 31) 31
  have h2 : (2 ^ 31 : Nat).testBit 31 = true := by decide
  rw [h2] at h1
  rw [Nat.testBit_eq_decide_div_mod_eq, Nat.testBit_eq_decide_div_mod_eq] at h1
  rw [ng_eq]
  have e : ∀ z : Nat, (z == 1) = decide (z = 1) := fun z => by by_cases hz : z = 1 <;> simp [hz]
  rw [e, e, h1]
  cases decide (b / 2 ^ 31 % 2 = 1) <;> rfl
theorem ng_read (b : Nat) {s : Bool} {m : Nat} {p : Int} (h : Ieee.single.read b = .number s m p) : Ieee.single.read (ng b) = .number (!s) m p := by
  have hsw : Ieee.single.signWeight = 2 ^ 31 := rfl
  unfold Ieee.Format.read at h ⊢
  rw [hsw] at h ⊢
  simp only [ng_mod, ng_bit] at h ⊢
  split at h
  · rename_i g; cases h; rw [if_pos g]
  · rename_i g
    split at h
    · rename_i g2; cases h; rw [if_neg g, if_pos g2]
    · split at h <;> cases h
theorem ng_val {b : Nat} (h : Sm b) : Sm (ng b) ∧ S (ng b) = - S b := by
  obtain ⟨s, m, p, h⟩ := h
  refine ⟨⟨_, _, _, ng_read b h⟩, ?_⟩
  rw [show S (ng b) = Flo.val (!s) m p from Flo.V_eq (ng_read b h), show S b = Flo.val s m p from Flo.V_eq h]
  unfold Flo.val
  cases s <;> simp <;> grind
end Go.Proofs.YtiakcibeobbonaaGreat

/- Plain facts on the energy and the peak of finite samples: the peak is at least each sample's absolute value, and one's own; the energy is at least each square.
   Conditions: those that each statement names. No program stands in it. -/
namespace Go.Proofs.YtiakcibeobbonaaGreat
set_option linter.unusedSimpArgs false
set_option linter.unusedVariables false
open Go

theorem sm_nn {b : Nat} (h : Sm b) : nan32 b = false := by
  obtain ⟨s, m, p, h⟩ := h
  unfold nan32
  rw [show FloatKind.f32.decode b = _ from h]; rfl

namespace Flo
open Ieee
theorem add_ge (x y : Nat) (hx : Nm x) (hy : Nm y) (x0 : 0 ≤ W x) (y0 : 0 ≤ W y) (hB : W x + W y < pw 1023) : ∃ r, floatBits .add .f64 x y = some r ∧ Nm r ∧ W x ≤ W r := by
  obtain ⟨s, m, i, hx⟩ := hx
  obtain ⟨t, n, j, hy⟩ := hy
  have ex : W x = val s m i := V_eq hx
  have ey : W y = val t n j := V_eq hy
  rw [ex] at x0 hB ⊢
  rw [ey] at y0 hB
  obtain ⟨q, k, b, h3, h4⟩ := sum_val s t m n i j
  have he : floatBits .add .f64 x y = some (Ieee.double.write (.number q k b)) := by
    show Ieee.double.add x y = _
    unfold Format.add
    rw [hx, hy, h3]; rfl
  have rx : ra (val s m i) = val s m i := by unfold ra; rw [if_neg (by grind)]
  have rq : ra (val q k b) = val q k b := by unfold ra; rw [if_neg (by rw [h4]; grind)]
  rw [val_ra] at rx rq
  obtain ⟨m', p', n', q', k1, k2, k3⟩ := write_mono Ieee.double (by decide) s q m k i b (by rw [rx, rq, h4]; grind) (by rw [rq, h4, top_double]; exact hB)
  have k0 := read_back Ieee.double (by decide) hx
  rw [k0] at k1
  injection k1 with _ e1 e2
  rw [← e1, ← e2] at k3
  refine ⟨_, he, ⟨_, _, _, k2⟩, ?_⟩
  rw [show W (Ieee.double.write (.number q k b)) = _ from V_eq k2]
  cases q with
  | false =>
    unfold val at rx ⊢
    simp only [Bool.false_eq_true, if_false] at rx ⊢
    grind
  | true =>
    have hk : (k : Rat) * pw b = 0 := by
      have a1 := mag_nonneg k b
      have : val true k b = -((k : Rat) * pw b) := by unfold val; simp; grind
      grind
    have k0' : k = 0 := mag_zero (p := b) (by grind)
    obtain ⟨z1, z2, z3⟩ := write_zero Ieee.double true b
    subst k0'
    rw [k2] at z3
    injection z3 with _ e3 e4
    subst e3
    rw [val_zero] at h4 ⊢
    grind
end Flo

/-- the square of a sample, in double precision -/
def sqB (x : Nat) : Nat := (floatBits .mul .f64 (wid x) (wid x)).getD 0
theorem sq_ok {x : Nat} (hx : Sm x) : floatBits .mul .f64 (wid x) (wid x) = some (sqB x) ∧ Flo.Nm (sqB x) ∧ 0 ≤ Flo.W (sqB x) ∧ Flo.W (sqB x) ≤ 2 * Flo.pw 256 := by
  obtain ⟨n, v⟩ := wid_num hx
  have a := single_abs hx
  have hm := a.mul a
  have e256 : Flo.pw 128 * Flo.pw 128 = Flo.pw 256 := by rw [← Flo.pw_add]; rfl
  rw [e256, ← v] at hm
  have l1 : Flo.pw 256 < Flo.pw 1023 := Flo.pw_lt (by omega)
  have p0 : 1 ≤ Flo.pw 256 := by rw [← Flo.pw_zero]; exact Flo.pw_le (by omega)
  have u1 := Flo.u_le
  have u0 := Flo.u_pos
  have eu : Flo.et ≤ Flo.u := Flo.pw_le (by omega)
  obtain ⟨r1, q1, q2, q3⟩ := Flo.d_mul (wid x) (wid x) n n _ hm l1
  have u2 : Flo.u ≤ 1 / 1048576 := by grind
  have hP := Rat.mul_le_mul_of_nonneg_left u2 (show (0 : Rat) ≤ Flo.pw 256 by grind)
  have hr1 : Flo.Ab (Flo.W r1) (2 * Flo.pw 256) := ((q3.add hm).eq (by grind)).mono (by grind)
  have e : sqB x = r1 := by unfold sqB; rw [q1]; rfl
  obtain ⟨r, g1, g2⟩ := Flo.self_pos Ieee.double (by decide) (wid x) n (by
    show ra (Flo.W (wid x) * Flo.W (wid x)) < _
    rw [Flo.top_double]
    have := ra_le hm
    grind)
  have e2 : r = r1 := by
    have : some r = some r1 := g1.symm.trans q1
    injection this
  rw [e]
  exact ⟨q1, q2, by rw [← e2]; exact g2, hr1.2⟩

theorem en_one (s x : Nat) (k : Nat) (hk : k ≤ 1000) (hs : Flo.Nm s) (h0 : 0 ≤ Flo.W s) (hb : Flo.W s ≤ (k : Rat) * enB) (hx : Sm x) :
    ∃ r, fA .add .f64 (some s) (fA .mul .f64 (wA x) (wA x)) = some r ∧ Flo.Nm r ∧ Flo.W r ≤ ((k + 1 : Nat) : Rat) * enB ∧ Flo.W s ≤ Flo.W r ∧ Flo.W (sqB x) ≤ Flo.W r := by
  obtain ⟨q1, q2, q3, q4⟩ := sq_ok hx
  have hwa : wA x = some (wid x) := by unfold wA; rw [sm_nn hx]; rfl
  obtain ⟨r, a1, a2, a3⟩ := en_step s x k hk hs ⟨by have h1 : (0 : Rat) ≤ (k : Rat) * enB := (by grind); grind, hb⟩ hx
  have e0 : fA .add .f64 (some s) (fA .mul .f64 (wA x) (wA x)) = floatBits .add .f64 s (sqB x) := by
    rw [hwa]
    show fA .add .f64 (some s) (floatBits .mul .f64 (wid x) (wid x)) = _
    rw [q1]; rfl
  have k1 : (k : Rat) ≤ 1000 := by
    have : ((k : Nat) : Rat) ≤ ((1000 : Nat) : Rat) := by exact_mod_cast hk
    exact this
  have l3 : Flo.pw 280 < Flo.pw 1023 := Flo.pw_lt (by omega)
  have l4 : Flo.pw 280 = 1048576 * Flo.pw 260 := by rw [show (280 : Int) = 20 + 260 from rfl, Flo.pw_add, show Flo.pw 20 = 1048576 from Flo.pw_nat 20]
  have l2 : Flo.pw 260 = 16 * Flo.pw 256 := by rw [show (260 : Int) = 4 + 256 from rfl, Flo.pw_add, show Flo.pw 4 = 16 from Flo.pw_nat 4]
  have p0 := Flo.pw_pos 260
  have hkb : (k : Rat) * enB ≤ 1000 * enB := Rat.mul_le_mul_of_nonneg_right k1 (by unfold enB; grind)
  have hB : Flo.W s + Flo.W (sqB x) < Flo.pw 1023 := by unfold enB at *; grind
  obtain ⟨r1, b1, b2, b3⟩ := Flo.add_ge s (sqB x) hs q2 h0 q3 hB
  obtain ⟨r2, c1, c2, c3⟩ := Flo.add_ge (sqB x) s q2 hs q3 h0 (by grind)
  have c1' : floatBits .add .f64 s (sqB x) = some r2 := by
    have := Flo.add_comm' Ieee.double s (sqB x)
    exact (show floatBits .add .f64 s (sqB x) = floatBits .add .f64 (sqB x) s from this).trans c1
  rw [e0, b1] at a1
  rw [b1] at c1'
  injection a1 with a1
  injection c1' with c1'
  subst a1; subst c1'
  exact ⟨r1, by rw [e0, b1], a2, a3.2, b3, c3⟩
theorem en_ge : ∀ (zs : List Nat) (s k : Nat), k + zs.length ≤ 1000 → Flo.Nm s → 0 ≤ Flo.W s → Flo.W s ≤ (k : Rat) * enB → (∀ x ∈ zs, Sm x) →
    ∃ r, zs.foldl (fun s x => fA .add .f64 s (fA .mul .f64 (wA x) (wA x))) (some s) = some r ∧ Flo.Nm r ∧ Flo.W s ≤ Flo.W r ∧ ∀ x ∈ zs, Flo.W (sqB x) ≤ Flo.W r
  | [], s, k, _, hs, _, _, _ => ⟨s, rfl, hs, Rat.le_refl, fun x hx => by simp at hx⟩
  | x :: zs, s, k, hk, hs, h0, hb, hx => by
    simp only [List.length_cons] at hk
    obtain ⟨r, h1, h2, h3, h4, h5⟩ := en_one s x k (by omega) hs h0 hb (hx x (List.mem_cons_self ..))
    rw [List.foldl_cons, h1]
    obtain ⟨r', g1, g2, g3, g4⟩ := en_ge zs r (k + 1) (by omega) h2 (by grind) h3 (fun y hy => hx y (List.mem_cons_of_mem _ hy))
    refine ⟨r', g1, g2, by grind, fun y hy => ?_⟩
    rcases List.mem_cons.1 hy with rfl | hy
    · grind
    · exact g4 y hy
theorem en_all (zs : List Nat) (hl : zs.length ≤ 1000) (hx : ∀ x ∈ zs, Sm x) : 0 ≤ Flo.W (enN zs) ∧ ∀ x ∈ zs, Flo.W (sqB x) ≤ Flo.W (enN zs) := by
  have h0 : fab .f64 0 = some 0 := fab_some (by decide)
  obtain ⟨r, h1, h2, h3, h4⟩ := en_ge zs 0 0 (by omega) zero_double.1 (by rw [zero_double.2]; exact Rat.le_refl) (by rw [zero_double.2]; unfold enB; have := Flo.pw_pos 260; grind) hx
  have e : enN zs = r := by unfold enN enA; rw [h0, h1]; rfl
  rw [zero_double.2] at h3
  rw [e]
  exact ⟨h3, h4⟩

/-! ### the peak -/
theorem pk_fold : ∀ (zs : List Nat) (b : Nat), Flo.Nm b → 0 ≤ Flo.W b → (∀ x ∈ zs, Sm x) →
    Flo.Nm (zs.foldl pk1 b) ∧ Flo.W b ≤ Flo.W (zs.foldl pk1 b) ∧ (∀ x ∈ zs, ra (S x) ≤ Flo.W (zs.foldl pk1 b)) ∧ (Flo.W (zs.foldl pk1 b) = Flo.W b ∨ ∃ x ∈ zs, Flo.W (zs.foldl pk1 b) = ra (S x))
  | [], b, hb, _, _ => ⟨hb, Rat.le_refl, fun x hx => by simp at hx, .inl rfl⟩
  | x :: zs, b, hb, h0, hx => by
    have sx := hx x (List.mem_cons_self ..)
    obtain ⟨n, v⟩ := wid_num sx
    have la := labs_num (wid x) (wid_lt x) n
    rw [v] at la
    have o := Flo.order_num Ieee.double (labs (wid x)) b la.1 hb
    have step : Flo.Nm (pk1 b x) ∧ Flo.W b ≤ Flo.W (pk1 b x) ∧ ra (S x) ≤ Flo.W (pk1 b x) ∧ (Flo.W (pk1 b x) = Flo.W b ∨ Flo.W (pk1 b x) = ra (S x)) := by
      cases hg : (FloatKind.f64.format.order (labs (wid x)) b == some .gt) with
      | true =>
        rw [pk1_up (sm_nn sx) hg]
        have := o.2.2.1 (show FloatKind.f64.format.order (labs (wid x)) b = some .gt by simpa using hg)
        have h2 : Flo.W b < Flo.W (labs (wid x)) := this
        rw [la.2] at h2 ⊢
        exact ⟨la.1, by grind, Rat.le_refl, .inr rfl⟩
      | false =>
        rw [pk1_stay (sm_nn sx) hg]
        have h1 : ¬ Ieee.double.order (labs (wid x)) b = some .gt := show ¬ FloatKind.f64.format.order (labs (wid x)) b = some .gt by simpa using hg
        rw [o.2.2] at h1
        have h2 : ¬ Flo.W b < Flo.W (labs (wid x)) := h1
        rw [la.2] at h2
        exact ⟨hb, Rat.le_refl, by grind, .inl rfl⟩
    obtain ⟨s1, s2, s3, s4⟩ := step
    rw [List.foldl_cons]
    obtain ⟨g1, g2, g3, g4⟩ := pk_fold zs (pk1 b x) s1 (by grind) (fun y hy => hx y (List.mem_cons_of_mem _ hy))
    refine ⟨g1, by grind, fun y hy => ?_, ?_⟩
    · rcases List.mem_cons.1 hy with rfl | hy
      · grind
      · exact g3 y hy
    · rcases g4 with g | ⟨y, hy, g⟩
      · rcases s4 with h | h
        · exact .inl (by rw [g, h])
        · exact .inr ⟨x, List.mem_cons_self .., by rw [g, h]⟩
      · exact .inr ⟨y, List.mem_cons_of_mem _ hy, g⟩
/-- the peak's word, of finite samples -/
theorem peak_ok (zs : List Nat) (p : Nat) (hx : ∀ x ∈ zs, Sm x) (h : Tw p (pkB zs)) : Sm p ∧ 0 ≤ S p ∧ (∀ x ∈ zs, ra (S x) ≤ S p) ∧ (zs = [] ∧ S p = 0 ∨ ∃ x ∈ zs, S p = ra (S x)) := by
  obtain ⟨h1, h2, h3, h4⟩ := pk_fold zs 0 zero_double.1 (by rw [zero_double.2]; exact Rat.le_refl) hx
  have hb : pkB zs = zs.foldl pk1 0 := rfl
  rw [← hb] at h1 h2 h3 h4
  rw [zero_double.2] at h2 h4
  obtain ⟨m, i, n, j, e1, e2, e3⟩ : ∃ m i n j, Ieee.single.read p = .number false m i ∧ Ieee.double.read (pkB zs) = .number false n j ∧ (m : Rat) * Flo.pw i = (n : Rat) * Flo.pw j := by
    rcases h with h | ⟨_, k⟩
    · exact h
    · obtain ⟨s, m, i, g⟩ := h1
      rw [g] at k; cases k
  have ev : S p = Flo.W (pkB zs) := by
    rw [show S p = _ from Flo.V_eq e1, show Flo.W (pkB zs) = _ from Flo.V_eq e2]
    unfold Flo.val; rw [e3]
  rw [ev]
  refine ⟨⟨_, _, _, e1⟩, h2, h3, ?_⟩
  rcases h4 with g | g
  · cases zs with
    | nil => exact .inl ⟨rfl, g⟩
    | cons x zs =>
      right
      refine ⟨x, List.mem_cons_self .., ?_⟩
      have := h3 x (List.mem_cons_self ..)
      have := ra_nonneg (S x)
      grind
  · exact .inr g
/-- the peak's square is no greater than the energy -/
theorem peak_sq (zs : List Nat) (p : Nat) (hl : zs.length ≤ 1000) (hx : ∀ x ∈ zs, Sm x) (h : Tw p (pkB zs)) : ∃ r, floatBits .mul .f64 (wid p) (wid p) = some r ∧ Flo.Nm r ∧ Flo.W r ≤ Flo.W (enN zs) := by
  obtain ⟨sp, p0, p1, p2⟩ := peak_ok zs p hx h
  obtain ⟨q1, q2, q3, q4⟩ := sq_ok sp
  refine ⟨sqB p, q1, q2, ?_⟩
  obtain ⟨e0, e1⟩ := en_all zs hl hx
  have key : ∀ x, Sm x → S p = ra (S x) → Flo.W (sqB p) ≤ Flo.W (sqB x) := by
    intro x hx hv
    obtain ⟨n, v⟩ := wid_num sp
    obtain ⟨n', v'⟩ := wid_num hx
    have l1 : Flo.pw 256 < Flo.pw 1023 := Flo.pw_lt (by omega)
    have a := single_abs hx
    have hm := a.mul a
    have e256 : Flo.pw 128 * Flo.pw 128 = Flo.pw 256 := by rw [← Flo.pw_add]; rfl
    rw [e256] at hm
    obtain ⟨r, r', g1, g2, g3, g4, g5⟩ := Flo.mul_mono Ieee.double (by decide) (wid p) (wid p) (wid x) (wid x) n n n' n' (by
      show ra (Flo.W (wid p) * Flo.W (wid p)) ≤ ra (Flo.W (wid x) * Flo.W (wid x))
      rw [v, v', ra_mul, ra_mul, hv]
      have : ra (ra (S x)) = ra (S x) := by have := ra_nonneg (S x); generalize ra (S x) = y at *; unfold ra; rw [if_neg (by grind)]
      rw [this]; exact Rat.le_refl) (by
      show ra (Flo.W (wid x) * Flo.W (wid x)) < _
      rw [v', Flo.top_double]
      have := ra_le hm
      grind)
    obtain ⟨t1, t2, t3, t4⟩ := sq_ok hx
    have i1 : r = sqB p := by
      have : some r = some (sqB p) := g1.symm.trans q1
      injection this
    have i2 : r' = sqB x := by
      have : some r' = some (sqB x) := g2.symm.trans t1
      injection this
    subst i1; subst i2
    have a1 : ra (Flo.W (sqB p)) = Flo.W (sqB p) := by unfold ra; rw [if_neg (by grind)]
    have a2 : ra (Flo.W (sqB x)) = Flo.W (sqB x) := by unfold ra; rw [if_neg (by grind)]
    have g6 : ra (Flo.W (sqB p)) ≤ ra (Flo.W (sqB x)) := g5
    rw [a1, a2] at g6
    exact g6
  rcases p2 with ⟨rfl, hz⟩ | ⟨x, hxm, hv⟩
  · have k := key 0 ⟨false, 0, -149, by decide⟩ (by
      rw [hz, show S 0 = 0 from by rw [show S 0 = _ from Flo.V_eq (show Ieee.single.read 0 = .number false 0 (-149) by decide), Flo.val_zero]]
      unfold ra; simp)
    have z : sqB 0 = 0 := by decide
    rw [z, zero_double.2] at k
    grind
  · have := key x (hx x hxm) hv
    have := e1 x hxm
    grind

/-! ### what the law asks of the peak -/
def hitB (p x : Nat) : Bool := FloatKind.f32.format.order x p == some .eq || FloatKind.f32.format.order (Op.negFloat .f32 x) p == some .eq
def metB (xs : List Nat) (p k : Nat) : Bool := decide (xs.length = 0) || (xs.take k).any (hitB p)
theorem metB_step (xs : List Nat) (p k x : Nat) (h : xs[k]? = some x) : metB xs p (k + 1) = (metB xs p k || hitB p x) := by
  obtain ⟨hk, he⟩ := List.getElem?_eq_some_iff.1 h
  unfold metB
  rw [List.take_succ_eq_append_getElem hk, he, List.any_append]
  simp [Bool.or_assoc]

theorem gt32_no {x p : Nat} (hx : Sm x) (hp : Sm p) (h : S x ≤ S p) : (FloatKind.f32.format.order x p == some .gt) = false := by
  have o := Flo.order_num Ieee.single x p hx hp
  cases hg : (FloatKind.f32.format.order x p == some .gt) with
  | false => rfl
  | true =>
    exfalso
    have := o.2.2.1 (show FloatKind.f32.format.order x p = some .gt by simpa using hg)
    have h2 : S p < S x := this
    grind
theorem eq32_yes {x p : Nat} (hx : Sm x) (hp : Sm p) (h : S x = S p) : (FloatKind.f32.format.order x p == some .eq) = true := by
  have o := Flo.order_num Ieee.single x p hx hp
  have := o.2.1.2 h
  simpa using (show FloatKind.f32.format.order x p = some .eq from this)
/-- what the law's loop finds -/
theorem peak_law (xs : List Nat) (p : Nat) (hx : ∀ x ∈ xs, Sm x) (h : Tw p (pkB xs)) :
    (∀ x ∈ xs, (FloatKind.f32.format.order x p == some .gt) = false ∧ (FloatKind.f32.format.order (Op.negFloat .f32 x) p == some .gt) = false) ∧ metB xs p xs.length = true ∧ (xs.length = 0 → (FloatKind.f32.format.order p 0 == some .eq) = true) := by
  obtain ⟨sp, p0, p1, p2⟩ := peak_ok xs p hx h
  have z0 : Sm 0 ∧ S 0 = 0 := ⟨⟨false, 0, -149, by decide⟩, by rw [show S 0 = _ from Flo.V_eq (show Ieee.single.read 0 = .number false 0 (-149) by decide), Flo.val_zero]⟩
  refine ⟨fun x hxm => ?_, ?_, fun h0 => ?_⟩
  · obtain ⟨n1, n2⟩ := ng_val (hx x hxm)
    have r := ra_ab (S x)
    have := p1 x hxm
    unfold Flo.Ab at r
    exact ⟨gt32_no (hx x hxm) sp (by grind), gt32_no n1 sp (by rw [n2]; grind)⟩
  · rcases p2 with ⟨rfl, -⟩ | ⟨x, hxm, hv⟩
    · rfl
    · unfold metB
      rw [List.take_length, Bool.or_eq_true, List.any_eq_true]
      refine .inr ⟨x, hxm, ?_⟩
      unfold hitB
      rw [Bool.or_eq_true]
      obtain ⟨n1, n2⟩ := ng_val (hx x hxm)
      rcases ra_or (S x) with g | g
      · exact .inl (eq32_yes (hx x hxm) sp (by rw [hv]; exact g))
      · exact .inr (eq32_yes n1 sp (by rw [n2, hv, g]; grind))
  · have e0 : xs = [] := List.eq_nil_of_length_eq_zero h0
    subst e0
    rcases p2 with ⟨-, hz⟩ | ⟨x, hxm, -⟩
    · exact eq32_yes sp z0.1 (by rw [hz, z0.2])
    · simp at hxm
/-- nine more -/
theorem en_more (xs : List Nat) (hl : xs.length ≤ 900) (hx : ∀ x ∈ xs, Sm x) : floatBits .add .f64 (enN xs) 4621256167635550208 = some (enN (xs ++ [1077936128])) ∧ (FloatKind.f64.format.order (enN (xs ++ [1077936128])) (enN (xs ++ [1077936128])) == some .eq) = true := by
  have h3 : Sm 1077936128 := ⟨false, 12582912, -22, by decide⟩
  have hx3 : ∀ x ∈ xs ++ [1077936128], Sm x := fun x h => by
    rcases List.mem_append.1 h with h | h
    · exact hx x h
    · simp at h; subst h; exact h3
  obtain ⟨a1, a2⟩ := en_num xs (by omega) hx
  obtain ⟨b1, b2⟩ := en_num (xs ++ [1077936128]) (by simp; omega) hx3
  refine ⟨?_, ?_⟩
  · have e : enA (xs ++ [1077936128]) = fA .add .f64 (enA xs) (fA .mul .f64 (wA 1077936128) (wA 1077936128)) := by
      unfold enA
      rw [List.foldl_append]; rfl
    rw [a1, b1] at e
    have e9 : fA .mul .f64 (wA 1077936128) (wA 1077936128) = some 4621256167635550208 := by decide
    rw [e9] at e
    exact e.symm
  · rw [order_self]
    obtain ⟨s, m, p, h⟩ := b2
    rw [show FloatKind.f64.decode _ = _ from h]; rfl

end Go.Proofs.YtiakcibeobbonaaGreat

/- Events and bodies that are drawn are valid: isEvent, areBodies, areEvents.
   Conditions: those that each statement names. -/
namespace Go.Proofs.YtiakcibeobbonaaGreat
set_option linter.unusedSimpArgs false
set_option linter.unusedVariables false
open Go Go.RowKit

theorem wid_sign0 : decide (2 ^ 63 ≤ wid 0) = false := by rw [wid_zero]; decide
theorem feq_zero : feq 0 0 = true := by decide
theorem HasC.drew1 {w : World} {b : Nat} {cs : List Value} (h : HasC w b cs) : HasC w.drew b cs := h.draw 1

set_option maxHeartbeats 1600000 in
theorem isEvent_ok (L nb : Nat) (hL : L ≤ 2000) (e : Ev6) (h : e.ok L nb) (w : World) :
    Calls Tryz.prog 79 #[.agg #[.int .i64 e.t, .int .i64 e.k, .int .i64 e.b, .int .i64 e.s, .int .i64 e.m, .float .f32 e.f], .int .i64 (nb : Int)] w (TestP true w) := by
  obtain ⟨t, k, b, s, m, f⟩ := e
  obtain ⟨t0, t1, b0, b1, hk⟩ := h
  simp only at t0 t1 b0 b1 hk ⊢
  obtain ⟨t, rfl⟩ : ∃ n : Nat, t = n := ⟨t.toNat, by omega⟩
  have q1 := eql_event
  have X := Lib.hid (HasC.new w 68 (.int .i64 t) (.int .i64 k) (.int .i64 b) (.int .i64 s) (.int .i64 m) (.float .f32 f))
  have N := Lib.hid ((Nw.refl w).alloc (.cells #[.int .i64 (t : Int), .int .i64 k, .int .i64 b, .int .i64 s, .int .i64 m, .float .f32 f] 68 (0, 0)))
  have b0' : ¬ b < 0 := by omega
  have b1' : ¬ b ≥ (nb : Int) := by omega
  rcases hk with ⟨rfl, s0, s1, m0, m1, hf, -⟩ | ⟨rfl, rfl, rfl, hf⟩ | ⟨rfl, rfl, rfl, rfl⟩
  · obtain ⟨s, rfl⟩ : ∃ n : Nat, s = n := ⟨s.toNat, by omega⟩
    obtain ⟨m, rfl⟩ : ∃ n : Nat, m = n := ⟨m.toNat, by omega⟩
    have a1 := fcv_wide (sm_nn hf)
    have a2 := fcd_wide (sm_nn hf)
    have a3 : fin .f64 (wid f) = true := fin_wid hf
    clear q1
    go_enter Tryz.func79, Tryz.ntmps79
    go_wp2_with (go_at_call 50; refine (isSteps_ok t (by omega) _).mono ?_; rintro e w1 ⟨rfl, rfl⟩)
    refine (strikeShape_ok s m (by omega) (by omega) (by omega) _).mono ?_
    rintro e w2 ⟨g, rfl, own2, n2⟩
    have N2 := Lib.hid (N.out.trans n2)
    obtain ⟨⟨e0, g0⟩, ⟨e1, g1⟩, ⟨e2, g2⟩, ⟨e3, g3⟩, ⟨e4, g4⟩, ⟨e5, g5⟩⟩ := six_at (X.out.nw n2)
    clear own2 n2
    go_wp2_with (go_at_call 75; refine (isFinitePart_any _ _ (wid_lt f)).mono ?_; rintro e w3 ⟨rfl, rfl⟩; rw [a3])
    go_ret
    exact ⟨rfl, N2.out⟩
  · have hf0 := feq_self hf.1
    have hg : (ge0 f && le1 f) = true := by rw [Bool.and_eq_true]; exact ⟨hf.2.1, hf.2.2⟩
    have hq : Ev6.eqB ⟨(t : Int), 2, b, 0, 0, f⟩ ⟨(t : Int), 2, b, 0, 0, f⟩ = true := Ev6.eqB_self hf.1
    go_enter Tryz.func79, Tryz.ntmps79
    go_wp2_with (first
      | (go_at_call 50; refine (isSteps_ok t (by omega) _).mono ?_; rintro e w1 ⟨rfl, rfl⟩)
      | (go_at_call 76; refine (isFactor_any _ _).mono ?_; rintro e w1 ⟨rfl, rfl⟩; rw [hg]))
    all_goals
      go_ret
      exact ⟨rfl, N.out⟩
  · have hq : Ev6.eqB ⟨(t : Int), 3, b, 0, 0, 0⟩ ⟨(t : Int), 3, b, 0, 0, 0⟩ = true := by
      unfold Ev6.eqB
      simp [feq_zero]
    have a1 : ∀ w, fcv w .f32 0 .f64 = 0 := fun w => by rw [fcv_wide (by decide)]; exact wid_zero
    have a2 : fcd .f32 0 .f64 = 0 := fcd_wide (by decide)
    go_enter Tryz.func79, Tryz.ntmps79
    go_wp2_with (first
      | (go_at_call 50; refine (isSteps_ok t (by omega) _).mono ?_; rintro e w1 ⟨rfl, rfl⟩)
      | (go_at_call 77; refine (signbit_any 0 (by decide) _).mono ?_; rintro e w1 ⟨rfl, rfl⟩; rw [show decide (2 ^ 63 ≤ 0) = false from rfl]))
    all_goals
      go_ret
      exact ⟨rfl, N.out⟩

def AreI (n : Nat) (w : World) (i : Value) (wr : World) : Prop := ∃ k : Nat, k ≤ n ∧ i = .int .i64 (k : Int) ∧ Nw w wr

theorem areBodies_ok (bs : List (List M4)) (base n : Nat) (sv : Value) (w : World) (hn : n = bs.length) (hn3 : n ≤ 8) (h : BodsR w base sv bs) (hok : ∀ ms ∈ bs, ms.length ≤ 4 ∧ ∀ m ∈ ms, m.ok) :
    Calls Tryz.prog 53 #[sv] w (TestP true w) := by
  obtain ⟨sa, sc, rfl⟩ := h.shape
  rw [← hn]
  rw [← hn] at h
  have Hb := Lib.hid h
  have Hok := Lib.hid hok
  have Hn := Lib.hid hn
  clear h hok hn
  go_enter Tryz.func53, Tryz.ntmps53
  go_wp2_with fail
  go_loopw [10] (fun i wr => AreI n w i wr) (fun i _ => n - (intOf i).toNat)
  case atStart => exact ⟨0, by omega, rfl, Nw.refl w⟩
  case round =>
    obtain ⟨k, hk, rfl, hnw⟩ := hrel
    have Hnw := Lib.hid hnw
    clear hnw
    by_cases hlt : k < n
    · obtain ⟨ms, hmk⟩ : ∃ ms, bs[k]? = some ms := ⟨bs[k]'(by rw [← Hn.out]; exact hlt), List.getElem?_eq_getElem _⟩
      obtain ⟨g, cap, a, c, hv, hcap, hmax, hgs, e1, own⟩ := (Hb.out.nw Hnw.out).at Hn.out hmk
      cases hv
      have Hmo := Lib.hid (Hok.out ms (List.mem_of_getElem? hmk))
      have Own := Lib.hid (own.alloc (.cells #[.slice a ms.length c] 65 (0, 0)))
      unfold maxLen at hmax
      clear own hmk
      have N4 := Lib.hid (Hnw.out.alloc (.cells #[.slice a ms.length c] 65 (0, 0)))
      go_wp2_with fail
      refine (implIsBody_ok ms Hmo.out.2 ms.length base _ rfl (by have := Hmo.out.1; omega) _ Own.out).mono ?_
      rintro e w5 ⟨rfl, n5⟩
      have N5 := Lib.hid (N4.out.trans n5)
      clear n5 e1
      go_wp2_with fail
      go_roundw
      case rel => exact ⟨k + 1, by omega, by rw [show ((k + 1 : Nat) : Int) = (k : Int) + 1 from by omega], N5.out⟩
      case measure => simp only [intOf]; omega
    · go_wp2_with fail
      go_ret
      exact ⟨rfl, Hnw.out⟩

theorem areEvents_ok (es : List Ev6) (L nb base n : Nat) (hL : L ≤ 2000) (v : Value) (w : World) (hn : es.length = n) (hn3 : n ≤ 60) (h : w.ownsRow base 68 6 v n (cellsE es)) (hok : ∀ e ∈ es, e.ok L nb) :
    Calls Tryz.prog 54 #[v, .int .i64 (nb : Int)] w (TestP true w) := by
  obtain ⟨sa, sc, rfl⟩ := own_shape' h
  have Hb := Lib.hid h
  have Hok := Lib.hid hok
  have Hn := Lib.hid hn
  clear h hok hn
  go_enter Tryz.func54, Tryz.ntmps54
  go_wp2_with fail
  go_loopw [12] (fun i wr => AreI n w i wr) (fun i _ => n - (intOf i).toNat)
  case atStart => exact ⟨0, by omega, rfl, Nw.refl w⟩
  case round =>
    obtain ⟨k, hk, rfl, hnw⟩ := hrel
    have Hnw := Lib.hid hnw
    clear hnw
    by_cases hlt : k < n
    · obtain ⟨e, hek⟩ : ∃ e, es[k]? = some e := ⟨es[k]'(by rw [Hn.out]; exact hlt), List.getElem?_eq_getElem _⟩
      obtain ⟨g, cap, hv, hcap, hmax, hgs, c0, c1, c2, c3, c4, c5⟩ := own_event (own_nw Hb.out Hnw.out) Hn.out hek
      cases hv
      have Hmo := Lib.hid (Hok.out e (List.mem_of_getElem? hek))
      unfold maxLen at hmax
      clear hek
      have N4 := Lib.hid (Hnw.out.alloc (.cells #[.int .i64 e.t, .int .i64 e.k, .int .i64 e.b, .int .i64 e.s, .int .i64 e.m, .float .f32 e.f] 68 (0, 0)))
      go_wp2_with fail
      refine (isEvent_ok L nb hL e Hmo.out _).mono ?_
      rintro e5 w5 ⟨rfl, n5⟩
      have N5 := Lib.hid (N4.out.trans n5)
      clear n5 c0 c1 c2 c3 c4 c5
      go_wp2_with fail
      go_roundw
      case rel => exact ⟨k + 1, by omega, by rw [show ((k + 1 : Nat) : Int) = (k : Int) + 1 from by omega], N5.out⟩
      case measure => simp only [intOf]; omega
    · go_wp2_with fail
      go_ret
      exact ⟨rfl, Hnw.out⟩

end Go.Proofs.YtiakcibeobbonaaGreat

/- Plain: insertion sort of events by their time keeps those of one time in their order.
   Conditions: those that each statement names. -/
namespace Go.Proofs.YtiakcibeobbonaaGreat
set_option linter.unusedSimpArgs false
set_option linter.unusedVariables false
open Go Go.RowKit Go.Sort

instance : Inhabited Ev6 := ⟨⟨0, 0, 0, 0, 0, 0⟩⟩
/-- the order of two events -/
def cfE (x y : Ev6) : Int := Lib.compareInt x.t y.t
theorem ltE (x y : Ev6) : ltOf cfE x y = decide (x.t < y.t) := by
  unfold ltOf cfE Lib.compareInt
  by_cases h1 : x.t < y.t
  · simp [h1]
  · by_cases h2 : y.t < x.t <;> simp [h1, h2]
theorem swoE : SWO (ltOf cfE) where
  irrefl x := by rw [ltE]; simp
  trans x y z h1 h2 := by rw [ltE] at *; simp at *; omega
  ntrans x y z h1 h2 := by rw [ltE] at *; simp at *; omega

theorem filter_swap (P : Ev6 → Bool) : ∀ (L : List Ev6) (j : Nat) (p q : Ev6), L[j]? = some p → L[j + 1]? = some q → ¬ (P p = true ∧ P q = true) → ((L.set (j + 1) p).set j q).filter P = L.filter P
  | [], _, _, _, h, _, _ => by simp at h
  | [_], 0, _, _, _, h, _ => by simp at h
  | a :: b :: L, 0, p, q, h1, h2, h3 => by
    simp at h1 h2
    subst h1; subst h2
    simp only [List.set_cons_succ, List.set_cons_zero]
    cases hp : P a <;> cases hq : P b <;> simp [hp, hq] at h3 ⊢
  | a :: L, j + 1, p, q, h1, h2, h3 => by
    have ih := filter_swap P L j p q (by simpa using h1) (by simpa using h2) h3
    simp only [List.set_cons_succ, List.filter_cons]
    rw [ih]

/-- what sorting leaves as it was: how many there are, and those of one time in their order -/
def Kept (d d' : Array Ev6) : Prop := d'.size = d.size ∧ ∀ x : Int, d'.toList.filter (fun e => e.t == x) = d.toList.filter (fun e => e.t == x)
theorem Kept.refl (d : Array Ev6) : Kept d d := ⟨rfl, fun _ => rfl⟩
theorem Kept.trans {a b c : Array Ev6} (h : Kept a b) (k : Kept b c) : Kept a c := ⟨k.1.trans h.1, fun x => (k.2 x).trans (h.2 x)⟩
theorem Kept.swp (d : Array Ev6) (j : Nat) (hj : j + 1 < d.size) (h : ltOf cfE d[j + 1]! d[j]! = true) : Kept d (Sort.swp d (j + 1) j) := by
  refine ⟨by simp [Sort.swp], fun x => ?_⟩
  rw [ltE] at h
  have h' : d[j + 1]!.t < d[j]!.t := by simpa using h
  unfold Sort.swp
  simp only [Array.toList_setIfInBounds]
  have e1 : d.toList[j]? = some d[j]! := by
    rw [Array.getElem?_toList, getElem!_pos d j (by omega)]; simp
  have e2 : d.toList[j + 1]? = some d[j + 1]! := by
    rw [Array.getElem?_toList, getElem!_pos d (j + 1) (by omega)]; simp
  refine filter_swap _ _ j d[j]! d[j + 1]! e1 e2 ?_
  simp
  intro h1 h2
  omega
theorem kept_inner (a : Nat) : ∀ (j : Nat) (d : Array Ev6), j < d.size → Kept d (insInner (ltOf cfE) a j d)
  | 0, d, _ => Kept.refl d
  | j + 1, d, hj => by
    unfold insInner
    split
    · rename_i h
      have h2 : ltOf cfE d[j + 1]! d[j]! = true := by
        simp only [Bool.and_eq_true] at h; exact h.2
      have k := Kept.swp d j hj h2
      exact k.trans (kept_inner a j _ (by rw [k.1]; omega))
    · exact Kept.refl d
theorem kept_outer (a b : Nat) : ∀ (n i : Nat) (d : Array Ev6), b - i ≤ n → b ≤ d.size → Kept d (insOuter (ltOf cfE) a b i d)
  | 0, i, d, hn, hb => by
    unfold insOuter
    rw [if_neg (by omega)]
    exact Kept.refl d
  | n + 1, i, d, hn, hb => by
    unfold insOuter
    by_cases h : i < b
    · rw [if_pos h]
      have k := kept_inner a i d (by omega)
      exact k.trans (kept_outer a b n (i + 1) _ (by omega) (by rw [k.1]; exact hb))
    · rw [if_neg h]
      exact Kept.refl d
/-- the events in order -/
def ordE (es : List Ev6) : List Ev6 := (Sort.insertionSort (ltOf cfE) es.toArray 0 es.length).toList
theorem ordE_kept (es : List Ev6) : Kept es.toArray (Sort.insertionSort (ltOf cfE) es.toArray 0 es.length) := kept_outer 0 es.length es.length 1 _ (by omega) (by simp)
theorem ordE_len (es : List Ev6) : (ordE es).length = es.length := by
  have := (ordE_kept es).1
  simpa [ordE] using this
theorem ordE_filter (es : List Ev6) (x : Int) : (ordE es).filter (fun e => e.t == x) = es.filter (fun e => e.t == x) := (ordE_kept es).2 x
theorem ordE_sorted (es : List Ev6) (i : Nat) (p q : Ev6) (h1 : (ordE es)[i]? = some p) (h2 : (ordE es)[i + 1]? = some q) : p.t ≤ q.t := by
  have hs := (insertionSort_holds (lt := ltOf cfE) swoE es.toArray 0 es.length (Nat.zero_le _) (by simp)).2
  have hl := (List.getElem?_eq_some_iff.1 h2).1
  rw [ordE_len] at hl
  have := hs i (i + 1) (Nat.zero_le _) (by omega) hl
  have hz := (ordE_kept es).1
  simp at hz
  rw [ltE] at this
  have e1 : (Sort.insertionSort (ltOf cfE) es.toArray 0 es.length)[i]! = p := by
    unfold ordE at h1
    rw [Array.getElem?_toList] at h1
    rw [getElem!_pos _ i (by omega)]
    rw [Array.getElem?_eq_getElem (by omega)] at h1
    simpa using h1
  have e2 : (Sort.insertionSort (ltOf cfE) es.toArray 0 es.length)[i + 1]! = q := by
    unfold ordE at h2
    rw [Array.getElem?_toList] at h2
    rw [getElem!_pos _ (i + 1) (by omega)]
    rw [Array.getElem?_eq_getElem (by omega)] at h2
    simpa using h2
  rw [e1, e2] at this
  simp at this
  exact this

/-! ### finding the events of one time, one after the other -/
/-- how many of the first k are of time x -/
def cntE (l : List Ev6) (x : Int) (k : Nat) : Nat := ((l.take k).filter (fun e => e.t == x)).length
theorem cntE_succ (l : List Ev6) (x : Int) (k : Nat) (e : Ev6) (h : l[k]? = some e) : cntE l x (k + 1) = cntE l x k + (if e.t = x then 1 else 0) := by
  obtain ⟨hk, he⟩ := List.getElem?_eq_some_iff.1 h
  unfold cntE
  rw [List.take_succ_eq_append_getElem hk, he, List.filter_append, List.length_append]
  by_cases hx : e.t = x <;> simp [hx]
/-- the one at k, if it is of time x, is that of the filtered ones at the count -/
theorem cntE_at (l : List Ev6) (x : Int) (k : Nat) (e : Ev6) (h : l[k]? = some e) (hx : e.t = x) : (l.filter (fun e => e.t == x))[cntE l x k]? = some e := by
  obtain ⟨hk, he⟩ := List.getElem?_eq_some_iff.1 h
  have hl : l = l.take k ++ e :: l.drop (k + 1) := by
    conv => lhs; rw [← List.take_append_drop k l]
    rw [List.drop_eq_getElem_cons hk, he]
  have hf : l.filter (fun e => e.t == x) = (l.take k).filter (fun e => e.t == x) ++ e :: (l.drop (k + 1)).filter (fun e => e.t == x) := by
    conv => lhs; rw [hl]
    rw [List.filter_append, List.filter_cons]
    simp [hx]
  rw [hf]
  unfold cntE
  rw [List.getElem?_append_right (Nat.le_refl _), Nat.sub_self]
  rfl
theorem cntE_all (l : List Ev6) (x : Int) : cntE l x l.length = (l.filter (fun e => e.t == x)).length := by
  unfold cntE; rw [List.take_length]

end Go.Proofs.YtiakcibeobbonaaGreat

/- The walks of slices.Clone over a body's modes.
   Conditions: those that each statement names. -/
namespace Go.Proofs.YtiakcibeobbonaaGreat
set_option linter.unusedSimpArgs false
set_option linter.unusedVariables false
open Go Go.RowKit

theorem Nw.grown {a w w1 : World} {row : Option Nat} (h : Nw a w) (hg : w.grownBy w1 row) (hr : ∀ q, row = some q → a.heap.size ≤ q) : Nw a w1 :=
  ⟨hg.os.trans h.os, hg.tape.trans h.tape, hg.output.trans h.output, Nat.le_trans h.size hg.size, fun i hi hne => (hg.block i (Nat.lt_of_lt_of_le hi h.size) (fun e => by have := hr i e.symm; omega)).trans (h.block i hi hne)⟩

def RowP (ms : List M4) (w : World) (e : Ending) (w' : World) : Prop :=
  ∃ v : Value, e = .returned v ∧ w'.ownsRow w.heap.size 93 2 v ms.length (cellsM ms) ∧ Nw w w'

set_option maxRecDepth 100000 in
theorem clone_modes (ms : List M4) (n bm : Nat) (v : Value) (hn : ms.length = n) (hn64 : n ≤ 64) (w : World)
    (hm : w.ownsRow bm 93 2 v n (cellsM ms)) :
    Calls Tryz.prog 64 #[v] w (RowP ms w) := by
  obtain ⟨va, vc, rfl⟩ := own_shape' hm
  have Hm := Lib.hid hm
  have Hn := Lib.hid hn
  clear hm hn
  go_enter Tryz.func64, Tryz.ntmps64
  have q0 : ∀ (w : World) (a : Option Addr) (n c n' c' : Nat), (binOp .eql 56 (.slice a n c) (.slice none n' c')).run Tryz.prog w = .ok (.bool a.isNone) w := fun w a n c n' c' => Lib.run_eql_slice_nil w _ _ a n c n' c' Tryz.underlying56
  obtain ⟨i0, hi, hz0, hz1, hz2⟩ := info_parts info_mode
  rcases Hm.out.2 with ⟨h1, h2⟩ | ⟨g, cap, cur, h1, hb, hg, hc, hmx, hs, ht⟩
  · cases h1
    have hms : ms = [] := List.eq_nil_of_length_eq_zero (by rw [Hn.out])
    subst hms
    go_wp2_with fail
    go_ret
    exact ⟨_, rfl, World.ownsRow_nil _ _ _ _, Nw.refl _⟩
  · cases h1
    have Hbel := Lib.hid ((Nw.refl w).alloc (.cells #[] 93 (0, 0)))
    clear hb hg hc hmx hs ht
    go_wp2_with (at_builtin; refine wpList_append_own _ rfl _ _ 56 rfl w.heap.size 93 i0 (.agg #[.complex .f32 0 0, .complex .f32 0 0]) 2 16 Tryz.underlying56 hi hz0 hz1 hz2 rfl (by decide) _ _ _ rfl (World.ownsRow_made w #[] 0 (Nat.le_refl _) (Nat.zero_le _) rfl) ⟨g, 0, none⟩ n vc (cellsM ms) rfl ?qc1 ?qc2 ?qc3 ?qc4 ?qc5 ?qc6 ?_)
    case qc1 => rw [cellsM_len, Hn.out]
    case qc2 =>
      intro j u hj
      have hj' : j < n * 2 := by
        have := (List.getElem?_eq_some_iff.1 hj).1
        rw [cellsM_len, Hn.out] at this
        exact this
      have c1 := Hm.out.cellAt j hj'
      rw [hj] at c1
      rw [show (⟨g, 0, none⟩ : Addr).add j = ⟨g, j, none⟩ from by simp [Addr.add]; first | done | (intro h; omega)]
      exact Lib.cell?_alloc_some _ c1
    case qc3 =>
      intro u hu
      obtain ⟨m, _, hu⟩ := List.mem_flatMap.1 hu
      simp [M4.cells] at hu
      rcases hu with rfl | rfl <;> rfl
    case qc4 => unfold maxLen; omega
    case qc5 => omega
    case qc6 => simp
    · intro v' w1 hown hgrow hnil
      have Hown := Lib.hid hown
      have Hgr := Lib.hid (Hbel.out.grown hgrow (fun q hq => by simp [Value.ownBlock] at hq; omega))
      clear hown hgrow hnil
      go_wp2
      go_ret
      exact ⟨v', rfl, by have h := Hown.out; simpa [Hn.out] using h, Hgr.out⟩

end Go.Proofs.YtiakcibeobbonaaGreat

/- The walk of slices.SortStableFunc over events by their time, at fewer than 20 of them.
   Conditions: those that each statement names. -/
namespace Go.Proofs.YtiakcibeobbonaaGreat
set_option linter.unusedSimpArgs false
set_option linter.unusedVariables false
open Go Go.RowKit Go.Sort

/-! ### the shelf's contract, laid at this program -/
def insRen : Go.Shelf.Ren := ⟨fun | 20 => 116 | n => n, fun | 0 => 0 | 3 => 3 | 4 => 4 | 22 => 25 | 24 => 68 | 25 => 128 | n => n, fun n => n⟩
theorem insLays : SlLaysF0.n20 Tryz.prog insRen :=
  { mixed := by kernel_rfl
    f20 := ⟨Tryz.f116.name, by decide, Tryz.func116.trans (congrArg some (by kernel_rfl))⟩
    t0 := Tryz.underlying0
    a0 := Tryz.isAgg0
    z0 := Tryz.sizeOf0
    v0 := Tryz.zeroValue0
    t3 := Tryz.underlying3
    a3 := Tryz.isAgg3
    z3 := Tryz.sizeOf3
    v3 := Tryz.zeroValue3
    t4 := Tryz.underlying4
    a4 := Tryz.isAgg4
    z4 := Tryz.sizeOf4
    v4 := Tryz.zeroValue4
    t22 := Tryz.underlying25
    a22 := Tryz.isAgg25
    z22 := Tryz.sizeOf25
    v22 := Tryz.zeroValue25
    t25 := Tryz.underlying128
    a25 := Tryz.isAgg128
    z25 := Tryz.sizeOf128
    v25 := Tryz.zeroValue128 }

/-! ### rows, flat -/
theorem flat_at (es : List Ev6) (j : Nat) (hj : j < es.length * 6) : (cellsE es)[j]? = some ((flatK Ev6.cells 6 es.toArray)[j]!) := by
  obtain ⟨e, he⟩ : ∃ e, es[j / 6]? = some e := ⟨es[j / 6]'(by omega), List.getElem?_eq_getElem _⟩
  have h := cellsE_at es (j / 6) (j % 6) e he (by omega)
  rw [show 6 * (j / 6) + j % 6 = j from by omega] at h
  rw [h, get_flatK _ _ _ _ (by simpa using hj)]
  obtain ⟨h1, h2⟩ := List.getElem?_eq_some_iff.1 he
  have h3 : es.toArray[j / 6]! = e := by
    rw [getElem!_pos _ _ (by simpa using h1)]
    simpa using h2
  rw [h3]
  have h4 : j % 6 < e.cells.length := by show j % 6 < 6; omega
  rw [List.getElem?_eq_getElem h4, getElem!_pos e.cells (j % 6) h4]
theorem holds_own {w : World} {base n g cap : Nat} {es : List Ev6} (h : w.ownsRow base 68 6 (.slice (some ⟨g, 0, none⟩) n cap) n (cellsE es)) (hn : es.length = n) : HoldsK Ev6.cells 6 w g 0 es.toArray := by
  intro j hj
  rw [size_flatK] at hj
  have hj' : j < es.length * 6 := by simpa using hj
  rw [Nat.zero_add]
  refine ⟨?_, h.frozenAt j⟩
  rw [h.cellAt j (by omega), flat_at es j hj']
  rfl
theorem own_sorted {w : World} {base n g cap m : Nat} {es ds : List Ev6} {os : Array Obj} (h : w.ownsRow base 68 6 (.slice (some ⟨g, 0, none⟩) n cap) n (cellsE es)) (hn : es.length = n) (hd : ds.length = n) :
    (sortWorldK Ev6.cells 6 w g 0 m ds.toArray os).ownsRow base 68 6 (.slice (some ⟨g, 0, none⟩) n cap) n (cellsE ds) ∧ Kp g w (sortWorldK Ev6.cells 6 w g 0 m ds.toArray os) := by
  have hg := (h.lt g rfl).2
  rcases h.2 with ⟨h1, h2⟩ | ⟨g', cap', cur, hv, hb, hh, hc, hm, hs, ht⟩
  · cases h1
  · cases hv
    have hw : (sortWorldK Ev6.cells 6 w g 0 m ds.toArray os).heap[g]? = some (.cells (putCells id 0 (flatK Ev6.cells 6 ds.toArray) cur) 68 (0, 0)) := by
      unfold sortWorldK
      rw [heap_grow_old _ _ (by rw [size_putRowK]; exact hg)]
      unfold putRowK putRow mapBlock
      show (Array.modify w.heap g _)[g]? = _
      rw [Array.getElem?_modify, if_pos rfl, hh]
      rfl
    refine ⟨⟨by rw [cellsE_len, hd], .inr ⟨g, cap, _, rfl, hb, hw, hc, hm, ?_, ?_⟩⟩, rfl, rfl, rfl, ?_, ?_⟩
    · unfold putCells; simp [hs]
    · apply List.ext_getElem?
      intro j
      by_cases hj : j < n * 6
      · rw [List.getElem?_take_of_lt hj, flat_at ds j (by omega), Array.getElem?_toList]
        unfold putCells
        have hjc : j < cur.size := by
          have := Nat.mul_le_mul_right 6 hc
          omega
        rw [Array.getElem?_mapIdx, Array.getElem?_eq_getElem hjc]
        simp
        intro h6
        omega
      · have hl := cellsE_len ds
        rw [List.getElem?_eq_none (by simp; omega), List.getElem?_eq_none (by omega)]
    · unfold sortWorldK; rw [size_grow, size_putRowK]; exact Nat.le_add_right _ _
    · intro i hi hne
      unfold sortWorldK
      rw [heap_grow_old _ _ (by rw [size_putRowK]; exact hi)]
      unfold putRowK putRow mapBlock
      show (Array.modify w.heap g _)[i]? = _
      rw [Array.getElem?_modify, if_neg (fun e => hne (congrArg some e.symm))]

/-! ### the closure -/
theorem isNaN_int (x : Int) (w : World) : Calls Tryz.prog 107 #[.int .i64 x] w fun e w' => e = .returned (.bool false) ∧ w = w' := by
  go_enter Tryz.func107, Tryz.ntmps107
  go_wp2_with fail
  all_goals (go_ret; exact ⟨by simp, rfl⟩)
theorem compare_int (x y : Int) (w : World) : Calls Tryz.prog 82 #[.int .i64 x, .int .i64 y] w fun e w' => e = .returned (.int .i64 (Lib.compareInt x y)) ∧ w = w' := by
  by_cases h1 : x < y
  · have h : Lib.compareInt x y = -1 := by unfold Lib.compareInt; simp [h1]
    rw [h]
    go_enter Tryz.func82, Tryz.ntmps82
    go_wp2_with (go_at_call 107; refine (isNaN_int _ _).mono ?_; rintro e w1 ⟨rfl, rfl⟩)
    all_goals (go_ret; exact ⟨rfl, rfl⟩)
  · by_cases h2 : y < x
    · have h : Lib.compareInt x y = 1 := by unfold Lib.compareInt; simp [h1, h2]
      rw [h]
      go_enter Tryz.func82, Tryz.ntmps82
      go_wp2_with (go_at_call 107; refine (isNaN_int _ _).mono ?_; rintro e w1 ⟨rfl, rfl⟩)
      all_goals (go_ret; exact ⟨rfl, rfl⟩)
    · have h : Lib.compareInt x y = 0 := by unfold Lib.compareInt; simp [h1, h2]
      rw [h]
      go_enter Tryz.func82, Tryz.ntmps82
      go_wp2_with (go_at_call 107; refine (isNaN_int _ _).mono ?_; rintro e w1 ⟨rfl, rfl⟩)
      all_goals (go_ret; exact ⟨rfl, rfl⟩)
theorem closure_ok (x y : Ev6) (W : World) : Calls Tryz.prog 81 #[.agg x.cells.toArray, .agg y.cells.toArray] W fun e w' => e = .returned (.int .i64 (cfE x y)) ∧ ∃ q os', w' = Sort.grow (W.drewN q) os' := by
  unfold cfE Ev6.cells
  obtain ⟨t, k, b, s, m, f⟩ := x
  obtain ⟨t', k', b', s', m', f'⟩ := y
  simp only
  have hcon := fun W' => compare_int t t' W'
  generalize Lib.compareInt t t' = r at hcon ⊢
  go_enter Tryz.func81, Tryz.ntmps81
  go_wp2_with (go_at_call 82; refine (hcon _).mono ?_; rintro e w' ⟨rfl, rfl⟩)
  go_ret
  exact ⟨rfl, 0, _, by rw [alloc_eq_grow, alloc_eq_grow, grow_grow]; rfl⟩
theorem cmpLaysE (blk off size : Nat) (w : World) : CmpLays Tryz.prog 81 #[] Ev6.cells 6 cfE blk off size w :=
  fun _ _ _ _ x y => closure_ok x y _

/-- the events sorted in place -/
def SortP (base n g cap : Nat) (ds : List Ev6) (w : World) (e : Ending) (w' : World) : Prop :=
  e = .returned (.tuple #[]) ∧ w'.ownsRow base 68 6 (.slice (some ⟨g, 0, none⟩) n cap) n (cellsE ds) ∧ Kp g w w'
theorem insertion_ok (es : List Ev6) (base n g cap : Nat) (hn : es.length = n) (hn2 : n ≤ 100) (w : World) (h : w.ownsRow base 68 6 (.slice (some ⟨g, 0, none⟩) n cap) n (cellsE es)) :
    Calls Tryz.prog 116 #[.slice (some ⟨g, 0, none⟩) n cap, .int .i64 0, .int .i64 (n : Int), .func (.func 81) #[] #[]] w (SortP base n g cap (ordE es) w) := by
  have eg : ∀ args w, (callFunc 81 args).run Tryz.prog w = .ok (.enter 81 args) w := enters_of Tryz.func81 (by kernel_rfl) rfl
  have hsz : es.toArray.size = n := by simpa using hn
  have hcon := AnyQ.insertionSortCmpFunc insLays 6 Tryz.isAgg68 Tryz.sizeOf68 Ev6.cells (fun _ => rfl) (fun x v hv => cellsE_one [x] v (by simpa [cellsE] using hv)) cfE 81 #[] g 0 cap 0 n es.toArray w eg (cmpLaysE g 0 es.toArray.size w) (holds_own h hn) (h.lt g rfl).2 (Nat.zero_le _) (by omega) (by omega)
  rw [hsz] at hcon
  change Calls Tryz.prog 116 _ _ _ at hcon
  refine hcon.mono ?_
  rintro e w' ⟨rfl, m, os, rfl⟩
  have ho : Sort.insertionSort (ltOf cfE) es.toArray 0 n = (ordE es).toArray := by unfold ordE; rw [hn]
  rw [ho]
  have hs := own_sorted (m := m) (os := os) h hn (show (ordE es).length = n by rw [ordE_len, hn])
  exact ⟨rfl, hs.1, hs.2⟩
theorem insertion_nil (w : World) (f : Value) :
    Calls Tryz.prog 116 #[.slice none 0 0, .int .i64 0, .int .i64 0, f] w fun e w' => e = .returned (.tuple #[]) ∧ w = w' := by
  go_enter Tryz.func116, Tryz.ntmps116
  go_wp2_with fail
  go_loopw [8] (fun v wr => v = .int .i64 1 ∧ wr = w) (fun _ _ => 0)
  case atStart => exact ⟨rfl, rfl⟩
  case round =>
    obtain ⟨rfl, rfl⟩ := hrel
    go_wp2_with fail
    go_end0
    exact ⟨rfl, rfl⟩

end Go.Proofs.YtiakcibeobbonaaGreat

/- The walk of impl.OrderEvents over a score that is valid.
   Conditions: those that each statement names. -/
namespace Go.Proofs.YtiakcibeobbonaaGreat
set_option linter.unusedSimpArgs false
set_option linter.unusedVariables false
open Go Go.RowKit Go.Sort

/-- the row v sorted in place -/
def SortV (base n : Nat) (v : Value) (ds : List Ev6) (w : World) (e : Ending) (w' : World) : Prop :=
  e = .returned (.tuple #[]) ∧ w'.ownsRow base 68 6 v n (cellsE ds) ∧ ∀ w0, Nw w0 w → w0.heap.size ≤ base → Nw w0 w'
theorem Nw.kp {g : Nat} {w0 w w' : World} (h : Nw w0 w) (k : Kp g w w') (hg : w0.heap.size ≤ g) : Nw w0 w' :=
  ⟨k.os.trans h.os, k.tape.trans h.tape, k.output.trans h.output, Nat.le_trans h.size k.size, fun i hi hne => (k.block i (Nat.lt_of_lt_of_le hi h.size) (fun e => by cases e; omega)).trans (h.block i hi hne)⟩
theorem ordE_nil : ordE [] = [] := List.eq_nil_of_length_eq_zero (by rw [ordE_len]; rfl)
theorem insertion_any (es : List Ev6) (base n : Nat) (v : Value) (hn : es.length = n) (hn2 : n ≤ 100) (w : World) (h : w.ownsRow base 68 6 v n (cellsE es)) :
    Calls Tryz.prog 116 #[v, .int .i64 0, .int .i64 (n : Int), .func (.func 81) #[] #[]] w (SortV base n v (ordE es) w) := by
  rcases h.2 with ⟨rfl, h0⟩ | ⟨g, cap, cur, rfl, hb, -⟩
  · subst h0
    have he : es = [] := List.eq_nil_of_length_eq_zero hn
    subst he
    refine (insertion_nil w _).mono ?_
    rintro e w' ⟨rfl, rfl⟩
    exact ⟨rfl, by rw [ordE_nil]; exact World.ownsRow_nil _ _ _ _, fun w0 h0 _ => h0⟩
  · refine (insertion_ok es base n g cap hn hn2 w h).mono ?_
    rintro e w' ⟨rfl, ho, hk⟩
    exact ⟨rfl, ho, fun w0 h0 hs => h0.kp hk (Nat.le_trans hs hb)⟩

theorem stable_any (es : List Ev6) (base n : Nat) (v : Value) (hn : es.length = n) (hn2 : n < 20) (w : World) (h : w.ownsRow base 68 6 v n (cellsE es)) :
    Calls Tryz.prog 106 #[v, .int .i64 (n : Int), .func (.func 81) #[] #[]] w (SortV base n v (ordE es) w) := by
  have hc := Lib.hid (insertion_any es base n v hn (by omega) w h)
  clear h
  go_enter Tryz.func106, Tryz.ntmps106
  go_wp2_with fail
  go_loopw [7, 8] (fun a b wr => a = .int .i64 0 ∧ b = .int .i64 20 ∧ wr = w) (fun _ _ _ => 0)
  case atStart => exact ⟨rfl, rfl, rfl⟩
  case round =>
    obtain ⟨rfl, rfl, rfl⟩ := hrel
    go_wp2_with fail
    refine hc.out.mono ?_
    rintro e w1 ⟨rfl, ho, hk⟩
    have Ho := Lib.hid (And.intro ho hk)
    clear ho hk
    go_wp2_with fail
    go_loopw [6] (fun a wr => a = .int .i64 20 ∧ wr = w1) (fun _ _ => 0)
    case atStart => exact ⟨rfl, rfl⟩
    case round =>
      obtain ⟨rfl, rfl⟩ := hrel
      go_wp2_with fail
      go_end0
      exact ⟨rfl, Ho.out.1, Ho.out.2⟩

theorem sortStable_any (es : List Ev6) (base n : Nat) (v : Value) (hn : es.length = n) (hn2 : n < 20) (w : World) (h : w.ownsRow base 68 6 v n (cellsE es)) :
    Calls Tryz.prog 80 #[v, .func (.func 81) #[] #[]] w (SortV base n v (ordE es) w) := by
  have hc := Lib.hid (stable_any es base n v hn hn2 w h)
  obtain ⟨a, c, rfl⟩ := own_shape' h
  clear h
  go_enter Tryz.func80, Tryz.ntmps80
  go_wp2_with fail
  refine hc.out.mono ?_
  rintro e w1 ⟨rfl, ho, hk⟩
  have Ho := Lib.hid (And.intro ho hk)
  clear ho hk
  go_wp2_with fail
  go_end0
  exact ⟨rfl, Ho.out.1, Ho.out.2⟩

def RowE (es : List Ev6) (w : World) (e : Ending) (w' : World) : Prop :=
  ∃ v : Value, e = .returned v ∧ w'.ownsRow w.heap.size 68 6 v es.length (cellsE es) ∧ Nw w w'
set_option maxRecDepth 100000 in
theorem clone_events (es : List Ev6) (n bm : Nat) (v : Value) (hn : es.length = n) (hn64 : n ≤ 64) (w : World)
    (hm : w.ownsRow bm 68 6 v n (cellsE es)) :
    Calls Tryz.prog 65 #[v] w (RowE es w) := by
  obtain ⟨va, vc, rfl⟩ := own_shape' hm
  have Hm := Lib.hid hm
  have Hn := Lib.hid hn
  clear hm hn
  go_enter Tryz.func65, Tryz.ntmps65
  have q0 : ∀ (w : World) (a : Option Addr) (n c n' c' : Nat), (binOp .eql 25 (.slice a n c) (.slice none n' c')).run Tryz.prog w = .ok (.bool a.isNone) w := fun w a n c n' c' => Lib.run_eql_slice_nil w _ _ a n c n' c' Tryz.underlying25
  obtain ⟨i0, hi, hz0, hz1, hz2⟩ := info_parts info_event
  rcases Hm.out.2 with ⟨h1, h2⟩ | ⟨g, cap, cur, h1, hb, hg, hc, hmx, hs, ht⟩
  · cases h1
    have hms : es = [] := List.eq_nil_of_length_eq_zero (by rw [Hn.out])
    subst hms
    go_wp2_with fail
    go_ret
    exact ⟨_, rfl, World.ownsRow_nil _ _ _ _, Nw.refl _⟩
  · cases h1
    have Hbel := Lib.hid ((Nw.refl w).alloc (.cells #[] 68 (0, 0)))
    clear hb hg hc hmx hs ht
    go_wp2_with (at_builtin; refine wpList_append_own _ rfl _ _ 25 rfl w.heap.size 68 i0 (.agg #[.int .i64 0, .int .i64 0, .int .i64 0, .int .i64 0, .int .i64 0, .float .f32 0]) 6 48 Tryz.underlying25 hi hz0 hz1 hz2 rfl (by decide) _ _ _ rfl (World.ownsRow_made w #[] 0 (Nat.le_refl _) (Nat.zero_le _) rfl) ⟨g, 0, none⟩ n vc (cellsE es) rfl ?qc1 ?qc2 ?qc3 ?qc4 ?qc5 ?qc6 ?_)
    case qc1 => rw [cellsE_len, Hn.out]
    case qc2 =>
      intro j u hj
      have hj' : j < n * 6 := by
        have := (List.getElem?_eq_some_iff.1 hj).1
        rw [cellsE_len, Hn.out] at this
        exact this
      have c1 := Hm.out.cellAt j hj'
      rw [hj] at c1
      rw [show (⟨g, 0, none⟩ : Addr).add j = ⟨g, j, none⟩ from by simp [Addr.add]; first | done | (intro h; omega)]
      exact Lib.cell?_alloc_some _ c1
    case qc3 => exact cellsE_one es
    case qc4 => unfold maxLen; omega
    case qc5 => omega
    case qc6 => simp
    · intro v' w1 hown hgrow hnil
      have Hown := Lib.hid hown
      have Hgr := Lib.hid (Hbel.out.grown hgrow (fun q hq => by simp [Value.ownBlock] at hq; omega))
      clear hown hgrow hnil
      go_wp2
      go_ret
      exact ⟨v', rfl, by have h := Hown.out; simpa [Hn.out] using h, Hgr.out⟩

/-! ### the score as an argument -/
structure ScoV (w : World) (base L V C R : Nat) (bs : List (List M4)) (es : List Ev6) (sv ev : Value) : Prop where
  hL : L ≤ 500
  hV : 1 ≤ V ∧ V ≤ 4
  hC : Sm C ∧ (FloatKind.f32.format.order C 0 == some .gt) = true
  hR : Rel R
  hb : bs.length ≤ 3
  he : es.length ≤ 13
  bok : ∀ ms ∈ bs, ms.length ≤ 4 ∧ ∀ m ∈ ms, m.ok
  eok : ∀ x ∈ es, x.ok L bs.length
  bods : BodsR w base sv bs
  evs : w.ownsRow base 68 6 ev es.length (cellsE es)
theorem ScoV.nw {w w' : World} {base L V C R : Nat} {bs : List (List M4)} {es : List Ev6} {sv ev : Value} (h : ScoV w base L V C R bs es sv ev) (hk : Nw w w') : ScoV w' base L V C R bs es sv ev :=
  ⟨h.hL, h.hV, h.hC, h.hR, h.hb, h.he, h.bok, h.eok, h.bods.nw hk, own_nw h.evs hk⟩
theorem ScoV.shape {w : World} {base L V C R : Nat} {bs : List (List M4)} {es : List Ev6} {sv ev : Value} (h : ScoV w base L V C R bs es sv ev) : (∃ a c, sv = .slice a bs.length c) ∧ ∃ a c, ev = .slice a es.length c := ⟨h.bods.shape, own_shape' h.evs⟩

set_option maxHeartbeats 1600000 in
theorem isScore_ok (base L V C R nb ne : Nat) (bs : List (List M4)) (es : List Ev6) (sv ev : Value) (w : World) (h : ScoV w base L V C R bs es sv ev) (hnb : nb = bs.length) (hne : ne = es.length) :
    Calls Tryz.prog 31 #[.agg #[.int .i64 (L : Int), .int .i64 (V : Int), .float .f32 C, .float .f32 R, sv, ev]] w (TestP true w) := by
  obtain ⟨⟨sa, sc, rfl⟩, ea, ec, rfl⟩ := h.shape
  rw [← hnb, ← hne] at h ⊢
  have hV := h.hV
  have H := Lib.hid h
  have Hn := Lib.hid (And.intro hnb hne)
  have hgc : (gt0 C && fin .f32 C) = true := by rw [Bool.and_eq_true]; exact ⟨h.hC.2, (fin_iff' .f32 C).2 h.hC.1⟩
  have hgr : ((ge0 R && le1 R) && !(R == 2147483648)) = true := by
    have h1 : ge0 R = true := h.hR.1.2.1
    have h2 : le1 R = true := h.hR.1.2.2
    have h3 := h.hR.2.2
    rw [h1, h2]; simpa using h3
  have N := Lib.hid ((Nw.refl w).alloc (.cells #[.int .i64 (L : Int), .int .i64 (V : Int), .float .f32 C, .float .f32 R, .slice sa nb sc, .slice ea ne ec] 27 (0, 0)))
  have X := Lib.hid (HasC.new w 27 (.int .i64 (L : Int)) (.int .i64 (V : Int)) (.float .f32 C) (.float .f32 R) (.slice sa nb sc) (.slice ea ne ec))
  clear h hnb hne
  go_enter Tryz.func31, Tryz.ntmps31
  go_wp2_with (first
    | (go_at_call 50; refine (isSteps_ok L (by have := H.out.hL; omega) _).mono ?_; rintro e w1 ⟨rfl, rfl⟩)
    | (go_at_call 51; refine (isCeiling_any _ _).mono ?_; rintro e w1 ⟨rfl, rfl⟩; rw [hgc])
    | (go_at_call 52; refine (isRelease_any _ H.out.hR.2.1 _).mono ?_; rintro e w1 ⟨rfl, rfl⟩; rw [hgr]))
  refine (areBodies_ok bs base nb _ _ Hn.out.1 (by have := H.out.hb; have := Hn.out.1; omega) (H.out.bods.nw N.out) H.out.bok).mono ?_
  rintro e w2 ⟨rfl, n2⟩
  have N2 := Lib.hid (N.out.trans n2)
  obtain ⟨⟨e0, g0⟩, ⟨e1, g1⟩, ⟨e2, g2⟩, ⟨e3, g3⟩, ⟨e4, g4⟩, ⟨e5, g5⟩⟩ := six_at (X.out.nw n2)
  clear n2
  go_wp2_with fail
  refine (areEvents_ok es L nb base ne (by have := H.out.hL; omega) _ _ Hn.out.2.symm (by have := H.out.he; have := Hn.out.2; omega) (by have h5 := own_nw H.out.evs N2.out; rwa [← Hn.out.2] at h5) (by have := H.out.eok; rw [← Hn.out.1] at this; exact this)).mono ?_
  rintro e w3 ⟨rfl, n3⟩
  have N3 := Lib.hid (N2.out.trans n3)
  clear n3
  go_wp2_with fail
  go_ret
  exact ⟨rfl, N3.out⟩

/-- the events in order, in memory of its own -/
theorem orderEvents_ok (base L V C R : Nat) (bs : List (List M4)) (es : List Ev6) (sv ev : Value) (w : World) (h : ScoV w base L V C R bs es sv ev) :
    Calls Tryz.prog 55 #[.agg #[.int .i64 (L : Int), .int .i64 (V : Int), .float .f32 C, .float .f32 R, sv, ev]] w (RowE (ordE es) w) := by
  obtain ⟨nb, hnb⟩ : ∃ nb, nb = bs.length := ⟨_, rfl⟩
  obtain ⟨ne, hne⟩ : ∃ ne, ne = es.length := ⟨_, rfl⟩
  obtain ⟨⟨sa, sc, rfl⟩, ea, ec, rfl⟩ := h.shape
  rw [← hnb, ← hne] at h ⊢
  have H := Lib.hid h
  have Hn := Lib.hid (And.intro hnb hne)
  have N := Lib.hid ((Nw.refl w).alloc (.cells #[.int .i64 (L : Int), .int .i64 (V : Int), .float .f32 C, .float .f32 R, .slice sa nb sc, .slice ea ne ec] 27 (0, 0)))
  have X := Lib.hid (HasC.new w 27 (.int .i64 (L : Int)) (.int .i64 (V : Int)) (.float .f32 C) (.float .f32 R) (.slice sa nb sc) (.slice ea ne ec))
  clear h hnb hne
  go_enter Tryz.func55, Tryz.ntmps55
  go_wp2_with fail
  refine (isScore_ok base L V C R nb ne bs es _ _ _ (H.out.nw N.out) Hn.out.1 Hn.out.2).mono ?_
  rintro e w2 ⟨rfl, n2⟩
  have N2 := Lib.hid (N.out.trans n2)
  obtain ⟨⟨e0, g0⟩, ⟨e1, g1⟩, ⟨e2, g2⟩, ⟨e3, g3⟩, ⟨e4, g4⟩, ⟨e5, g5⟩⟩ := six_at (X.out.nw n2)
  clear n2
  go_wp2_with fail
  have hne13 : ne ≤ 13 := by have := H.out.he; have := Hn.out.2; omega
  refine (clone_events es ne base _ Hn.out.2.symm (by omega) _ (by have := own_nw H.out.evs N2.out; rwa [← Hn.out.2] at this)).mono ?_
  rintro e w3 ⟨v3, rfl, o3, n3⟩
  have N3 := Lib.hid (N2.out.trans n3)
  rw [← Hn.out.2] at o3
  have O3 := Lib.hid o3
  have hs2 := N2.out.size
  clear n3 o3
  go_wp2_with fail
  refine (sortStable_any es w2.heap.size ne v3 Hn.out.2.symm (by omega) _ O3.out).mono ?_
  rintro e w4 ⟨rfl, o4, k4⟩
  have N4 := Lib.hid (k4 w N3.out hs2)
  have O4 := Lib.hid (own_base o4 hs2)
  clear o4 k4
  go_wp2_with fail
  go_ret
  exact ⟨_, rfl, by rw [ordE_len, ← Hn.out.2]; exact O4.out, N4.out⟩

end Go.Proofs.YtiakcibeobbonaaGreat

/- The walk of DampBody over a valid body and a factor from 0 to 1.
   Conditions: those that each statement names. -/
namespace Go.Proofs.YtiakcibeobbonaaGreat
set_option linter.unusedSimpArgs false
set_option linter.unusedVariables false
open Go Go.RowKit

def dampM (t : Nat) (m : M4) : M4 := ⟨opB .mul .f32 m.pr t, opB .mul .f32 m.pi t, m.gr, m.gi⟩

/-- 'x >= 0 && x <= 1', where it holds -/
theorem isFactor_ok (t : Nat) (w : World) (ht : Sm t) (h0 : 0 ≤ S t) (h1 : S t ≤ 1) :
    Calls Tryz.prog 76 #[.float .f32 t] w fun e w' => e = .returned (.bool true) ∧ w = w' := by
  have n1 : Sm 1065353216 ∧ S 1065353216 = 1 := by
    have h : Ieee.single.read 1065353216 = .number false 8388608 (-23) := by decide
    refine ⟨⟨_, _, _, h⟩, ?_⟩
    rw [show S 1065353216 = _ from Flo.V_eq h]
    unfold Flo.val
    have := Flo.pw_neg_mul 23
    rw [show Flo.pw 23 = 8388608 from Flo.pw_nat 23] at this
    simp only [Bool.false_eq_true, if_false]
    have e2 : ((8388608 : Nat) : Rat) = 8388608 := rfl
    rw [e2]; grind
  have o0 := Flo.order_num Ieee.single t 0 ht zero_single.1
  have o1 := Flo.order_num Ieee.single t 1065353216 ht n1.1
  have z : Flo.V Ieee.single 0 = 0 := zero_single.2
  have z1 : Flo.V Ieee.single 1065353216 = 1 := n1.2
  have k0 : (FloatKind.f32.format.order t 0 == some .gt || FloatKind.f32.format.order t 0 == some .eq) = true := by
    rw [show FloatKind.f32.format = Ieee.single from rfl, Bool.or_eq_true, beq_iff_eq, beq_iff_eq, o0.2.2, o0.2.1, z]
    show 0 < S t ∨ S t = 0
    grind
  have k1 : (FloatKind.f32.format.order t 1065353216 == some .lt || FloatKind.f32.format.order t 1065353216 == some .eq) = true := by
    rw [show FloatKind.f32.format = Ieee.single from rfl, Bool.or_eq_true, beq_iff_eq, beq_iff_eq, o1.1, o1.2.1, z1]
    show S t < 1 ∨ S t = 1
    grind
  clear o0 o1 z z1 ht h0 h1
  go_enter Tryz.func76, Tryz.ntmps76
  go_wp2
  go_ret
  exact ⟨rfl, rfl⟩

def dampL (ms : List M4) (t k : Nat) : List M4 := (ms.take k).map (dampM t) ++ ms.drop k
theorem dampL_len (ms : List M4) (t k : Nat) : (dampL ms t k).length = ms.length := by simp [dampL]; omega
theorem dampL_zero (ms : List M4) (t : Nat) : dampL ms t 0 = ms := by simp [dampL]
theorem dampL_full (ms : List M4) (t n : Nat) (h : ms.length = n) : dampL ms t n = ms.map (dampM t) := by
  simp [dampL, List.take_of_length_le (Nat.le_of_eq h), List.drop_of_length_le (Nat.le_of_eq h)]
theorem dampL_at (ms : List M4) (t k : Nat) (m : M4) (h : ms[k]? = some m) : (dampL ms t k)[k]? = some m := by
  obtain ⟨hk, he⟩ := List.getElem?_eq_some_iff.1 h
  unfold dampL
  rw [List.getElem?_append_right (by simp; omega)]
  simp only [List.length_map, List.length_take, Nat.min_eq_left (Nat.le_of_lt hk), Nat.sub_self, List.getElem?_drop, Nat.add_zero, h]
theorem cellsM_set (l : List M4) (k : Nat) (m m' : M4) (h : l[k]? = some m) (hg : m'.gr = m.gr ∧ m'.gi = m.gi) :
    (cellsM l).set (k * 2) (.complex .f32 m'.pr m'.pi) = cellsM (l.set k m') := by
  induction l generalizing k with
  | nil => simp at h
  | cons x l ih =>
    cases k with
    | zero =>
      simp at h
      subst h
      simp [cellsM, M4.cells, hg.1, hg.2]
    | succ k =>
      have hk := ih k (by simpa using h)
      simp only [cellsM, List.flatMap_cons, List.set_cons_succ] at *
      rw [show (k + 1) * 2 = k * 2 + 2 from by omega]
      simp only [M4.cells, List.cons_append, List.nil_append, List.set_cons_succ]
      rw [hk]
theorem dampL_set (ms : List M4) (t k : Nat) (m : M4) (h : ms[k]? = some m) : (dampL ms t k).set k (dampM t m) = dampL ms t (k + 1) := by
  obtain ⟨hk, he⟩ := List.getElem?_eq_some_iff.1 h
  unfold dampL
  rw [List.take_succ_eq_append_getElem hk, he, List.drop_eq_getElem_cons hk, he, List.set_append_right _ _ (by simp; omega)]
  simp [Nat.min_eq_left (Nat.le_of_lt hk)]

def DampP (n : Nat) (ms : List M4) (w : World) (e : Ending) (w' : World) : Prop :=
  ∃ v : Value, e = .returned (.tuple #[.agg #[v], .bool true]) ∧ w'.ownsRow w.heap.size 93 2 v n (cellsM ms) ∧ Nw w w'
def DampI (ms : List M4) (t n base D E : Nat) (v : Value) (w : World) (i : Value) (wr : World) : Prop :=
  ∃ k : Nat, k ≤ n ∧ i = .int .i64 (k : Int) ∧ wr.ownsRow base 93 2 v n (cellsM (dampL ms t k)) ∧ Has1 wr D (.slice none 0 0) ∧ Has1 wr E v ∧ Nw w wr

set_option maxRecDepth 100000 in
/-- the damped modes in the place of the others; what the caller holds beside them stays -/
theorem dampModes_ok (ms : List M4) (hms : ∀ m ∈ ms, m.ok) (n t base D E : Nat) (va : Option Addr) (vc : Nat) (hn : ms.length = n) (ht : Sm t) (h0 : 0 ≤ S t) (h1 : S t ≤ 1) (w w0 : World)
    (hm : w.ownsRow base 93 2 (.slice va n vc) n (cellsM ms)) (hD : Has1 w D (.slice none 0 0)) (hE : Has1 w E (.slice va n vc)) (hN : Nw w0 w)
    (hd : D < base) (he : ∀ q, (Value.slice va n vc).ownBlock = some q → q < E) (hb : w0.heap.size ≤ base) :
    Calls Tryz.prog 92 #[.slice va n vc, .float .f32 t] w fun e w' =>
      e = .returned (.tuple #[]) ∧ w'.ownsRow base 93 2 (.slice va n vc) n (cellsM (ms.map (dampM t))) ∧ Has1 w' D (.slice none 0 0) ∧ Has1 w' E (.slice va n vc) ∧ Nw w0 w' := by
  have O3 := Lib.hid hm
  have D3 := Lib.hid hD
  have E3 := Lib.hid hE
  have N3 := Lib.hid hN
  have Hd := Lib.hid hd
  have He := Lib.hid he
  have Hb := Lib.hid hb
  have Hms := Lib.hid hms
  have Hn := Lib.hid hn
  have Ht := Lib.hid (And.intro ht (And.intro h0 h1))
  clear hm hD hE hN hd he hb hms hn ht h0 h1
  go_enter Tryz.func92, Tryz.ntmps92
  go_wp2_with fail
  go_loopw [8] (fun i wr => DampI ms t n base D E (.slice va n vc) w0 i wr) (fun i _ => n - (intOf i).toNat)
  case atStart => exact ⟨0, by omega, rfl, by rw [dampL_zero]; exact O3.out, D3.out, E3.out, N3.out⟩
  case round =>
    obtain ⟨k, hk, rfl, own, hD, hE, hN⟩ := hrel
    have Ow := Lib.hid own
    have Dw := Lib.hid hD
    have Ew := Lib.hid hE
    have Nr := Lib.hid hN
    clear own hD hE hN
    by_cases hlt : k < n
    · obtain ⟨m, hmk⟩ : ∃ m, ms[k]? = some m := ⟨ms[k]'(by rw [Hn.out]; exact hlt), List.getElem?_eq_getElem _⟩
      obtain ⟨g, cap, hv, hcap, hmax, hgs, e1, e2⟩ := own_mode Ow.out (dampL_at ms t k m hmk) (by rw [dampL_len, Hn.out])
      cases hv
      have Hmk := Lib.hid hmk
      have Hmo := Lib.hid (Hms.out m (List.mem_of_getElem? hmk))
      unfold maxLen at hmax
      clear hmk
      have K1 := Lib.hid (HasMode.new wr 93 m.pr m.pi m.gr m.gi)
      have K2 := Lib.hid (Ow.out.alloc (.cells #[.complex .f32 m.pr m.pi, .complex .f32 m.gr m.gi] 93 (0, 0)))
      have K3 := Lib.hid (Dw.out.alloc (.cells #[.complex .f32 m.pr m.pi, .complex .f32 m.gr m.gi] 93 (0, 0)))
      have K4 := Lib.hid (Ew.out.alloc (.cells #[.complex .f32 m.pr m.pi, .complex .f32 m.gr m.gi] 93 (0, 0)))
      have K5 := Lib.hid (Nr.out.alloc (.cells #[.complex .f32 m.pr m.pi, .complex .f32 m.gr m.gi] 93 (0, 0)))
      go_wp2_with fail
      obtain ⟨w4, hw4⟩ : ∃ w4, w4 = wr.alloc (.cells #[.complex .f32 m.pr m.pi, .complex .f32 m.gr m.gi] 93 (0, 0)) := ⟨_, rfl⟩
      rw [← hw4] at K1 K2 K3 K4 K5
      rw [← hw4]
      clear hw4 e1 e2
      obtain ⟨l0, l1, l2, l3, l4⟩ := K1.out
      obtain ⟨s1, s2, s3, s4⟩ := Hmo.out.nums
      obtain ⟨p1, p2⟩ := Hmo.out.pole
      have D1' := Lib.hid (damp_part m.pr t s1 Ht.out.1 Ht.out.2.1 Ht.out.2.2 (by have := ra_le p1; grind))
      have D2' := Lib.hid (damp_part m.pi t s2 Ht.out.1 Ht.out.2.1 Ht.out.2.2 (by have := ra_le p2; grind))
      refine (implScale_ok _ _ _ _ D1'.out.1 D2'.out.1).mono ?_
      rintro e w5 ⟨rfl, rfl⟩
      have G2 := K2
      have G3 := K3
      have G4 := K4
      have G5 := K5
      have hs4 := (K2.out.lt _ rfl)
      clear l0 l1 l2 l3 l4
      have e3 := G2.out.cellAt (k * 2) (by omega)
      have hc := (cellsM_at _ k m (dampL_at ms t k m Hmk.out)).1
      rw [Nat.mul_comm] at hc
      rw [hc] at e3
      have e4 := G2.out.frozenAt (k * 2)
      have hset := G2.out.stored (k * 2) (.complex .f32 (dampM t m).pr (dampM t m).pi)
      rw [cellsM_set (dampL ms t k) k m (dampM t m) (dampL_at ms t k m Hmk.out) ⟨rfl, rfl⟩, dampL_set ms t k m Hmk.out] at hset
      have hs1' := Hd.out
      have hb' := Hb.out
      have hg1 : base ≤ g := (K2.out.lt g rfl).1
      have hne : g < E := He.out g rfl
      have hfin : DampI ms t n base D E (.slice (some ⟨g, 0, none⟩) n vc) w0 (.int .i64 ((k : Int) + 1)) (w4.setCell ⟨g, k * 2, none⟩ (.complex .f32 (opB .mul .f32 m.pr t) (opB .mul .f32 m.pi t))) :=
        ⟨k + 1, by omega, by rw [show ((k + 1 : Nat) : Int) = (k : Int) + 1 from by omega], hset.1, G3.out.set (by show g ≠ D; omega) _, G4.out.set (by show g ≠ E; omega) _, G5.out.set (by show w0.heap.size ≤ g; omega) _⟩
      have Hfin := Lib.hid hfin
      clear hfin hset hc
      go_wp2_with fail
      go_roundw
      case rel => exact Hfin.out
      case measure => simp only [intOf]; omega
    · obtain rfl : k = n := by omega
      go_wp2_with fail
      go_end0
      exact ⟨rfl, by rw [← dampL_full ms t k Hn.out]; exact Ow.out, Dw.out, Ew.out, Nr.out⟩

end Go.Proofs.YtiakcibeobbonaaGreat

/- What a player does with a score: plain (FnShifted, FnCut).
   Conditions: those that each statement names. -/
namespace Go.Proofs.YtiakcibeobbonaaGreat
set_option linter.unusedSimpArgs false
set_option linter.unusedVariables false
open Go Go.RowKit

/-- a voice that plays: its body, its modes, their states, what is to come of its input -/
structure Prt where
  b : Int
  ms : List M4
  st : List (Nat × Nat)
  xs : List Nat
def Prt.damp (t : Nat) (p : Prt) : Prt := { p with ms := p.ms.map (dampM t) }
def Prt.next (p : Prt) : Prt := { p with st := stepAll p.ms p.st (inputOf p.xs 0), xs := p.xs.drop 1 }
def Prt.out (p : Prt) : Nat := outS (stepAll p.ms p.st (inputOf p.xs 0))
def strikeP (bs : List (List M4)) (e : Ev6) : Prt :=
  ⟨e.b, bs.getD e.b.toNat [], List.replicate (bs.getD e.b.toNat []).length (0, 0), (shapeL e.s.toNat e.m.toNat).map fun x => opB .mul .f32 x e.f⟩
/-- an event happens -/
def takeE (bs : List (List M4)) (V : Nat) (ps : List Prt) (e : Ev6) : List Prt :=
  if e.k = 1 then (if ps.length = V then ps.drop 1 else ps) ++ [strikeP bs e]
  else if e.k = 2 then ps.map fun p => if p.b = e.b then p.damp e.f else p
  else if e.k = 3 then ps.filter fun p => p.b != e.b
  else ps
def sumP (ps : List Prt) : Nat := ps.foldl (fun x p => opB .add .f32 x p.out) 0
section
variable (bs : List (List M4)) (V : Nat) (es : List Ev6)
/-- the events of a sample -/
def evAt (i : Nat) : List Ev6 := es.filter fun e => e.t == (i : Int)
/-- the voices ahead of a sample's events -/
def preP : Nat → List Prt
  | 0 => []
  | i + 1 => (((evAt es i).foldl (takeE bs V) (preP i)).map Prt.next)
/-- the voices behind them -/
def tkP (i : Nat) : List Prt := (evAt es i).foldl (takeE bs V) (preP bs V es i)
/-- the sum of the outputs at a sample -/
def sumAt (i : Nat) : Nat := sumP (tkP bs V es i)
theorem preP_succ (i : Nat) : preP bs V es (i + 1) = (tkP bs V es i).map Prt.next := rfl
end

/-! ### a score that is shifted -/
def Ev6.late (by' : Nat) (e : Ev6) : Ev6 := { e with t := e.t + (by' : Int) }
theorem evAt_early (es : List Ev6) (by' i : Nat) (h0 : ∀ e ∈ es, 0 ≤ e.t) (hi : i < by') : evAt (es.map (Ev6.late by')) i = [] := by
  unfold evAt
  rw [List.filter_eq_nil_iff]
  intro e he
  obtain ⟨x, hx, rfl⟩ := List.mem_map.1 he
  have := h0 x hx
  simp [Ev6.late]
  omega
theorem evAt_late (es : List Ev6) (by' i : Nat) : evAt (es.map (Ev6.late by')) (by' + i) = (evAt es i).map (Ev6.late by') := by
  unfold evAt
  rw [List.filter_map]
  congr 1
  apply List.filter_congr
  intro e _
  have hiff : (e.t + (by' : Int) = ((by' + i : Nat) : Int)) ↔ (e.t = (i : Int)) := by omega
  show ((e.t + (by' : Int)) == ((by' + i : Nat) : Int)) = (e.t == (i : Int))
  rw [Bool.eq_iff_iff, beq_iff_eq, beq_iff_eq]
  exact hiff
theorem takeE_late (bs : List (List M4)) (V by' : Nat) (ps : List Prt) (e : Ev6) : takeE bs V ps (e.late by') = takeE bs V ps e := rfl
theorem foldl_late (bs : List (List M4)) (V by' : Nat) : ∀ (l : List Ev6) (ps : List Prt), (l.map (Ev6.late by')).foldl (takeE bs V) ps = l.foldl (takeE bs V) ps
  | [], _ => rfl
  | e :: l, ps => by simp only [List.map_cons, List.foldl_cons, takeE_late]; exact foldl_late bs V by' l _
theorem preP_early (bs : List (List M4)) (V : Nat) (es : List Ev6) (by' : Nat) (h0 : ∀ e ∈ es, 0 ≤ e.t) : ∀ i, i ≤ by' → preP bs V (es.map (Ev6.late by')) i = []
  | 0, _ => rfl
  | i + 1, h => by
    rw [preP_succ, tkP, evAt_early es by' i h0 (by omega), preP_early bs V es by' h0 i (by omega)]
    rfl
theorem preP_late (bs : List (List M4)) (V : Nat) (es : List Ev6) (by' : Nat) (h0 : ∀ e ∈ es, 0 ≤ e.t) : ∀ i, preP bs V (es.map (Ev6.late by')) (by' + i) = preP bs V es i
  | 0 => preP_early bs V es by' h0 by' (Nat.le_refl _)
  | i + 1 => by
    rw [← Nat.add_assoc, preP_succ, preP_succ, tkP, tkP, evAt_late, preP_late bs V es by' h0 i, foldl_late]
theorem sumAt_early (bs : List (List M4)) (V : Nat) (es : List Ev6) (by' i : Nat) (h0 : ∀ e ∈ es, 0 ≤ e.t) (hi : i < by') : sumAt bs V (es.map (Ev6.late by')) i = 0 := by
  unfold sumAt tkP
  rw [evAt_early es by' i h0 hi, preP_early bs V es by' h0 i (by omega)]
  rfl
theorem sumAt_late (bs : List (List M4)) (V : Nat) (es : List Ev6) (by' i : Nat) (h0 : ∀ e ∈ es, 0 ≤ e.t) : sumAt bs V (es.map (Ev6.late by')) (by' + i) = sumAt bs V es i := by
  unfold sumAt tkP
  rw [evAt_late, preP_late bs V es by' h0, foldl_late]
end Go.Proofs.YtiakcibeobbonaaGreat

/- Plain facts: a number of moderate size, divided by its size, has a size near 1, and multiplied by its size it is near itself.
   Conditions: those that each statement names. No program stands in it. -/
namespace Go.Proofs.YtiakcibeobbonaaGreat
set_option linter.unusedSimpArgs false
set_option linter.unusedVariables false
open Go

/-- the law's own test, where what is left is at most 340 units of 'u S' -/
theorem small_of (a b p q k d1 d2 s : Nat) (w1 w2 w3 w4 : World) (h1 : Moderate a b) (i1 : floatBits .sub .f64 p a = some d1) (j1 : floatBits .sub .f64 q b = some d2) (r1 : floatBits .add .f64 (labs d1) (labs d2) = some s) (r2 : Flo.Nm s)
    (hhigh : Flo.W s ≤ 340 * (Flo.u * (Flo.W (labs a) + Flo.W (labs b)))) (hk : Flo.Nm k) (hk44 : Flo.W k = Flo.pw (-((44 : Nat) : Int))) :
    (FloatKind.f64.format.order (fres w3 .add .f64 (labs (fres w1 .sub .f64 p a)) (labs (fres w2 .sub .f64 q b))) (fres w4 .mul .f64 (szd a b) k) == some .lt ||
      FloatKind.f64.format.order (fres w3 .add .f64 (labs (fres w1 .sub .f64 p a)) (labs (fres w2 .sub .f64 q b))) (fres w4 .mul .f64 (szd a b) k) == some .eq) = true := by
  obtain ⟨ax, bx, fa, fb, s1, s2, nla, nlb⟩ := h1
  have na := Nm_of_fin fa
  have nb := Nm_of_fin fb
  have u0 := Flo.u_pos
  have u1 := Flo.u_le
  have p201 := Flo.pw_pos (-201)
  generalize hS : Flo.W (labs a) + Flo.W (labs b) = S at *
  have hS0 : 0 ≤ S := by grind
  have huS0 := Rat.mul_nonneg (Rat.le_of_lt u0) hS0
  have huS : Flo.u * S ≤ S / 1048576 := by
    have := Rat.mul_le_mul_of_nonneg_right u1 hS0; grind
  have huuS : Flo.u * (Flo.u * S) ≤ (Flo.u * S) / 1048576 := by
    have := Rat.mul_le_mul_of_nonneg_right u1 huS0; grind
  have het : Flo.et ≤ Flo.u * (Flo.u * S) := by
    have k1 := Rat.mul_le_mul_of_nonneg_left s1 (Rat.le_of_lt u0)
    have k3 := Rat.mul_le_mul_of_nonneg_left k1 (Rat.le_of_lt u0)
    rw [show Flo.u = Flo.pw (-53) from rfl, ← Flo.pw_add, ← Flo.pw_add] at k3
    have k2 : Flo.pw (-1074) ≤ Flo.pw (-53 + (-53 + -201)) := Flo.pw_le (by omega)
    unfold Flo.et; rw [show Flo.u = Flo.pw (-53) from rfl]; grind
  have hbig : 32 * Flo.pw 201 < Flo.pw 1023 := by
    have e1 : Flo.pw 206 = 32 * Flo.pw 201 := by rw [show (206 : Int) = 5 + 201 from rfl, Flo.pw_add, show Flo.pw 5 = 32 from Flo.pw_nat 5]
    have e2 : Flo.pw 206 < Flo.pw 1023 := Flo.pw_lt (by omega)
    grind
  have et0 := Flo.et_pos
  -- the bound
  have hsz := szd_eq a b ax bx na nb
  obtain ⟨sz, o1, o2, o3⟩ := Flo.d_add (labs a) (labs b) nla nlb S ⟨by rw [hS]; grind, by rw [hS]; exact Rat.le_refl⟩ (by grind)
  rw [hsz] at o1
  simp only [Option.some.injEq] at o1
  rw [o1] at *
  rw [hS] at o3
  have e44 : Flo.W k = 512 * Flo.u := by
    rw [hk44, show (-((44 : Nat) : Int)) = 9 + -53 from rfl, Flo.pw_add, show Flo.pw 9 = 512 from Flo.pw_nat 9]; rfl
  have hkA : Flo.Ab (Flo.W k) (512 * Flo.u) := by rw [e44]; unfold Flo.Ab; grind
  have hszA : Flo.Ab (Flo.W sz) (2 * S) := ((o3.add (show Flo.Ab S S from ⟨by grind, by grind⟩)).eq (show Flo.W sz - S + S = Flo.W sz by grind)).mono (by grind)
  obtain ⟨k', t1, t2, t3⟩ := Flo.d_mul sz k o2 hk (2 * S * (512 * Flo.u)) (hszA.mul hkA) (by grind)
  have hlow : 500 * (Flo.u * S) ≤ Flo.W k' := by
    rw [e44] at t3
    have m1 : S - 2 * (Flo.u * S) ≤ Flo.W sz := by unfold Flo.Ab at o3; grind
    have m2 := Rat.mul_le_mul_of_nonneg_right m1 (show (0 : Rat) ≤ 512 * Flo.u by grind)
    unfold Flo.Ab at t3
    grind
  have fr1 : fres w1 .sub .f64 p a = d1 := by unfold fres; rw [i1]
  have fr2 : fres w2 .sub .f64 q b = d2 := by unfold fres; rw [j1]
  have fr3 : fres w3 .add .f64 (labs d1) (labs d2) = s := by unfold fres; rw [r1]
  have fr4 : fres w4 .mul .f64 sz k = k' := by unfold fres; rw [t1]
  rw [fr1, fr2, fr3, fr4, show FloatKind.f64.format = Ieee.double from rfl, Bool.or_eq_true, beq_iff_eq, beq_iff_eq]
  have o := Flo.order_num Ieee.double s k' r2 t2
  rw [o.1, o.2.1]
  show Flo.W s < Flo.W k' ∨ Flo.W s = Flo.W k'
  have : Flo.W s ≤ Flo.W k' := by grind
  grind


theorem labs_mod (x : Nat) (hx : x < 2 ^ 64) (h : Flo.Nm x) : x % signBit = labs x := by
  obtain ⟨s, m, p, hr⟩ := h
  have hm := mod_read x
  rw [show FloatKind.f64.decode x = _ from hr] at hm
  obtain ⟨n', j', l1, l2⟩ := labs_read hx hr
  have e : 2 * Ieee.double.signWeight = 2 ^ 64 := by decide
  have hl : labs x < 2 ^ 64 := by
    unfold labs
    split
    · unfold Op.negFloat
      exact Nat.xor_lt_two_pow hx (by decide)
    · split
      · decide
      · exact hx
  exact Flo.read_inj Ieee.double (show Ieee.double.read _ = _ from hm) l1 (by have := Nat.mod_le x signBit; omega) (by omega) l2.symm

/-- a number of moderate size by its size -/
theorem unit_quo (a b : Nat) (h : Moderate a b) : ∃ e f S, divD a b (szd a b) 0 = some (e, f) ∧ Flo.Nm e ∧ Flo.Nm f ∧ S = Flo.W (labs a) + Flo.W (labs b) ∧ S = ra (Flo.W a) + ra (Flo.W b) ∧ 0 < S ∧ S ≤ Flo.pw 201 ∧ Flo.et ≤ Flo.u * (Flo.u * S) ∧ Flo.Nm (szd a b) ∧
    Flo.Ab (Flo.W (szd a b) - S) (2 * (Flo.u * S)) ∧ Flo.Ab (Flo.W e * Flo.W (szd a b) - Flo.W a) (124 * (Flo.u * S)) ∧ Flo.Ab (Flo.W f * Flo.W (szd a b) - Flo.W b) (124 * (Flo.u * S)) ∧ Flo.Ab (Flo.W a) S ∧ Flo.Ab (Flo.W b) S := by
  obtain ⟨ax, bx, fa, fb, s1, s2, na', nb'⟩ := h
  have na := Nm_of_fin fa
  have nb := Nm_of_fin fb
  have hsz := szd_eq a b ax bx na nb
  have u0 := Flo.u_pos
  have u1 := Flo.u_le
  have et0 := Flo.et_pos
  have p201 := Flo.pw_pos (-201)
  have la := (labs_num a ax na).2
  have lb := (labs_num b bx nb).2
  have a0 := ra_nonneg (Flo.W a)
  have b0 := ra_nonneg (Flo.W b)
  have haS : Flo.Ab (Flo.W a) (Flo.W (labs a) + Flo.W (labs b)) := (ra_ab _).mono (by rw [la, lb]; grind)
  have hbS : Flo.Ab (Flo.W b) (Flo.W (labs a) + Flo.W (labs b)) := (ra_ab _).mono (by rw [la, lb]; grind)
  have hSe : Flo.W (labs a) + Flo.W (labs b) = ra (Flo.W a) + ra (Flo.W b) := by rw [la, lb]
  generalize hS : Flo.W (labs a) + Flo.W (labs b) = S at *
  have hS0 : 0 < S := by grind
  have huS0 := Rat.mul_nonneg (Rat.le_of_lt u0) (Rat.le_of_lt hS0)
  have huS : Flo.u * S ≤ S / 1048576 := by
    have := Rat.mul_le_mul_of_nonneg_right u1 (Rat.le_of_lt hS0); grind
  have huuS : Flo.u * (Flo.u * S) ≤ (Flo.u * S) / 1048576 := by
    have := Rat.mul_le_mul_of_nonneg_right u1 huS0; grind
  have het : Flo.et ≤ Flo.u * (Flo.u * S) := by
    have k1 := Rat.mul_le_mul_of_nonneg_left s1 (Rat.le_of_lt u0)
    have k3 := Rat.mul_le_mul_of_nonneg_left k1 (Rat.le_of_lt u0)
    rw [show Flo.u = Flo.pw (-53) from rfl, ← Flo.pw_add, ← Flo.pw_add] at k3
    have k2 : Flo.pw (-1074) ≤ Flo.pw (-53 + (-53 + -201)) := Flo.pw_le (by omega)
    unfold Flo.et; rw [show Flo.u = Flo.pw (-53) from rfl]; grind
  have het1 : Flo.et ≤ Flo.u / 2 := by
    have k2 : Flo.pw (-1074) ≤ Flo.pw (-54) := Flo.pw_le (by omega)
    have k3 : Flo.pw (-53) = 2 * Flo.pw (-54) := by rw [← Flo.pw_succ]; rfl
    unfold Flo.et; rw [show Flo.u = Flo.pw (-53) from rfl]; grind
  have hbig : 32 * Flo.pw 201 < Flo.pw 1022 := by
    have e1 : Flo.pw 206 = 32 * Flo.pw 201 := by rw [show (206 : Int) = 5 + 201 from rfl, Flo.pw_add, show Flo.pw 5 = 32 from Flo.pw_nat 5]
    have e2 : Flo.pw 206 < Flo.pw 1022 := Flo.pw_lt (by omega)
    grind
  have h32 : 32 < Flo.pw 1022 := by
    have e1 : Flo.pw 5 = 32 := Flo.pw_nat 5
    have e2 : Flo.pw 5 < Flo.pw 1022 := Flo.pw_lt (by omega)
    grind
  have h23 := Flo.pw_lt (a := 1022) (b := 1023) (by omega)
  obtain ⟨sz, o1, o2, o3⟩ := Flo.d_add (labs a) (labs b) na' nb' S ⟨by rw [hS]; grind, by rw [hS]; exact Rat.le_refl⟩ (by grind)
  rw [hsz] at o1
  simp only [Option.some.injEq] at o1
  rw [← o1, hS] at o3
  rw [← o1] at o2
  have o4 : Flo.Ab (Flo.W (szd a b) - S) (2 * (Flo.u * S)) := o3.mono (by grind)
  have hC : 0 < Flo.W (szd a b) := by unfold Flo.Ab at o4; grind
  have hCl : S / 2 ≤ Flo.W (szd a b) := by unfold Flo.Ab at o4; grind
  have hCh : Flo.W (szd a b) ≤ 2 * S := by unfold Flo.Ab at o4; grind
  have hT : S / Flo.W (szd a b) * Flo.W (szd a b) = S := by grind
  have hT2 : S / Flo.W (szd a b) ≤ 2 := by
    refine Rat.le_of_mul_le_mul_right (c := Flo.W (szd a b)) ?_ hC
    rw [hT]; grind
  have hT1 : 1 / 2 ≤ S / Flo.W (szd a b) := by
    refine Rat.le_of_mul_le_mul_right (c := Flo.W (szd a b)) ?_ hC
    rw [hT]; grind
  have z0 : Flo.W 0 = 0 := zero_num.2
  have hge : absGe (szd a b) 0 = true := (absGe_iff _ _ o2 zero_num.1).2 (by rw [z0]; have := ra_nonneg (Flo.W (szd a b)); unfold ra at *; grind)
  have kC := Rat.mul_le_mul_of_nonneg_left hCl (Rat.le_of_lt u0)
  have kT := Rat.mul_le_mul_of_nonneg_left hT1 (Rat.le_of_lt u0)
  obtain ⟨e, f, q1, q2, q3, q4, q5, q6, q7⟩ := Flo.quo_ge a b (szd a b) 0 na nb o2 zero_num.1 S (S / Flo.W (szd a b)) (Flo.W (szd a b)) (.inl rfl) hC (by grind) (by rw [z0]; unfold Flo.Ab; grind) haS hbS (by grind) hT (by grind) (by grind) (by grind) (by grind) hge
  rw [z0] at q6 q7
  refine ⟨e, f, S, divD_of_main a b _ 0 e f na nb o2 zero_num.1 q2 q3 ?_ q1, q2, q3, rfl, hSe, hS0, s2, het, o2, o4, q6.eq (by grind), q7.eq (by grind), haS, hbS⟩
  have := ra_nonneg (Flo.W 0)
  have : ra (Flo.W (szd a b)) = Flo.W (szd a b) := by unfold ra; rw [if_neg (by grind)]
  grind

/-- ITS SIZE IS NEAR 1 -/
theorem unit_size (a b e f : Nat) (h : Moderate a b) (hd : divD a b (szd a b) 0 = some (e, f)) (he : e < 2 ^ 64) (hf : f < 2 ^ 64) :
    ∃ d1 d2, floatBits .sub .f64 (szd e f) 4607182418800017408 = some d1 ∧ floatBits .sub .f64 4607182418800017408 (szd e f) = some d2 ∧ Flo.Nm d1 ∧ Flo.Nm d2 ∧ Flo.W d1 ≤ 300 * Flo.u ∧ Flo.W d2 ≤ 300 * Flo.u ∧ Flo.Nm e ∧ Flo.Nm f := by
  obtain ⟨e', f', S, hd', ne, nf, -, hSe, hS0, s2, het, nz, g0, g1, g2, haS, hbS⟩ := unit_quo a b h
  rw [hd] at hd'
  simp only [Option.some.injEq, Prod.mk.injEq] at hd'
  obtain ⟨rfl, rfl⟩ := hd'
  generalize Flo.W (szd a b) = C at *
  have u0 := Flo.u_pos
  have u1 := Flo.u_le
  have et0 := Flo.et_pos
  have huS0 := Rat.mul_nonneg (Rat.le_of_lt u0) (Rat.le_of_lt hS0)
  have huS : Flo.u * S ≤ S / 1048576 := by
    have := Rat.mul_le_mul_of_nonneg_right u1 (Rat.le_of_lt hS0); grind
  have huu : Flo.u * Flo.u ≤ Flo.u / 1048576 := by
    have := Rat.mul_le_mul_of_nonneg_right u1 (Rat.le_of_lt u0); grind
  have hC0 : 0 < C := by unfold Flo.Ab at g0; grind
  have hetu : Flo.et ≤ Flo.u * Flo.u := by
    have k2 : Flo.pw (-1074) ≤ Flo.pw (-53 + -53) := Flo.pw_le (by omega)
    rw [Flo.pw_add] at k2
    unfold Flo.et; rw [show Flo.u = Flo.pw (-53) from rfl]; grind
  have le := labs_num e he ne
  have lf := labs_num f hf nf
  have e0 := ra_nonneg (Flo.W e)
  have f0 := ra_nonneg (Flo.W f)
  have ram : ∀ q, ra q * C = ra (q * C) := by
    intro q
    unfold ra
    by_cases hq : q < 0
    · rw [if_pos hq, if_pos (by have := Rat.mul_pos (show 0 < -q by grind) hC0; grind)]; grind
    · rw [if_neg hq, if_neg (by have := Rat.mul_nonneg (show 0 ≤ q by grind) (Rat.le_of_lt hC0); grind)]
  have rad : ∀ x y B, Flo.Ab (x - y) B → Flo.Ab (ra x - ra y) B := by
    intro x y B hxy
    unfold Flo.Ab ra at *
    split <;> split <;> grind
  have k1 := rad _ _ _ g1
  have k2 := rad _ _ _ g2
  rw [← ram] at k1 k2
  have k3 : Flo.Ab ((ra (Flo.W e) + ra (Flo.W f) - 1) * C) (252 * Flo.u * C) := by
    have hb : 250 * (Flo.u * S) ≤ 252 * Flo.u * C := by
      unfold Flo.Ab at g0
      have := Rat.mul_le_mul_of_nonneg_left (show S - 2 * (Flo.u * S) ≤ C by grind) (show 0 ≤ 252 * Flo.u by grind)
      have k := Rat.mul_le_mul_of_nonneg_left huS (show 0 ≤ 504 * Flo.u by grind)
      grind
    exact ((((k1.add k2).add g0.neg).eq (by grind)).mono (by grind))
  have k4 := k3.div hC0 (Rat.le_refl (a := C))
  generalize hZ : ra (Flo.W e) + ra (Flo.W f) = Z at *
  have b1023 : 4 < Flo.pw 1023 := by
    have e1 : Flo.pw 2 = 4 := Flo.pw_nat 2
    have e2 : Flo.pw 2 < Flo.pw 1023 := Flo.pw_lt (by omega)
    grind
  have hZ2 : Flo.Ab Z 2 := by unfold Flo.Ab at *; grind
  obtain ⟨z, z1, z2, z3⟩ := Flo.d_add (labs e) (labs f) le.1 lf.1 2 (hZ2.eq (by rw [le.2, lf.2, hZ])) (by grind)
  have ez := szd_eq e f he hf ne nf
  rw [z1] at ez
  simp only [Option.some.injEq] at ez
  rw [le.2, lf.2, hZ] at z3
  rw [← ez]
  have o1 : Flo.W 4607182418800017408 = 1 := by have := one_num.2; rw [this]; exact Flo.pw_zero
  have z4 : Flo.Ab (Flo.W z - 1) (255 * Flo.u) := (((z3.add k4).eq (show Flo.W z - Z + (Z - 1) = Flo.W z - 1 by grind)).mono (by grind))
  obtain ⟨d1, a1, a2, a3⟩ := Flo.d_sub z 4607182418800017408 z2 one_num.1 (255 * Flo.u) (z4.eq (by rw [o1])) (by grind)
  obtain ⟨d2, c1, c2, c3⟩ := Flo.d_sub 4607182418800017408 z one_num.1 z2 (255 * Flo.u) (z4.neg.eq (by rw [o1]; grind)) (by grind)
  rw [o1] at a3 c3
  refine ⟨d1, d2, a1, c1, a2, c2, ?_, ?_, ne, nf⟩
  · unfold Flo.Ab at *; grind
  · unfold Flo.Ab at *; grind

/-- MULTIPLIED BY THE SIZE IT IS NEAR THE NUMBER -/
theorem unit_back (a b e f : Nat) (h : Moderate a b) (hd : divD a b (szd a b) 0 = some (e, f)) :
    ∃ p q d1 d2 s, floatBits .mul .f64 e (szd a b) = some p ∧ floatBits .mul .f64 f (szd a b) = some q ∧ floatBits .sub .f64 p a = some d1 ∧ floatBits .sub .f64 q b = some d2 ∧ floatBits .add .f64 (labs d1) (labs d2) = some s ∧ Flo.Nm s ∧
      Flo.W s ≤ 340 * (Flo.u * (Flo.W (labs a) + Flo.W (labs b))) := by
  obtain ⟨e', f', S, hd', ne, nf, hSl, hSe, hS0, s2, het, nz, g0, g1, g2, haS, hbS⟩ := unit_quo a b h
  rw [hd] at hd'
  simp only [Option.some.injEq, Prod.mk.injEq] at hd'
  obtain ⟨rfl, rfl⟩ := hd'
  obtain ⟨ax, bx, fa, fb, s1, -, nla, nlb⟩ := h
  have na := Nm_of_fin fa
  have nb := Nm_of_fin fb
  have u0 := Flo.u_pos
  have u1 := Flo.u_le
  have et0 := Flo.et_pos
  have huS0 := Rat.mul_nonneg (Rat.le_of_lt u0) (Rat.le_of_lt hS0)
  have huS : Flo.u * S ≤ S / 1048576 := by
    have := Rat.mul_le_mul_of_nonneg_right u1 (Rat.le_of_lt hS0); grind
  have huuS : Flo.u * (Flo.u * S) ≤ (Flo.u * S) / 1048576 := by
    have := Rat.mul_le_mul_of_nonneg_right u1 huS0; grind
  have hbig : 32 * Flo.pw 201 < Flo.pw 1023 := by
    have e1 : Flo.pw 206 = 32 * Flo.pw 201 := by rw [show (206 : Int) = 5 + 201 from rfl, Flo.pw_add, show Flo.pw 5 = 32 from Flo.pw_nat 5]
    have e2 : Flo.pw 206 < Flo.pw 1023 := Flo.pw_lt (by omega)
    grind
  have m1 : Flo.Ab (Flo.W e * Flo.W (szd a b)) (2 * S) := ((g1.add haS).eq (show _ = Flo.W e * Flo.W (szd a b) by grind)).mono (by grind)
  have m2 : Flo.Ab (Flo.W f * Flo.W (szd a b)) (2 * S) := ((g2.add hbS).eq (show _ = Flo.W f * Flo.W (szd a b) by grind)).mono (by grind)
  obtain ⟨p, p1, p2, p3⟩ := Flo.d_mul e (szd a b) ne nz (2 * S) m1 (by grind)
  obtain ⟨q, q1, q2, q3⟩ := Flo.d_mul f (szd a b) nf nz (2 * S) m2 (by grind)
  have p64 : p < 2 ^ 64 := by have := floatBits_wf p1; simpa [Lit.wf] using this
  have q64 : q < 2 ^ 64 := by have := floatBits_wf q1; simpa [Lit.wf] using this
  have P : Flo.Ab (Flo.W p - Flo.W a) (127 * (Flo.u * S)) := ((p3.add g1).eq (by grind)).mono (by grind)
  have Q : Flo.Ab (Flo.W q - Flo.W b) (127 * (Flo.u * S)) := ((q3.add g2).eq (by grind)).mono (by grind)
  obtain ⟨d1, i1, i2, i3, i4, i5, i6⟩ := rest_ok p a p2 na p64 S 127 (by grind) (by grind) P s2 het (Rat.le_of_lt hS0)
  obtain ⟨d2, j1, j2, j3, j4, j5, j6⟩ := rest_ok q b q2 nb q64 S 127 (by grind) (by grind) Q s2 het (Rat.le_of_lt hS0)
  obtain ⟨s, r1, r2, r3⟩ := Flo.d_add (labs d1) (labs d2) i4 j4 (256 * (Flo.u * S)) ⟨by grind, by grind⟩ (by grind)
  refine ⟨p, q, d1, d2, s, p1, q1, i1, j1, r1, r2, ?_⟩
  rw [← hSl]
  unfold Flo.Ab at r3
  grind

theorem fA_lt {op : BinOp} {a b : Option Nat} {e : Nat} (h : fA op .f64 a b = some e) : e < 2 ^ 64 := by
  cases a with
  | none => cases h
  | some a =>
    cases b with
    | none => cases h
    | some b =>
      have h' : floatBits op .f64 a b = some e := h
      have := floatBits_wf h'
      simpa [Lit.wf] using this
theorem divD_lt {a b c d e f : Nat} (h : divD a b c d = some (e, f)) : e < 2 ^ 64 ∧ f < 2 ^ 64 := by
  unfold divD at h
  split at h
  · split at h
    · rename_i e' f' hq
      split at h
      · simp only [Option.some.injEq, Prod.mk.injEq] at h
        obtain ⟨rfl, rfl⟩ := h
        unfold qA at hq
        split at hq
        · simp only [Prod.mk.injEq] at hq
          exact ⟨fA_lt hq.1, fA_lt hq.2⟩
        · simp only [Prod.mk.injEq] at hq
          exact ⟨fA_lt hq.1, fA_lt hq.2⟩
      · cases h
    · cases h
  · cases h
theorem le_of_W {a b : Nat} (ha : Flo.Nm a) (hb : Flo.Nm b) (h : Flo.W a ≤ Flo.W b) : (FloatKind.f64.format.order a b == some .lt || FloatKind.f64.format.order a b == some .eq) = true := by
  have o := Flo.order_num Ieee.double a b ha hb
  rw [show FloatKind.f64.format = Ieee.double from rfl, Bool.or_eq_true, beq_iff_eq, beq_iff_eq, o.1, o.2.1]
  show Flo.W a < Flo.W b ∨ Flo.W a = Flo.W b
  grind

end Go.Proofs.YtiakcibeobbonaaGreat

/- HalfLife: the powers of a valid pole times the gain stay bounded; the walks, the program's and the model's.
   Conditions: those that each statement names. -/
namespace Go.Proofs.YtiakcibeobbonaaGreat
set_option linter.unusedSimpArgs false
set_option linter.unusedVariables false
open Go Go.RowKit

def zH (m : M4) : Nat → Nat × Nat
  | 0 => (m.gr, m.gi)
  | n + 1 => (mulSre (zH m n).1 (zH m n).2 m.pr m.pi, mulSim (zH m n).1 (zH m n).2 m.pr m.pi)
theorem gain_le {m : M4} (h : m.ok) : ra (S m.gr) ≤ 1024 ∧ ra (S m.gi) ≤ 1024 := by
  obtain ⟨h1, h2, h3, h4, -, h6, h7⟩ := Valid.parts h
  have n1024 : Flo.Nm 4652218415073722368 ∧ Flo.W 4652218415073722368 = 1024 := by
    have h := Flo.int_double 1024 (by omega)
    rw [show floatOfInt .f64 1024 = 4652218415073722368 from by decide] at h
    exact h
  obtain ⟨a1, a2⟩ := wid_num (Sm_of h3)
  obtain ⟨b1, b2⟩ := wid_num (Sm_of h4)
  have la := labs_num _ (wid_lt m.gr) a1
  have lb := labs_num _ (wid_lt m.gi) b1
  have c1 := (leB_iff la.1 n1024.1).1 h6
  have c2 := (leB_iff lb.1 n1024.1).1 h7
  rw [la.2, a2, n1024.2] at c1
  rw [lb.2, b2, n1024.2] at c2
  exact ⟨c1, c2⟩
structure PartH (m : M4) (z : Nat × Nat) : Prop where
  p1 : ∃ e D K, PartOk .sub z.1 m.pr z.2 m.pi e D K
  p2 : ∃ e D K, PartOk .add z.1 m.pi z.2 m.pr e D K
  n1 : Sm (mulSre z.1 z.2 m.pr m.pi)
  n2 : Sm (mulSim z.1 z.2 m.pr m.pi)
  e1 : Flo.Ab (S (mulSre z.1 z.2 m.pr m.pi) - (S z.1 * S m.pr - S z.2 * S m.pi)) 1
  e2 : Flo.Ab (S (mulSim z.1 z.2 m.pr m.pi) - (S z.1 * S m.pi + S z.2 * S m.pr)) 1
theorem part_h (m : M4) (hm : m.ok) (z : Nat × Nat) (h1 : Sm z.1) (h2 : Sm z.2) (hN : N (S z.1) (S z.2) 6000) : PartH m z := by
  obtain ⟨n1, n2, n3, n4⟩ := hm.nums
  obtain ⟨q1, q2⟩ := hm.pole
  obtain ⟨r1, r2⟩ := hN.ab
  have l20 : (1000000 : Rat) ≤ Flo.pw 120 := by
    have e : Flo.pw 20 = 1048576 := Flo.pw_nat 20
    have l : Flo.pw 20 ≤ Flo.pw 120 := Flo.pw_le (by omega)
    grind
  have l25 : (1000000 : Rat) ≤ Flo.pw 125 := by
    have l : Flo.pw 120 ≤ Flo.pw 125 := Flo.pw_le (by omega)
    grind
  have k1 : Flo.Ab (S z.1 * S m.pr) 12000 := (r1.mul q1).mono (by grind)
  have k2 : Flo.Ab (S z.2 * S m.pi) 12000 := (r2.mul q2).mono (by grind)
  have k3 : Flo.Ab (S z.1 * S m.pi) 12000 := (r1.mul q2).mono (by grind)
  have k4 : Flo.Ab (S z.2 * S m.pr) 12000 := (r2.mul q1).mono (by grind)
  have P1 := part_sub z.1 m.pr z.2 m.pi h1 n1 h2 n2 12000 24000 k1 k2 ((k1.sub k2).mono (by grind)) (by grind) (by grind)
  have P2 := part_add z.1 m.pi z.2 m.pr h1 n2 h2 n1 12000 24000 k3 k4 ((k3.add k4).mono (by grind)) (by grind) (by grind)
  have ve := Flo.v_eq
  have es1 := small'.es1
  have hv : Flo.v = 1 / 16777216 := by grind
  exact ⟨⟨_, _, _, P1⟩, ⟨_, _, _, P2⟩, P1.num, P2.num, P1.near.mono (by rw [hv]; grind), P2.near.mono (by rw [hv]; grind)⟩

def sH (m : M4) : Nat → Rat × Rat
  | 0 => (0, 0)
  | i + 1 => (S (zH m i).1, S (zH m i).2)
def QH (m : M4) : Nat → Prop
  | 0 => True
  | i + 1 => Sm (zH m i).1 ∧ Sm (zH m i).2
def xH (i : Nat) : Rat := if i = 0 then 1 else 0
theorem psum_H : ∀ i, psum xH i ≤ 1
  | 0 => by simp [psum]; grind
  | 1 => by simp [psum, xH, ra]; grind
  | i + 2 => by
    have h := psum_H (i + 1)
    show psum xH (i + 1) + ra (xH (i + 1)) ≤ 1
    have : ra (xH (i + 1)) = 0 := by simp [xH, ra]
    rw [this]; grind
theorem zH_ok (m : M4) (hm : m.ok) : ∀ n, n ≤ 1999 → Sm (zH m n).1 ∧ Sm (zH m n).2 ∧ N (S (zH m n).1) (S (zH m n).2) 6000 := by
  intro n hn
  obtain ⟨g1, g2⟩ := gain_le hm
  obtain ⟨n1, n2, n3, n4⟩ := hm.nums
  have t := traj (S m.pr) (S m.pi) (S m.gr) (S m.gi) xH (Valid.square hm) (sH m) rfl 1 6000 1 2000 (Nat.le_refl _) (by grind) (fun i _ => psum_H i)
    (by have e : ((2000 : Nat) : Rat) = 2000 := rfl
        rw [e]; grind) (QH m) trivial (fun i hi hq hN => by
      cases i with
      | zero =>
        refine ⟨⟨n3, n4⟩, ?_, ?_⟩
        · show Flo.Ab (S m.gr - (0 * S m.pr - 0 * S m.pi + S m.gr * xH 0)) 1
          have : xH 0 = 1 := rfl
          rw [this]; unfold Flo.Ab; constructor <;> grind
        · show Flo.Ab (S m.gi - (0 * S m.pi + 0 * S m.pr + S m.gi * xH 0)) 1
          have : xH 0 = 1 := rfl
          rw [this]; unfold Flo.Ab; constructor <;> grind
      | succ j =>
        have P := part_h m hm (zH m j) hq.1 hq.2 hN
        have x0 : xH (j + 1) = 0 := by simp [xH]
        refine ⟨⟨P.n1, P.n2⟩, ?_, ?_⟩
        · exact P.e1.eq (by rw [x0]; show _ = S (mulSre (zH m j).1 (zH m j).2 m.pr m.pi) - (S (zH m j).1 * S m.pr - S (zH m j).2 * S m.pi + S m.gr * 0); grind)
        · exact P.e2.eq (by rw [x0]; show _ = S (mulSim (zH m j).1 (zH m j).2 m.pr m.pi) - (S (zH m j).1 * S m.pi + S (zH m j).2 * S m.pr + S m.gi * 0); grind))
  obtain ⟨q, -, h⟩ := t (n + 1) (by omega)
  exact ⟨q.1, q.2, h⟩
theorem zH_part (m : M4) (hm : m.ok) (n : Nat) (hn : n ≤ 1999) : PartH m (zH m n) := by
  obtain ⟨a, b, c⟩ := zH_ok m hm n hn
  exact part_h m hm _ a b c
theorem zH_num (m : M4) (hm : m.ok) : ∀ n, n ≤ 2000 → Sm (zH m n).1 ∧ Sm (zH m n).2
  | 0, _ => ⟨hm.nums.2.2.1, hm.nums.2.2.2⟩
  | n + 1, h => ⟨(zH_part m hm n (by omega)).n1, (zH_part m hm n (by omega)).n2⟩

/-! ### the test, and what the functions answer -/
def szH (z : Nat × Nat) : Nat := szd (wid z.1) (wid z.2)
def twH (z : Nat × Nat) : Nat := opB .mul .f64 4611686018427387904 (szH z)
def hitH (m : M4) (n : Nat) : Bool := leB (twH (zH m n)) (szH (m.gr, m.gi))
theorem sz_H {a b : Nat} (ha : Sm a) (hb : Sm b) : floatBits .add .f64 (labs (wid a)) (labs (wid b)) = some (szH (a, b)) ∧ floatBits .add .f64 (wid a % signBit) (wid b % signBit) = some (szH (a, b)) ∧ Calm .mul .f64 4611686018427387904 (szH (a, b)) := by
  have na := (wid_num ha).1
  have nb := (wid_num hb).1
  have h := szd_eq (wid a) (wid b) (wid_lt a) (wid_lt b) na nb
  have lm := labs_num _ (wid_lt a) na
  have ln := labs_num _ (wid_lt b) nb
  refine ⟨h, by rw [labs_mod _ (wid_lt a) na, labs_mod _ (wid_lt b) nb]; exact h, ?_⟩
  have aa := single_abs ha
  have bb := single_abs hb
  obtain ⟨r, r1, r2, -⟩ := Flo.d_add (labs (wid a)) (labs (wid b)) lm.1 ln.1 (2 * Flo.pw 128) (by
    rw [lm.2, ln.2, (wid_num ha).2, (wid_num hb).2]
    have := ra_le aa
    have := ra_le bb
    have := ra_nonneg (S a)
    have := ra_nonneg (S b)
    unfold Flo.Ab; constructor <;> grind) (by
    have e : Flo.pw 129 = 2 * Flo.pw 128 := by rw [← Flo.pw_succ]; rfl
    have l : Flo.pw 129 < Flo.pw 1023 := Flo.pw_lt (by omega)
    grind)
  rw [h] at r1
  injection r1 with r1
  have n2 : Flo.Nm 4611686018427387904 := ⟨_, _, _, Flo.read_two⟩
  obtain ⟨q, hq⟩ := mul_some n2 (show Flo.Nm (szH (a, b)) from by unfold szH; rw [r1]; exact r2)
  exact (Calm.of hq).1

def HalfR (m : M4) (most : Nat) (r : Int) (ok : Bool) : Prop :=
  (∃ n : Nat, ok = true ∧ r = (n : Int) ∧ 1 ≤ n ∧ n ≤ most ∧ hitH m n = true ∧ ∀ j, 1 ≤ j → j < n → hitH m j = false) ∨
  (ok = false ∧ (∀ j, 1 ≤ j → j ≤ most → hitH m j = false) ∧ r = 0)
def HalfP (m : M4) (most : Nat) (w : World) (e : Ending) (w' : World) : Prop := ∃ r ok, e = .returned (.tuple #[.int .i64 r, .bool ok]) ∧ HalfR m most r ok ∧ Nw w w'
def HalfI (m : M4) (most : Nat) (w : World) (z n : Value) (wr : World) : Prop :=
  ∃ k : Nat, k ≤ most ∧ n = .int .i64 ((k : Int) + 1) ∧ z = .complex .f32 (zH m k).1 (zH m k).2 ∧ (∀ j, 1 ≤ j → j ≤ k → hitH m j = false) ∧ Nw w wr ∧
    wr.cell? ⟨w.heap.size, 0, none⟩ = some (.complex .f32 m.pr m.pi) ∧ wr.cell? ⟨w.heap.size, 1, none⟩ = some (.complex .f32 m.gr m.gi)

end Go.Proofs.YtiakcibeobbonaaGreat

/- Plain facts: a mode whose pole has no greater parts than a valid mode's, with the same gain, is valid: damped and tuned modes. No program stands in it.
   Conditions: those that each statement names. -/
namespace Go.Proofs.YtiakcibeobbonaaGreat
set_option linter.unusedSimpArgs false
set_option linter.unusedVariables false
open Go

theorem M4.ok.pole4 {m : M4} (h : m.ok) : ra (S m.pr) ≤ 4 ∧ ra (S m.pi) ≤ 4 := by
  obtain ⟨p1, p2⟩ := h.pole
  have := ra_le p1
  have := ra_le p2
  constructor <;> grind

theorem ok_less (m m' : M4) (h : m.ok) (h1 : Sm m'.pr) (h2 : Sm m'.pi) (l1 : ra (S m'.pr) ≤ ra (S m.pr)) (l2 : ra (S m'.pi) ≤ ra (S m.pi)) (hg : m'.gr = m.gr ∧ m'.gi = m.gi) : m'.ok := by
  obtain ⟨s1, s2, s3, s4⟩ := h.nums
  obtain ⟨b1, b2⟩ := h.pole4
  obtain ⟨f1, f2, f3, f4, f5, f6, f7⟩ := Valid.parts h
  have hm := sqr_mono m'.pr m'.pi m.pr m.pi h1 h2 s1 s2 l1 l2 b1 b2
  obtain ⟨_, _, -, -, -, k1, k2⟩ := sqr_num s1 s2
  obtain ⟨_, _, -, -, -, k3, -⟩ := sqr_num h1 h2
  have f5' := (leB_iff k1 num_one.1).1 f5
  rw [num_one.2] at f5'
  have sq : ∀ q : Rat, 0 ≤ q * q := square_nonneg
  have q1 := sq (S m.pr)
  have q2 := sq (S m.pi)
  have u1 := Flo.u_le
  have u0 := Flo.u_pos
  have eu : Flo.et ≤ Flo.u := Flo.pw_le (by omega)
  have e0 := Flo.et_pos
  have g := Rat.mul_le_mul_of_nonneg_left (show 4 * Flo.u ≤ 1 by grind) (show 0 ≤ S m.pr * S m.pr + S m.pi * S m.pi by grind)
  have hneg : -1 ≤ Flo.W (sqr (wid m.pr) (wid m.pi)) := by
    have := k2.1
    grind
  have ha : ra (Flo.W (sqr (wid m.pr) (wid m.pi))) ≤ 1 := ra_le ⟨hneg, f5'⟩
  have hw : Flo.W (sqr (wid m'.pr) (wid m'.pi)) ≤ 1 := by
    have := ra_ab (Flo.W (sqr (wid m'.pr) (wid m'.pi)))
    have := this.2
    grind
  have f5'' : leB (sqr (wid m'.pr) (wid m'.pi)) 4607182418800017408 = true := (leB_iff k3 num_one.1).2 (by rw [num_one.2]; exact hw)
  show modeB m'.pr m'.pi m'.gr m'.gi labs = true
  unfold modeB
  rw [hg.1, hg.2, (fin_iff' .f32 _).2 h1, (fin_iff' .f32 _).2 h2, f3, f4, f5'', f6, f7]
  rfl

theorem dampM_ok (m : M4) (t : Nat) (h : m.ok) (ht : Sm t) (h0 : 0 ≤ S t) (h1 : S t ≤ 1) : (dampM t m).ok := by
  obtain ⟨s1, s2, s3, s4⟩ := h.nums
  obtain ⟨b1, b2⟩ := h.pole4
  obtain ⟨-, a1, a2⟩ := damp_part m.pr t s1 ht h0 h1 b1
  obtain ⟨-, c1, c2⟩ := damp_part m.pi t s2 ht h0 h1 b2
  exact ok_less m (dampM t m) h a1 c1 a2 c2 ⟨rfl, rfl⟩

def tuneM (m : M4) : M4 := ⟨mulSre m.pr m.pi 1065353216 0, mulSim m.pr m.pi 1065353216 0, m.gr, m.gi⟩
theorem tuneM_ok (m : M4) (h : m.ok) : (tuneM m).ok ∧ S (tuneM m).pr = S m.pr ∧ S (tuneM m).pi = S m.pi := by
  obtain ⟨s1, s2, s3, s4⟩ := h.nums
  obtain ⟨b1, b2⟩ := h.pole4
  obtain ⟨a1, a2, a3, a4⟩ := mulS_one m.pr m.pi s1 s2 b1 b2
  exact ⟨ok_less m (tuneM m) h a1 a2 (by show ra (S (mulSre m.pr m.pi 1065353216 0)) ≤ _; rw [a3]; exact Rat.le_refl) (by show ra (S (mulSim m.pr m.pi 1065353216 0)) ≤ _; rw [a4]; exact Rat.le_refl) ⟨rfl, rfl⟩, a3, a4⟩
end Go.Proofs.YtiakcibeobbonaaGreat

/- A voice that plays stays bounded: crude, for the few samples of a drawn score (FnShifted, FnCut).
   Conditions: those that each statement names. -/
namespace Go.Proofs.YtiakcibeobbonaaGreat
set_option linter.unusedSimpArgs false
set_option linter.unusedVariables false
open Go Go.RowKit

theorem v_val : Flo.v = 1 / 16777216 := by have := Flo.v_eq; grind
theorem es_tiny : 0 < Flo.es ∧ Flo.es ≤ 1 / 1024 := by
  refine ⟨Flo.es_pos, ?_⟩
  have h := Flo.es_le
  rw [v_val] at h
  grind
theorem step_box (m : M4) (hm : m.ok) (s : Nat × Nat) (x : Nat) (h1 : Sm s.1) (h2 : Sm s.2) (hx : Sm x) (B X : Rat) (hN : N (S s.1) (S s.2) B) (hX : ra (S x) ≤ X) (hB : B ≤ Flo.pw 104) (hX2 : 2048 * X ≤ Flo.pw 104) :
    StepOk m s x ∧ Sm (stepS m s x).1 ∧ Sm (stepS m s x).2 ∧ N (S (stepS m s x).1) (S (stepS m s x).2) (2 * B + 4096 * X + 1) := by
  have hX0 : 0 ≤ X := by have := ra_nonneg (S x); grind
  have hB0 := hN.1
  obtain ⟨a1, a2⟩ := gain_le hm
  have hg : (ra (S m.gr) + ra (S m.gi)) * ra (S x) ≤ 2048 * X := by
    have k1 := Rat.mul_le_mul_of_nonneg_left hX (show 0 ≤ ra (S m.gr) + ra (S m.gi) by have := ra_nonneg (S m.gr); have := ra_nonneg (S m.gi); grind)
    have k2 := Rat.mul_le_mul_of_nonneg_right (show ra (S m.gr) + ra (S m.gi) ≤ 2048 by grind) hX0
    grind
  have g := (N.gain (S m.gr) (S m.gi) (S x)).mono hg
  have k := hN.mul (show (0 : Rat) ≤ 1 + 1 / 200000 by grind) (pole_T (Valid.square hm))
  have l1 : Flo.pw 112 = 256 * Flo.pw 104 := by rw [show (112 : Int) = 8 + 104 from rfl, Flo.pw_add, show Flo.pw 8 = 256 from Flo.pw_nat 8]
  have l2 : Flo.pw 104 ≤ Flo.pw 110 := Flo.pw_le (by omega)
  have l3 := Flo.pw_pos 104
  obtain ⟨c1, c2, c3, c4, c5⟩ := step_ok m hm s x h1 h2 hx B (B * (1 + 1 / 200000)) (2048 * X) hN.ab.1 hN.ab.2 k.ab.1 k.ab.2 g.ab.1 g.ab.2 (by grind) (by grind) (by grind)
  refine ⟨c1, c2, c3, ?_⟩
  have hp := N.parts c4 c5
  have hs := ((k.add g).add hp).eq (a' := S (stepS m s x).1) (b' := S (stepS m s x).2) (by grind) (by grind)
  refine hs.mono ?_
  rw [v_val]
  obtain ⟨e1, e2⟩ := es_tiny
  grind

theorem sum_box (ss : List (Nat × Nat)) (B : Rat) (hB0 : 0 ≤ B) (hB : B ≤ Flo.pw 106) (h : ∀ s ∈ ss, Sm s.1 ∧ Flo.Ab (S s.1) B) : ∀ k, k ≤ ss.length → k ≤ 16 → Sm (outS (ss.take k)) ∧ Flo.Ab (S (outS (ss.take k))) (2 * (k : Rat) * B + (k : Rat)) := by
  intro k
  induction k with
  | zero =>
    intro _ _
    have z := zero_single
    refine ⟨by simpa [outS] using z.1, ?_⟩
    have e : S (outS (ss.take 0)) = 0 := by simpa [outS] using z.2
    rw [e]
    unfold Flo.Ab
    grind
  | succ k ih =>
    intro hk h16
    obtain ⟨i1, i2⟩ := ih (by omega) (by omega)
    obtain ⟨s, hs⟩ : ∃ s, ss[k]? = some s := ⟨ss[k]'(by omega), List.getElem?_eq_getElem _⟩
    obtain ⟨b1, b2⟩ := h s (List.mem_of_getElem? hs)
    have hk16 : (k : Rat) ≤ 16 := by exact_mod_cast (by omega : k ≤ 16)
    have hk0 : (0 : Rat) ≤ k := by exact_mod_cast Nat.zero_le k
    have hkB := Rat.mul_nonneg hk0 hB0
    have hkB2 : (k : Rat) * B ≤ 16 * B := Rat.mul_le_mul_of_nonneg_right hk16 hB0
    have l1 : Flo.pw 127 = 2097152 * Flo.pw 106 := by rw [show (127 : Int) = 21 + 106 from rfl, Flo.pw_add, show Flo.pw 21 = 2097152 from Flo.pw_nat 21]
    have l2 : (1 : Rat) ≤ Flo.pw 106 := by have h := Flo.pw_le (a := 0) (b := 106) (by omega); rw [show Flo.pw 0 = 1 from Flo.pw_nat 0] at h; exact h
    obtain ⟨r, q1, q2, q3⟩ := Flo.s_add (outS (ss.take k)) s.1 i1 b1 (2 * (k : Rat) * B + (k : Rat) + B) (i2.add b2) (by grind)
    have er : outS (ss.take (k + 1)) = r := by
      rw [outS_take ss k s hs]
      exact (Calm.of q1).2
    rw [er]
    refine ⟨q2, ?_⟩
    have e : ((k + 1 : Nat) : Rat) = (k : Rat) + 1 := by exact_mod_cast rfl
    rw [e]
    rw [v_val] at q3
    obtain ⟨e1, e2⟩ := es_tiny
    have i3 := i2.add b2
    unfold Flo.Ab at q3 i3 ⊢
    grind
theorem sum_ok (ss : List (Nat × Nat)) (B : Rat) (hB0 : 0 ≤ B) (hB : B ≤ Flo.pw 106) (hl : ss.length ≤ 16) (h : ∀ s ∈ ss, Sm s.1 ∧ Flo.Ab (S s.1) B) : SumOk ss ∧ Sm (outS ss) ∧ Flo.Ab (S (outS ss)) (32 * B + 16) := by
  refine ⟨fun k s hs => ?_, ?_⟩
  · have hk := (List.getElem?_eq_some_iff.1 hs).1
    obtain ⟨i1, i2⟩ := sum_box ss B hB0 hB h k (by omega) (by omega)
    obtain ⟨b1, b2⟩ := h s (List.mem_of_getElem? hs)
    have hk16 : (k : Rat) ≤ 16 := by exact_mod_cast (by omega : k ≤ 16)
    have hk0 : (0 : Rat) ≤ k := by exact_mod_cast Nat.zero_le k
    have hkB2 : (k : Rat) * B ≤ 16 * B := Rat.mul_le_mul_of_nonneg_right hk16 hB0
    have l1 : Flo.pw 127 = 2097152 * Flo.pw 106 := by rw [show (127 : Int) = 21 + 106 from rfl, Flo.pw_add, show Flo.pw 21 = 2097152 from Flo.pw_nat 21]
    have l2 : (1 : Rat) ≤ Flo.pw 106 := by have h := Flo.pw_le (a := 0) (b := 106) (by omega); rw [show Flo.pw 0 = 1 from Flo.pw_nat 0] at h; exact h
    obtain ⟨r, q1, -, -⟩ := Flo.s_add (outS (ss.take k)) s.1 i1 b1 (2 * (k : Rat) * B + (k : Rat) + B) (i2.add b2) (by grind)
    exact (Calm.of q1).1
  · obtain ⟨i1, i2⟩ := sum_box ss B hB0 hB h ss.length (Nat.le_refl _) hl
    rw [List.take_length] at i1 i2
    have hk16 : (ss.length : Rat) ≤ 16 := by exact_mod_cast hl
    have hkB2 : (ss.length : Rat) * B ≤ 16 * B := Rat.mul_le_mul_of_nonneg_right hk16 hB0
    exact ⟨i1, i2.mono (by grind)⟩
end Go.Proofs.YtiakcibeobbonaaGreat
