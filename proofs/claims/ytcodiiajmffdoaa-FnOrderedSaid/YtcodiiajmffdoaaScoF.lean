/- What draws scores, fourth part: the ceiling; the walk of l7Score.
   Conditions: those that each statement names. -/
import Derived.Test.YtcodiiajmffdoaaScoG
namespace Go.Proofs.Ytcodiiajmffdoaa
open Go Go.RowKit

/-- the ceiling of a score -/
def ceilF (z : Int) : Nat := opB .quo .f32 (floatOfInt .f32 z) 1090519040
def ceilFOk (z : Int) : Bool := (floatBits .quo .f32 (floatOfInt .f32 z) 1090519040).isSome && fin .f32 (ceilF z) && (FloatKind.f32.format.order (ceilF z) 0 == some .gt)
set_option maxRecDepth 100000 in
theorem ceilF_all : (([1, 8, 100] : List Int).all ceilFOk) = true := by decide +kernel
theorem ceilF_ok (z : Int) (hz : z ∈ ([1, 8, 100] : List Int)) : (∀ w, fres w .quo .f32 (floatOfInt .f32 z) 1090519040 = ceilF z) ∧ fdr .quo .f32 (floatOfInt .f32 z) 1090519040 = 0 ∧ Sm (ceilF z) ∧ (FloatKind.f32.format.order (ceilF z) 0 == some .gt) = true := by
  have h := ceilF_all
  rw [List.all_eq_true] at h
  have h := h z hz
  unfold ceilFOk at h
  simp only [Bool.and_eq_true] at h
  obtain ⟨⟨h1, h2⟩, h3⟩ := h
  obtain ⟨r, hr⟩ := Option.isSome_iff_exists.1 h1
  exact ⟨fun w => (Calm.of hr).1.res w, (Calm.of hr).1.fdr, Sm_of h2, h3⟩
theorem ints3L (w : World) (T : TypeId) (z0 z1 z2 : Int) : IntsL ((w.alloc (.cells #[.int .i64 z0, .int .i64 z1, .int .i64 z2] T (0, 0)))) w.heap.size [z0, z1, z2] := by
  intro k z hk
  match k, hk with
  | 0, hk => simp at hk; subst hk; go_simp
  | 1, hk => simp at hk; subst hk; go_simp
  | 2, hk => simp at hk; subst hk; go_simp
  | k + 3, hk => simp at hk

def relOkB (z : Int) : Bool := decide (dampF z < 4294967296) && !(dampF z == 2147483648)
set_option maxRecDepth 100000 in
theorem relF_all : (([0, 500, 990, 1000] : List Int).all relOkB) = true := by decide +kernel
/-- a release -/
def Rel (R : Nat) : Prop := Fact R ∧ R < 2 ^ 32 ∧ R ≠ 2147483648
theorem relF_ok (z : Int) (hz : z ∈ ([0, 500, 990, 1000] : List Int)) : Rel (dampF z) := by
  have h := relF_all
  rw [List.all_eq_true] at h
  have h := h z hz
  unfold relOkB at h
  simp only [Bool.and_eq_true, decide_eq_true_eq, Bool.not_eq_true', beq_eq_false_iff_ne] at h
  exact ⟨(dampF_ok z (by simp at hz ⊢; omega)).2.2, h.1, h.2⟩
/-- a score of at most M samples, with bodies and events in memory from 'base' on -/
def ScoP (B : Nat) (w0 : World) (a : Option Addr) (len cap c M base : Nat) (e : Ending) (w' : World) : Prop :=
  ∃ (L V C R : Nat) (bs : List (List M4)) (es : List Ev6) (sv ev : Value), e = .returned (.agg #[.int .i64 (L : Int), .int .i64 (V : Int), .float .f32 C, .float .f32 R, sv, ev]) ∧ L ≤ M ∧ 1 ≤ V ∧ V ≤ 4 ∧
    (Sm C ∧ (FloatKind.f32.format.order C 0 == some .gt) = true) ∧ Rel R ∧ bs.length ≤ 3 ∧ es.length ≤ 13 ∧ (∀ ms ∈ bs, ms.length ≤ 4 ∧ ∀ m ∈ ms, m.ok) ∧ (∀ x ∈ es, x.ok L bs.length) ∧
    BodsR w' base sv bs ∧ w'.ownsRow base 57 6 ev es.length (cellsE es) ∧ At B w0 a len cap c w'

theorem ScoP.of {B : Nat} {w0 : World} {a : Option Addr} {len cap c M base b' : Nat} {e : Ending} {w' : World} {L V C R : Nat} {bs : List (List M4)} {es : List Ev6} {sv ev : Value} (he : e = .returned (.agg #[.int .i64 (L : Int), .int .i64 (V : Int), .float .f32 C, .float .f32 R, sv, ev])) (h1 : L ≤ M) (h2 : 1 ≤ V) (h3 : V ≤ 4)
    (h4 : Sm C ∧ (FloatKind.f32.format.order C 0 == some .gt) = true) (h5 : Rel R) (h6 : bs.length ≤ 3) (h7 : es.length ≤ 13) (h8 : ∀ ms ∈ bs, ms.length ≤ 4 ∧ ∀ m ∈ ms, m.ok) (h9 : ∀ x ∈ es, x.ok L bs.length)
    (z1 : BodsR w' base sv bs) (z2 : w'.ownsRow base 57 6 ev es.length (cellsE es)) (z3 : At B w0 a len cap c w') (hb : b' ≤ base) : ScoP B w0 a len cap c M b' e w' :=
  ⟨L, V, C, R, bs, es, sv, ev, he, h1, h2, h3, h4, h5, h6, h7, h8, h9, z1.base hb, own_base z2 hb, z3⟩
def ScoB (B : Nat) (w0 : World) (a : Option Addr) (len cap c bS bR base L V C R : Nat) (i : Value) (wr : World) : Prop :=
  ∃ (k : Nat) (bs : List (List M4)) (sv : Value), i = .int .i64 (k : Int) ∧ k + bs.length ≤ 3 ∧ ScoI B w0 a len cap c bS bR base L (V : Int) C R bs [] sv (.slice none 0 0) wr
def ScoE (B : Nat) (w0 : World) (a : Option Addr) (len cap c bS bR base L V C R : Nat) (bs : List (List M4)) (sv : Value) (i : Value) (wr : World) : Prop :=
  ∃ (k : Nat) (es : List Ev6) (ev : Value), i = .int .i64 (k : Int) ∧ k + es.length ≤ 13 ∧ ScoI B w0 a len cap c bS bR base L (V : Int) C R bs es sv ev wr

set_option maxHeartbeats 3200000 in
set_option maxRecDepth 100000 in
theorem l7Score_at (B : Nat) (w0 : World) (a : Option Addr) (len cap c M : Nat) (hM : M ≤ 500) (w : World) (hc : At B w0 a len cap c w) :
    Calls Try.prog 72 #[.pointer (some ⟨c, 0, none⟩), .int .i64 (M : Int)] w (ScoP B w0 a len cap c M w.heap.size) := by
  obtain ⟨i0, hi, hz0, hz1, hz2⟩ := info_parts info_int
  have hui := Try.underlying111
  have hcs : c < w.heap.size := hc.1.2.1
  have hBc : B ≤ c := hc.1.1
  have hw0 : w0.heap.size ≤ w.heap.size := hc.2.size
  have R0 := Lib.hid (HasC.new w 53 (.int .i64 0) (.int .i64 0) (.float .f32 0) (.float .f32 0) (.slice none 0 0) (.slice none 0 0))
  have Hc := Lib.hid (hc.alloc (.cells #[.int .i64 0, .int .i64 0, .float .f32 0, .float .f32 0, .slice none 0 0, .slice none 0 0] 53 (0, 0)))
  clear hc
  go_enter Try.func72, Try.ntmps72
  go_wp2_with fail
  refine (below_at _ _ _ _ _ _ _ (by omega) (by omega) _ Hc.out.here).mono ?_
  rintro e w1 ⟨x1, x10, x11, rfl, hc1⟩
  have hs1 := hc1.2.size
  simp at hs1
  have H1 := Lib.hid (show At B w0 a len cap c w1 from ⟨hc1.1, Hc.out.2.trans hc1.2⟩)
  have R1 := Lib.hid (R0.out.kp hc1.2 (by omega))
  clear hc1
  go_wp2_with fail
  refine (below_at _ _ _ _ _ _ _ (by omega) (by omega) _ H1.out.here).mono ?_
  rintro e w2 ⟨x2, x20, x21, rfl, hc2⟩
  have hs2 := hc2.2.size
  have H2 := Lib.hid (show At B w0 a len cap c w2 from ⟨hc2.1, H1.out.2.trans hc2.2⟩)
  have R2 := Lib.hid (R1.out.kp hc2.2 (by omega))
  clear hc2
  go_wp2_with fail
  refine (l01Int_in _ _ _ _ _ _ w2.heap.size 3 3 [1, 8, 100] rfl (by omega) (by omega) _ (H2.out.alloc (.cells #[.int .i64 1, .int .i64 8, .int .i64 100] 3 (0, 0))).here (by simp) (by omega) (ints3L w2 3 1 8 100)).mono ?_
  rintro e w3 ⟨x3, hm3, rfl, hc3⟩
  have hs3 := hc3.2.size
  simp at hs3
  have H3 := Lib.hid (show At B w0 a len cap c w3 from ⟨hc3.1, (H2.out.alloc (.cells #[.int .i64 1, .int .i64 8, .int .i64 100] 3 (0, 0))).2.trans hc3.2⟩)
  have R3 := Lib.hid ((R2.out.alloc (.cells #[.int .i64 1, .int .i64 8, .int .i64 100] 3 (0, 0))).kp hc3.2 (by omega))
  clear hc3
  obtain ⟨q1, q2, q3, q3'⟩ := ceilF_ok x3 hm3
  go_wp2_with fail
  refine (l01Int_in _ _ _ _ _ _ w3.heap.size 4 4 [0, 500, 990, 1000] rfl (by omega) (by omega) _ (H3.out.alloc (.cells #[.int .i64 0, .int .i64 500, .int .i64 990, .int .i64 1000] 3 (0, 0))).here (by simp) (by omega) (ints4L w3 3 0 500 990 1000)).mono ?_
  rintro e w4 ⟨x4, hm4, rfl, hc4⟩
  have hs4 := hc4.2.size
  simp at hs4
  have H4 := Lib.hid (show At B w0 a len cap c w4 from ⟨hc4.1, (H3.out.alloc (.cells #[.int .i64 0, .int .i64 500, .int .i64 990, .int .i64 1000] 3 (0, 0))).2.trans hc4.2⟩)
  have R4 := Lib.hid ((R3.out.alloc (.cells #[.int .i64 0, .int .i64 500, .int .i64 990, .int .i64 1000] 3 (0, 0))).kp hc4.2 (by omega))
  clear hc4
  obtain ⟨q4, q5, q6⟩ := dampF_ok x4 (by simp at hm4 ⊢; omega)
  obtain ⟨L, rfl⟩ : ∃ L : Nat, x1 = L := ⟨x1.toNat, by omega⟩
  have hV : ∃ V : Nat, 1 + x2 = (V : Int) ∧ 1 ≤ V ∧ V ≤ 4 := ⟨(1 + x2).toNat, by omega, by omega, by omega⟩
  obtain ⟨V, hV0, hV1, hV2⟩ := hV
  have I4 := Lib.hid (show ScoI B w0 a len cap c w4.heap.size w.heap.size (w4.heap.size + 1) L V (ceilF x3) (dampF x4) [] [] (.slice none 0 0) (.slice none 0 0) (w4.alloc (.cells #[.int .i64 L, .int .i64 V, .float .f32 (ceilF x3), .float .f32 (dampF x4), .slice none 0 0, .slice none 0 0] 53 (0, 0))) from
    ⟨H4.out.alloc _, HasC.new _ _ _ _ _ _ _ _, R4.out.alloc _, BodsR.nil _ _, World.ownsRow_nil _ _ _ _, by simp, by simp, by simp⟩)
  have Q := Lib.hid (And.intro q3 (And.intro q3' (relF_ok x4 hm4)))
  go_wp2_with fail
  refine (below_at _ _ _ _ _ _ _ (by omega) (by omega) _ I4.out.at'.here).mono ?_
  rintro e w5 ⟨x5, x50, x51, rfl, hc5⟩
  have I5 := Lib.hid (I4.out.kp ⟨hc5.1, I4.out.at'.2.trans hc5.2⟩ hc5.2 (by omega) (by omega) (by omega))
  clear hc5
  obtain ⟨bS, hbS⟩ : ∃ bS, bS = w4.heap.size := ⟨_, rfl⟩
  have hSR : w.heap.size + 1 ≤ bS := by omega
  rw [← hbS] at I5
  rw [← hbS]
  have hRw := hw0
  have hcR := hcs
  obtain ⟨C, hC⟩ : ∃ C, C = ceilF x3 := ⟨_, rfl⟩
  obtain ⟨R, hR⟩ : ∃ R, R = dampF x4 := ⟨_, rfl⟩
  rw [← hC] at I5 Q ⊢
  rw [← hR] at I5 Q ⊢
  clear I4 H1 H2 H3 H4 R0 R1 R2 R3 R4 Hc q1 q2 q3 q3' q4 q5 q6 hm3 hm4 hC hR hs1 hs2 hs3 hs4 hbS hcs
  go_wp2_with fail
  go_loopw [6] (fun i wr => ScoB B w0 a len cap c bS w.heap.size (bS + 1) L V C R i wr) (fun i _ => (intOf i).toNat)
  case atStart => exact ⟨x5.toNat, [], _, by rw [Int.toNat_of_nonneg x50], by simp; omega, I5.out⟩
  case round =>
    obtain ⟨k, bs, sv, rfl, hk, hI⟩ := hrel
    have Ir := Lib.hid hI
    clear hI
    obtain ⟨⟨l0, g0⟩, ⟨l1, g1⟩, ⟨l2, g2⟩, ⟨l3, g3⟩, ⟨l4, g4⟩, ⟨l5, g5⟩⟩ := six_at Ir.out.hs
    obtain ⟨vs, ho, hin⟩ := Ir.out.bods
    obtain ⟨ta, tc, rfl⟩ := own_shape' ho
    by_cases hk0 : 0 < k
    · have Ho := Lib.hid (And.intro ho hin)
      clear ho hin
      go_upto_region 5 with fail
      have J := Lib.hid (Ir.out.nw ((Nw.refl wr).draw 1))
      have k1 := l2Body_at _ _ _ _ _ _ 4 (by omega) wr.drew (show At B w0 a len cap c wr.drew from J.out.at').here
      rw [show ((4 : Nat) : Int) = 4 from rfl] at k1
      have K1 := Lib.hid k1
      clear k1
      go_region_law (first
        | (go_simp
           go_at_call 105
           with_reducible refine K1.out.mono ?_
           rintro e w6 ⟨ms, mv, rfl, hms, hok, hown, hc6⟩
           obtain ⟨pa, pc, rfl⟩ := own_shape' hown
           have J6 := Lib.hid (J.out.kp ⟨hc6.1, J.out.at'.2.trans hc6.2⟩ hc6.2 (by omega) (by omega) (by omega))
           have O6 := Lib.hid hown
           have Mo6 := Lib.hid (And.intro hms hok)
           have Ho6 := Lib.hid (own_kp (show World.ownsRow wr.drew _ _ _ _ _ _ from own_nw Ho.out.1 ((Nw.refl wr).draw 1)) hc6.2 (by omega))
           have Hi6 := Lib.hid (fun p r hp => show ∃ v, vs[p]? = some v ∧ w6.ownsRow (bS + 1) 42 2 v r.length (cellsM r) from by obtain ⟨v, a, b⟩ := Ho.out.2 p r hp; exact ⟨v, a, own_kp (show World.ownsRow wr.drew _ _ _ _ _ _ from own_nw b ((Nw.refl wr).draw 1)) hc6.2 (by omega)⟩)
           have hS6 : bS < w6.heap.size := J6.out.hs.1
           obtain ⟨⟨m0, n0⟩, ⟨m1, n1⟩, ⟨m2, n2⟩, ⟨m3, n3⟩, ⟨m4, n4⟩, ⟨m5, n5⟩⟩ := six_at J6.out.hs
           clear hown hc6 hms hok)
        | (refine step_append_body rfl (.tmp 33) (.tmp 36) rfl (bS + 1) bs.length w6.heap.size (.slice ta bs.length tc) (.slice pa ms.length pc) vs rfl rfl (Ho6.out.alloc _) (by go_simp) rfl (by omega) (by have := J6.out.sz; simp; omega) ?_
           intro v7 w7 own7 gr7
           obtain ⟨B7, F7⟩ := ScoI.body (J6.out.nw ((Nw.refl w6).alloc _)) (Ho6.out.alloc _) (fun p r hp => by obtain ⟨v, a, b⟩ := Hi6.out p r hp; exact ⟨v, a, b.alloc _⟩) (O6.out.alloc _) (by have := Ir.out.sz; show bS + 1 ≤ wr.drew.heap.size; exact this) Mo6.out own7 gr7 (by omega) (by omega) (by omega) (by omega) (by omega) (by omega) (by omega) (by omega) (by omega)
           have Hf7 := Lib.hid F7
           obtain ⟨qa, qn, qc, rfl⟩ := own_shape own7
           obtain ⟨⟨o0, h0⟩, ⟨o1, h1⟩, ⟨o2, h2⟩, ⟨o3, h3⟩, ⟨o4, h4⟩, ⟨o5, h5⟩⟩ := six_at B7
           clear F7 B7 own7 gr7))
      all_goals
        go_wp2_with fail
        go_roundw
        case rel => exact ⟨k - 1, bs ++ [ms], _, by rw [show ((k - 1 : Nat) : Int) = (k : Int) - 1 from by omega], by simp; omega, Hf7.out⟩
        case measure => simp only [intOf]; omega
    · clear ho hin
      have hk' : k = 0 := by omega
      subst hk'
      by_cases hb0 : bs.length = 0
      · have hb0' : ((bs.length : Int) == 0) = true := by simp [hb0]
        clear hb0
        obtain ⟨⟨r0, f0⟩, ⟨r1, f1⟩, ⟨r2, f2⟩, ⟨r3, f3⟩, ⟨r4, f4⟩, ⟨r5, f5⟩⟩ := six_at Ir.out.hr
        obtain ⟨z1, z2, z3⟩ := Ir.out.ret (by omega) (by omega) (by omega) hRw (.int .i64 (L : Int)) (.int .i64 (V : Int)) (.float .f32 C) (.float .f32 R) (.slice ta bs.length tc) (.slice none 0 0)
        have hfin := ScoP.of (e := .returned (.agg #[.int .i64 (L : Int), .int .i64 (V : Int), .float .f32 C, .float .f32 R, .slice ta bs.length tc, .slice none 0 0])) (M := M) rfl (by omega) hV1 hV2 ⟨Q.out.1, Q.out.2.1⟩ Q.out.2.2 (by omega) (by decide) Ir.out.bok Ir.out.eok z1 z2 z3 (b' := w.heap.size) (Nat.le_refl _)
        have Hfin := Lib.hid hfin
        clear hfin z1 z2 z3
        go_wp2_with fail
        exact bodyPost_ret (v := .agg #[.int .i64 (L : Int), .int .i64 (V : Int), .float .f32 C, .float .f32 R, .slice ta bs.length tc, .slice none 0 0]) (by simp [results, Try.results72, go_sem, r0, r1, r2, r3, r4, r5, f0]) rfl
          Hfin.out
      · have hb0' : ((bs.length : Int) == 0) = false := by simpa using hb0
        have hb1 : 1 ≤ bs.length := by omega
        clear hb0
        go_wp2_with fail
        refine (below_at _ _ _ _ _ _ _ (by omega) (by omega) _ Ir.out.at'.here).mono ?_
        rintro e w6 ⟨x6, x60, x61, rfl, hc6⟩
        have I6 := Lib.hid (Ir.out.kp ⟨hc6.1, Ir.out.at'.2.trans hc6.2⟩ hc6.2 (by omega) (by omega) (by omega))
        clear hc6 l0 g0 l1 g1 l2 g2 l3 g3 l4 g4 l5 g5 Ir
        go_wp2_with fail
        go_loopw [7] (fun i wr => ScoE B w0 a len cap c bS w.heap.size (bS + 1) L V C R bs (.slice ta bs.length tc) i wr) (fun i _ => (intOf i).toNat)
        case atStart => exact ⟨x6.toNat, [], _, by rw [Int.toNat_of_nonneg x60], by simp; omega, I6.out⟩
        case round =>
          obtain ⟨k, es, ev, rfl, hke, hI⟩ := hrel
          have Ir := Lib.hid hI
          clear hI
          obtain ⟨⟨l0, g0⟩, ⟨l1, g1⟩, ⟨l2, g2⟩, ⟨l3, g3⟩, ⟨l4, g4⟩, ⟨l5, g5⟩⟩ := six_at Ir.out.hs
          have ho := Ir.out.evs
          obtain ⟨ua, uc, rfl⟩ := own_shape' ho
          by_cases hk0 : 0 < k
          · clear ho
            go_upto_region 11 with fail
            have J := Lib.hid (Ir.out.nw ((Nw.refl wr).draw 1))
            have k1 := l7Some_at _ _ _ _ _ _ L bs.length (by omega) (by omega) (by omega) wr.drew (show At B w0 a len cap c wr.drew from J.out.at').here
            have K1 := Lib.hid k1
            clear k1
            go_region_law (first
              | (go_simp
                 go_at_call 106
                 with_reducible refine K1.out.mono ?_
                 rintro e w7 ⟨et, ek, eb, es', em, ef, rfl, heok, hc7⟩
                 have J7 := Lib.hid (J.out.kp ⟨hc7.1, J.out.at'.2.trans hc7.2⟩ hc7.2 (by omega) (by omega) (by omega))
                 have E7 := Lib.hid (show Ev6.ok L bs.length ⟨et, ek, eb, es', em, ef⟩ from heok)
                 have hS7 : bS < w7.heap.size := J7.out.hs.1
                 obtain ⟨⟨m0, n0⟩, ⟨m1, n1⟩, ⟨m2, n2⟩, ⟨m3, n3⟩, ⟨m4, n4⟩, ⟨m5, n5⟩⟩ := six_at J7.out.hs
                 unfold evV
                 clear heok hc7)
              | (refine step_append_event rfl (.tmp 51) (.tmp 59) rfl (bS + 1) es.length w7.heap.size (.slice ua es.length uc) ⟨et, ek, eb, es', em, ef⟩ es rfl rfl (J7.out.evs.alloc _) (fun j u hj => ((HasC.new w7 57 (.int .i64 et) (.int .i64 ek) (.int .i64 eb) (.int .i64 es') (.int .i64 em) (.float .f32 ef)).2 j u hj).1) (by omega) (by have := J7.out.sz; simp; omega) ?_
                 intro v8 w8 own8 gr8
                 obtain ⟨B8, F8⟩ := ScoI.event (J7.out.nw ((Nw.refl w7).alloc _)) E7.out own8 gr8 (by omega) (by omega) (by omega) (by omega) (by omega) (by omega) (by omega) (by omega) (by omega)
                 have Hf8 := Lib.hid F8
                 obtain ⟨qa, qn, qc, rfl⟩ := own_shape own8
                 obtain ⟨⟨o0, h0⟩, ⟨o1, h1⟩, ⟨o2, h2⟩, ⟨o3, h3⟩, ⟨o4, h4⟩, ⟨o5, h5⟩⟩ := six_at B8
                 clear F8 B8 own8 gr8))
            all_goals
              go_wp2_with fail
              go_roundw
              case rel => exact ⟨k - 1, es ++ [⟨et, ek, eb, es', em, ef⟩], _, by rw [show ((k - 1 : Nat) : Int) = (k : Int) - 1 from by omega], by simp; omega, Hf8.out⟩
              case measure => simp only [intOf]; omega
          · clear ho
            have hk' : k = 0 := by omega
            subst hk'
            obtain ⟨⟨r0, f0⟩, ⟨r1, f1⟩, ⟨r2, f2⟩, ⟨r3, f3⟩, ⟨r4, f4⟩, ⟨r5, f5⟩⟩ := six_at Ir.out.hr
            obtain ⟨z1, z2, z3⟩ := Ir.out.ret (by omega) (by omega) (by omega) hRw (.int .i64 (L : Int)) (.int .i64 (V : Int)) (.float .f32 C) (.float .f32 R) (.slice ta bs.length tc) (.slice ua es.length uc)
            have hfin := ScoP.of (e := .returned (.agg #[.int .i64 (L : Int), .int .i64 (V : Int), .float .f32 C, .float .f32 R, .slice ta bs.length tc, .slice ua es.length uc])) (M := M) rfl (by omega) hV1 hV2 ⟨Q.out.1, Q.out.2.1⟩ Q.out.2.2 (by omega) (by omega) Ir.out.bok Ir.out.eok z1 z2 z3 (b' := w.heap.size) (Nat.le_refl _)
            have Hfin := Lib.hid hfin
            clear hfin z1 z2 z3
            go_wp2_with fail
            exact bodyPost_ret (v := .agg #[.int .i64 (L : Int), .int .i64 (V : Int), .float .f32 C, .float .f32 R, .slice ta bs.length tc, .slice ua es.length uc]) (by simp [results, Try.results72, go_sem, r0, r1, r2, r3, r4, r5, f0]) rfl
              Hfin.out

end Go.Proofs.Ytcodiiajmffdoaa
