/- What draws scores, second part: an event.
   Conditions: those that each statement names. -/
import Derived.Test.YtcodiiajmffdoaaScoD
import Derived.Test.YtcodiiajmffdoaaSps
import Derived.Great.BuildSlice
namespace Go.Proofs.Ytcodiiajmffdoaa
open Go Go.RowKit

theorem sm_64 : Sm 1115684864 ∧ S 1115684864 = 64 := by
  have h := Flo.int_single 64 (by decide)
  rw [show floatOfInt .f32 64 = 1115684864 from by decide +kernel] at h
  exact ⟨h.1, by rw [h.2]; rfl⟩
/-- the force of a strike -/
theorem force_ok (b : Nat) (h : Mo b) : (∀ w, fcv w .f64 b .f32 = Flo.nar b) ∧ fcd .f64 b .f32 = 0 ∧ ∃ r, (∀ w, fres w .quo .f32 (Flo.nar b) 1115684864 = r) ∧ fdr .quo .f32 (Flo.nar b) 1115684864 = 0 ∧ Sm r := by
  have hp : (2000000 : Rat) < Flo.pw 126 := by
    have h := Flo.pw_nat 21
    have hm : Flo.pw 21 ≤ Flo.pw 126 := Flo.pw_le (by omega)
    rw [show ((21 : Nat) : Int) = 21 from rfl] at h
    rw [h] at hm
    have e : ((2 ^ 21 : Nat) : Rat) = 2097152 := rfl
    grind
  have hp2 : Flo.pw 126 ≤ Flo.pw 127 := Flo.pw_le (by omega)
  obtain ⟨h1, h2, h3, h4⟩ := Flo.narrow_ok b h.1 1000005 h.2 (by grind)
  have hv : Flo.v ≤ Flo.pw (-20) := Flo.pw_le (by omega)
  have hes : Flo.es ≤ Flo.pw (-20) := Flo.pw_le (by omega)
  have hpm : Flo.pw (-20) * 1048576 = 1 := by
    have := Flo.pw_neg_mul 20
    rw [show Flo.pw 20 = 1048576 from Flo.pw_nat 20] at this
    grind
  have hS : Flo.Ab (S (Flo.nar b)) 1000010 := by
    have hb := h.2
    unfold Flo.Ab at hb h4 ⊢
    grind
  have hy0 : S 1115684864 ≠ 0 := by rw [sm_64.2]; decide
  have hq : (S (Flo.nar b) / 64) * S 1115684864 = S (Flo.nar b) := by rw [sm_64.2]; exact Rat.div_mul_cancel (by decide)
  have hb : Flo.Ab (S (Flo.nar b) / 64) 1000010 := by
    refine Flo.Ab.div (y := (64 : Rat)) (D := 1) ?_ (by grind) (by grind)
    rw [Rat.div_mul_cancel (by decide)]
    simpa using hS
  obtain ⟨r, q1, q2, -⟩ := Flo.s_div (Flo.nar b) 1115684864 h3 sm_64.1 hy0 _ 1000010 hq hb (by grind)
  exact ⟨h1, h2, r, fun w => by unfold fres; rw [q1], by unfold fdr; rw [q1]; rfl, q2⟩

/-- the factor of a damping -/
def dampF (z : Int) : Nat := opB .quo .f32 (floatOfInt .f32 z) 1148846080
def dampFOk (z : Int) : Bool := (floatBits .quo .f32 (floatOfInt .f32 z) 1148846080).isSome && fin .f32 (dampF z) &&
  (FloatKind.f32.format.order (dampF z) 0 == some .gt || FloatKind.f32.format.order (dampF z) 0 == some .eq) && (FloatKind.f32.format.order (dampF z) 1065353216 == some .lt || FloatKind.f32.format.order (dampF z) 1065353216 == some .eq)
def Fact (x : Nat) : Prop := Sm x ∧ (FloatKind.f32.format.order x 0 == some .gt || FloatKind.f32.format.order x 0 == some .eq) = true ∧ (FloatKind.f32.format.order x 1065353216 == some .lt || FloatKind.f32.format.order x 1065353216 == some .eq) = true
set_option maxRecDepth 100000 in
theorem dampF_all : (([0, 500, 900, 1000, 990] : List Int).all dampFOk) = true := by decide +kernel
theorem dampF_ok (z : Int) (hz : z ∈ ([0, 500, 900, 1000, 990] : List Int)) : (∀ w, fres w .quo .f32 (floatOfInt .f32 z) 1148846080 = dampF z) ∧ fdr .quo .f32 (floatOfInt .f32 z) 1148846080 = 0 ∧ Fact (dampF z) := by
  have h := dampF_all
  rw [List.all_eq_true] at h
  have h := h z hz
  unfold dampFOk at h
  simp only [Bool.and_eq_true] at h
  obtain ⟨⟨⟨h1, h2⟩, h3⟩, h4⟩ := h
  obtain ⟨r, hr⟩ := Option.isSome_iff_exists.1 h1
  exact ⟨fun w => (Calm.of hr).1.res w, (Calm.of hr).1.fdr, Sm_of h2, h3, h4⟩

/-- an event of a score of L samples and nb bodies -/
def EvOk (L nb : Nat) (t k b s m : Int) (f : Nat) : Prop :=
  0 ≤ t ∧ t ≤ L ∧ 0 ≤ b ∧ b < nb ∧
    ((k = 1 ∧ 0 ≤ s ∧ s ≤ 2 ∧ 1 ≤ m ∧ m ≤ 9 ∧ Sm f) ∨ (k = 2 ∧ s = 0 ∧ m = 0 ∧ Fact f) ∨ (k = 3 ∧ s = 0 ∧ m = 0 ∧ f = 0))
def evV (t k b s m : Int) (f : Nat) : Value := .agg #[.int .i64 t, .int .i64 k, .int .i64 b, .int .i64 s, .int .i64 m, .float .f32 f]
def EvP (B : Nat) (w0 : World) (a : Option Addr) (len cap c L nb : Nat) (e : Ending) (w' : World) : Prop :=
  ∃ (t k b s m : Int) (f : Nat), e = .returned (evV t k b s m f) ∧ EvOk L nb t k b s m f ∧ At B w0 a len cap c w'

theorem info_int : (Try.prog.info? 3).map (fun i => (i.zero, i.size, i.bytes)) = some (some (.int .i64 0), 1, 8) := by kernel_rfl
theorem ints4L (w : World) (T : TypeId) (z0 z1 z2 z3 : Int) : IntsL ((w.alloc (.cells #[.int .i64 z0, .int .i64 z1, .int .i64 z2, .int .i64 z3] T (0, 0)))) w.heap.size [z0, z1, z2, z3] := by
  intro k z hk
  match k, hk with
  | 0, hk => simp at hk; subst hk; go_simp
  | 1, hk => simp at hk; subst hk; go_simp
  | 2, hk => simp at hk; subst hk; go_simp
  | 3, hk => simp at hk; subst hk; go_simp
  | k + 4, hk => simp at hk
theorem HasC.new (w : World) (T : TypeId) (v0 v1 v2 v3 v4 v5 : Value) : HasC (w.alloc (.cells #[v0, v1, v2, v3, v4, v5] T (0, 0))) w.heap.size [v0, v1, v2, v3, v4, v5] := by
  refine ⟨by simp, fun k v hk => ?_⟩
  match k, hk with
  | 0, hk => simp at hk; subst hk; constructor <;> go_simp
  | 1, hk => simp at hk; subst hk; constructor <;> go_simp
  | 2, hk => simp at hk; subst hk; constructor <;> go_simp
  | 3, hk => simp at hk; subst hk; constructor <;> go_simp
  | 4, hk => simp at hk; subst hk; constructor <;> go_simp
  | 5, hk => simp at hk; subst hk; constructor <;> go_simp
  | k + 6, hk => simp at hk

theorem six_at {w : World} {b : Nat} {v0 v1 v2 v3 v4 v5 : Value} (h : HasC w b [v0, v1, v2, v3, v4, v5]) :
    (w.cell? ⟨b, 0, none⟩ = some v0 ∧ w.frozen? ⟨b, 0, none⟩ = false) ∧ (w.cell? ⟨b, 1, none⟩ = some v1 ∧ w.frozen? ⟨b, 1, none⟩ = false) ∧ (w.cell? ⟨b, 2, none⟩ = some v2 ∧ w.frozen? ⟨b, 2, none⟩ = false) ∧
    (w.cell? ⟨b, 3, none⟩ = some v3 ∧ w.frozen? ⟨b, 3, none⟩ = false) ∧ (w.cell? ⟨b, 4, none⟩ = some v4 ∧ w.frozen? ⟨b, 4, none⟩ = false) ∧ (w.cell? ⟨b, 5, none⟩ = some v5 ∧ w.frozen? ⟨b, 5, none⟩ = false) :=
  ⟨h.2 0 _ rfl, h.2 1 _ rfl, h.2 2 _ rfl, h.2 3 _ rfl, h.2 4 _ rfl, h.2 5 _ rfl⟩

set_option maxHeartbeats 3200000 in
set_option maxRecDepth 100000 in
theorem l7Some_at (B : Nat) (w0 : World) (a : Option Addr) (len cap c L nb : Nat) (hL : L ≤ 500) (hn1 : 1 ≤ nb) (hn2 : nb ≤ 16) (w : World) (hc : At B w0 a len cap c w) :
    Calls Try.prog 106 #[.pointer (some ⟨c, 0, none⟩), .int .i64 (L : Int), .int .i64 (nb : Int)] w (EvP B w0 a len cap c L nb) := by
  obtain ⟨i0, hi, hz0, hz1, hz2⟩ := info_parts info_int
  have hui := Try.underlying111
  have hcs : c < w.heap.size := hc.1.2.1
  have hw0 : w0.heap.size ≤ w.heap.size := hc.2.size
  have R0 := Lib.hid (HasC.new w 57 (.int .i64 0) (.int .i64 0) (.int .i64 0) (.int .i64 0) (.int .i64 0) (.float .f32 0))
  have Hc := Lib.hid (hc.alloc (.cells #[.int .i64 0, .int .i64 0, .int .i64 0, .int .i64 0, .int .i64 0, .float .f32 0] 57 (0, 0)))
  clear hc
  go_enter Try.func106, Try.ntmps106
  go_wp2_with fail
  refine (below_at _ _ _ _ _ _ _ (by omega) (by omega) _ Hc.out.here).mono ?_
  rintro e w1 ⟨x1, x10, x11, rfl, hc1⟩
  have hs1 := hc1.2.size
  simp at hs1
  have H1 := Lib.hid (show At B w0 a len cap c w1 from ⟨hc1.1, Hc.out.2.trans hc1.2⟩)
  have R1 := Lib.hid (R0.out.kp hc1.2 (by omega))
  clear hc1
  go_wp2_with fail
  refine (below_at _ _ _ _ _ _ _ (by omega) (by omega) _ H1.out.here).mono ?_
  rintro e w2 ⟨x2, x20, x21, rfl, hc2⟩
  have hs2 := hc2.2.size
  have H2 := Lib.hid (At.alloc (show At B w0 a len cap c w2 from ⟨hc2.1, H1.out.2.trans hc2.2⟩) (.cells #[.int .i64 x1, .int .i64 0, .int .i64 x2, .int .i64 0, .int .i64 0, .float .f32 0] 57 (0, 0)))
  have R2 := Lib.hid ((R1.out.kp hc2.2 (by omega)).alloc (.cells #[.int .i64 x1, .int .i64 0, .int .i64 x2, .int .i64 0, .int .i64 0, .float .f32 0] 57 (0, 0)))
  have E2 := Lib.hid (HasC.new w2 57 (.int .i64 x1) (.int .i64 0) (.int .i64 x2) (.int .i64 0) (.int .i64 0) (.float .f32 0))
  clear hc2
  go_wp2_with fail
  refine (below_at _ _ _ _ _ _ _ (by omega) (by omega) _ H2.out.here).mono ?_
  rintro e w3 ⟨x3, x30, x31, rfl, hc3⟩
  have hs3 := hc3.2.size
  simp at hs3
  have H3 := Lib.hid (show At B w0 a len cap c w3 from ⟨hc3.1, H2.out.2.trans hc3.2⟩)
  have R3 := Lib.hid (R2.out.kp hc3.2 (by omega))
  have E3 := Lib.hid (E2.out.kp hc3.2 (by omega))
  clear hc3
  obtain ⟨⟨e0, eg0⟩, ⟨e1, eg1⟩, ⟨e2, eg2⟩, ⟨e3, eg3⟩, ⟨e4, eg4⟩, ⟨e5, eg5⟩⟩ := six_at E3.out
  have hEc : w2.heap.size ≠ c := by omega
  have hBE : B ≤ w2.heap.size := by have := Hc.out.1.1; omega
  have hwE : w0.heap.size ≤ w2.heap.size := by omega
  have hER : w2.heap.size ≠ w.heap.size := by omega
  have hRc : w.heap.size ≠ c := by omega
  have hBR : B ≤ w.heap.size := by have := Hc.out.1.1; omega
  have hwR : w0.heap.size ≤ w.heap.size := hw0
  by_cases hx0 : x3 = 0
  · subst hx0
    have H4 := Lib.hid (H3.out.set (p := ⟨w2.heap.size, 1, none⟩) hEc hBE hwE (.int .i64 2))
    have R4 := Lib.hid (R3.out.sete (p := ⟨w2.heap.size, 1, none⟩) hER (.int .i64 2))
    have E4 := Lib.hid (show HasC (w3.setCell ⟨w2.heap.size, 1, none⟩ (.int .i64 2)) w2.heap.size [.int .i64 x1, .int .i64 2, .int .i64 x2, .int .i64 0, .int .i64 0, .float .f32 0] from E3.out.set 1 (.int .i64 2))
    have hs4 : w3.heap.size = (w3.setCell ⟨w2.heap.size, 1, none⟩ (.int .i64 2)).heap.size := by simp [World.setCell]
    go_wp2_with fail
    clear e0 eg0 e1 eg1 e2 eg2 e3 eg3 e4 eg4 e5 eg5
    generalize w3.setCell ⟨w2.heap.size, 1, none⟩ (.int .i64 2) = w4 at *
    refine wp_buildSlice 111 3 4 _ rfl #[.int .i64 0, .int .i64 500, .int .i64 900, .int .i64 1000] i0 (.int .i64 0) hui hi hz0 (by rw [hz1]; decide) (by rw [hz1]; decide) (by rw [hz1]; kernel_rfl) ?_
    go_wp2_with fail
    refine (l01Int_in _ _ _ _ _ _ w4.heap.size 4 4 [0, 500, 900, 1000] rfl (by omega) (by omega) _ (H4.out.alloc (.cells #[.int .i64 0, .int .i64 500, .int .i64 900, .int .i64 1000] 3 (0, 0))).here (by simp) (by omega) (ints4L w4 3 0 500 900 1000)).mono ?_
    rintro e w5 ⟨x5, hm5, rfl, hc5⟩
    have H5 := Lib.hid (show At B w0 a len cap c w5 from ⟨hc5.1, (H4.out.alloc (.cells #[.int .i64 0, .int .i64 500, .int .i64 900, .int .i64 1000] 3 (0, 0))).2.trans hc5.2⟩)
    have R5 := Lib.hid ((R4.out.alloc (.cells #[.int .i64 0, .int .i64 500, .int .i64 900, .int .i64 1000] 3 (0, 0))).kp hc5.2 hRc)
    have E5 := Lib.hid ((E4.out.alloc (.cells #[.int .i64 0, .int .i64 500, .int .i64 900, .int .i64 1000] 3 (0, 0))).kp hc5.2 hEc)
    clear hc5
    obtain ⟨q3, q4, q5⟩ := dampF_ok x5 (by simp at hm5 ⊢; omega)
    obtain ⟨⟨e0, eg0⟩, ⟨e1, eg1⟩, ⟨e2, eg2⟩, ⟨e3, eg3⟩, ⟨e4, eg4⟩, ⟨e5, eg5⟩⟩ := six_at E5.out
    have H6 := Lib.hid (H5.out.set (p := ⟨w2.heap.size, 5, none⟩) hEc hBE hwE (.float .f32 (dampF x5)))
    have R6 := Lib.hid (R5.out.sete (p := ⟨w2.heap.size, 5, none⟩) hER (.float .f32 (dampF x5)))
    have E6 := Lib.hid (show HasC (w5.setCell ⟨w2.heap.size, 5, none⟩ (.float .f32 (dampF x5))) w2.heap.size [.int .i64 x1, .int .i64 2, .int .i64 x2, .int .i64 0, .int .i64 0, .float .f32 (dampF x5)] from E5.out.set 5 (.float .f32 (dampF x5)))
    obtain ⟨⟨f0, fg0⟩, ⟨f1, fg1⟩, ⟨f2, fg2⟩, ⟨f3, fg3⟩, ⟨f4, fg4⟩, ⟨f5, fg5⟩⟩ := six_at R6.out
    go_wp2_with fail
    exact bodyPost_ret (v := evV x1 2 x2 0 0 (dampF x5)) (by simp [results, evV, Try.results106, go_sem, f0, f1, f2, f3, f4, f5, fg0]) rfl
      ⟨_, _, _, _, _, _, rfl, ⟨x10, by omega, x20, x21, .inr (.inl ⟨rfl, rfl, rfl, q5⟩)⟩, ((((((H6.out.set (p := ⟨w.heap.size, 0, none⟩) hRc hBR hwR (.int .i64 x1)).set (p := ⟨w.heap.size, 1, none⟩) hRc hBR hwR (.int .i64 2)).set (p := ⟨w.heap.size, 2, none⟩) hRc hBR hwR (.int .i64 x2)).set (p := ⟨w.heap.size, 3, none⟩) hRc hBR hwR (.int .i64 0)).set (p := ⟨w.heap.size, 4, none⟩) hRc hBR hwR (.int .i64 0)).set (p := ⟨w.heap.size, 5, none⟩) hRc hBR hwR (.float .f32 (dampF x5)))⟩
  · by_cases hx1 : x3 = 1
    · subst hx1
      have H4 := Lib.hid (H3.out.set (p := ⟨w2.heap.size, 1, none⟩) hEc hBE hwE (.int .i64 3))
      have R4 := Lib.hid (R3.out.sete (p := ⟨w2.heap.size, 1, none⟩) hER (.int .i64 3))
      have E4 := Lib.hid (show HasC (w3.setCell ⟨w2.heap.size, 1, none⟩ (.int .i64 3)) w2.heap.size [.int .i64 x1, .int .i64 3, .int .i64 x2, .int .i64 0, .int .i64 0, .float .f32 0] from E3.out.set 1 (.int .i64 3))
      obtain ⟨⟨f0, fg0⟩, ⟨f1, fg1⟩, ⟨f2, fg2⟩, ⟨f3, fg3⟩, ⟨f4, fg4⟩, ⟨f5, fg5⟩⟩ := six_at R4.out
      go_wp2_with fail
      exact bodyPost_ret (v := evV x1 3 x2 0 0 0) (by simp [results, evV, Try.results106, go_sem, f0, f1, f2, f3, f4, f5, fg0]) rfl
        ⟨_, _, _, _, _, _, rfl, ⟨x10, by omega, x20, x21, .inr (.inr ⟨rfl, rfl, rfl, rfl⟩)⟩, ((((((H4.out.set (p := ⟨w.heap.size, 0, none⟩) hRc hBR hwR (.int .i64 x1)).set (p := ⟨w.heap.size, 1, none⟩) hRc hBR hwR (.int .i64 3)).set (p := ⟨w.heap.size, 2, none⟩) hRc hBR hwR (.int .i64 x2)).set (p := ⟨w.heap.size, 3, none⟩) hRc hBR hwR (.int .i64 0)).set (p := ⟨w.heap.size, 4, none⟩) hRc hBR hwR (.int .i64 0)).set (p := ⟨w.heap.size, 5, none⟩) hRc hBR hwR (.float .f32 0))⟩
    · have hx0' : ¬ ((x3 == 0) = true) := by simpa using hx0
      have hx1' : ¬ ((x3 == 1) = true) := by simpa using hx1
      have H4 := Lib.hid (H3.out.set (p := ⟨w2.heap.size, 1, none⟩) hEc hBE hwE (.int .i64 1))
      have R4 := Lib.hid (R3.out.sete (p := ⟨w2.heap.size, 1, none⟩) hER (.int .i64 1))
      have E4 := Lib.hid (show HasC (w3.setCell ⟨w2.heap.size, 1, none⟩ (.int .i64 1)) w2.heap.size [.int .i64 x1, .int .i64 1, .int .i64 x2, .int .i64 0, .int .i64 0, .float .f32 0] from E3.out.set 1 (.int .i64 1))
      go_wp2_with fail
      clear e0 eg0 e1 eg1 e2 eg2 e3 eg3 e4 eg4 e5 eg5
      generalize w3.setCell ⟨w2.heap.size, 1, none⟩ (.int .i64 1) = w4 at *
      refine (below_at _ _ _ _ _ _ _ (by omega) (by omega) _ H4.out.here).mono ?_
      rintro e w5 ⟨x5, x50, x51, rfl, hc5⟩
      have H5 := Lib.hid (show At B w0 a len cap c w5 from ⟨hc5.1, H4.out.2.trans hc5.2⟩)
      have R5 := Lib.hid (R4.out.kp hc5.2 hRc)
      have E5 := Lib.hid (E4.out.kp hc5.2 hEc)
      clear hc5
      obtain ⟨⟨e0, eg0⟩, ⟨e1, eg1⟩, ⟨e2, eg2⟩, ⟨e3, eg3⟩, ⟨e4, eg4⟩, ⟨e5, eg5⟩⟩ := six_at E5.out
      have H6 := Lib.hid (H5.out.set (p := ⟨w2.heap.size, 3, none⟩) hEc hBE hwE (.int .i64 x5))
      have R6 := Lib.hid (R5.out.sete (p := ⟨w2.heap.size, 3, none⟩) hER (.int .i64 x5))
      have E6 := Lib.hid (show HasC (w5.setCell ⟨w2.heap.size, 3, none⟩ (.int .i64 x5)) w2.heap.size [.int .i64 x1, .int .i64 1, .int .i64 x2, .int .i64 x5, .int .i64 0, .float .f32 0] from E5.out.set 3 (.int .i64 x5))
      go_wp2_with fail
      clear e0 eg0 e1 eg1 e2 eg2 e3 eg3 e4 eg4 e5 eg5
      generalize w5.setCell ⟨w2.heap.size, 3, none⟩ (.int .i64 x5) = w6 at *
      refine (below_at _ _ _ _ _ _ _ (by omega) (by omega) _ H6.out.here).mono ?_
      rintro e w7 ⟨x7, x70, x71, rfl, hc7⟩
      have H7 := Lib.hid (show At B w0 a len cap c w7 from ⟨hc7.1, H6.out.2.trans hc7.2⟩)
      have R7 := Lib.hid (R6.out.kp hc7.2 hRc)
      have E7 := Lib.hid (E6.out.kp hc7.2 hEc)
      clear hc7
      obtain ⟨⟨e0, eg0⟩, ⟨e1, eg1⟩, ⟨e2, eg2⟩, ⟨e3, eg3⟩, ⟨e4, eg4⟩, ⟨e5, eg5⟩⟩ := six_at E7.out
      have H8 := Lib.hid (H7.out.set (p := ⟨w2.heap.size, 4, none⟩) hEc hBE hwE (.int .i64 (1 + x7)))
      have R8 := Lib.hid (R7.out.sete (p := ⟨w2.heap.size, 4, none⟩) hER (.int .i64 (1 + x7)))
      have E8 := Lib.hid (show HasC (w7.setCell ⟨w2.heap.size, 4, none⟩ (.int .i64 (1 + x7))) w2.heap.size [.int .i64 x1, .int .i64 1, .int .i64 x2, .int .i64 x5, .int .i64 (1 + x7), .float .f32 0] from E7.out.set 4 (.int .i64 (1 + x7)))
      go_wp2_with fail
      clear e0 eg0 e1 eg1 e2 eg2 e3 eg3 e4 eg4 e5 eg5
      generalize w7.setCell ⟨w2.heap.size, 4, none⟩ (.int .i64 (1 + x7)) = w8 at *
      refine (l1Some_mo _ _ _ _ _ _ _ H8.out.here).mono ?_
      rintro e w9 ⟨x9, rfl, mo9, hc9⟩
      have H9 := Lib.hid (show At B w0 a len cap c w9 from ⟨hc9.1, H8.out.2.trans hc9.2⟩)
      have R9 := Lib.hid (R8.out.kp hc9.2 hRc)
      have E9 := Lib.hid (E8.out.kp hc9.2 hEc)
      clear hc9
      obtain ⟨q1, q2, r, q3, q4, q5⟩ := force_ok x9 mo9
      obtain ⟨⟨e0, eg0⟩, ⟨e1, eg1⟩, ⟨e2, eg2⟩, ⟨e3, eg3⟩, ⟨e4, eg4⟩, ⟨e5, eg5⟩⟩ := six_at E9.out
      have H10 := Lib.hid (H9.out.set (p := ⟨w2.heap.size, 5, none⟩) hEc hBE hwE (.float .f32 r))
      have R10 := Lib.hid (R9.out.sete (p := ⟨w2.heap.size, 5, none⟩) hER (.float .f32 r))
      have E10 := Lib.hid (show HasC (w9.setCell ⟨w2.heap.size, 5, none⟩ (.float .f32 r)) w2.heap.size [.int .i64 x1, .int .i64 1, .int .i64 x2, .int .i64 x5, .int .i64 (1 + x7), .float .f32 r] from E9.out.set 5 (.float .f32 r))
      obtain ⟨⟨f0, fg0⟩, ⟨f1, fg1⟩, ⟨f2, fg2⟩, ⟨f3, fg3⟩, ⟨f4, fg4⟩, ⟨f5, fg5⟩⟩ := six_at R10.out
      go_wp2_with fail
      exact bodyPost_ret (v := evV x1 1 x2 x5 (1 + x7) r) (by simp [results, evV, Try.results106, go_sem, f0, f1, f2, f3, f4, f5, fg0]) rfl
        ⟨_, _, _, _, _, _, rfl, ⟨x10, by omega, x20, x21, .inl ⟨rfl, x50, by omega, by omega, by omega, q5⟩⟩, ((((((H10.out.set (p := ⟨w.heap.size, 0, none⟩) hRc hBR hwR (.int .i64 x1)).set (p := ⟨w.heap.size, 1, none⟩) hRc hBR hwR (.int .i64 1)).set (p := ⟨w.heap.size, 2, none⟩) hRc hBR hwR (.int .i64 x2)).set (p := ⟨w.heap.size, 3, none⟩) hRc hBR hwR (.int .i64 x5)).set (p := ⟨w.heap.size, 4, none⟩) hRc hBR hwR (.int .i64 (1 + x7))).set (p := ⟨w.heap.size, 5, none⟩) hRc hBR hwR (.float .f32 r))⟩

end Go.Proofs.Ytcodiiajmffdoaa
