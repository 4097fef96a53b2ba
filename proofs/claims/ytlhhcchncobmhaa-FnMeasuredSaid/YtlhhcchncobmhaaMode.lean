/- The walks of what draws modes, and of what tests them.
   Conditions: those that each statement names. -/
import Derived.Test.YtlhhcchncobmhaaMake
import Derived.Test.YtlhhcchncobmhaaSin
import Derived.Deep.RegionHeld3
namespace Go.Proofs.Ytlhhcchncobmhaa
set_option linter.unusedSimpArgs false
set_option linter.unusedVariables false
open Go Go.RowKit

/-- a number of single precision, whatever its bits -/
def SinP (B : Nat) (w0 : World) (a : Option Addr) (len cap c : Nat) (e : Ending) (w' : World) : Prop :=
  ∃ x y : Nat, e = .returned (.complex .f32 x y) ∧ At B w0 a len cap c w'
theorem l1Single_at (B : Nat) (w0 : World) (a : Option Addr) (len cap c : Nat) (w : World) (hc : At B w0 a len cap c w) :
    Calls Try.prog 106 #[.pointer (some ⟨c, 0, none⟩)] w (SinP B w0 a len cap c) := by
  go_enter Try.func106, Try.ntmps106
  go_wp2_with fail
  refine (l1Any_at _ _ _ _ _ _ _ hc).mono ?_
  rintro e w1 ⟨x, rfl, x0, hc1⟩
  have Hc1 := Lib.hid hc1
  clear hc1
  go_wp2_with fail
  refine (l1Any_at _ _ _ _ _ _ _ (At.draw Hc1.out _)).mono ?_
  rintro e w2 ⟨y, rfl, y0, hc2⟩
  have Hc2 := Lib.hid hc2
  clear hc2
  go_wp2
  go_ret
  exact ⟨_, _, rfl, At.draw Hc2.out _⟩

theorem l2Turn_at (B : Nat) (w0 : World) (a : Option Addr) (len cap c : Nat) (w : World) (hc : At B w0 a len cap c w) :
    Calls Try.prog 102 #[.pointer (some ⟨c, 0, none⟩)] w (SinP B w0 a len cap c) := by
  go_enter Try.func102, Try.ntmps102
  go_wp2_with (go_at_call 51; refine (below_at _ _ _ _ _ _ _ (by omega) (by omega) _ (by first | assumption | exact At.draw (by assumption) _)).mono ?_; rintro e w1 ⟨x, x0, x1, rfl, hc1⟩)
  all_goals
    go_ret
    first
      | exact ⟨_, _, rfl, by assumption⟩
      | exact ⟨_, _, rfl, At.draw (by assumption) _⟩

/-- n integers from the head of block g on -/
def Ints (w : World) (g n : Nat) : Prop := ∀ k, k < n → ∃ z : Int, w.cell? ⟨g, k, none⟩ = some (.int .i64 z)
def IntP (B : Nat) (w0 : World) (a : Option Addr) (len cap c : Nat) (e : Ending) (w' : World) : Prop :=
  ∃ x : Int, e = .returned (.int .i64 x) ∧ At B w0 a len cap c w'
theorem l01Int_at (B : Nat) (w0 : World) (a : Option Addr) (len cap c : Nat) (g n m : Nat) (hn : 1 ≤ n) (hn2 : n ≤ 256) (w : World) (hc : At B w0 a len cap c w) (hg : g < w.heap.size) (hgc : g ≠ c) (hi : Ints w g n) :
    Calls Try.prog 105 #[.pointer (some ⟨c, 0, none⟩), .slice (some ⟨g, 0, none⟩) n m] w (IntP B w0 a len cap c) := by
  have Hi := Lib.hid hi
  clear hi
  have Hc := Lib.hid hc
  clear hc
  go_enter Try.func105, Try.ntmps105
  go_wp2_with fail
  refine (below_at _ _ _ _ _ _ _ (by omega) (by omega) _ Hc.out.here).mono ?_
  rintro e w1 ⟨x, x0, x1, rfl, hc1⟩
  obtain ⟨k, rfl⟩ : ∃ k : Nat, x = k := ⟨x.toNat, by omega⟩
  obtain ⟨z, hz⟩ := Hi.out k (by omega)
  have hz1 : w1.cell? ⟨g, k, none⟩ = some (.int .i64 z) := by rw [hc1.2.cell (p := ⟨g, k, none⟩) hg hgc]; exact hz
  have hkn : k < n := by omega
  have Hc1 := Lib.hid (show At B w0 a len cap c w1 from ⟨hc1.1, Hc.out.2.trans hc1.2⟩)
  clear hc1 hz
  go_wp2
  go_ret
  exact ⟨_, rfl, Hc1.out⟩

theorem ints4 (w : World) (T : TypeId) (z0 z1 z2 z3 : Int) : Ints ((w.alloc (.cells #[.int .i64 z0, .int .i64 z1, .int .i64 z2, .int .i64 z3] T (0, 0))).drewN 1) w.heap.size 4 := by
  intro k hk
  match k, hk with
  | 0, _ => exact ⟨z0, by go_simp⟩
  | 1, _ => exact ⟨z1, by go_simp⟩
  | 2, _ => exact ⟨z2, by go_simp⟩
  | 3, _ => exact ⟨z3, by go_simp⟩

/-! ### small functions on numbers -/
theorem scaleSpec_any (x y k : Nat) (w : World) :
    Calls Try.prog 104 #[.complex .f32 x y, .float .f32 k] w fun e w' => ∃ w1 n, e = .returned (.complex .f32 (fres w .mul .f32 x k) (fres w1 .mul .f32 y k)) ∧ w' = w.drewN n := by
  go_enter Try.func104, Try.ntmps104
  go_wp2
  all_goals (go_ret; exact ⟨_, _, rfl, rfl⟩)

theorem finiteSingle_any (x y : Nat) (w : World) :
    Calls Try.prog 107 #[.complex .f32 x y] w fun e w' => e = .returned (.bool (fin .f32 x && fin .f32 y)) ∧ ∃ n, w' = w.drewN n := by
  go_enter Try.func107, Try.ntmps107
  go_wp2_with (go_at_call 116; refine (finiteDouble_any _ _ _).mono ?_; rintro e w' ⟨rfl, n, rfl⟩)
  go_ret
  exact ⟨by simp [fin_up], _, rfl⟩

theorem l2Square_fin (x y : Nat) (w : World) (hx : Sm x) (hy : Sm y) :
    Calls Try.prog 108 #[.complex .f64 (wid x) (wid y)] w fun e w' => e = .returned (.float .f64 (sqr (wid x) (wid y))) ∧ w = w' := by
  obtain ⟨a, b, h1, h2, h3, -, -⟩ := sqr_num hx hy
  have f1 : ∀ w, fres w .mul .f64 (wid x) (wid x) = a := fun w => by unfold fres; rw [h1]
  have f2 : ∀ w, fres w .mul .f64 (wid y) (wid y) = b := fun w => by unfold fres; rw [h2]
  have f3 : ∀ w, fres w .add .f64 a b = sqr (wid x) (wid y) := fun w => by unfold fres; rw [h3]
  have d1 : fdr .mul .f64 (wid x) (wid x) = 0 := by unfold fdr; rw [h1]; rfl
  have d2 : fdr .mul .f64 (wid y) (wid y) = 0 := by unfold fdr; rw [h2]; rfl
  have d3 : fdr .add .f64 a b = 0 := by unfold fdr; rw [h3]; rfl
  clear h1 h2 h3
  go_enter Try.func108, Try.ntmps108
  go_wp2
  all_goals (go_ret; exact ⟨rfl, rfl⟩)

theorem l2Gain_any (x y : Nat) (w : World) :
    Calls Try.prog 109 #[.complex .f64 x y] w fun e w' => e = .returned (.bool (leB (labs x) 4652218415073722368 && leB (labs y) 4652218415073722368)) ∧ w = w' := by
  go_enter Try.func109, Try.ntmps109
  go_wp2_with (go_at_call 80; refine (l1Abs_any _ _).mono ?_; rintro e w' ⟨rfl, rfl⟩)
  all_goals (go_ret; refine ⟨?_, rfl⟩; simp_all [leB])

def ModeP (P : Nat → Nat → Nat → Nat → Prop) (w : World) (e : Ending) (w' : World) : Prop :=
  ∃ pr pi gr gi : Nat, e = .returned (.agg #[.complex .f32 pr pi, .complex .f32 gr gi]) ∧ P pr pi gr gi ∧ Nw w w'
def TestP (b : Bool) (w : World) (e : Ending) (w' : World) : Prop := e = .returned (.bool b) ∧ Nw w w'

theorem specMode_any (pr pi gr gi : Nat) (w : World) :
    Calls Try.prog 76 #[.agg #[.complex .f32 pr pi, .complex .f32 gr gi]] w (TestP (modeB pr pi gr gi labs) w) := by
  cases hf : (fin .f32 pr && fin .f32 pi)
  · go_enter Try.func76, Try.ntmps76
    go_wp2_with (go_at_call 107; refine (finiteSingle_any _ _ _).mono ?_; rintro e w' ⟨rfl, n, rfl⟩)
    go_ret
    exact ⟨by simp [modeB, hf], ((Nw.refl _).alloc _).draw _⟩
  · cases hg : (fin .f32 gr && fin .f32 gi)
    · go_enter Try.func76, Try.ntmps76
      go_wp2_with (go_at_call 107; refine (finiteSingle_any _ _ _).mono ?_; rintro e w' ⟨rfl, n, rfl⟩)
      go_ret
      exact ⟨by simp [modeB, hg], ((Nw.refl _).alloc _).draw _⟩
    · have hf2 := hf
      have hg2 := hg
      simp only [Bool.and_eq_true] at hf2 hg2
      have a1 := fcv_up (Sm_of hf2.1)
      have a2 := fcv_up (Sm_of hf2.2)
      have a3 := fcv_up (Sm_of hg2.1)
      have a4 := fcv_up (Sm_of hg2.2)
      have b1 := fcd_up (Sm_of hf2.1)
      have b2 := fcd_up (Sm_of hf2.2)
      have b3 := fcd_up (Sm_of hg2.1)
      have b4 := fcd_up (Sm_of hg2.2)
      have S1 := Lib.hid (Sm_of hf2.1)
      have S2 := Lib.hid (Sm_of hf2.2)
      clear hf2 hg2
      go_enter Try.func76, Try.ntmps76
      go_wp2_with (first
        | (go_at_call 107; refine (finiteSingle_any _ _ _).mono ?_; rintro e w' ⟨rfl, n, rfl⟩)
        | (go_at_call 108; refine (l2Square_fin _ _ _ S1.out S2.out).mono ?_; rintro e w' ⟨rfl, rfl⟩)
        | (go_at_call 109; refine (l2Gain_any _ _ _).mono ?_; rintro e w' ⟨rfl, rfl⟩))
      all_goals (go_ret; exact ⟨by simp_all [modeB, leB], ((Nw.refl _).alloc _).draw _⟩)

def AggP (B : Nat) (w0 : World) (a : Option Addr) (len cap c : Nat) (e : Ending) (w' : World) : Prop :=
  ∃ pr pi gr gi : Nat, e = .returned (.agg #[.complex .f32 pr pi, .complex .f32 gr gi]) ∧ At B w0 a len cap c w'
theorem At.alloc {B : Nat} {w0 : World} {a : Option Addr} {len cap c : Nat} {w : World} (h : At B w0 a len cap c w) (o : Obj) : At B w0 a len cap c (w.alloc o) := by
  obtain ⟨⟨h1, h2, h3, i, j, h4, h5, h6, h7, h8, h9, h10⟩, hk⟩ := h
  have k : ∀ p, p.block = c → (w.alloc o).cell? p = w.cell? p := fun p hp => World.cell?_of_block (w := w) (Below.heap_alloc _ _ _ (by omega))
  have f : ∀ p, p.block = c → (w.alloc o).frozen? p = w.frozen? p := fun p hp => World.frozen?_of_block (w := w) (Below.heap_alloc _ _ _ (by omega))
  exact ⟨⟨h1, by simp; omega, h3.below ((Below.refl _ _).alloc (by omega) _), i, j, h4, by rw [k _ rfl]; exact h5, by rw [k _ rfl]; exact h6, by rw [k _ rfl]; exact h7, by rw [f _ rfl]; exact h8, by rw [f _ rfl]; exact h9, by rw [f _ rfl]; exact h10⟩, hk.alloc o⟩

/-- block b holds a mode -/
def HasMode (w : World) (b : Nat) (pr pi gr gi : Nat) : Prop :=
  b < w.heap.size ∧ w.cell? ⟨b, 0, none⟩ = some (.complex .f32 pr pi) ∧ w.cell? ⟨b, 1, none⟩ = some (.complex .f32 gr gi) ∧ w.frozen? ⟨b, 0, none⟩ = false ∧ w.frozen? ⟨b, 1, none⟩ = false
theorem HasMode.of {w w' : World} {b pr pi gr gi : Nat} (h : HasMode w b pr pi gr gi) (hs : w.heap.size ≤ w'.heap.size) (hb : w'.heap[b]? = w.heap[b]?) : HasMode w' b pr pi gr gi := by
  obtain ⟨h0, h1, h2, h3, h4⟩ := h
  have k : ∀ p : Addr, p.block = b → w'.cell? p = w.cell? p := fun p hp => World.cell?_of_block (w := w) (by rw [hp]; exact hb)
  have f : ∀ p : Addr, p.block = b → w'.frozen? p = w.frozen? p := fun p hp => World.frozen?_of_block (w := w) (by rw [hp]; exact hb)
  exact ⟨by omega, by rw [k _ rfl]; exact h1, by rw [k _ rfl]; exact h2, by rw [f _ rfl]; exact h3, by rw [f _ rfl]; exact h4⟩
theorem HasMode.kp {c : Nat} {w w' : World} {b pr pi gr gi : Nat} (h : HasMode w b pr pi gr gi) (hk : Kp c w w') (hne : b ≠ c) : HasMode w' b pr pi gr gi :=
  h.of hk.size (hk.block b h.1 (fun e => hne (by cases e; rfl)))
theorem HasMode.nw {w w' : World} {b pr pi gr gi : Nat} (h : HasMode w b pr pi gr gi) (hk : Nw w w') : HasMode w' b pr pi gr gi :=
  h.of hk.size (hk.block b h.1 (by simp))
theorem HasMode.draw {w : World} {b pr pi gr gi : Nat} (h : HasMode w b pr pi gr gi) (n : Nat) : HasMode (w.drewN n) b pr pi gr gi := h.nw ((Nw.refl _).draw _)
theorem HasMode.alloc {w : World} {b pr pi gr gi : Nat} (h : HasMode w b pr pi gr gi) (o : Obj) : HasMode (w.alloc o) b pr pi gr gi := h.nw ((Nw.refl _).alloc _)
theorem HasMode.set {w : World} {b pr pi gr gi : Nat} (h : HasMode w b pr pi gr gi) {p : Addr} (hp : p.block ≠ b) (u : Value) : HasMode (w.setCell p u) b pr pi gr gi :=
  h.of (by simp [World.setCell]) (Below.heap_setCell _ _ _ _ (fun e => hp e.symm))
theorem HasMode.new (w : World) (T : TypeId) (pr pi gr gi : Nat) : HasMode (w.alloc (.cells #[.complex .f32 pr pi, .complex .f32 gr gi] T (0, 0))) w.heap.size pr pi gr gi := by
  refine ⟨by simp, ?_, ?_, ?_, ?_⟩ <;> go_simp
theorem HasMode.set0 {w : World} {b pr pi gr gi : Nat} (h : HasMode w b pr pi gr gi) (x y : Nat) : HasMode (w.setCell ⟨b, 0, none⟩ (.complex .f32 x y)) b x y gr gi := by
  obtain ⟨h0, h1, h2, h3, h4⟩ := h
  refine ⟨by simpa using h0, ?_, ?_, ?_, ?_⟩ <;> go_simp
theorem HasMode.set1 {w : World} {b pr pi gr gi : Nat} (h : HasMode w b pr pi gr gi) (x y : Nat) : HasMode (w.setCell ⟨b, 1, none⟩ (.complex .f32 x y)) b pr pi x y := by
  obtain ⟨h0, h1, h2, h3, h4⟩ := h
  refine ⟨by simpa using h0, ?_, ?_, ?_, ?_⟩ <;> go_simp

/-- the cursor stands, and two variables of the call's own hold modes: the result, and another -/
def LocM (B : Nat) (w0 : World) (a : Option Addr) (len cap c br bm : Nat) (wx : World) : Prop :=
  At B w0 a len cap c wx ∧ (bm ≠ c ∧ B ≤ bm ∧ w0.heap.size ≤ bm) ∧ br ≠ c ∧ br ≠ bm ∧ (∃ pr pi gr gi, HasMode wx br pr pi gr gi) ∧ ∃ pr pi gr gi, HasMode wx bm pr pi gr gi
theorem At.set {B : Nat} {w0 : World} {a : Option Addr} {len cap c : Nat} {w : World} (h : At B w0 a len cap c w) {p : Addr} (hne : p.block ≠ c) (hB : B ≤ p.block) (hw : w0.heap.size ≤ p.block) (u : Value) : At B w0 a len cap c (w.setCell p u) := by
  obtain ⟨⟨h1, h2, h3, i, j, h4, h5, h6, h7, h8, h9, h10⟩, hk⟩ := h
  have k : ∀ q : Addr, q.block = c → (w.setCell p u).cell? q = w.cell? q := fun q hq => World.cell?_of_block (w := w) (Below.heap_setCell _ _ _ _ (by omega))
  have f : ∀ q : Addr, q.block = c → (w.setCell p u).frozen? q = w.frozen? q := fun q hq => World.frozen?_of_block (w := w) (Below.heap_setCell _ _ _ _ (by omega))
  exact ⟨⟨h1, by simpa using h2, h3.below ((Below.refl _ _).setCell hB _), i, j, h4, by rw [k _ rfl]; exact h5, by rw [k _ rfl]; exact h6, by rw [k _ rfl]; exact h7, by rw [f _ rfl]; exact h8, by rw [f _ rfl]; exact h9, by rw [f _ rfl]; exact h10⟩,
    hk.os, hk.tape, hk.output, by simpa using hk.size, fun q hq hne => by rw [← hk.block q hq hne]; exact Below.heap_setCell _ _ _ _ (by omega)⟩
section
variable {B : Nat} {w0 : World} {a : Option Addr} {len cap c br bm : Nat} {w : World}
theorem LocM.draw (h : LocM B w0 a len cap c br bm w) (n : Nat) : LocM B w0 a len cap c br bm (w.drewN n) := by
  obtain ⟨h1, h2, h3, h4, ⟨r1, r2, r3, r4, hr⟩, m1, m2, m3, m4, hm⟩ := h
  exact ⟨h1.draw n, h2, h3, h4, ⟨_, _, _, _, hr.draw n⟩, _, _, _, _, hm.draw n⟩
theorem LocM.alloc (h : LocM B w0 a len cap c br bm w) (o : Obj) : LocM B w0 a len cap c br bm (w.alloc o) := by
  obtain ⟨h1, h2, h3, h4, ⟨r1, r2, r3, r4, hr⟩, m1, m2, m3, m4, hm⟩ := h
  exact ⟨h1.alloc o, h2, h3, h4, ⟨_, _, _, _, hr.alloc o⟩, _, _, _, _, hm.alloc o⟩
theorem LocM.step {w' : World} (h : LocM B w0 a len cap c br bm w) (g : At B w a len cap c w') : LocM B w0 a len cap c br bm w' := by
  obtain ⟨h1, h2, h3, h4, ⟨r1, r2, r3, r4, hr⟩, m1, m2, m3, m4, hm⟩ := h
  exact ⟨⟨g.1, h1.2.trans g.2⟩, h2, h3, h4, ⟨_, _, _, _, hr.kp g.2 h3⟩, _, _, _, _, hm.kp g.2 h2.1⟩
theorem LocM.set0 (h : LocM B w0 a len cap c br bm w) (x y : Nat) : LocM B w0 a len cap c br bm (w.setCell ⟨bm, 0, none⟩ (.complex .f32 x y)) := by
  obtain ⟨h1, h2, h3, h4, ⟨r1, r2, r3, r4, hr⟩, m1, m2, m3, m4, hm⟩ := h
  exact ⟨h1.set h2.1 h2.2.1 h2.2.2 _, h2, h3, h4, ⟨_, _, _, _, hr.set (fun e => h4 e.symm) _⟩, _, _, _, _, hm.set0 x y⟩
theorem LocM.set1 (h : LocM B w0 a len cap c br bm w) (x y : Nat) : LocM B w0 a len cap c br bm (w.setCell ⟨bm, 1, none⟩ (.complex .f32 x y)) := by
  obtain ⟨h1, h2, h3, h4, ⟨r1, r2, r3, r4, hr⟩, m1, m2, m3, m4, hm⟩ := h
  exact ⟨h1.set h2.1 h2.2.1 h2.2.2 _, h2, h3, h4, ⟨_, _, _, _, hr.set (fun e => h4 e.symm) _⟩, _, _, _, _, hm.set1 x y⟩
end

set_option maxHeartbeats 3200000 in
theorem l2Mode_at (B : Nat) (w0 : World) (a : Option Addr) (len cap c : Nat) (w : World) (hc : At B w0 a len cap c w) :
    Calls Try.prog 75 #[.pointer (some ⟨c, 0, none⟩)] w (AggP B w0 a len cap c) := by
  have hcs : c < w.heap.size := hc.1.2.1
  have Hc := Lib.hid hc
  clear hc
  go_enter Try.func75, Try.ntmps75
  go_wp2_with fail
  refine (l2Turn_at _ _ _ _ _ _ _ (Hc.out.alloc _).here).mono ?_
  rintro e w1 ⟨x, y, rfl, hc1⟩
  have Hr := Lib.hid ((HasMode.new w 61 0 0 0 0).kp hc1.2 (by omega))
  have Hc1 := Lib.hid (show At B w0 a len cap c w1 from ⟨hc1.1, (Hc.out.alloc _).2.trans hc1.2⟩)
  clear hc1
  go_wp2_with fail
  refine (below_at _ _ _ _ _ _ _ (by omega) (by omega) _ Hc1.out.here).mono ?_
  rintro e w2 ⟨x2, x20, x21, rfl, hc2⟩
  have Hr := Lib.hid (Hr.out.kp hc2.2 (by omega))
  have Hc2 := Lib.hid (show At B w0 a len cap c w2 from ⟨hc2.1, Hc1.out.2.trans hc2.2⟩)
  clear hc2
  go_wp2_with fail
  refine (below_at _ _ _ _ _ _ _ (by omega) (by omega) _ (Hc2.out.here.draw _)).mono ?_
  rintro e w3 ⟨x3, x30, x31, rfl, hc3⟩
  have Hr := Lib.hid (Hr.out.kp hc3.2 (by omega))
  have Hc3 := Lib.hid (show At B w0 a len cap c w3 from ⟨hc3.1, Hc2.out.2.trans hc3.2⟩)
  clear hc3
  have hb3 : w3.heap.size ≠ c := by have := Hc3.out.1.2.1; omega
  have hb4 : w.heap.size ≠ w3.heap.size := by have := Hc3.out.2.size; have := Hr.out.1; omega
  have hcr : w.heap.size ≠ c := by omega
  have Hc4 := Lib.hid (Hc3.out.alloc (.cells #[.complex .f32 x y, .complex .f32 (fres w2 .quo .f32 (floatOfInt .f32 (x2 - 32)) 1090519040) (fres w3 .quo .f32 (floatOfInt .f32 (x3 - 32)) 1090519040)] 61 (0, 0)))
  have Hm4 := Lib.hid (HasMode.new w3 61 x y (fres w2 .quo .f32 (floatOfInt .f32 (x2 - 32)) 1090519040) (fres w3 .quo .f32 (floatOfInt .f32 (x3 - 32)) 1090519040))
  have Hr4 := Lib.hid (Hr.out.alloc (.cells #[.complex .f32 x y, .complex .f32 (fres w2 .quo .f32 (floatOfInt .f32 (x2 - 32)) 1090519040) (fres w3 .quo .f32 (floatOfInt .f32 (x3 - 32)) 1090519040)] 61 (0, 0)))
  go_wp2_with fail
  refine (once_at _ _ _ _ _ _ _ (by omega) (by omega) _ (Hc4.out.here.draw _)).mono ?_
  rintro e w4 ⟨b, rfl, hc4⟩
  have Hl := Lib.hid (show LocM B w0 a len cap c w.heap.size w3.heap.size w4 from ⟨⟨hc4.1, Hc4.out.2.trans hc4.2⟩, ⟨hb3, by have := hc4.1.1; have := Hc3.out.1.2.1; omega, Hc3.out.2.size⟩, hcr, hb4, ⟨_, _, _, _, Hr4.out.kp hc4.2 hcr⟩, _, _, _, _, Hm4.out.kp hc4.2 hb3⟩)
  clear hc4
  go_upto_if 19 with fail
  go_cut [] (fun wx => LocM B w0 a len cap c w.heap.size w3.heap.size wx)
  case first =>
    cases b
    · go_wp2_with fail
      go_meet
      exact Hl.out
    · obtain ⟨hc5, -, -, -, ⟨r1, r2, r3, r4, hr⟩, m1, m2, m3, m4, hm⟩ := Hl.out
      have Hr5 := Lib.hid hr
      have Hm5 := Lib.hid hm
      have Hc5 := Lib.hid hc5
      obtain ⟨hm0, hm1, hm2, hm3, hm4⟩ := hm
      clear hr hc5
      have Ha := Lib.hid ((Hc5.out.alloc (.cells #[.int .i64 999, .int .i64 990, .int .i64 500, .int .i64 1000] 3 (0, 0))).draw 1)
      have Hi := Lib.hid (ints4 w4 3 999 990 500 1000)
      have hfz : ∀ o, (w4.alloc o).frozen? ⟨w3.heap.size, 0, none⟩ = false := fun o => (Hm5.out.alloc o).2.2.2.1
      have h4c : w4.heap.size ≠ c := by have := Hc5.out.1.2.1; omega
      have hq : ∀ z, fdr .quo .f32 (floatOfInt .f32 z) 1148846080 = 0 := fun z => quo_calm (int_nn _ _) (show FloatKind.f32.decode 1148846080 = .number false 16384000 (-14) by decide) (by decide)
      have hf : ∀ (z : Int) (w : World), fres w .quo .f32 (floatOfInt .f32 z) 1148846080 = (floatBits .quo .f32 (floatOfInt .f32 z) 1148846080).getD 0 := fun z w => fres_calm (hq z) w
      have hq2 : ∀ (z : Int) (w : World), (binOp .quo 31 (.float .f32 (floatOfInt .f32 z)) (.float .f32 1148846080)).run Try.prog w = .ok (.float .f32 ((floatBits .quo .f32 (floatOfInt .f32 z) 1148846080).getD 0)) w := by
        intro z w
        rw [run_fl_quo, hq, hf]; rfl
      go_wp2_with fail
      go_region_with
        (first
          | (go_at_call 105; refine (l01Int_at B _ a len cap c w4.heap.size 4 4 (by omega) (by omega) _ Ha.out.here (by simp) h4c Hi.out).mono ?_; rintro e w6 ⟨z, rfl, hc6⟩; have h6 : w6.cell? ⟨w3.heap.size, 0, none⟩ = some (.complex .f32 m1 m2) := ((((Hm5.out.alloc _).draw _).kp hc6.2 hb3).2.1); have h6f : w6.frozen? ⟨w3.heap.size, 0, none⟩ = false := ((((Hm5.out.alloc _).draw _).kp hc6.2 hb3).2.2.2.1))
          | (go_at_call 104; refine (scaleSpec_any _ _ _ _).mono ?_; rintro e w7 ⟨w8, n, rfl, rfl⟩))
      all_goals (go_wp2_with fail; go_meet; exact ((((Hl.out.alloc _).draw 1).step hc6).set0 _ _).draw _)
  case rest =>
    have Hl := Lib.hid hcut
    clear hcut
    go_wp2_with fail
    refine (once_at _ _ _ _ _ _ _ (by omega) (by omega) _ Hl.out.1.here).mono ?_
    rintro e w5 ⟨b5, rfl, hc5⟩
    have Hl := Lib.hid (Hl.out.step hc5)
    clear hc5
    go_upto_if 30 with fail
    go_cut [] (fun wx => LocM B w0 a len cap c w.heap.size w3.heap.size wx)
    case first =>
      cases b5
      · go_wp2_with fail
        go_meet
        exact Hl.out
      · go_wp2_with fail
        refine (l1Single_at _ _ _ _ _ _ _ Hl.out.1.here).mono ?_
        rintro e w6 ⟨x6, y6, rfl, hc6⟩
        have Hl := Lib.hid (Hl.out.step hc6)
        clear hc6
        obtain ⟨hc7, -, -, -, -, m1, m2, m3, m4, hm⟩ := Hl.out
        obtain ⟨hm0, hm1, hm2, hm3, hm4⟩ := hm
        clear hc7
        go_wp2_with fail
        go_meet
        exact Hl.out.set0 _ _
    case rest =>
      have Hl := Lib.hid hcut
      clear hcut
      go_wp2_with fail
      refine (once_at _ _ _ _ _ _ _ (by omega) (by omega) _ Hl.out.1.here).mono ?_
      rintro e w7 ⟨b7, rfl, hc7⟩
      have Hl := Lib.hid (Hl.out.step hc7)
      clear hc7
      go_upto_if 35 with fail
      go_cut [] (fun wx => LocM B w0 a len cap c w.heap.size w3.heap.size wx)
      case first =>
        cases b7
        · go_wp2_with fail
          go_meet
          exact Hl.out
        · go_wp2_with fail
          refine (l1Single_at _ _ _ _ _ _ _ Hl.out.1.here).mono ?_
          rintro e w8 ⟨x8, y8, rfl, hc8⟩
          have Hl := Lib.hid (Hl.out.step hc8)
          clear hc8
          obtain ⟨hc9, -, -, -, -, m1, m2, m3, m4, hm⟩ := Hl.out
          obtain ⟨hm0, hm1, hm2, hm3, hm4⟩ := hm
          clear hc9
          go_wp2_with fail
          go_meet
          exact Hl.out.set1 _ _
      case rest =>
        obtain ⟨hc9, ⟨-, hB, hw0⟩, hrc, hrm, ⟨r1, r2, r3, r4, hr⟩, m1, m2, m3, m4, hm⟩ := hcut
        have Hc9 := Lib.hid hc9
        have Hr9 := Lib.hid hr
        obtain ⟨hr0, hr1, hr2, hr3, hr4⟩ := hr
        obtain ⟨hm0, hm1, hm2, hm3, hm4⟩ := hm
        clear hc9
        have hBr : B ≤ w.heap.size := by have := Hc.out.1.1; omega
        go_wp2_with fail
        exact bodyPost_ret (v := .agg #[.complex .f32 m1 m2, .complex .f32 m3 m4]) (by simp [results, Try.results75, go_sem, hr0, hr1, hr2]) rfl
          ⟨_, _, _, _, rfl, (Hc9.out.set hrc hBr Hc.out.2.size _).set hrc hBr Hc.out.2.size _⟩

end Go.Proofs.Ytlhhcchncobmhaa
