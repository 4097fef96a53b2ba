/- The energy of finite samples is a number: plain facts, and the walk of EnergyOf that says its bits.
   Conditions: those that each statement names. -/
import Derived.Test.YtcodiiajmffdoaaEn
namespace Go.Proofs.Ytcodiiajmffdoaa
open Go Go.RowKit

/-! ### the energy of finite samples is a number -/
def enB : Rat := Flo.pw 260
theorem en_step (s x : Nat) (k : Nat) (hk : k ≤ 1000) (hs : Flo.Nm s) (hb : Flo.Ab (Flo.W s) ((k : Rat) * enB)) (hx : Sm x) :
    ∃ r, fA .add .f64 (some s) (fA .mul .f64 (wA x) (wA x)) = some r ∧ Flo.Nm r ∧ Flo.Ab (Flo.W r) (((k + 1 : Nat) : Rat) * enB) := by
  obtain ⟨n, v⟩ := wid_num hx
  have hwa : wA x = some (wid x) := by unfold wA; rw [show nan32 x = false from by obtain ⟨s, m, p, h⟩ := hx; unfold nan32; rw [show FloatKind.f32.decode x = _ from h]; rfl]; rfl
  have a := single_abs hx
  have hm := a.mul a
  have e256 : Flo.pw 128 * Flo.pw 128 = Flo.pw 256 := by rw [← Flo.pw_add]; rfl
  rw [e256, ← v] at hm
  have l1 : Flo.pw 256 < Flo.pw 1023 := Flo.pw_lt (by omega)
  have l2 : Flo.pw 260 = 16 * Flo.pw 256 := by rw [show (260 : Int) = 4 + 256 from rfl, Flo.pw_add, show Flo.pw 4 = 16 from Flo.pw_nat 4]
  have l3 : Flo.pw 280 < Flo.pw 1023 := Flo.pw_lt (by omega)
  have l4 : Flo.pw 280 = 1048576 * Flo.pw 260 := by rw [show (280 : Int) = 20 + 260 from rfl, Flo.pw_add, show Flo.pw 20 = 1048576 from Flo.pw_nat 20]
  have p0 : 1 ≤ Flo.pw 256 := by rw [← Flo.pw_zero]; exact Flo.pw_le (by omega)
  have u1 := Flo.u_le
  have u0 := Flo.u_pos
  have e0 := Flo.et_pos
  have eu : Flo.et ≤ Flo.u := Flo.pw_le (by omega)
  obtain ⟨r1, q1, q2, q3⟩ := Flo.d_mul (wid x) (wid x) n n _ hm l1
  have k0 : (0 : Rat) ≤ (k : Rat) := by exact_mod_cast Nat.zero_le k
  have k1 : (k : Rat) ≤ 1000 := by
    have : ((k : Nat) : Rat) ≤ ((1000 : Nat) : Rat) := by exact_mod_cast hk
    exact this
  have u2 : Flo.u ≤ 1 / 1048576 := by grind
  have hP := Rat.mul_le_mul_of_nonneg_left u2 (show (0 : Rat) ≤ Flo.pw 256 by grind)
  have hr1 : Flo.Ab (Flo.W r1) (2 * Flo.pw 256) := ((q3.add hm).eq (by grind)).mono (by grind)
  have hsum : Flo.Ab (Flo.W s + Flo.W r1) ((k : Rat) * enB + 2 * Flo.pw 256) := hb.add hr1
  have hkb : (k : Rat) * enB ≤ 1000 * enB := Rat.mul_le_mul_of_nonneg_right k1 (by unfold enB; grind)
  unfold enB at *
  obtain ⟨r2, t1, t2, t3⟩ := Flo.d_add s r1 hs q2 _ hsum (by grind)
  refine ⟨r2, ?_, t2, ?_⟩
  · rw [hwa]
    show fA .add .f64 (some s) (floatBits .mul .f64 (wid x) (wid x)) = _
    rw [q1]
    exact t1
  · have hB : 0 ≤ (k : Rat) * Flo.pw 260 + 2 * Flo.pw 256 := hsum.nonneg
    have hu := Rat.mul_le_mul_of_nonneg_left u2 hB
    have e1 : ((k + 1 : Nat) : Rat) = (k : Rat) + 1 := by push_cast; rfl
    rw [e1]
    refine ((t3.add hsum).eq (by grind)).mono ?_
    grind
theorem en_fold : ∀ (zs : List Nat) (s k : Nat), k + zs.length ≤ 1000 → Flo.Nm s → Flo.Ab (Flo.W s) ((k : Rat) * enB) → (∀ x ∈ zs, Sm x) → ∃ r, zs.foldl (fun s x => fA .add .f64 s (fA .mul .f64 (wA x) (wA x))) (some s) = some r ∧ Flo.Nm r
  | [], s, k, _, hs, _, _ => ⟨s, rfl, hs⟩
  | x :: zs, s, k, hk, hs, hb, hx => by
    simp only [List.length_cons] at hk
    obtain ⟨r, h1, h2, h3⟩ := en_step s x k (by omega) hs hb (hx x (List.mem_cons_self ..))
    rw [List.foldl_cons, h1]
    exact en_fold zs r (k + 1) (by omega) h2 h3 (fun y hy => hx y (List.mem_cons_of_mem _ hy))
theorem zero_double : Flo.Nm 0 ∧ Flo.W 0 = 0 := by
  have h : Ieee.double.read 0 = .number false 0 (-1074) := by decide
  refine ⟨⟨_, _, _, h⟩, ?_⟩
  rw [show Flo.W 0 = _ from Flo.V_eq h, Flo.val_zero]
/-- the energy's bits -/
def enN (zs : List Nat) : Nat := (enA zs).getD 0
theorem en_num (zs : List Nat) (hl : zs.length ≤ 1000) (hx : ∀ x ∈ zs, Sm x) : enA zs = some (enN zs) ∧ Flo.Nm (enN zs) := by
  have h0 : fab .f64 0 = some 0 := fab_some (by decide)
  obtain ⟨r, h1, h2⟩ := en_fold zs 0 0 (by omega) zero_double.1 (by rw [zero_double.2]; unfold enB; have := Flo.pw_pos 260; constructor <;> grind) hx
  have e : enA zs = some r := by unfold enA; rw [h0]; exact h1
  unfold enN
  rw [e]
  exact ⟨rfl, h2⟩
theorem fab_eq {k : FloatKind} {s r : Nat} (h : fab k s = some r) : s = r := by
  unfold fab at h
  split at h
  · cases h
  · injection h
/-- the walk: the energy's bits themselves -/
theorem implEnergy_num (zs : List Nat) (n b : Nat) (v : Value) (hl : zs.length = n) (hn : n ≤ 1000) (hx : ∀ x ∈ zs, Sm x) (w : World) (h : w.ownsRow b 25 1 v n (cellsS zs)) :
    Calls Try.prog 17 #[v] w fun e w' => e = .returned (.float .f64 (enN zs)) ∧ Nw w w' := by
  refine (implEnergy_ok zs n b v hl (by omega) w h).mono ?_
  rintro e w' ⟨s, rfl, hs, hn'⟩
  rw [(en_num zs (by omega) hx).1] at hs
  rw [fab_eq hs]
  exact ⟨rfl, hn'⟩

end Go.Proofs.Ytcodiiajmffdoaa
