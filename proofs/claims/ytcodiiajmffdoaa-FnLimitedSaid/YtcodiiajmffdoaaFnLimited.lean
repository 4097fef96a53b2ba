/- The law FnLimited, proved: samples not greater than the ceiling are left as they are, and none is greater than the ceiling times 1 + 2^-22.
   Conditions: none beyond the statement's own. -/
import Derived.Test.YtcodiiajmffdoaaLimB
import Derived.Test.YtcodiiajmffdoaaSmallN
import Derived.Test.YtcodiiajmffdoaaSame
import Derived.Test.YtcodiiajmffdoaaRow
import Derived.Test.YtcodiiajmffdoaaRows
namespace Go.Proofs.Ytcodiiajmffdoaa
open Go Go.RowKit

theorem abs_of_read {b m : Nat} {s : Bool} {p e : Int} (h : Ieee.single.read b = .number s m p) (hp : p + 24 ≤ e) : Flo.Ab (S b) (Flo.pw e) := by
  obtain ⟨b1, -, -⟩ := Flo.read_bound Ieee.single (by decide) b s m p h
  have hm : m < 16777216 := b1
  have hv : S b = Flo.val s m p := Flo.V_eq h
  have h1 : (m : Rat) * Flo.pw p ≤ Flo.pw e := by
    have k1 : (m : Rat) ≤ 16777216 := by
      have : ((m : Nat) : Rat) ≤ ((16777216 : Nat) : Rat) := by exact_mod_cast (by omega : m ≤ 16777216)
      exact this
    have k2 := Rat.mul_le_mul_of_nonneg_right k1 (Rat.le_of_lt (Flo.pw_pos p))
    have k3 : Flo.pw (p + 24) = 16777216 * Flo.pw p := by
      rw [Flo.pw_add, show Flo.pw 24 = 16777216 from Flo.pw_nat 24]; grind
    have k4 := Flo.pw_le hp
    grind
  have h0 := Flo.mag_nonneg m p
  rw [hv]
  unfold Flo.val Flo.Ab
  cases s <;> simp <;> constructor <;> grind
theorem low_of_read {b m : Nat} {p : Int} (h : Ieee.single.read b = .number false m p) (hm : 8388608 ≤ m) : Flo.pw (p + 23) ≤ S b := by
  have hv : S b = Flo.val false m p := Flo.V_eq h
  rw [hv]
  unfold Flo.val
  have k1 : (8388608 : Rat) ≤ (m : Rat) := by
    have : ((8388608 : Nat) : Rat) ≤ ((m : Nat) : Rat) := by exact_mod_cast hm
    exact this
  have k2 := Rat.mul_le_mul_of_nonneg_right k1 (Rat.le_of_lt (Flo.pw_pos p))
  have k3 : Flo.pw (p + 23) = 8388608 * Flo.pw p := by
    rw [Flo.pw_add, show Flo.pw 23 = 8388608 from Flo.pw_nat 23]; grind
  simp
  grind
def CeilOk (c : Nat) : Prop := Pn c ∧ Flo.pw (-41) ≤ S c ∧ S c ≤ Flo.pw 41 ∧ gt0 c = true ∧ fin .f32 c = true
theorem ceil_of {c m : Nat} {p : Int} (h : Ieee.single.read c = .number false m p) (hm : 8388608 ≤ m) (h1 : -64 ≤ p) (h2 : p ≤ 17) (hg : gt0 c = true) (hf : fin .f32 c = true) : CeilOk c := by
  have a := low_of_read h hm
  have b := abs_of_read h (show p + 24 ≤ 41 by omega)
  have l : Flo.pw (-41) ≤ Flo.pw (p + 23) := Flo.pw_le (by omega)
  exact ⟨⟨_, _, h⟩, by grind, b.2, hg, hf⟩
def RelOk (r : Nat) : Prop := Pn r ∧ S r ≤ 1 ∧ r < 2 ^ 32 ∧ ge0 r = true ∧ le1 r = true ∧ (r == 2147483648) = false
theorem rel_of {r m : Nat} {p : Int} (h : Ieee.single.read r = .number false m p) (hl : r < 2 ^ 32) (hg : ge0 r = true) (h1 : le1 r = true) (hz : (r == 2147483648) = false) : RelOk r := by
  refine ⟨⟨_, _, h⟩, ?_, hl, hg, h1, hz⟩
  have o1 : Ieee.single.read 1065353216 = .number false 8388608 (-23) := by decide
  have a1 := Flo.order_num Ieee.single r 1065353216 ⟨_, _, _, h⟩ ⟨_, _, _, o1⟩
  have v1 : Flo.V Ieee.single 1065353216 = 1 := by
    rw [Flo.V_eq o1]; unfold Flo.val
    have e := Flo.pw_neg_mul 23
    have e2 : Flo.pw 23 = 8388608 := Flo.pw_nat 23
    rw [e2] at e
    have e3 : ((8388608 : Nat) : Rat) = 8388608 := rfl
    rw [e3]; simp; grind
  rw [v1] at a1
  unfold le1 at h1
  rw [Bool.or_eq_true, beq_iff_eq, beq_iff_eq] at h1
  show Flo.V Ieee.single r ≤ 1
  rcases h1 with h | h
  · have := a1.1.1 h; grind
  · have := a1.2.1.1 h; grind
theorem pick_most (w : World) (T : TypeId) (z : Nat) : ∃ mb, (w.alloc (.cells #[.float .f32 1048576000, .float .f32 1073741824, .float .f32 1232348160, .float .f32 1566444395] T (0, 0))).cell? ⟨w.heap.size, z % 4, none⟩ = some (.float .f32 mb) ∧ Sm mb ∧ Flo.Ab (S mb) (Flo.pw 60) := by
  have h : z % 4 = 0 ∨ z % 4 = 1 ∨ z % 4 = 2 ∨ z % 4 = 3 := by omega
  rcases h with h | h | h | h <;> rw [h]
  · exact ⟨_, by go_simp, ⟨false, 8388608, -25, by decide⟩, abs_of_read (show Ieee.single.read 1048576000 = .number false 8388608 (-25) by decide) (by omega)⟩
  · exact ⟨_, by go_simp, ⟨false, 8388608, -22, by decide⟩, abs_of_read (show Ieee.single.read 1073741824 = .number false 8388608 (-22) by decide) (by omega)⟩
  · exact ⟨_, by go_simp, ⟨false, 16000000, -4, by decide⟩, abs_of_read (show Ieee.single.read 1232348160 = .number false 16000000 (-4) by decide) (by omega)⟩
  · exact ⟨_, by go_simp, ⟨false, 14551915, 36, by decide⟩, abs_of_read (show Ieee.single.read 1566444395 = .number false 14551915 (36) by decide) (by omega)⟩
theorem pick_ceil (w : World) (T : TypeId) (z : Nat) : ∃ c, (w.alloc (.cells #[.float .f32 1056964608, .float .f32 1065353216, .float .f32 730643660, .float .f32 1399379109] T (0, 0))).cell? ⟨w.heap.size, z % 4, none⟩ = some (.float .f32 c) ∧ CeilOk c := by
  have h : z % 4 = 0 ∨ z % 4 = 1 ∨ z % 4 = 2 ∨ z % 4 = 3 := by omega
  rcases h with h | h | h | h <;> rw [h]
  · exact ⟨_, by go_simp, ceil_of (show Ieee.single.read 1056964608 = .number false 8388608 (-24) by decide) (by omega) (by omega) (by omega) (by decide) (by decide)⟩
  · exact ⟨_, by go_simp, ceil_of (show Ieee.single.read 1065353216 = .number false 8388608 (-23) by decide) (by omega) (by omega) (by omega) (by decide) (by decide)⟩
  · exact ⟨_, by go_simp, ceil_of (show Ieee.single.read 730643660 = .number false 9223372 (-63) by decide) (by omega) (by omega) (by omega) (by decide) (by decide)⟩
  · exact ⟨_, by go_simp, ceil_of (show Ieee.single.read 1399379109 = .number false 15258789 (16) by decide) (by omega) (by omega) (by omega) (by decide) (by decide)⟩
theorem pick_rel (z : Nat) : ∃ r, (∀ w, fres w .quo .f32 (floatOfInt .f32 ((z : Int) % 5)) 1082130432 = r) ∧ fdr .quo .f32 (floatOfInt .f32 ((z : Int) % 5)) 1082130432 = 0 ∧ RelOk r := by
  have h : (z : Int) % 5 = 0 ∨ (z : Int) % 5 = 1 ∨ (z : Int) % 5 = 2 ∨ (z : Int) % 5 = 3 ∨ (z : Int) % 5 = 4 := by omega
  rcases h with h | h | h | h | h <;> rw [h]
  · exact ⟨0, fun w => by unfold fres; rw [show floatBits .quo .f32 (floatOfInt .f32 0) 1082130432 = some 0 from by decide], by decide, rel_of (show Ieee.single.read 0 = .number false 0 (-149) by decide) (by decide) (by decide) (by decide) (by decide)⟩
  · exact ⟨1048576000, fun w => by unfold fres; rw [show floatBits .quo .f32 (floatOfInt .f32 1) 1082130432 = some 1048576000 from by decide], by decide, rel_of (show Ieee.single.read 1048576000 = .number false 8388608 (-25) by decide) (by decide) (by decide) (by decide) (by decide)⟩
  · exact ⟨1056964608, fun w => by unfold fres; rw [show floatBits .quo .f32 (floatOfInt .f32 2) 1082130432 = some 1056964608 from by decide], by decide, rel_of (show Ieee.single.read 1056964608 = .number false 8388608 (-24) by decide) (by decide) (by decide) (by decide) (by decide)⟩
  · exact ⟨1061158912, fun w => by unfold fres; rw [show floatBits .quo .f32 (floatOfInt .f32 3) 1082130432 = some 1061158912 from by decide], by decide, rel_of (show Ieee.single.read 1061158912 = .number false 12582912 (-24) by decide) (by decide) (by decide) (by decide) (by decide)⟩
  · exact ⟨1065353216, fun w => by unfold fres; rw [show floatBits .quo .f32 (floatOfInt .f32 4) 1082130432 = some 1065353216 from by decide], by decide, rel_of (show Ieee.single.read 1065353216 = .number false 8388608 (-23) by decide) (by decide) (by decide) (by decide) (by decide)⟩
/-- the law's tests -/
def le32 (a b : Nat) : Bool := FloatKind.f32.format.order a b == some .lt || FloatKind.f32.format.order a b == some .eq
theorem le32_val {a b : Nat} (ha : Sm a) (hb : Sm b) : le32 a b = true ↔ S a ≤ S b := by
  have o := Flo.order_num Ieee.single a b ha hb
  unfold le32
  rw [show FloatKind.f32.format = Ieee.single from rfl, Bool.or_eq_true, beq_iff_eq, beq_iff_eq, o.1, o.2.1]
  show S a < S b ∨ S a = S b ↔ S a ≤ S b
  grind
def lowB (xs : List Nat) (c k : Nat) : Bool := (xs.take k).all fun x => le32 x c && le32 (Op.negFloat .f32 x) c
theorem lowB_step (xs : List Nat) (c k x : Nat) (h : xs[k]? = some x) : lowB xs c (k + 1) = (lowB xs c k && (le32 x c && le32 (Op.negFloat .f32 x) c)) := by
  obtain ⟨hk, he⟩ := List.getElem?_eq_some_iff.1 h
  unfold lowB
  rw [List.take_succ_eq_append_getElem hk, he, List.all_append]
  simp
theorem lowB_spec {xs : List Nat} {c k : Nat} (hx : ∀ x ∈ xs, Sm x) (hc : Sm c) (hk : k ≤ xs.length) (h : lowB xs c k = true) : ∀ j, j < k → ra (S (xs.getD j 0)) ≤ S c := by
  intro j hj
  unfold lowB at h
  rw [List.all_eq_true] at h
  have hm : xs.getD j 0 ∈ xs.take k := by
    rw [List.getD_eq_getElem?_getD, List.getElem?_eq_getElem (show j < xs.length by omega)]
    have : (xs.take k)[j]? = some (xs[j]'(by omega)) := by rw [List.getElem?_take_of_lt hj, List.getElem?_eq_getElem (by omega)]
    exact List.mem_of_getElem? this
  have h2 := h _ hm
  rw [Bool.and_eq_true] at h2
  have sx := hx _ (List.mem_of_mem_take hm)
  obtain ⟨n1, n2⟩ := ng_val sx
  have a := (le32_val sx hc).1 h2.1
  have b := (le32_val n1 hc).1 h2.2
  rw [n2] at b
  unfold ra
  split <;> grind
/-- the bound of the law, in double precision -/
theorem ceil_prod (c : Nat) (h : CeilOk c) : ∃ q, floatBits .mul .f64 (wid c) 4607182419873759232 = some q ∧ Flo.Nm q ∧ S c + 3 * (S c * Flo.v) ≤ Flo.W q := by
  obtain ⟨hc, c1, c2, -, -⟩ := h
  obtain ⟨n, v⟩ := wid_num hc.sm
  have ht : Ieee.double.read 4607182419873759232 = .number false 4503600701112320 (-52) := by decide
  have hw : Flo.W 4607182419873759232 = 1 + 4 * Flo.v := by
    rw [show Flo.W 4607182419873759232 = _ from Flo.V_eq ht]
    unfold Flo.val
    have e := Flo.pw_neg_mul 52
    have e2 : Flo.pw 52 = 4503599627370496 := Flo.pw_nat 52
    rw [e2] at e
    have e3 : ((4503600701112320 : Nat) : Rat) = 4503600701112320 := rfl
    have ve := Flo.v_eq
    rw [e3]; simp; grind
  have v0 := Flo.v_pos
  have ve := Flo.v_eq
  have c0 : 0 < S c := by have := Flo.pw_pos (-41); grind
  have cv : 0 ≤ S c * Flo.v := Rat.mul_nonneg (Rat.le_of_lt c0) (Rat.le_of_lt v0)
  have hv1 : S c * Flo.v ≤ S c / 1024 := by
    have : Flo.v = 1 / 16777216 := by grind
    rw [this]; grind
  have hp : Flo.W (wid c) * Flo.W 4607182419873759232 = S c + 4 * (S c * Flo.v) := by rw [v, hw]; grind
  have l41 : 4 * Flo.pw 41 < Flo.pw 1023 := by
    have e : Flo.pw 43 = 4 * Flo.pw 41 := by rw [show (43 : Int) = 41 + 1 + 1 from rfl, Flo.pw_succ, Flo.pw_succ]; grind
    have l : Flo.pw 43 < Flo.pw 1023 := Flo.pw_lt (by omega)
    grind
  obtain ⟨q, q1, q2, q3⟩ := Flo.d_mul (wid c) 4607182419873759232 n ⟨_, _, _, ht⟩ (2 * S c) (by rw [hp]; unfold Flo.Ab; constructor <;> grind) (by grind)
  refine ⟨q, q1, q2, ?_⟩
  rw [hp] at q3
  have hu : 2 * S c * Flo.u ≤ S c * Flo.v / 1024 := by
    have k := Rat.mul_le_mul_of_nonneg_left Flo.u_le_v (Rat.le_of_lt c0)
    grind
  have het : Flo.et ≤ S c * Flo.v / 1024 := by
    have k : Flo.pw (-1074) ≤ Flo.pw (-41) * Flo.v / 1024 := by
      have e1 : Flo.v = Flo.pw (-24) := rfl
      rw [e1, ← Flo.pw_add, show (-41 + -24 : Int) = -65 from rfl]
      have e2 : Flo.pw (-65) = Flo.pw 10 * Flo.pw (-75) := by rw [← Flo.pw_add]; rfl
      have e3 : Flo.pw 10 = 1024 := Flo.pw_nat 10
      have l : Flo.pw (-1074) ≤ Flo.pw (-75) := Flo.pw_le (by omega)
      rw [e2, e3]; grind
    have k2 := Rat.mul_le_mul_of_nonneg_right c1 (Rat.le_of_lt v0)
    unfold Flo.et; grind
  unfold Flo.Ab at q3
  grind
def LmI (xs : List Nat) (c n : Nat) (w : World) (m i : Value) (wr : World) : Prop :=
  ∃ k : Nat, k ≤ n ∧ i = .int .i64 (k : Int) ∧ m = .bool (lowB xs c k) ∧ Nw w wr
end Go.Proofs.Ytcodiiajmffdoaa
namespace Go.Proofs.Ytcodiiajmffdoaa.fnLimited
open Go.ChangeShapes Go.WideShapes Go.ChangeAt Go.RowKit
open Go.ChangeMaps (open_string shut_string)
set_option linter.unusedVariables false
theorem bys_step {w w1 : World} {a : Option Addr} {len : Nat} (h : Bys w.heap.size a len w) (hb : Below w.heap.size w w1) : Bys w1.heap.size a len w1 := (h.below hb).mono hb.size
theorem nw_below {w w' : World} (hb : Nw w w') : Below w.heap.size w w' := ⟨hb.os, hb.tape, hb.output, hb.size, fun k hk => hb.block k hk (by simp)⟩

set_option maxHeartbeats 1600000 in
set_option maxRecDepth 100000 in
theorem walk (a0 : Option Addr) (len0 cap0 : Nat) (z0 : List Int) (w : World) (w0 : IsRow .u8 w a0 len0 cap0 z0) :
    Calls Try.prog 6 #[.slice a0 len0 cap0] w fun e w' => e = .returned (.bool true) ∧ Below w.heap.size w w' := by
  by_cases hl : len0 ≤ 1048576
  · have Hb := Lib.hid (bys_of_row w0 (by omega))
    clear w0
    have p22 := power_bits 22 (by omega)
    rw [show (-((22 : Nat) : Int)) = -22 from rfl] at p22
    have P22 := Lib.hid p22
    clear p22
    have t1 : ∀ w, fres w .add .f64 4607182418800017408 (powB 22) = 4607182419873759232 := fun w => by unfold fres; rw [show floatBits .add .f64 4607182418800017408 (powB 22) = some 4607182419873759232 from by decide +kernel]
    have t2 : fdr .add .f64 4607182418800017408 (powB 22) = 0 := by unfold fdr; rw [show floatBits .add .f64 4607182418800017408 (powB 22) = some 4607182419873759232 from by decide +kernel]; rfl
    have T12 := Lib.hid (And.intro t1 t2)
    clear t1 t2
    go_enter Try.func6, Try.ntmps6
    have N0 := Lib.hid ((Nw.refl w).alloc (.cells #[.float .f32 1048576000, .float .f32 1073741824, .float .f32 1232348160, .float .f32 1566444395] 25 (0, 0)))
    go_wp2_with fail
    refine (at_any _ _ _ 1 hl (by omega) _ (bys_step Hb.out (nw_below N0.out))).mono ?_
    rintro e w1 ⟨z1, hz1, rfl, rfl⟩
    obtain ⟨mb, hmb, smb, amb⟩ := pick_most w 25 z1
    have Amb := Lib.hid amb
    clear amb
    go_wp2_with fail
    refine (makeSmall_ptr _ _ _ mb (Flo.pw 60) smb Amb.out (Rat.le_refl) _ (bys_step Hb.out (nw_below N0.out))).mono ?_
    rintro e w2 ⟨xs, v, rfl, hx11, hxs, own2, n2, -, h32⟩
    obtain ⟨n, hn⟩ : ∃ n, n = xs.length := ⟨_, rfl⟩
    rw [← hn] at own2 hx11
    obtain ⟨va, vc, rfl⟩ := own_shape' own2
    have Hn := Lib.hid hn.symm
    have Hx := Lib.hid (And.intro hxs h32)
    have X2 := Lib.hid (own2.alloc (.cells #[.float .f32 1056964608, .float .f32 1065353216, .float .f32 730643660, .float .f32 1399379109] 25 (0, 0)))
    have N2 := Lib.hid ((N0.out.trans n2).alloc (.cells #[.float .f32 1056964608, .float .f32 1065353216, .float .f32 730643660, .float .f32 1399379109] 25 (0, 0)))
    clear own2 n2 hxs h32 hn hmb
    go_wp2_with fail
    refine (at_any _ _ _ 2 hl (by omega) _ (bys_step Hb.out (nw_below N2.out))).mono ?_
    rintro e w3 ⟨z2, hz2, rfl, rfl⟩
    obtain ⟨c, hc, cok⟩ := pick_ceil w2 25 z2
    have Cok := Lib.hid cok
    clear cok
    go_wp2_with fail
    refine (at_any _ _ _ 3 hl (by omega) _ (bys_step Hb.out (nw_below N2.out))).mono ?_
    rintro e w4 ⟨z3, hz3, rfl, rfl⟩
    obtain ⟨r, hr1, hr2, rok⟩ := pick_rel z3
    have Rok := Lib.hid rok
    clear rok hc
    have hlim : lim c r = true := by
      unfold lim
      rw [Cok.out.2.2.2.1, Cok.out.2.2.2.2, Rok.out.2.2.2.1, Rok.out.2.2.2.2.1, Rok.out.2.2.2.2.2]; rfl
    have Hlim := Lib.hid hlim
    clear hlim
    go_wp2_with fail
    refine (implLimS_ok xs n _ c r _ Hn.out (by omega) Hx.out.2 Rok.out.2.2.1 _ X2.out).mono ?_
    rintro e w5 ⟨g0, ys, rfl, own5, hG, n5⟩
    rw [Hlim.out]
    have hgood : Good xs c r n ys := by unfold LimG at hG; rwa [Hlim.out] at hG
    rw [hgood.1] at own5
    obtain ⟨ga, gc, rfl⟩ := own_shape' own5
    have G := Lib.hid hgood
    have X5 := Lib.hid (own_nw X2.out n5)
    have Y5 := Lib.hid own5
    have N5 := Lib.hid (N2.out.trans n5)
    clear own5 n5 hG hgood hr1 hr2
    have L := Lib.hid (fun k hk => lim_ok xs c r (Flo.pw 61) (fun x hx => (Hx.out.1 x hx).1) Rok.out.1 Rok.out.2.1 (Rat.le_of_lt (Flo.pw_pos 61)) (Rat.le_refl) (fun x hx => by
      have h := ra_le (Hx.out.1 x hx).2
      have l : Flo.pw 61 = 2 * Flo.pw 60 := by rw [← Flo.pw_succ]; rfl
      have o : 1 ≤ Flo.pw 60 := by rw [← Flo.pw_zero]; exact Flo.pw_le (by omega)
      grind) Cok.out.1 Cok.out.2.1 Cok.out.2.2.1 k hk)
    obtain ⟨cq, q1, q2, q3⟩ := ceil_prod c Cok.out
    have r1 : ∀ w, fres w .mul .f64 (wid c) 4607182419873759232 = cq := fun w => by unfold fres; rw [q1]
    have r2 : fdr .mul .f64 (wid c) 4607182419873759232 = 0 := by unfold fdr; rw [q1]; rfl
    have cw := fcv_up Cok.out.1.sm
    have cd := fcd_up Cok.out.1.sm
    have Q := Lib.hid (And.intro q2 q3)
    clear q1 q2 q3
    go_wp2_with fail
    go_loopw [8, 51] (fun m i wr => LmI xs c n w5 m i wr) (fun _ i _ => n - (intOf i).toNat)
    case atStart => exact ⟨0, by omega, rfl, rfl, Nw.refl _⟩
    case round =>
      obtain ⟨k, hk, rfl, rfl, hN⟩ := hrel
      have Nr := Lib.hid hN
      clear hN
      by_cases hlt : k < n
      · obtain ⟨x, hxk⟩ : ∃ x, xs[k]? = some x := ⟨xs[k]'(by rw [Hn.out]; exact hlt), List.getElem?_eq_getElem _⟩
        obtain ⟨y, hyk⟩ : ∃ y, ys[k]? = some y := ⟨ys[k]'(by rw [G.out.1]; exact hlt), List.getElem?_eq_getElem _⟩
        obtain ⟨g1, cap1, hv1, hcap1, hmax1, gl1, e1⟩ := own_sample (own_nw X5.out Nr.out) hxk Hn.out.symm
        obtain ⟨g2, cap2, hv2, hcap2, hmax2, gl2, e2⟩ := own_sample (own_nw Y5.out Nr.out) hyk G.out.1.symm
        cases hv1
        cases hv2
        unfold maxLen at hmax1 hmax2
        have hxe := getD_at hxk
        obtain ⟨y0, y1, y2, y3, y4⟩ := L.out k (by rw [Hn.out]; exact hlt)
        have hyy : y = y0 := fab_eq (((G.out.2 k y hyk).1).trans y1)
        subst hyy
        rw [hxe] at y4
        have sx := (Hx.out.1 x (List.mem_of_getElem? hxk)).1
        have hst := lowB_step xs c k x hxk
        have Hst := Lib.hid hst
        have Hy4 := Lib.hid y4
        have Hk := Lib.hid hxk
        have Hxe := Lib.hid hxe
        -- the bound
        obtain ⟨ny, vy⟩ := wid_num y2
        have b1 : (FloatKind.f64.format.order (wid y) cq == some .lt || FloatKind.f64.format.order (wid y) cq == some .eq) = true := le_of_W ny Q.out.1 (by rw [vy]; have := Q.out.2; unfold Flo.Ab at y3; grind)
        have ngy : Flo.Nm (Op.negFloat .f64 (wid y)) ∧ Flo.W (Op.negFloat .f64 (wid y)) = -(Flo.W (wid y)) := by
          obtain ⟨s, m, p, h⟩ := ny
          have h2 := neg_read (wid y) (wid_lt y) s m p h
          refine ⟨⟨_, _, _, h2⟩, ?_⟩
          rw [show Flo.W (Op.negFloat .f64 (wid y)) = _ from Flo.V_eq h2, show Flo.W (wid y) = _ from Flo.V_eq h, Flo.val_opp]
        have b2 : (FloatKind.f64.format.order (Op.negFloat .f64 (wid y)) cq == some .lt || FloatKind.f64.format.order (Op.negFloat .f64 (wid y)) cq == some .eq) = true := le_of_W ngy.1 Q.out.1 (by rw [ngy.2, vy]; have := Q.out.2; unfold Flo.Ab at y3; grind)
        have yw := fcv_up y2
        have yd := fcd_up y2
        have Sy := Lib.hid y2
        have Sx := Lib.hid sx
        clear hxk hyk hxe y1 y2 y3 y4 hst ny vy ngy sx
        have fin1 : True := trivial
        cases hlo : lowB xs c k with
        | false =>
          have Hl2 := Lib.hid (show lowB xs c (k + 1) = false from by rw [Hst.out, hlo]; rfl)
          have t1 := T12.out.1
          have t2 := T12.out.2
          go_wp2_with (go_at_call 23; refine (P22.out _).mono ?_; rintro e w7 ⟨rfl, rfl⟩)
          all_goals
            go_roundw
            case rel => exact ⟨k + 1, by omega, by rw [show ((k + 1 : Nat) : Int) = (k : Int) + 1 from by omega], by rw [Hl2.out], Nr.out⟩
            case measure => simp only [intOf]; omega
        | true =>
          cases hl1 : le32 x c with
          | false =>
            have Hl2 := Lib.hid (show lowB xs c (k + 1) = false from by rw [Hst.out, hlo, hl1]; rfl)
            have hl1' := hl1
            unfold le32 at hl1'
            have t1 := T12.out.1
            have t2 := T12.out.2
            clear hl1
            go_wp2_with (go_at_call 23; refine (P22.out _).mono ?_; rintro e w7 ⟨rfl, rfl⟩)
            all_goals
              go_roundw
              case rel => exact ⟨k + 1, by omega, by rw [show ((k + 1 : Nat) : Int) = (k : Int) + 1 from by omega], by rw [Hl2.out], Nr.out⟩
              case measure => simp only [intOf]; omega
          | true =>
            have hl1' := hl1
            unfold le32 at hl1'
            cases hl2 : le32 (Op.negFloat .f32 x) c with
            | false =>
              have Hl2 := Lib.hid (show lowB xs c (k + 1) = false from by rw [Hst.out, hlo, hl1, hl2]; rfl)
              have hl2' := hl2
              unfold le32 at hl2'
              have t1 := T12.out.1
              have t2 := T12.out.2
              clear hl1 hl2
              go_wp2_with (go_at_call 23; refine (P22.out _).mono ?_; rintro e w7 ⟨rfl, rfl⟩)
              all_goals
                go_roundw
                case rel => exact ⟨k + 1, by omega, by rw [show ((k + 1 : Nat) : Int) = (k : Int) + 1 from by omega], by rw [Hl2.out], Nr.out⟩
                case measure => simp only [intOf]; omega
            | true =>
              have hlow1 : lowB xs c (k + 1) = true := by rw [Hst.out, hlo, hl1, hl2]; rfl
              have hyx := Hy4.out (fun j hj => lowB_spec (fun x hx => (Hx.out.1 x hx).1) Cok.out.1.sm (by rw [Hn.out]; omega) hlow1 j (by omega))
              subst hyx
              have Hl2 := Lib.hid hlow1
              have hl2' := hl2
              unfold le32 at hl2'
              have t1 := T12.out.1
              have t2 := T12.out.2
              clear hl1 hl2 hlow1
              have OA := Lib.hid (((World.ownsRow_lit (base := wr.heap.size) (e := 25) (size := 1) wr #[.float .f32 y] 1 (Nat.le_refl _) (by decide) rfl)).alloc (.cells #[.float .f32 y] 25 (0, 0)))
              have OB := Lib.hid (World.ownsRow_lit (base := wr.heap.size) (e := 25) (size := 1) (wr.alloc (.cells #[.float .f32 y] 25 (0, 0))) #[.float .f32 y] 1 (by simp) (by decide) rfl)
              have NA := Lib.hid ((Nr.out.alloc (.cells #[.float .f32 y] 25 (0, 0))).alloc (.cells #[.float .f32 y] 25 (0, 0)))
              have hsz : (wr.alloc (.cells #[.float .f32 y] 25 (0, 0))).heap.size = wr.heap.size + 1 := by simp
              go_wp2_with (first
                | (go_at_call 31
                   refine (same_eq [y] [y] 1 _ _ _ _ rfl rfl (by omega) _ OA.out (by have h := OB.out; rw [hsz] at h; exact h) (fun x hx => by simp at hx; subst hx; exact Sy.out) (fun x hx => by simp at hx; subst hx; exact Sy.out) (fun j a b ha hb => by rw [ha] at hb; injection hb with hb; subst hb; exact sameB_self _)).mono ?_
                   rintro e w8 ⟨rfl, n8⟩
                   have N8 := Lib.hid (NA.out.trans n8)
                   clear n8)
                | (go_at_call 23; refine (P22.out _).mono ?_; rintro e w7 ⟨rfl, rfl⟩))
              all_goals
                go_roundw
                case rel => exact ⟨k + 1, by omega, by rw [show ((k + 1 : Nat) : Int) = (k : Int) + 1 from by omega], by rw [Hl2.out], N8.out⟩
                case measure => simp only [intOf]; omega
      · obtain rfl : k = n := by omega
        go_wp2_with fail
        go_ret
        exact ⟨rfl, nw_below (N5.out.trans Nr.out)⟩
  · clear w0
    go_enter Try.func6, Try.ntmps6
    go_wp2
    go_ret
    exact ⟨rfl, Below.refl _ _⟩

/-! ### THE ROW's STEP: WRITTEN OUT: LEAVE IT -/
set_option maxRecDepth 100000 in
theorem lifted (os : Os) (started : os.Started) (H : Type) (enc : TypeId × Value → H) :
    ReturnsInHanded {} Try.checked os 6 .any (Rows.fnLimitedSpec.pre6 enc Try.prog Try.f6 Rows.fnLimitedRow.domain false) (Rows.fnLimitedSpec.post enc Try.prog Try.f6 false true false false) := by
  refine returnsInHanded_of_change (C := Try.checked) own started (by kernel_rfl) Try.func6
    (ChangeSpec.witness6 (enc := enc) (C := Try.checked) false ⟨#[], #[.slice none 0 0], []⟩ 8 (by kernel_rfl) (by kernel_rfl) (by kernel_rfl) (by kernel_rfl)) ?_
  intro W base args ds gs before hval0 hW hcnd _
  have hval : ∀ (j : Nat) t v, Try.f6.params[j]? = some t → args[j]? = some v → Value.okWide Try.prog W .any base t v := hval0
  have hW' := hW
  obtain ⟨p, q, hA0, hV, rfl, hfz, hnd⟩ := hW
  have hA : DataW.TrodAll enc Try.prog W 0 (fun _ => true) true Try.f6.params.toList args.toList ds p := hA0
  rw [Try.params6] at hA hval
  obtain ⟨v0, vs0, d0, ds0, p0, q0, hargs, rfl, rfl, h0, r0⟩ := trodAll_cons hA
  obtain ⟨rfl, rfl, rfl⟩ := trodAll_nil r0
  obtain rfl : args = #[v0] := by cases args; simp_all
  obtain ⟨rfl, rfl⟩ := trodVars_none hV
  obtain ⟨a0, len0, cap0, rfl⟩ := okWide_slice Try.underlying22 (hval 0 22 v0 rfl rfl)
  have k0 := h0
  have lt0 : ∀ x ∈ p0, x.block < W.heap.size := by obtain ⟨m, hm⟩ := k0; exact DataW.trod_lt m _ _ _ hm
  obtain ⟨z0, w0⟩ : ∃ zs, IsRow .u8 W a0 len0 cap0 zs := by
    obtain ⟨fuel, hf⟩ := h0
    rcases open_ints Try.underlying22 Try.underlying5 (by kernel_rfl) hf with ⟨hcs, _⟩ | ⟨x, l, c, zs, hcs, _, hl, hm, hz, _, hcell, hwz⟩
    · simp [Value.cells] at hcs
      obtain ⟨rfl, rfl, rfl⟩ := hcs
      exact ⟨[], .inl ⟨rfl, rfl, rfl, rfl⟩⟩
    · simp [Value.cells] at hcs
      obtain ⟨rfl, rfl, rfl⟩ := hcs
      exact ⟨zs, .inr ⟨_, rfl, hl, hm, by simpa using hz, hcell, hwz⟩⟩
  clear hA0 hval0
  refine (walk a0 len0 cap0 z0 W w0).mono fun e W' ⟨he, bel⟩ => ?_
  subst he
  exact ⟨_, rfl, _, _, _, [], _, [], hW', trodAll_mk1 (shut_bool Try.underlying4 _), (trodAll_cons_mk (Below.trod laidOut (by kernel_rfl) (of_decide_eq_true (by kernel_rfl)) k0 bel lt0) trodAll_mk0), rfl, bel.frame _, fun h => by cases h⟩

theorem over : Rows.fnLimitedRow.holds Try.pinned (OpenSpec.ofChange Rows.fnLimitedSpec) :=
  OpenClaim.holds_of_wide 6 Try.f6 rfl rfl rfl rfl rfl rfl rfl ⟨rfl, rfl, rfl, rfl, rfl⟩ rfl rfl rfl rfl rfl (by kernel_rfl) Try.func6 (by kernel_rfl)
    (of_decide_eq_true (by kernel_rfl)) (by unfold Func.isWrapper; first | (rw [if_pos (by decide +kernel)]; kernel_rfl) | (rw [if_neg (by decide +kernel)]; exact ⟨rfl, rfl⟩))
    (fun os started H enc _ => lifted os started H enc)

/-- ████ THE STATEMENT ████ -/
theorem proved : Rows.FnLimitedSaid := over
#print axioms proved
end Go.Proofs.Ytcodiiajmffdoaa.fnLimited

