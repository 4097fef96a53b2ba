/- What draws scores, first part: a number out of a list; a number of moderate size.
   Conditions: those that each statement names. -/
import Derived.Test.YtlhhcchncobmhaaStep
import Derived.Test.YtlhhcchncobmhaaSmall
namespace Go.Proofs.Ytlhhcchncobmhaa
set_option linter.unusedSimpArgs false
set_option linter.unusedVariables false
open Go Go.RowKit

/-- the integers zs lie in block g from its head on -/
def IntsL (w : World) (g : Nat) (zs : List Int) : Prop := ∀ (k : Nat) z, zs[k]? = some z → w.cell? ⟨g, k, none⟩ = some (.int .i64 z)
def InP (B : Nat) (w0 : World) (a : Option Addr) (len cap c : Nat) (zs : List Int) (e : Ending) (w' : World) : Prop :=
  ∃ x : Int, x ∈ zs ∧ e = .returned (.int .i64 x) ∧ At B w0 a len cap c w'
theorem l01Int_in (B : Nat) (w0 : World) (a : Option Addr) (len cap c : Nat) (g n m : Nat) (zs : List Int) (hz : zs.length = n) (hn : 1 ≤ n) (hn2 : n ≤ 256) (w : World) (hc : At B w0 a len cap c w) (hg : g < w.heap.size) (hgc : g ≠ c) (hi : IntsL w g zs) :
    Calls Try.prog 105 #[.pointer (some ⟨c, 0, none⟩), .slice (some ⟨g, 0, none⟩) n m] w (InP B w0 a len cap c zs) := by
  have Hi := Lib.hid hi
  clear hi
  have Hc := Lib.hid hc
  clear hc
  have Hz := Lib.hid hz
  clear hz
  go_enter Try.func105, Try.ntmps105
  go_wp2_with fail
  refine (below_at _ _ _ _ _ _ _ (by omega) (by omega) _ Hc.out.here).mono ?_
  rintro e w1 ⟨x, x0, x1, rfl, hc1⟩
  obtain ⟨k, rfl⟩ : ∃ k : Nat, x = k := ⟨x.toNat, by omega⟩
  obtain ⟨z, hzk⟩ : ∃ z, zs[k]? = some z := ⟨zs[k]'(by rw [Hz.out]; omega), List.getElem?_eq_getElem _⟩
  have hz := Hi.out k z hzk
  have hmem := Lib.hid (List.mem_of_getElem? hzk)
  have hz1 : w1.cell? ⟨g, k, none⟩ = some (.int .i64 z) := by rw [hc1.2.cell (p := ⟨g, k, none⟩) hg hgc]; exact hz
  have hkn : k < n := by omega
  have Hc1 := Lib.hid (show At B w0 a len cap c w1 from ⟨hc1.1, Hc.out.2.trans hc1.2⟩)
  clear hc1 hz hzk
  go_wp2
  go_ret
  exact ⟨_, hmem.out, rfl, Hc1.out⟩

/-! ### a number of moderate size -/
theorem nm_16 : Flo.Nm 4625196817309499392 ∧ Flo.W 4625196817309499392 = 16 := by
  have h := Flo.int_double 16 (by decide)
  rw [show floatOfInt .f64 16 = 4625196817309499392 from by decide +kernel] at h
  exact ⟨h.1, by rw [h.2]; rfl⟩
theorem nm_mega : Flo.Nm 4697254411347427328 ∧ Flo.W 4697254411347427328 = 1048576 := by
  have h := Flo.int_double 1048576 (by decide)
  rw [show floatOfInt .f64 1048576 = 4697254411347427328 from by decide +kernel] at h
  exact ⟨h.1, by rw [h.2]; rfl⟩
theorem nm_three : Flo.Nm 4613937818241073152 ∧ Flo.W 4613937818241073152 = 3 := by
  have h := Flo.int_double 3 (by decide)
  rw [show floatOfInt .f64 3 = 4613937818241073152 from by decide +kernel] at h
  exact ⟨h.1, by rw [h.2]; rfl⟩
/-- an integer of at most a million, divided by a number that is no less than 1 -/
theorem int_quo (z : Int) (hz : z.natAbs ≤ 1000000) (y : Nat) (hy : Flo.Nm y) (h1 : 1 ≤ Flo.W y) :
    ∃ r, floatBits .quo .f64 (floatOfInt .f64 z) y = some r ∧ Flo.Nm r ∧ Flo.Ab (Flo.W r) 1000005 := by
  obtain ⟨n1, n2⟩ := Flo.int_double z (by omega)
  have hzr : Flo.Ab (z : Rat) 1000000 := by
    have a1 : z ≤ 1000000 := by omega
    have a2 : -1000000 ≤ z := by omega
    have b1 : (z : Rat) ≤ ((1000000 : Int) : Rat) := Rat.intCast_le_intCast.2 a1
    have b2 : ((-1000000 : Int) : Rat) ≤ (z : Rat) := Rat.intCast_le_intCast.2 a2
    have c1 : ((1000000 : Int) : Rat) = 1000000 := rfl
    have c2 : ((-1000000 : Int) : Rat) = -1000000 := rfl
    exact ⟨by grind, by grind⟩
  have hy0 : Flo.W y ≠ 0 := by grind
  have hq : (Flo.W (floatOfInt .f64 z) / Flo.W y) * Flo.W y = Flo.W (floatOfInt .f64 z) := Rat.div_mul_cancel hy0
  have hb : Flo.Ab (Flo.W (floatOfInt .f64 z) / Flo.W y) 1000000 := by
    refine Flo.Ab.div (y := Flo.W y) (D := 1) ?_ (by grind) h1
    rw [hq, n2]
    simpa using hzr
  have hp : (1000000 : Rat) < Flo.pw 1022 := by
    have h := Flo.pw_nat 20
    have hm : Flo.pw 20 ≤ Flo.pw 1022 := Flo.pw_le (by omega)
    rw [show ((20 : Nat) : Int) = 20 from rfl] at h
    rw [h] at hm
    have e : ((2 ^ 20 : Nat) : Rat) = 1048576 := rfl
    grind
  obtain ⟨r, h1, h2, h3⟩ := Flo.d_div _ y n1 hy hy0 _ 1000000 hq hb hp
  refine ⟨r, h1, h2, ?_⟩
  have hu := Flo.u_le
  have ht : Flo.et ≤ Flo.u := Flo.pw_le (by omega)
  unfold Flo.Ab at hb h3 ⊢
  grind

/-- a number of double precision that is not great -/
def Mo (b : Nat) : Prop := Flo.Nm b ∧ Flo.Ab (Flo.W b) 1000005
theorem mo_quo (z : Int) (hz : z.natAbs ≤ 1000000) (y : Nat) (hy : Flo.Nm y) (h1 : 1 ≤ Flo.W y) (w : World) : Mo (fres w .quo .f64 (floatOfInt .f64 z) y) := by
  obtain ⟨r, h2, h3, h4⟩ := int_quo z hz y hy h1
  unfold fres
  rw [h2]
  exact ⟨h3, h4⟩
theorem mo_int (z : Int) (hz : z.natAbs ≤ 1000000) : Mo (floatOfInt .f64 z) := by
  obtain ⟨n1, n2⟩ := Flo.int_double z (by omega)
  refine ⟨n1, ?_⟩
  rw [n2]
  have b1 : (z : Rat) ≤ ((1000000 : Int) : Rat) := Rat.intCast_le_intCast.2 (by omega)
  have b2 : ((-1000000 : Int) : Rat) ≤ (z : Rat) := Rat.intCast_le_intCast.2 (by omega)
  have c1 : ((1000000 : Int) : Rat) = 1000000 := rfl
  have c2 : ((-1000000 : Int) : Rat) = -1000000 := rfl
  exact ⟨by grind, by grind⟩
def MoP (B : Nat) (w0 : World) (a : Option Addr) (len cap c : Nat) (e : Ending) (w' : World) : Prop :=
  ∃ b : Nat, e = .returned (.float .f64 b) ∧ Mo b ∧ At B w0 a len cap c w'
theorem l1Some_mo (B : Nat) (w0 : World) (a : Option Addr) (len cap c : Nat) (w : World) (hc : At B w0 a len cap c w) :
    Calls Try.prog 112 #[.pointer (some ⟨c, 0, none⟩)] w (MoP B w0 a len cap c) := by
  go_enter Try.func112, Try.ntmps112
  go_wp2_with (go_at_call 51; refine (below_at _ _ _ _ _ _ _ (by omega) (by omega) _ (by assumption)).mono ?_; rintro e w1 ⟨x, x0, x1, rfl, hc1⟩)
  all_goals
    go_ret
    first
      | exact ⟨_, rfl, mo_int _ (by omega), by assumption⟩
      | exact ⟨_, rfl, mo_quo _ (by omega) _ nm_16.1 (by rw [nm_16.2]; decide) _, At.draw (by assumption) _⟩
      | exact ⟨_, rfl, mo_quo _ (by omega) _ nm_mega.1 (by rw [nm_mega.2]; decide) _, At.draw (by assumption) _⟩
      | exact ⟨_, rfl, mo_quo _ (by omega) _ nm_three.1 (by rw [nm_three.2]; decide) _, At.draw (by assumption) _⟩

/-! ### boxes of any number of cells -/
def HasC (w : World) (b : Nat) (cs : List Value) : Prop :=
  b < w.heap.size ∧ ∀ (k : Nat) v, cs[k]? = some v → w.cell? ⟨b, k, none⟩ = some v ∧ w.frozen? ⟨b, k, none⟩ = false
theorem HasC.of {w w' : World} {b : Nat} {cs : List Value} (h : HasC w b cs) (hs : w.heap.size ≤ w'.heap.size) (hb : w'.heap[b]? = w.heap[b]?) : HasC w' b cs :=
  ⟨Nat.lt_of_lt_of_le h.1 hs, fun k v hk => by rw [World.cell?_of_block (w := w) (a := ⟨b, k, none⟩) hb, World.frozen?_of_block (w := w) (a := ⟨b, k, none⟩) hb]; exact h.2 k v hk⟩
theorem HasC.kp {c : Nat} {w w' : World} {b : Nat} {cs : List Value} (h : HasC w b cs) (hk : Kp c w w') (hne : b ≠ c) : HasC w' b cs := h.of hk.size (hk.block b h.1 (fun e => hne (by cases e; rfl)))
theorem HasC.nw {w w' : World} {b : Nat} {cs : List Value} (h : HasC w b cs) (hk : Nw w w') : HasC w' b cs := h.of hk.size (hk.block b h.1 (by simp))
theorem HasC.alloc {w : World} {b : Nat} {cs : List Value} (h : HasC w b cs) (o : Obj) : HasC (w.alloc o) b cs := h.nw ((Nw.refl _).alloc _)
theorem HasC.draw {w : World} {b : Nat} {cs : List Value} (h : HasC w b cs) (n : Nat) : HasC (w.drewN n) b cs := h.nw ((Nw.refl _).draw _)

theorem HasC.set {w : World} {b : Nat} {cs : List Value} (h : HasC w b cs) (j : Nat) (u : Value) : HasC (w.setCell ⟨b, j, none⟩ u) b (cs.set j u) := by
  refine ⟨by simpa [World.setCell] using h.1, fun k v hk => ?_⟩
  by_cases hj : j = k
  · subst hj
    have hl := (List.getElem?_eq_some_iff.1 hk).1
    simp at hl
    rw [List.getElem?_set_self hl] at hk
    cases hk
    obtain ⟨h1, h2⟩ := h.2 j cs[j] (List.getElem?_eq_getElem hl)
    constructor <;> go_simp
  · rw [List.getElem?_set_ne hj] at hk
    obtain ⟨h1, h2⟩ := h.2 k v hk
    have hk' : k ≠ j := fun e => hj e.symm
    constructor <;> go_simp
theorem HasC.sete {w : World} {b : Nat} {cs : List Value} (h : HasC w b cs) {p : Addr} (hp : p.block ≠ b) (u : Value) : HasC (w.setCell p u) b cs :=
  h.of (by simp [World.setCell]) (Below.heap_setCell _ _ _ _ (fun e => hp e.symm))

end Go.Proofs.Ytlhhcchncobmhaa
