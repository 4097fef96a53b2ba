/- The walks of what makes a cursor, of the law's own 'fresh', and of the makers of numbers.
   Conditions: those that each statement names. -/
import Derived.Test.YtlhhcchncobmhaaDraw
namespace Go.Proofs.Ytlhhcchncobmhaa
set_option linter.unusedSimpArgs false
set_option linter.unusedVariables false
open Go Go.RowKit

def NewP (a : Option Addr) (len cap : Nat) (w : World) (e : Ending) (w' : World) : Prop :=
  e = .returned (.pointer (some ⟨w.heap.size, 0, none⟩)) ∧ At w.heap.size w a len cap w.heap.size w'

theorem at_new0 {a : Option Addr} {len cap : Nat} {w : World} (hb : Bys w.heap.size a len w) (h : Int) (T : TypeId) :
    At w.heap.size w a len cap w.heap.size (w.alloc (.cells #[.slice a len cap, .int .i64 0, .int .i64 h] T (0, 0))) := by
  have hB : Below w.heap.size w (w.alloc (.cells #[.slice a len cap, .int .i64 0, .int .i64 h] T (0, 0))) := (Below.refl _ _).alloc (Nat.le_refl _) _
  refine ⟨⟨Nat.le_refl _, by simp, hb.below hB, 0, h, by omega, ?_, ?_, ?_, ?_, ?_, ?_⟩, (Kp.refl _ _).alloc _⟩
  all_goals go_simp

set_option maxRecDepth 100000 in
theorem l01New_any (a : Option Addr) (len cap : Nat) (w : World) (hb : Bys w.heap.size a len w) :
    Calls Try.prog 50 #[.slice a len cap] w (NewP a len cap w) := by
  have hlen := hb.1
  have Hb := Lib.hid hb
  clear hb
  go_enter Try.func50, Try.ntmps50
  go_wp2
  go_loopw [3, 4] (fun h i wr => ∃ k : Nat, ∃ z : Int, k ≤ len ∧ i = .int .i64 (k : Int) ∧ h = .int .i64 z ∧ wr = w) (fun _ i _ => len - (intOf i).toNat)
  case atStart => exact ⟨0, _, by omega, rfl, rfl, rfl⟩
  case round =>
    obtain ⟨k, z, hk, rfl, rfl, rfl⟩ := hrel
    by_cases hlt : k < len
    · by_cases h4 : k < 4000
      · rcases Hb.out.2 with h00 | ⟨blk, off, ha, hblk, hcell⟩
        · omega
        obtain ⟨x, hx, hcx⟩ := hcell k hlt
        clear hcell
        subst ha
        go_wp2
        go_roundw
        case rel => exact ⟨k + 1, _, by omega, by rw [show ((k + 1 : Nat) : Int) = (k : Int) + 1 from by omega], rfl, trivial⟩
        case measure => simp only [intOf]; omega
      · go_wp2
        go_ret
        exact ⟨rfl, at_new0 Hb.out _ _⟩
    · go_wp2
      go_ret
      exact ⟨rfl, at_new0 Hb.out _ _⟩

/-- 'fresh' makes bytes of its own -/
def FreshP (w : World) (e : Ending) (w' : World) : Prop :=
  ∃ g len cap, e = .returned (.slice (some ⟨g, 0, none⟩) len cap) ∧ w.heap.size ≤ g ∧ g < w'.heap.size ∧ Bys w'.heap.size (some ⟨g, 0, none⟩) len w' ∧ Below w.heap.size w w'

theorem fresh_done {w wr : World} {v : Value} {k : Nat} {xs : List Value} {T : TypeId} (hk : k ≤ 600) (hown : wr.ownsRow w.heap.size T 1 v (k + 1) xs) (hxs : ∀ u ∈ xs, ∃ x : Nat, x ≤ 255 ∧ u = .int .u8 (x : Int)) (hb : Below w.heap.size w wr) :
    FreshP w (.returned v) wr := by
  have hlen := hown.1
  have hlt := hown.lt
  rcases hown.2 with ⟨_, h0⟩ | ⟨g, cap, cur, rfl, hg, hcur, h1, h2, h3, h4⟩
  · omega
  · have hg2 := hlt g rfl
    refine ⟨g, k + 1, cap, rfl, hg, hg2.2, ⟨by omega, .inr ⟨g, 0, rfl, hg2.2, fun j hj => ?_⟩⟩, hb⟩
    have hj' : j < xs.length := by omega
    obtain ⟨x, hx, he⟩ := hxs xs[j] (List.getElem_mem hj')
    refine ⟨x, hx, ?_⟩
    have := hown.cells (g := g) rfl j (xs[j]) (List.getElem?_eq_getElem hj')
    rw [Nat.zero_add, ← he]
    by_cases h0 : j = 0
    · subst h0; simpa [Addr.add] using this
    · simpa [Addr.add, h0] using this

theorem info_u8 : (Try.prog.info? 5).map (fun i => (i.zero, i.size, i.bytes)) = some (some (.int .u8 0), 1, 1) := by kernel_rfl

set_option maxRecDepth 100000 in
theorem fresh_any (a : Option Addr) (len cap : Nat) (m : Int) (hm0 : 0 ≤ m) (hm1 : m ≤ 255) (w : World) (hb : Bys w.heap.size a len w) :
    Calls Try.prog 11 #[.slice a len cap, .int .i64 m] w (FreshP w) := by
  obtain ⟨i0, hi, hz0, hz1, hz2⟩ := info_parts info_u8
  have hlen := hb.1
  have Hb := Lib.hid hb
  clear hb
  go_enter Try.func11, Try.ntmps11
  go_wp2
  go_loopw [5, 6] (fun v i wr => ∃ k : Nat, ∃ xs : List Value, k ≤ len ∧ k ≤ 600 ∧ i = .int .i64 (k : Int) ∧ wr.ownsRow w.heap.size 5 1 v (k + 1) xs ∧ (∀ u ∈ xs, ∃ x : Nat, x ≤ 255 ∧ u = .int .u8 (x : Int)) ∧ Below w.heap.size w wr) (fun _ i _ => len - (intOf i).toNat)
  case atStart =>
    refine ⟨0, [.int .u8 m], by omega, by omega, rfl, World.ownsRow_lit _ #[.int .u8 m] 1 (Nat.le_refl _) (by decide) rfl, ?_, (Below.refl _ _).alloc (Nat.le_refl _) _⟩
    intro u hu
    simp at hu
    exact ⟨m.toNat, by omega, by rw [hu]; congr 1; omega⟩
  case round =>
    obtain ⟨k, xs, hk, hk6, rfl, hown, hxs, hbel⟩ := hrel
    by_cases hlt : k < len
    · by_cases h4 : k < 600
      · rcases Hb.out.2 with h00 | ⟨blk, off, ha, hblk, hcell⟩
        · omega
        obtain ⟨x, hx, hcx⟩ := hcell k hlt
        have hcx' : wr.cell? ⟨blk, off + k, none⟩ = some (.int .u8 x) := (hbel.cell (p := ⟨blk, off + k, none⟩) hblk).trans hcx
        clear hcell hcx
        subst ha
        go_wp2_with (at_builtin; refine wpList_append_own _ rfl _ _ 22 rfl w.heap.size 5 i0 (.int .u8 0) 1 1 Try.underlying22 hi hz0 hz1 hz2 rfl (by decide) _ _ _ rfl (hown.alloc _) ⟨wr.heap.size, 0, none⟩ 1 1 [.int .u8 (wrap64 ((x : Int) * 3 + wrap64 (m * ((k : Int) % 7 + 1))) % 256)] rfl rfl ?c1 ?c2 ?c3 ?c4 ?c5 ?_)
        case c1 =>
          intro j u hj
          match j, hj with
          | 0, hj => simp at hj; subst hj; simp [Addr.add]
        case c2 => intro u hu; simp at hu; subst hu; rfl
        case c3 => unfold maxLen; omega
        case c4 => omega
        case c5 => have := hbel.size; simp; omega
        · intro v' w1 hown' hgrow _
          have hbel' : Below w.heap.size w w1 := by
            refine (hbel.alloc hbel.size _).grown hgrow (by have := hbel.size; simp; omega) ?_
            intro g hg; exact (hown.lt g hg).1
          have hxs' : ∀ u ∈ xs ++ [Value.int .u8 (wrap64 ((x : Int) * 3 + wrap64 (m * ((k : Int) % 7 + 1))) % 256)], ∃ x : Nat, x ≤ 255 ∧ u = .int .u8 (x : Int) := by
            intro u hu
            rcases List.mem_append.1 hu with hu | hu
            · exact hxs u hu
            · simp at hu
              generalize wrap64 ((x : Int) * 3 + wrap64 (m * ((k : Int) % 7 + 1))) = z at hu
              exact ⟨(z % 256).toNat, by omega, by rw [hu]; congr 1; omega⟩
          have Ho := Lib.hid hown'
          have Hx := Lib.hid hxs'
          clear hown' hgrow hown hxs hxs' hcx'
          go_wp2
          go_roundw
          case rel => exact ⟨k + 1, _, by omega, by omega, by rw [show ((k + 1 : Nat) : Int) = (k : Int) + 1 from by omega], Ho.out, Hx.out, hbel'⟩
          case measure => simp only [intOf]; omega
      · go_wp2
        go_ret
        exact fresh_done hk6 hown hxs hbel
    · go_wp2
      go_ret
      exact fresh_done hk6 hown hxs hbel

/-- a complex number of double precision; nothing that was there has turned -/
def MadeP (w : World) (e : Ending) (w' : World) : Prop :=
  ∃ x y : Nat, e = .returned (.complex .f64 x y) ∧ x < 2 ^ 64 ∧ y < 2 ^ 64 ∧ Below w.heap.size w w'

theorem makeDouble_any (a : Option Addr) (len cap : Nat) (w : World) (hb : Bys w.heap.size a len w) :
    Calls Try.prog 20 #[.slice a len cap] w (MadeP w) := by
  have Hb := Lib.hid hb
  clear hb
  go_enter Try.func20, Try.ntmps20
  go_wp2_with fail
  refine (l01New_any _ _ _ _ Hb.out).mono ?_
  rintro e w1 ⟨rfl, hat⟩
  have Hat := Lib.hid hat
  clear hat
  go_wp2_with fail
  refine (l1Double_at _ _ _ _ _ _ _ Hat.out).mono ?_
  rintro e w2 ⟨x, y, rfl, hx, hy, hat2⟩
  have hbel := Lib.hid (hat2.below (Nat.le_refl _))
  clear hat2
  go_wp2
  go_ret
  exact ⟨_, _, rfl, hx, hy, hbel.out⟩

/-- a number of moderate size -/
def Moderate (x y : Nat) : Prop := x < 2 ^ 64 ∧ y < 2 ^ 64 ∧ fin .f64 x = true ∧ fin .f64 y = true ∧
  Flo.pw (-201) ≤ Flo.W (labs x) + Flo.W (labs y) ∧ Flo.W (labs x) + Flo.W (labs y) ≤ Flo.pw 201 ∧ Flo.Nm (labs x) ∧ Flo.Nm (labs y)
def ModP (w : World) (e : Ending) (w' : World) : Prop :=
  ∃ x y : Nat, e = .returned (.complex .f64 x y) ∧ Moderate x y ∧ Below w.heap.size w w'

theorem Nm_of_fin {x : Nat} (h : fin .f64 x = true) : Flo.Nm x := (fin_iff .f64 x).1 h

theorem moderate_const : Moderate 4604930618986332160 13837309855095848960 := by
  have h1 : Ieee.double.read 4604930618986332160 = .number false 6755399441055744 (-53) := by decide
  have h2 : Ieee.double.read 13837309855095848960 = .number true 6755399441055744 (-51) := by decide
  have l1 := labs_num _ (by decide) ⟨_, _, _, h1⟩
  have l2 := labs_num _ (by decide) ⟨_, _, _, h2⟩
  have v1 : Flo.W 4604930618986332160 = 3 / 4 := by
    rw [show Flo.W 4604930618986332160 = _ from Flo.V_eq h1]
    unfold Flo.val
    have := Flo.pw_neg_mul 53
    have e : Flo.pw 53 = 9007199254740992 := Flo.pw_nat 53
    rw [e] at this
    simp only [Bool.false_eq_true, if_false]
    have e2 : ((6755399441055744 : Nat) : Rat) = 6755399441055744 := rfl
    rw [e2]; grind
  have v2 : Flo.W 13837309855095848960 = -3 := by
    rw [show Flo.W 13837309855095848960 = _ from Flo.V_eq h2]
    unfold Flo.val
    have := Flo.pw_neg_mul 51
    have e : Flo.pw 51 = 2251799813685248 := Flo.pw_nat 51
    rw [e] at this
    simp only [if_true]
    have e2 : ((6755399441055744 : Nat) : Rat) = 6755399441055744 := rfl
    rw [e2]; grind
  have a1 : Flo.pw (-201) ≤ 1 := by rw [← Flo.pw_zero]; exact Flo.pw_le (by omega)
  have a2 : Flo.pw 2 ≤ Flo.pw 201 := Flo.pw_le (by omega)
  have a3 : Flo.pw 2 = 4 := Flo.pw_nat 2
  refine ⟨by decide, by decide, by decide, by decide, ?_, ?_, l1.1, l2.1⟩
  · rw [l1.2, l2.2, v1, v2]
    have : ra (3 / 4) = 3 / 4 := by unfold ra; rw [if_neg (by grind)]
    have : ra (-3) = 3 := by unfold ra; rw [if_pos (by grind)]; grind
    grind
  · rw [l1.2, l2.2, v1, v2]
    have : ra (3 / 4) = 3 / 4 := by unfold ra; rw [if_neg (by grind)]
    have : ra (-3) = 3 := by unfold ra; rw [if_pos (by grind)]; grind
    grind

theorem moderate_of (x y : Nat) (hx : x < 2 ^ 64) (hy : y < 2 ^ 64) (fx : fin .f64 x = true) (fy : fin .f64 y = true)
    (h1 : (FloatKind.f64.format.order (szd x y) 3706462493325918208 == some .lt) = false) (h2 : (FloatKind.f64.format.order (szd x y) 5507902344274116608 == some .gt) = false) : Moderate x y := by
  have nx := Nm_of_fin fx
  have ny := Nm_of_fin fy
  have lx := labs_num x hx nx
  have ly := labs_num y hy ny
  have c1 : Ieee.double.read 3706462493325918208 = .number false 4503599627370496 (-252) := by decide
  have c2 : Ieee.double.read 5507902344274116608 = .number false 4503599627370496 148 := by decide
  have e52 : ((4503599627370496 : Nat) : Rat) = Flo.pw 52 := (Flo.pw_nat 52).symm
  have v1 : Flo.V Ieee.double 3706462493325918208 = Flo.pw (-200) := by
    rw [Flo.V_eq c1]; unfold Flo.val; rw [e52, ← Flo.pw_add]; simp only [Bool.false_eq_true, if_false]; rw [show (52 + -252 : Int) = -200 from rfl]; grind
  have v2 : Flo.V Ieee.double 5507902344274116608 = Flo.pw 200 := by
    rw [Flo.V_eq c2]; unfold Flo.val; rw [e52, ← Flo.pw_add]; simp only [Bool.false_eq_true, if_false]; rw [show (52 + 148 : Int) = 200 from rfl]; grind
  have p0 := ra_nonneg (Flo.W x)
  have q0 := ra_nonneg (Flo.W y)
  obtain ⟨r, hr, hor⟩ := Flo.d_add_or (labs x) (labs y) lx.1 ly.1 (Flo.W (labs x) + Flo.W (labs y)) ⟨by rw [lx.2, ly.2]; grind, Rat.le_refl⟩
  have hrs : szd x y = r := by unfold szd; rw [hr]; rfl
  rw [hrs, show FloatKind.f64.format = Ieee.double from rfl] at h1 h2
  rcases hor with ⟨s, hi⟩ | ⟨nr, near⟩
  · exfalso
    unfold Ieee.Format.order at h1 h2
    rw [hi, c1] at h1
    rw [hi, c2] at h2
    cases s <;> simp [Ieee.Datum.order] at h1 h2
  · have o1 := (Flo.order_num Ieee.double r _ nr ⟨_, _, _, c1⟩).1
    have o2 := (Flo.order_num Ieee.double r _ nr ⟨_, _, _, c2⟩).2.2
    rw [v1] at o1
    rw [v2] at o2
    have g1 : ¬ Flo.V Ieee.double r < Flo.pw (-200) := fun g => by rw [o1.2 g] at h1; exact absurd h1 (by decide)
    have g2 : ¬ Flo.pw 200 < Flo.V Ieee.double r := fun g => by rw [o2.2 g] at h2; exact absurd h2 (by decide)
    have k1 : Flo.pw (-200) = 2 * Flo.pw (-201) := by rw [← Flo.pw_succ]; rfl
    have k2 : Flo.pw 201 = 2 * Flo.pw 200 := by rw [← Flo.pw_succ]; rfl
    have k3 : Flo.et ≤ Flo.pw (-210) := Flo.pw_le (by omega)
    have k4 : Flo.pw (-201) = 512 * Flo.pw (-210) := by
      rw [show (-201 : Int) = 9 + -210 from rfl, Flo.pw_add, show Flo.pw 9 = 512 from Flo.pw_nat 9]
    have k5 := Flo.u_le
    have k6 := Flo.u_pos
    have k7 : Flo.pw (-210) ≤ Flo.pw 200 := Flo.pw_le (by omega)
    have k8 := Flo.pw_pos (-210)
    refine ⟨hx, hy, fx, fy, ?_, ?_, lx.1, ly.1⟩
    · have hS : 0 ≤ Flo.W (labs x) + Flo.W (labs y) := by rw [lx.2, ly.2]; grind
      generalize Flo.W (labs x) + Flo.W (labs y) = S at *
      have := Rat.mul_le_mul_of_nonneg_left k5 hS
      unfold Flo.Ab Flo.W at near
      grind
    · have hS : 0 ≤ Flo.W (labs x) + Flo.W (labs y) := by rw [lx.2, ly.2]; grind
      generalize Flo.W (labs x) + Flo.W (labs y) = S at *
      have := Rat.mul_le_mul_of_nonneg_left k5 hS
      unfold Flo.Ab Flo.W at near
      grind


end Go.Proofs.Ytlhhcchncobmhaa
