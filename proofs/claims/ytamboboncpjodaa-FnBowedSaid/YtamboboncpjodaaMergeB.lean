/- Merged bodies as a plain function, and the walk of MergeBodies.
   Conditions: those that each statement names. -/
import Derived.Test.YtamboboncpjodaaConcat
import Derived.Test.YtamboboncpjodaaTest
namespace Go.Proofs.Ytamboboncpjodaa
open Go Go.RowKit

def mergeL (l : List M4) : List M4 := l.foldl put1 []
theorem mergeL_take (l : List M4) (k : Nat) (m : M4) (h : l[k]? = some m) : mergeL (l.take (k + 1)) = put1 (mergeL (l.take k)) m := by
  obtain ⟨hk, he⟩ := List.getElem?_eq_some_iff.1 h
  unfold mergeL
  rw [List.take_succ_eq_append_getElem hk, List.foldl_append, he]; rfl
/-- finite parts, and gains of at most 2048 for each mode that came in -/
def GB (k : Nat) (x : M4) : Prop := x.Fin ∧ Flo.Ab (S x.gr) (2048 * ((k : Rat) + 1)) ∧ Flo.Ab (S x.gi) (2048 * ((k : Rat) + 1))
theorem gb_ok (m : M4) (hm : m.ok) : m.Fin ∧ Flo.Ab (S m.gr) 1024 ∧ Flo.Ab (S m.gi) 1024 := by
  obtain ⟨n1, n2, n3, n4⟩ := hm.nums
  obtain ⟨-, -, -, -, -, h6, h7⟩ := Valid.parts hm
  obtain ⟨m3, v3⟩ := wid_num n3
  obtain ⟨m4, v4⟩ := wid_num n4
  obtain ⟨l3, lv3⟩ := labs_num _ (wid_lt m.gr) m3
  obtain ⟨l4, lv4⟩ := labs_num _ (wid_lt m.gi) m4
  rw [v3] at lv3
  rw [v4] at lv4
  have v1024 : Flo.W 4652218415073722368 = 1024 := by
    have h : Ieee.double.read 4652218415073722368 = .number false 4503599627370496 (-42) := by decide
    rw [show Flo.W 4652218415073722368 = _ from Flo.V_eq h]
    unfold Flo.val
    have := Flo.pw_neg_mul 42
    rw [show Flo.pw 42 = 4398046511104 from Flo.pw_nat 42] at this
    simp only [Bool.false_eq_true, if_false]
    have e2 : ((4503599627370496 : Nat) : Rat) = 4503599627370496 := rfl
    rw [e2]; grind
  have g3 := (leB_iff l3 num_1024).1 h6
  have g4 := (leB_iff l4 num_1024).1 h7
  rw [v1024, lv3] at g3
  rw [v1024, lv4] at g4
  exact ⟨⟨n1, n2, n3, n4⟩, (ra_ab _).mono g3, (ra_ab _).mono g4⟩
theorem gb_add (k : Nat) (hk : k ≤ 40) (x y : Nat) (hx : Sm x) (hy : Sm y) (h1 : Flo.Ab (S x) (2048 * ((k : Rat) + 1))) (h2 : Flo.Ab (S y) 1024) :
    Calm .add .f32 x y ∧ Sm (opB .add .f32 x y) ∧ Flo.Ab (S (opB .add .f32 x y)) (2048 * (((k + 1 : Nat) : Rat) + 1)) := by
  have hk0 : (k : Rat) ≤ ((40 : Nat) : Rat) := by exact_mod_cast hk
  have hk1 : ((40 : Nat) : Rat) = 40 := rfl
  have hk2 : (0 : Rat) ≤ k := by exact_mod_cast Nat.zero_le k
  have h := h1.add h2
  have l1 : Flo.pw 40 ≤ Flo.pw 127 := Flo.pw_le (by omega)
  have l2 : Flo.pw 40 = 1099511627776 := Flo.pw_nat 40
  obtain ⟨r, r1, r2, r3⟩ := Flo.s_add x y hx hy _ h (by grind)
  obtain ⟨c1, e1⟩ := Calm.of r1
  rw [← e1] at r2 r3
  have hv : Flo.v ≤ 1 / 1048576 := by have := Flo.v_eq; grind
  have hv0 := Flo.v_pos
  have hes : Flo.es ≤ 1 := by rw [← Flo.pw_zero]; exact Flo.pw_le (by omega)
  have hb := Rat.mul_le_mul_of_nonneg_left hv (show 0 ≤ 2048 * ((k : Rat) + 1) + 1024 by grind)
  have hc : ((k + 1 : Nat) : Rat) = (k : Rat) + 1 := by exact_mod_cast rfl
  refine ⟨c1, r2, ?_⟩
  rw [hc]
  exact ((r3.add h).eq (by grind)).mono (by grind)
theorem gb_put (k : Nat) (hk : k ≤ 40) (m : M4) (hm : m.ok) : ∀ l : List M4, (∀ x ∈ l, GB k x) → ∀ x ∈ put1 l m, GB (k + 1) x
  | [], _, x, hx => by
    obtain ⟨f, a, b⟩ := gb_ok m hm
    simp [put1] at hx
    subst hx
    have hk2 : (0 : Rat) ≤ ((k + 1 : Nat) : Rat) := by exact_mod_cast Nat.zero_le _
    exact ⟨f, a.mono (by grind), b.mono (by grind)⟩
  | y :: l, h, x, hx => by
    have hc : ((k + 1 : Nat) : Rat) = (k : Rat) + 1 := by exact_mod_cast rfl
    have up : ∀ z, GB k z → GB (k + 1) z := fun z hz => ⟨hz.1, hz.2.1.mono (by rw [hc]; grind), hz.2.2.mono (by rw [hc]; grind)⟩
    have hy := h y (List.mem_cons_self ..)
    have hl := fun z hz => h z (List.mem_cons_of_mem _ hz)
    unfold put1 at hx
    split at hx
    · rcases List.mem_cons.1 hx with rfl | hx
      · obtain ⟨f, a, b⟩ := gb_ok m hm
        have a1 := gb_add k hk y.gr m.gr hy.1.2.2.1 f.2.2.1 hy.2.1 a
        have a2 := gb_add k hk y.gi m.gi hy.1.2.2.2 f.2.2.2 hy.2.2 b
        exact ⟨⟨hy.1.1, hy.1.2.1, a1.2.1, a2.2.1⟩, a1.2.2, a2.2.2⟩
      · exact up x (hl x hx)
    · rcases List.mem_cons.1 hx with rfl | hx
      · exact up _ hy
      · exact gb_put k hk m hm l hl x hx
theorem gb_merge (l : List M4) (hl : ∀ m ∈ l, m.ok) : ∀ k, k ≤ l.length → k ≤ 40 → ∀ x ∈ mergeL (l.take k), GB k x
  | 0, _, _, x, hx => by simp [mergeL] at hx
  | k + 1, h, h40, x, hx => by
    have hk : l[k]? = some l[k] := List.getElem?_eq_getElem (by omega)
    rw [mergeL_take l k _ hk] at hx
    exact gb_put k (by omega) _ (hl _ (List.getElem_mem _)) _ (gb_merge l hl k (by omega) (by omega)) x hx
theorem merge_calm (l : List M4) (hl : ∀ m ∈ l, m.ok) (k : Nat) (m : M4) (hk : l[k]? = some m) (h40 : k ≤ 40) : ∀ x ∈ mergeL (l.take k), Calm .add .f32 x.gr m.gr ∧ Calm .add .f32 x.gi m.gi := by
  intro x hx
  have h := gb_merge l hl k (by have := (List.getElem?_eq_some_iff.1 hk).1; omega) h40 x hx
  obtain ⟨f, a, b⟩ := gb_ok m (hl m (List.mem_of_getElem? hk))
  exact ⟨(gb_add k h40 x.gr m.gr h.1.2.2.1 f.2.2.1 h.2.1 a).1, (gb_add k h40 x.gi m.gi h.1.2.2.2 f.2.2.2 h.2.2 b).1⟩
theorem mergeL_len (l : List M4) : ∀ k, k ≤ l.length → (mergeL (l.take k)).length ≤ k
  | 0, _ => by simp [mergeL]
  | k + 1, h => by
    have hk : l[k]? = some l[k] := List.getElem?_eq_getElem (by omega)
    rw [mergeL_take l k _ hk]
    have := mergeL_len l k (by omega)
    rcases put1_len (mergeL (l.take k)) l[k] with e | e <;> omega

theorem grownBy_set (W : World) (p : Addr) (v : Value) : W.grownBy (W.setCell p v) (some p.block) :=
  ⟨rfl, rfl, rfl, by simp [World.setCell], fun i hi hne => by simp only [World.setCell, Array.getElem?_modify]; rw [if_neg (fun e => hne (by rw [e]))]⟩
def MergedP (c : List M4) (w : World) (e : Ending) (w' : World) : Prop :=
  ∃ v : Value, e = .returned (.tuple #[.agg #[v], .bool (bodyB c)]) ∧ w'.ownsRow w.heap.size 76 2 v (if bodyB c then c.length else 0) (cellsM (if bodyB c then c else [])) ∧ Nw w w'
def MbI (l : List M4) (N base bl L R D : Nat) (lv : Value) (w : World) (i : Value) (wr : World) : Prop :=
  ∃ (k : Nat) (cur : Value), k ≤ N ∧ i = .int .i64 (k : Int) ∧ Has1 wr D cur ∧ Has1 wr R (.slice none 0 0) ∧ wr.ownsRow base 76 2 cur (mergeL (l.take k)).length (cellsM (mergeL (l.take k))) ∧ wr.ownsRow bl 76 2 lv N (cellsM l) ∧ Nw w wr ∧ base ≤ wr.heap.size

end Go.Proofs.Ytamboboncpjodaa
