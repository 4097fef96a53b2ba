/- Texts of a proof, put together: MergeB, BowM, Wide, Tw, Abs, BowI, BowW, Fit, Ng, NegS, Shape, Strike, StrikeB, RoomI, RoomB, RoomC, Share, Listen, Same.
   Conditions: those that each statement names. -/
import Derived.Test.YtlhhcchncobmhaaKFnReciprocal3
import Derived.Laws.Cover2
import Derived.Laws.CopyOwn
/- Merged bodies as a plain function, and the walk of MergeBodies.
   Conditions: those that each statement names. -/
namespace Go.Proofs.Ytlhhcchncobmhaa
set_option linter.unusedSimpArgs false
set_option linter.unusedVariables false
open Go Go.RowKit

def mergeL (l : List M4) : List M4 := l.foldl put1 []
theorem mergeL_take (l : List M4) (k : Nat) (m : M4) (h : l[k]? = some m) : mergeL (l.take (k + 1)) = put1 (mergeL (l.take k)) m := by
  obtain ⟨hk, he⟩ := List.getElem?_eq_some_iff.1 h
  unfold mergeL
  rw [List.take_succ_eq_append_getElem hk, List.foldl_append, he]; rfl
/-- finite parts, and gains of at most 2048 for each mode that came in -/
def GB (k : Nat) (x : M4) : Prop := x.Fin ∧ Flo.Ab (S x.gr) (2048 * ((k : Rat) + 1)) ∧ Flo.Ab (S x.gi) (2048 * ((k : Rat) + 1))
theorem gb_ok (m : M4) (hm : m.ok) : m.Fin ∧ Flo.Ab (S m.gr) 1024 ∧ Flo.Ab (S m.gi) 1024 := by
  obtain ⟨n1, n2, n3, n4⟩ := hm.nums
  obtain ⟨-, -, -, -, -, h6, h7⟩ := Valid.parts hm
  obtain ⟨m3, v3⟩ := wid_num n3
  obtain ⟨m4, v4⟩ := wid_num n4
  obtain ⟨l3, lv3⟩ := labs_num _ (wid_lt m.gr) m3
  obtain ⟨l4, lv4⟩ := labs_num _ (wid_lt m.gi) m4
  rw [v3] at lv3
  rw [v4] at lv4
  have v1024 : Flo.W 4652218415073722368 = 1024 := by
    have h : Ieee.double.read 4652218415073722368 = .number false 4503599627370496 (-42) := by decide
    rw [show Flo.W 4652218415073722368 = _ from Flo.V_eq h]
    unfold Flo.val
    have := Flo.pw_neg_mul 42
    rw [show Flo.pw 42 = 4398046511104 from Flo.pw_nat 42] at this
    simp only [Bool.false_eq_true, if_false]
    have e2 : ((4503599627370496 : Nat) : Rat) = 4503599627370496 := rfl
    rw [e2]; grind
  have g3 := (leB_iff l3 num_1024).1 h6
  have g4 := (leB_iff l4 num_1024).1 h7
  rw [v1024, lv3] at g3
  rw [v1024, lv4] at g4
  exact ⟨⟨n1, n2, n3, n4⟩, (ra_ab _).mono g3, (ra_ab _).mono g4⟩
theorem gb_add (k : Nat) (hk : k ≤ 40) (x y : Nat) (hx : Sm x) (hy : Sm y) (h1 : Flo.Ab (S x) (2048 * ((k : Rat) + 1))) (h2 : Flo.Ab (S y) 1024) :
    Calm .add .f32 x y ∧ Sm (opB .add .f32 x y) ∧ Flo.Ab (S (opB .add .f32 x y)) (2048 * (((k + 1 : Nat) : Rat) + 1)) := by
  have hk0 : (k : Rat) ≤ ((40 : Nat) : Rat) := by exact_mod_cast hk
  have hk1 : ((40 : Nat) : Rat) = 40 := rfl
  have hk2 : (0 : Rat) ≤ k := by exact_mod_cast Nat.zero_le k
  have h := h1.add h2
  have l1 : Flo.pw 40 ≤ Flo.pw 127 := Flo.pw_le (by omega)
  have l2 : Flo.pw 40 = 1099511627776 := Flo.pw_nat 40
  obtain ⟨r, r1, r2, r3⟩ := Flo.s_add x y hx hy _ h (by grind)
  obtain ⟨c1, e1⟩ := Calm.of r1
  rw [← e1] at r2 r3
  have hv : Flo.v ≤ 1 / 1048576 := by have := Flo.v_eq; grind
  have hv0 := Flo.v_pos
  have hes : Flo.es ≤ 1 := by rw [← Flo.pw_zero]; exact Flo.pw_le (by omega)
  have hb := Rat.mul_le_mul_of_nonneg_left hv (show 0 ≤ 2048 * ((k : Rat) + 1) + 1024 by grind)
  have hc : ((k + 1 : Nat) : Rat) = (k : Rat) + 1 := by exact_mod_cast rfl
  refine ⟨c1, r2, ?_⟩
  rw [hc]
  exact ((r3.add h).eq (by grind)).mono (by grind)
theorem gb_put (k : Nat) (hk : k ≤ 40) (m : M4) (hm : m.ok) : ∀ l : List M4, (∀ x ∈ l, GB k x) → ∀ x ∈ put1 l m, GB (k + 1) x
  | [], _, x, hx => by
    obtain ⟨f, a, b⟩ := gb_ok m hm
    simp [put1] at hx
    subst hx
    have hk2 : (0 : Rat) ≤ ((k + 1 : Nat) : Rat) := by exact_mod_cast Nat.zero_le _
    exact ⟨f, a.mono (by grind), b.mono (by grind)⟩
  | y :: l, h, x, hx => by
    have hc : ((k + 1 : Nat) : Rat) = (k : Rat) + 1 := by exact_mod_cast rfl
    have up : ∀ z, GB k z → GB (k + 1) z := fun z hz => ⟨hz.1, hz.2.1.mono (by rw [hc]; grind), hz.2.2.mono (by rw [hc]; grind)⟩
    have hy := h y (List.mem_cons_self ..)
    have hl := fun z hz => h z (List.mem_cons_of_mem _ hz)
    unfold put1 at hx
    split at hx
    · rcases List.mem_cons.1 hx with rfl | hx
      · obtain ⟨f, a, b⟩ := gb_ok m hm
        have a1 := gb_add k hk y.gr m.gr hy.1.2.2.1 f.2.2.1 hy.2.1 a
        have a2 := gb_add k hk y.gi m.gi hy.1.2.2.2 f.2.2.2 hy.2.2 b
        exact ⟨⟨hy.1.1, hy.1.2.1, a1.2.1, a2.2.1⟩, a1.2.2, a2.2.2⟩
      · exact up x (hl x hx)
    · rcases List.mem_cons.1 hx with rfl | hx
      · exact up _ hy
      · exact gb_put k hk m hm l hl x hx
theorem gb_merge (l : List M4) (hl : ∀ m ∈ l, m.ok) : ∀ k, k ≤ l.length → k ≤ 40 → ∀ x ∈ mergeL (l.take k), GB k x
  | 0, _, _, x, hx => by simp [mergeL] at hx
  | k + 1, h, h40, x, hx => by
    have hk : l[k]? = some l[k] := List.getElem?_eq_getElem (by omega)
    rw [mergeL_take l k _ hk] at hx
    exact gb_put k (by omega) _ (hl _ (List.getElem_mem _)) _ (gb_merge l hl k (by omega) (by omega)) x hx
theorem merge_calm (l : List M4) (hl : ∀ m ∈ l, m.ok) (k : Nat) (m : M4) (hk : l[k]? = some m) (h40 : k ≤ 40) : ∀ x ∈ mergeL (l.take k), Calm .add .f32 x.gr m.gr ∧ Calm .add .f32 x.gi m.gi := by
  intro x hx
  have h := gb_merge l hl k (by have := (List.getElem?_eq_some_iff.1 hk).1; omega) h40 x hx
  obtain ⟨f, a, b⟩ := gb_ok m (hl m (List.mem_of_getElem? hk))
  exact ⟨(gb_add k h40 x.gr m.gr h.1.2.2.1 f.2.2.1 h.2.1 a).1, (gb_add k h40 x.gi m.gi h.1.2.2.2 f.2.2.2 h.2.2 b).1⟩
theorem mergeL_len (l : List M4) : ∀ k, k ≤ l.length → (mergeL (l.take k)).length ≤ k
  | 0, _ => by simp [mergeL]
  | k + 1, h => by
    have hk : l[k]? = some l[k] := List.getElem?_eq_getElem (by omega)
    rw [mergeL_take l k _ hk]
    have := mergeL_len l k (by omega)
    rcases put1_len (mergeL (l.take k)) l[k] with e | e <;> omega

theorem grownBy_set (W : World) (p : Addr) (v : Value) : W.grownBy (W.setCell p v) (some p.block) :=
  ⟨rfl, rfl, rfl, by simp [World.setCell], fun i hi hne => by simp only [World.setCell, Array.getElem?_modify]; rw [if_neg (fun e => hne (by rw [e]))]⟩
def MergedP (c : List M4) (w : World) (e : Ending) (w' : World) : Prop :=
  ∃ v : Value, e = .returned (.tuple #[.agg #[v], .bool (bodyB c)]) ∧ w'.ownsRow w.heap.size 61 2 v (if bodyB c then c.length else 0) (cellsM (if bodyB c then c else [])) ∧ Nw w w'
def MbI (l : List M4) (N base bl L R D : Nat) (lv : Value) (w : World) (i : Value) (wr : World) : Prop :=
  ∃ (k : Nat) (cur : Value), k ≤ N ∧ i = .int .i64 (k : Int) ∧ Has1 wr D cur ∧ Has1 wr R (.slice none 0 0) ∧ wr.ownsRow base 61 2 cur (mergeL (l.take k)).length (cellsM (mergeL (l.take k))) ∧ wr.ownsRow bl 61 2 lv N (cellsM l) ∧ Nw w wr ∧ base ≤ wr.heap.size

end Go.Proofs.Ytlhhcchncobmhaa

/- A bow that sticks: its states and velocities as plain functions, bounded through ten steps, and no NaN in the eleventh's states.
   Conditions: those that each statement names. -/
namespace Go.Proofs.Ytlhhcchncobmhaa
set_option linter.unusedSimpArgs false
set_option linter.unusedVariables false
open Go Go.RowKit

/-- the states and the velocity after k steps, where the bow sticks each time -/
def bowSt (ms : List M4) (x0 : Nat) : Nat → List (Nat × Nat) × Nat
  | 0 => (ms.map fun _ => (0, 0), 0)
  | k + 1 => (stepAll ms (bowSt ms x0 k).1 (opB .sub .f32 x0 (bowSt ms x0 k).2), outS (stepAll ms (bowSt ms x0 k).1 (opB .sub .f32 x0 (bowSt ms x0 k).2)))
def bowF (ms : List M4) (x0 k : Nat) : Nat := opB .sub .f32 x0 (bowSt ms x0 k).2
theorem bowSt_len (ms : List M4) (x0 : Nat) : ∀ k, (bowSt ms x0 k).1.length = ms.length
  | 0 => by simp [bowSt]
  | k + 1 => by simp [bowSt, stepAll, bowSt_len ms x0 k]

/-- the bound of a state's part after k steps -/
def tb : Nat → Nat
  | 0 => 0
  | k + 1 => 3083 * tb k + 9400
theorem tb_all : (List.range 11).all (fun k => decide (tb k ≤ 2 ^ 118)) = true := by decide +kernel
theorem tb_le (k : Nat) (h : k ≤ 10) : tb k ≤ 2 ^ 118 := by
  have := (List.all_eq_true.1 tb_all) k (List.mem_range.2 (by omega))
  exact of_decide_eq_true this
theorem tf_all : (List.range 10).all (fun k => decide (4 * tb k + 10 ≤ 2 ^ 110)) = true := by decide +kernel
theorem tf_le (k : Nat) (h : k < 10) : 4 * tb k + 10 ≤ 2 ^ 110 := by
  have := (List.all_eq_true.1 tf_all) k (List.mem_range.2 h)
  exact of_decide_eq_true this
theorem tbR (k : Nat) (h : k ≤ 10) : ((tb k : Nat) : Rat) ≤ Flo.pw 118 := by
  have h1 : ((tb k : Nat) : Rat) ≤ ((2 ^ 118 : Nat) : Rat) := by exact_mod_cast tb_le k h
  rw [show Flo.pw 118 = ((2 ^ 118 : Nat) : Rat) from Flo.pw_nat 118]
  exact h1
theorem tfR (k : Nat) (h : k < 10) : 4 * ((tb k : Nat) : Rat) + 10 ≤ Flo.pw 110 := by
  have h1 : ((4 * tb k + 10 : Nat) : Rat) ≤ ((2 ^ 110 : Nat) : Rat) := by exact_mod_cast tf_le k h
  rw [show Flo.pw 110 = ((2 ^ 110 : Nat) : Rat) from Flo.pw_nat 110]
  have h2 : ((4 * tb k + 10 : Nat) : Rat) = 4 * ((tb k : Nat) : Rat) + 10 := by push_cast; rfl
  rw [h2] at h1
  exact h1

theorem sum_num (T U v es : Rat) (j : Rat) (hj : 0 ≤ j) (hj3 : j ≤ 2) (hT : 0 ≤ T) (hU : U = j * T + j * T / 100000 + j / 1000) (ve : v * 16777216 = 1) (e0 : 0 < es) (es1 : es ≤ 1 / 1048576) :
    U + T + ((U + T) * v + es) ≤ (j + 1) * T + (j + 1) * T / 100000 + (j + 1) / 1000 ∧ 0 ≤ U ∧ U ≤ 3 * T + 1 := by
  have hv : v = 1 / 16777216 := by grind
  have hjT : j * T ≤ 2 * T := Rat.mul_le_mul_of_nonneg_right hj3 hT
  have hjT0 : 0 ≤ j * T := Rat.mul_nonneg hj hT
  subst hv; subst hU
  refine ⟨?_, ?_, ?_⟩
  · have e1 : (j + 1) * T = j * T + T := by grind
    rw [e1]
    generalize j * T = q at *
    grind
  · generalize j * T = q at *
    grind
  · generalize j * T = q at *
    grind
/-- the sum of at most three outputs -/
theorem sum_small (ss : List (Nat × Nat)) (T : Rat) (hT0 : 0 ≤ T) (hT : T ≤ Flo.pw 118) (h : ∀ s ∈ ss, Sm s.1 ∧ Flo.Ab (S s.1) T) :
    ∀ k : Nat, k ≤ 3 → k ≤ ss.length → Sm (outS (ss.take k)) ∧ Flo.Ab (S (outS (ss.take k))) ((k : Rat) * T + (k : Rat) * T / 100000 + (k : Rat) / 1000)
  | 0, _, _ => by
    refine ⟨zero_single.1, ?_⟩
    show Flo.Ab (S 0) _
    rw [zero_single.2]
    constructor <;> simp <;> grind
  | k + 1, h3, hl => by
    obtain ⟨i1, i2⟩ := sum_small ss T hT0 hT h k (by omega) (by omega)
    have hs : ss[k]? = some (ss[k]'(by omega)) := List.getElem?_eq_getElem _
    obtain ⟨s1, s2⟩ := h _ (List.getElem_mem (by omega : k < ss.length))
    rw [outS_take ss k _ hs]
    have hk : (k : Rat) ≤ 2 := by
      have : ((k : Nat) : Rat) ≤ ((2 : Nat) : Rat) := by exact_mod_cast (by omega : k ≤ 2)
      exact this
    have hk0 : (0 : Rat) ≤ k := by exact_mod_cast Nat.zero_le k
    obtain ⟨n1, n2, n3⟩ := sum_num T _ Flo.v Flo.es (k : Rat) hk0 hk hT0 rfl Flo.v_eq Flo.es_pos small'.es1
    have l1 : Flo.pw 126 = 256 * Flo.pw 118 := by rw [show (126 : Int) = 8 + 118 from rfl, Flo.pw_add, show Flo.pw 8 = 256 from Flo.pw_nat 8]
    have l3 := Flo.pw_lt (a := 126) (b := 127) (by omega)
    have l4 : 1 ≤ Flo.pw 118 := by rw [← Flo.pw_zero]; exact Flo.pw_le (by omega)
    obtain ⟨r, r1, r2, r3⟩ := Flo.s_add _ _ i1 s1 _ (i2.add s2) (by grind)
    obtain ⟨-, b2⟩ := Calm.of r1
    rw [b2]
    refine ⟨r2, (((i2.add s2).add r3).eq (by grind)).mono ?_⟩
    rw [show ((k + 1 : Nat) : Rat) = (k : Rat) + 1 from by push_cast; rfl]
    exact n1

/-- what is known after k steps -/
structure BowOk (ms : List M4) (x0 k : Nat) : Prop where
  st : ∀ s ∈ (bowSt ms x0 k).1, (Sm s.1 ∧ Flo.Ab (S s.1) (tb k)) ∧ (Sm s.2 ∧ Flo.Ab (S s.2) (tb k))
  vel : Sm (bowSt ms x0 k).2
  big : Flo.Ab (S (bowSt ms x0 k).2) (3 * (tb k : Rat) + (tb k : Rat) / 10000 + 1 / 100)
theorem force_num (T v es : Rat) (hT : 0 ≤ T) (ve : v * 16777216 = 1) (e0 : 0 < es) (es1 : es ≤ 1 / 1048576) :
    9 + (3 * T + T / 10000 + 1 / 100) + ((9 + (3 * T + T / 10000 + 1 / 100)) * v + es) ≤ 3 * T + T / 1000 + 91 / 10 := by
  have hv : v = 1 / 16777216 := by grind
  subst hv
  grind
/-- the force of the next step -/
theorem force_ok (ms : List M4) (x0 k : Nat) (hx : Sm x0) (b0 : Flo.Ab (S x0) 9) (hk : k ≤ 10) (h : BowOk ms x0 k) :
    Calm .sub .f32 x0 (bowSt ms x0 k).2 ∧ Sm (bowF ms x0 k) ∧ Flo.Ab (S (bowF ms x0 k)) (3 * (tb k : Rat) + (tb k : Rat) / 1000 + 91 / 10) := by
  have hT0 : (0 : Rat) ≤ tb k := by exact_mod_cast Nat.zero_le _
  have hT := tbR k hk
  have l1 : Flo.pw 126 = 256 * Flo.pw 118 := by rw [show (126 : Int) = 8 + 118 from rfl, Flo.pw_add, show Flo.pw 8 = 256 from Flo.pw_nat 8]
  have l3 := Flo.pw_lt (a := 126) (b := 127) (by omega)
  have l4 : 1 ≤ Flo.pw 118 := by rw [← Flo.pw_zero]; exact Flo.pw_le (by omega)
  obtain ⟨r, r1, r2, r3⟩ := Flo.s_sub x0 _ hx h.vel _ (b0.sub h.big) (by grind)
  obtain ⟨c2, b2⟩ := Calm.of r1
  unfold bowF
  refine ⟨c2, by rw [b2]; exact r2, ?_⟩
  rw [b2]
  exact (((b0.sub h.big).add r3).eq (by grind)).mono (force_num (tb k) Flo.v Flo.es hT0 Flo.v_eq Flo.es_pos small'.es1)
theorem zip_mem {ms : List M4} {ss : List (Nat × Nat)} {x : Nat} {q : Nat × Nat} (h : q ∈ stepAll ms ss x) : ∃ m s, m ∈ ms ∧ s ∈ ss ∧ q = stepS m s x := by
  unfold stepAll at h
  obtain ⟨i, hi⟩ := List.getElem?_of_mem h
  rw [List.getElem?_zipWith] at hi
  cases hm : ms[i]? with
  | none => rw [hm] at hi; simp at hi
  | some m =>
    cases hs : ss[i]? with
    | none => rw [hm, hs] at hi; simp at hi
    | some s =>
      rw [hm, hs] at hi
      simp at hi
      exact ⟨m, s, List.mem_of_getElem? hm, List.mem_of_getElem? hs, hi.symm⟩
theorem next_num (T : Rat) (hT : 0 ≤ T) : 6 * T + 1025 * (3 * T + T / 1000 + 91 / 10) + 2 ≤ 3083 * T + 9400 := by grind
theorem bow_ok (ms : List M4) (hms : ∀ m ∈ ms, m.ok) (hl : ms.length ≤ 3) (x0 : Nat) (hx : Sm x0) (b0 : Flo.Ab (S x0) 9) : ∀ k, k ≤ 10 → BowOk ms x0 k
  | 0, _ => by
    have hz : Flo.Ab (S 0) ((tb 0 : Nat) : Rat) := by rw [zero_single.2]; constructor <;> simp [tb]
    refine ⟨fun s hs => ?_, zero_single.1, ?_⟩
    · simp only [bowSt, List.mem_map] at hs
      obtain ⟨m, -, rfl⟩ := hs
      exact ⟨⟨zero_single.1, hz⟩, zero_single.1, hz⟩
    · show Flo.Ab (S 0) _
      exact hz.mono (by simp [tb]; grind)
  | k + 1, hk => by
    have h := bow_ok ms hms hl x0 hx b0 k (by omega)
    obtain ⟨-, f1, f2⟩ := force_ok ms x0 k hx b0 (by omega) h
    have hT0 : (0 : Rat) ≤ tb k := by exact_mod_cast Nat.zero_le _
    have hT := tbR k (by omega)
    have hF := tfR k (by omega)
    have hnext : 6 * (tb k : Rat) + 1025 * (3 * (tb k : Rat) + (tb k : Rat) / 1000 + 91 / 10) + 2 ≤ ((tb (k + 1) : Nat) : Rat) := by
      have e : ((tb (k + 1) : Nat) : Rat) = 3083 * (tb k : Rat) + 9400 := by show ((3083 * tb k + 9400 : Nat) : Rat) = _; push_cast; rfl
      rw [e]; exact next_num _ hT0
    have hst : ∀ s ∈ (bowSt ms x0 (k + 1)).1, (Sm s.1 ∧ Flo.Ab (S s.1) (tb (k + 1))) ∧ (Sm s.2 ∧ Flo.Ab (S s.2) (tb (k + 1))) := by
      intro q hq
      obtain ⟨m, s, hm, hs, rfl⟩ := zip_mem (show q ∈ stepAll ms (bowSt ms x0 k).1 (bowF ms x0 k) from hq)
      obtain ⟨⟨s1, s2⟩, s3, s4⟩ := h.st s hs
      obtain ⟨-, g1, g2⟩ := gb_ok m (hms m hm)
      obtain ⟨-, a1, a2, a3, a4⟩ := step_grow m (hms m hm) s (bowF ms x0 k) s1 s3 f1 (tb k) _ s2 s4 f2 g1 g2 hT (by grind)
      exact ⟨⟨a1, a3.mono hnext⟩, a2, a4.mono hnext⟩
    have hT1 : (0 : Rat) ≤ tb (k + 1) := by exact_mod_cast Nat.zero_le _
    have hlen := bowSt_len ms x0 (k + 1)
    obtain ⟨v1, v2⟩ := sum_small (bowSt ms x0 (k + 1)).1 (tb (k + 1)) hT1 (tbR (k + 1) hk) (fun s hs => (hst s hs).1) (bowSt ms x0 (k + 1)).1.length (by omega) (Nat.le_refl _)
    rw [List.take_length] at v1 v2
    refine ⟨hst, v1, v2.mono ?_⟩
    have hl3 : (((bowSt ms x0 (k + 1)).1.length : Nat) : Rat) ≤ ((3 : Nat) : Rat) := by exact_mod_cast (by omega : (bowSt ms x0 (k + 1)).1.length ≤ 3)
    have hl3' : (((bowSt ms x0 (k + 1)).1.length : Nat) : Rat) ≤ 3 := hl3
    have hmul := Rat.mul_le_mul_of_nonneg_right hl3' hT1
    generalize (((bowSt ms x0 (k + 1)).1.length : Nat) : Rat) * (tb (k + 1) : Rat) = q at *
    grind

/-- EACH OF THE FIRST ELEVEN STEPS draws nothing and gives no NaN in a state. -/
theorem bow_step (ms : List M4) (hms : ∀ m ∈ ms, m.ok) (hl : ms.length ≤ 3) (x0 : Nat) (hx : Sm x0) (b0 : Flo.Ab (S x0) 9) (k : Nat) (hk : k ≤ 10) :
    ∀ (i : Nat) m s, ms[i]? = some m → (bowSt ms x0 k).1[i]? = some s → StepOk m s (bowF ms x0 k) := by
  intro i m s hm hs
  have h := bow_ok ms hms hl x0 hx b0 k hk
  obtain ⟨-, f1, -⟩ := force_ok ms x0 k hx b0 hk h
  obtain ⟨⟨s1, s2⟩, s3, s4⟩ := h.st s (List.mem_of_getElem? hs)
  exact step_wide m (hms m (List.mem_of_getElem? hm)) s _ s1 s3 f1 (tb k) s2 s4 (tbR k hk)
theorem bow_sum (ms : List M4) (hms : ∀ m ∈ ms, m.ok) (hl : ms.length ≤ 3) (x0 : Nat) (hx : Sm x0) (b0 : Flo.Ab (S x0) 9) (k : Nat) (hk : k < 10) : SumOk (bowSt ms x0 (k + 1)).1 := by
  intro i s hs
  have h := bow_ok ms hms hl x0 hx b0 (k + 1) (by omega)
  have hil := (List.getElem?_eq_some_iff.1 hs).1
  have hlen := bowSt_len ms x0 (k + 1)
  have hT1 : (0 : Rat) ≤ tb (k + 1) := by exact_mod_cast Nat.zero_le _
  obtain ⟨v1, -⟩ := sum_small (bowSt ms x0 (k + 1)).1 (tb (k + 1)) hT1 (tbR (k + 1) (by omega)) (fun s hs => (h.st s hs).1) i (by omega) (by omega)
  refine calm_add_num _ _ v1 ?_
  obtain ⟨t, m, j, hr⟩ := ((h.st s (List.mem_of_getElem? hs)).1).1
  rw [show FloatKind.f32.decode s.1 = _ from hr]; rfl
end Go.Proofs.Ytlhhcchncobmhaa

/- Plain facts on any numbers of single precision, NaN and infinities among them: widened, narrowed again, ordered; and on what sameFloat answers. No program stands in it.
   Conditions: those that each statement names. -/
namespace Go.Proofs.Ytlhhcchncobmhaa
set_option linter.unusedSimpArgs false
set_option linter.unusedVariables false
open Go

def nan32 (b : Nat) : Bool := (FloatKind.f32.decode b).isNaN
def nan64 (b : Nat) : Bool := (FloatKind.f64.decode b).isNaN

/-- are two numbers the same: NaN and NaN, zeros of one sign, or equal ones -/
def sameF (a b : Nat) : Bool :=
  if nan64 a || nan64 b then nan64 a && nan64 b
  else if (FloatKind.f64.format.order a 0 == some .eq) && (FloatKind.f64.format.order b 0 == some .eq) then
    (FloatKind.f64.format.order ((floatBits .quo .f64 4607182418800017408 a).getD 0) 0 == some .gt) == (FloatKind.f64.format.order ((floatBits .quo .f64 4607182418800017408 b).getD 0) 0 == some .gt)
  else FloatKind.f64.format.order a b == some .eq
theorem sameF_self (a : Nat) : sameF a a = true := by
  unfold sameF
  cases ha : nan64 a
  · have o1 := order_self .f64 a
    rw [show (FloatKind.f64.decode a).isNaN = false from ha] at o1
    simp only [Bool.or_self, Bool.false_eq_true, if_false, beq_self_eq_true]
    split
    · rfl
    · simpa using o1
  · simp
/-- the same but for the bits of NaN -/
theorem sameF_fab {a b : Nat} (h : fab .f64 a = fab .f64 b) : sameF a b = true := by
  cases ha : nan64 a
  · cases hb : nan64 b
    · rw [fab_some ha, fab_some hb] at h
      cases h
      exact sameF_self a
    · rw [fab_some ha, fab_none hb] at h; cases h
  · cases hb : nan64 b
    · rw [fab_none ha, fab_some hb] at h; cases h
    · unfold sameF; rw [ha, hb]; rfl

theorem wid_inf {b : Nat} {s : Bool} (h : Ieee.single.read b = .infinity s) : Ieee.double.read (wid b) = .infinity s := by
  unfold wid FloatKind.encode FloatKind.decode
  rw [show FloatKind.f32.format = Ieee.single from rfl, h]
  show Ieee.double.read (Ieee.double.word s Ieee.double.infRung) = _
  rw [Flo.read_word_inf, if_neg (by decide)]
theorem fcv_wide {b : Nat} (h : nan32 b = false) (w : World) : fcv w .f32 b .f64 = wid b := by
  cases hd : Ieee.single.read b with
  | number s m p => exact fcv_up ⟨s, m, p, hd⟩ w
  | infinity s =>
    have hd' : FloatKind.f32.decode b = .infinity s := hd
    unfold fcv wid
    rw [if_neg (by decide), hd']
  | nan s f =>
    have hd' : FloatKind.f32.decode b = .nan s f := hd
    unfold nan32 at h; rw [hd'] at h; cases h
theorem fcd_wide {b : Nat} (h : nan32 b = false) : fcd .f32 b .f64 = 0 := by
  cases hd : Ieee.single.read b with
  | number s m p => exact fcd_up ⟨s, m, p, hd⟩
  | infinity s =>
    have hd' : FloatKind.f32.decode b = .infinity s := hd
    unfold fcd
    rw [if_neg (by decide), hd']
  | nan s f =>
    have hd' : FloatKind.f32.decode b = .nan s f := hd
    unfold nan32 at h; rw [hd'] at h; cases h
theorem nan_wide {b : Nat} (h : nan32 b = true) (w : World) : nan64 (fcv w .f32 b .f64) = true := by
  unfold nan32 at h
  cases hd : FloatKind.f32.decode b with
  | number s m p => rw [hd] at h; cases h
  | infinity s => rw [hd] at h; cases h
  | nan s f =>
    unfold fcv
    rw [if_neg (by decide), hd]
    exact nan_conv _ _ _
theorem wid_nan {b : Nat} (h : nan32 b = false) : nan64 (wid b) = false := by
  unfold nan64
  cases hd : Ieee.single.read b with
  | number s m p =>
    obtain ⟨m', p', h1, -⟩ := wid_read hd
    rw [show FloatKind.f64.decode (wid b) = _ from h1]; rfl
  | infinity s => rw [show FloatKind.f64.decode (wid b) = _ from wid_inf hd]; rfl
  | nan s f => unfold nan32 at h; rw [show FloatKind.f32.decode b = _ from hd] at h; cases h
/-- what a number of single precision is, widened: none for NaN -/
def wA (b : Nat) : Option Nat := if nan32 b then none else some (wid b)
theorem fab_wide (b : Nat) (w : World) : fab .f64 (fcv w .f32 b .f64) = wA b := by
  unfold wA
  cases h : nan32 b
  · rw [fcv_wide h w, fab_some (wid_nan h)]; rfl
  · rw [fab_none (nan_wide h w)]; rfl

/-! ### order -/
theorem order_wide {a b : Nat} (ha : nan32 a = false) (hb : nan32 b = false) : FloatKind.f64.format.order (wid a) (wid b) = FloatKind.f32.format.order a b := by
  show Ieee.double.order (wid a) (wid b) = Ieee.single.order a b
  cases h1 : Ieee.single.read a with
  | nan s f => unfold nan32 at ha; rw [show FloatKind.f32.decode a = _ from h1] at ha; cases ha
  | infinity s =>
    have k1 := wid_inf h1
    cases h2 : Ieee.single.read b with
    | nan s f => unfold nan32 at hb; rw [show FloatKind.f32.decode b = _ from h2] at hb; cases hb
    | infinity t => unfold Ieee.Format.order; rw [k1, wid_inf h2, h1, h2]; try rfl
    | number t n j =>
      obtain ⟨m', p', k2, -⟩ := wid_read h2
      unfold Ieee.Format.order; rw [k1, k2, h1, h2]; try rfl
  | number s m i =>
    obtain ⟨m', p', k1, e1⟩ := wid_read h1
    cases h2 : Ieee.single.read b with
    | nan s f => unfold nan32 at hb; rw [show FloatKind.f32.decode b = _ from h2] at hb; cases hb
    | infinity t => unfold Ieee.Format.order; rw [k1, wid_inf h2, h1, h2]; try rfl
    | number t n j =>
      have sa : Sm a := ⟨_, _, _, h1⟩
      have sb : Sm b := ⟨_, _, _, h2⟩
      have o := Flo.order_num Ieee.single a b sa sb
      have O := Flo.order_num Ieee.double (wid a) (wid b) (wid_num sa).1 (wid_num sb).1
      have va : Flo.V Ieee.double (wid a) = Flo.V Ieee.single a := (wid_num sa).2
      have vb : Flo.V Ieee.double (wid b) = Flo.V Ieee.single b := (wid_num sb).2
      rw [va, vb] at O
      have hs : ∃ r, Ieee.single.order a b = some r := by unfold Ieee.Format.order; rw [h1, h2]; exact ⟨_, rfl⟩
      obtain ⟨r, hr⟩ := hs
      rw [hr]
      cases r
      · exact O.1.2 (o.1.1 hr)
      · exact O.2.1.2 (o.2.1.1 hr)
      · exact O.2.2.2 (o.2.2.1 hr)

end Go.Proofs.Ytlhhcchncobmhaa

/- Absolute values of single precision, by way of double precision: numbers of both precisions that stand for the same number, or infinity, that is not negative.
   Conditions: those that each statement names. -/
namespace Go.Proofs.Ytlhhcchncobmhaa
set_option linter.unusedSimpArgs false
set_option linter.unusedVariables false
open Go Go.RowKit

namespace Flo
open Ieee
/-- A number that the format has is written as it is: also the greatest ones. -/
theorem write_exact_top (f : Format) (he : 2 ≤ f.exponentBits) (s : Bool) (m : Nat) (p : Int) (k : Nat) (e : Int) (hk : (m : Rat) * pw p = (k : Rat) * pw e) (hk1 : k < 2 ^ (f.fractionBits + 1)) (hp : f.leastPlace ≤ e) (hB : e ≤ f.leastPlace + ((2 ^ f.exponentBits : Nat) - 3)) :
    ∃ m' p', f.read (f.write (.number s m p)) = .number s m' p' ∧ (m' : Rat) * pw p' = (m : Rat) * pw p := by
  have hw : f.write (.number s m p) = f.nearest s m p := rfl
  rw [hw]
  by_cases h : m = 0
  · subst h
    have : f.nearest s 0 p = f.word s 0 := by unfold Format.nearest; simp
    rw [this, zero_read]
    exact ⟨_, _, rfl, by simp⟩
  · obtain ⟨n1, n2⟩ := kept_near f s m p
    have hk0 : k ≠ 0 := by
      intro hk0; subst hk0
      have := (size_pw m p h).1
      have := pw_pos (p + m.log2)
      simp at hk
      grind
    have hlast : lastOf f m p ≤ e := by
      have a1 := (size_pw m p h).1
      have a2 := (size_pw k e hk0).2
      rw [← hk] at a2
      have a3 := lt_of_pw_lt (a := p + m.log2) (b := e + k.log2 + 1) (by grind)
      have a4 : k.log2 < f.fractionBits + 1 := by
        rw [Nat.log2_lt hk0]; exact hk1
      unfold lastOf; omega
    have hex : (keptOf f s m p : Rat) * pw (lastOf f m p) = (m : Rat) * pw p := by
      obtain ⟨d, hd⟩ := Int.le.dest hlast
      rw [hk, ← hd, Int.add_comm, pw_add, pw_nat] at n1 n2
      rw [hk, ← hd, Int.add_comm, pw_add, pw_nat]
      have hp := pw_pos (lastOf f m p)
      have q1 : keptOf f s m p ≤ k * 2 ^ d := le_nat_of _ _ (lastOf f m p) (by push_cast; grind)
      have q2 : k * 2 ^ d ≤ keptOf f s m p := le_nat_of _ _ (lastOf f m p) (by push_cast; grind)
      have q3 : keptOf f s m p = k * 2 ^ d := by omega
      rw [q3]; push_cast; grind
    have hkl : keptOf f s m p < 2 ^ (f.fractionBits + 1) := by
      rcases Nat.lt_or_ge (keptOf f s m p) (2 ^ (f.fractionBits + 1)) with h1 | h1
      · exact h1
      · exfalso
        have h2 : ((2 ^ (f.fractionBits + 1) : Nat) : Rat) ≤ (keptOf f s m p : Rat) := by exact_mod_cast h1
        rw [← pw_nat] at h2
        have h3 := Rat.mul_le_mul_of_nonneg_right h2 (Rat.le_of_lt (pw_pos (lastOf f m p)))
        rw [← pw_add, hex] at h3
        have h4 := (size_pw m p h).2
        have h5 : pw (p + m.log2 + 1) ≤ pw (((f.fractionBits + 1 : Nat) : Int) + lastOf f m p) := pw_le (by unfold lastOf; omega)
        grind
    have hr : rungOf f s m p < f.infRung := by
      have h4 : 4 ≤ 2 ^ f.exponentBits := by
        have := Nat.pow_le_pow_right (n := 2) (by omega) he
        simpa using this
      unfold rungOf Format.infRung
      have hb1 : 2 ^ (f.fractionBits + 1) = 2 * f.binade := by rw [Nat.pow_succ, Nat.mul_comm]; rfl
      have h5 : (lastOf f m p - f.leastPlace).toNat ≤ 2 ^ f.exponentBits - 3 := by omega
      have h6 := Nat.mul_le_mul_right f.binade h5
      have h7 : (2 ^ f.exponentBits - 1) * f.binade = (2 ^ f.exponentBits - 3) * f.binade + 2 * f.binade := by rw [← Nat.add_mul]; congr 1; omega
      have := bin_pos f
      omega
    obtain ⟨m', p', h1, h2, h3, h4⟩ := read_nearest f s m p h hr
    exact ⟨m', p', h1, by rw [h2]; exact hex⟩
end Flo

/-- p (single) and b (double) stand for one number or infinity, neither with a sign -/
def Tw (p b : Nat) : Prop :=
  (∃ m i n j, Ieee.single.read p = .number false m i ∧ Ieee.double.read b = .number false n j ∧ (m : Rat) * Flo.pw i = (n : Rat) * Flo.pw j) ∨
  (Ieee.single.read p = .infinity false ∧ Ieee.double.read b = .infinity false)
theorem Tw.nan {p b : Nat} (h : Tw p b) : nan32 p = false ∧ nan64 b = false := by
  unfold nan32 nan64
  rcases h with ⟨m, i, n, j, h1, h2, -⟩ | ⟨h1, h2⟩
  · rw [show FloatKind.f32.decode p = _ from h1, show FloatKind.f64.decode b = _ from h2]; exact ⟨rfl, rfl⟩
  · rw [show FloatKind.f32.decode p = _ from h1, show FloatKind.f64.decode b = _ from h2]; exact ⟨rfl, rfl⟩
theorem tw_zero : Tw 0 0 := .inl ⟨0, -149, 0, -1074, by decide, by decide, by simp⟩

theorem order_val {f g : Ieee.Format} {a b c d : Nat} (ha : Flo.IsNum f a) (hb : Flo.IsNum f b) (hc : Flo.IsNum g c) (hd : Flo.IsNum g d) (h1 : Flo.V f a = Flo.V g c) (h2 : Flo.V f b = Flo.V g d) : f.order a b = g.order c d := by
  have o := Flo.order_num f a b ha hb
  have O := Flo.order_num g c d hc hd
  rw [← h1, ← h2] at O
  have hs : ∃ r, f.order a b = some r := by
    obtain ⟨s, m, i, ha⟩ := ha
    obtain ⟨t, n, j, hb⟩ := hb
    unfold Ieee.Format.order; rw [ha, hb]; exact ⟨_, rfl⟩
  obtain ⟨r, hr⟩ := hs
  rw [hr]
  cases r
  · exact (O.1.2 (o.1.1 hr)).symm
  · exact (O.2.1.2 (o.2.1.1 hr)).symm
  · exact (O.2.2.2 (o.2.2.1 hr)).symm

theorem Tw.order {p b q c : Nat} (h : Tw p b) (k : Tw q c) : Ieee.double.order b c = Ieee.single.order p q := by
  rcases h with ⟨m, i, n, j, h1, h2, h3⟩ | ⟨h1, h2⟩
  · rcases k with ⟨m', i', n', j', k1, k2, k3⟩ | ⟨k1, k2⟩
    · refine order_val ⟨_, _, _, h2⟩ ⟨_, _, _, k2⟩ ⟨_, _, _, h1⟩ ⟨_, _, _, k1⟩ ?_ ?_
      · rw [Flo.V_eq h1, Flo.V_eq h2]; unfold Flo.val; simp only [Bool.false_eq_true, if_false]; rw [h3]
      · rw [Flo.V_eq k1, Flo.V_eq k2]; unfold Flo.val; simp only [Bool.false_eq_true, if_false]; rw [k3]
    · unfold Ieee.Format.order; rw [h1, h2, k1, k2]; try rfl
  · rcases k with ⟨m', i', n', j', k1, k2, k3⟩ | ⟨k1, k2⟩
    · unfold Ieee.Format.order; rw [h1, h2, k1, k2]; try rfl
    · unfold Ieee.Format.order; rw [h1, h2, k1, k2]; try rfl

/-- against a widened number -/
theorem Tw.order_wid {p b g : Nat} (h : Tw p b) (hg : nan32 g = false) : Ieee.double.order b (wid g) = Ieee.single.order p g := by
  cases hd : Ieee.single.read g with
  | nan s f => unfold nan32 at hg; rw [show FloatKind.f32.decode g = _ from hd] at hg; cases hg
  | infinity s =>
    have k := wid_inf hd
    rcases h with ⟨m, i, n, j, h1, h2, h3⟩ | ⟨h1, h2⟩
    · unfold Ieee.Format.order; rw [h1, h2, hd, k]; rfl
    · unfold Ieee.Format.order; rw [h1, h2, hd, k]; try rfl
  | number s m' i' =>
    obtain ⟨n', j', k, k3⟩ := wid_read hd
    rcases h with ⟨m, i, n, j, h1, h2, h3⟩ | ⟨h1, h2⟩
    · refine order_val ⟨_, _, _, h2⟩ ⟨_, _, _, k⟩ ⟨_, _, _, h1⟩ ⟨_, _, _, hd⟩ ?_ ?_
      · rw [Flo.V_eq h1, Flo.V_eq h2]; unfold Flo.val; simp only [Bool.false_eq_true, if_false]; rw [h3]
      · rw [Flo.V_eq hd, Flo.V_eq k]; unfold Flo.val; rw [k3]
    · unfold Ieee.Format.order; rw [h1, h2, hd, k]; rfl

/-- two of single precision that stand for the same one are the same, widened -/
theorem Tw.same {p q b : Nat} (h : Tw p b) (k : Tw q b) (w1 w2 : World) : sameF (fcv w1 .f32 p .f64) (fcv w2 .f32 q .f64) = true := by
  rw [fcv_wide h.nan.1, fcv_wide k.nan.1]
  unfold sameF
  rw [wid_nan h.nan.1, wid_nan k.nan.1]
  simp only [Bool.or_self, Bool.false_eq_true, if_false]
  rw [show FloatKind.f64.format = Ieee.double from rfl]
  rcases h with ⟨m, i, n, j, h1, h2, h3⟩ | ⟨h1, h2⟩
  · rcases k with ⟨m', i', n', j', k1, k2, k3⟩ | ⟨k1, k2⟩
    · rw [h2] at k2; cases k2
      obtain ⟨a, c, e1, e2⟩ := wid_read h1
      obtain ⟨a', c', e3, e4⟩ := wid_read k1
      have ev : Flo.V Ieee.double (wid p) = Flo.V Ieee.double (wid q) := by rw [Flo.V_eq e1, Flo.V_eq e3]; unfold Flo.val; rw [e2, e4, h3, k3]
      have eq : Ieee.double.order (wid p) (wid q) = some .eq := (Flo.order_num Ieee.double (wid p) (wid q) ⟨_, _, _, e1⟩ ⟨_, _, _, e3⟩).2.1.2 ev
      have e0 : Ieee.double.order (wid p) 0 = Ieee.double.order (wid q) 0 := order_val ⟨_, _, _, e1⟩ zero_num.1 ⟨_, _, _, e3⟩ zero_num.1 ev rfl
      split
      · rename_i hz
        simp only [Bool.and_eq_true, beq_iff_eq] at hz
        have z1 := (Flo.order_num Ieee.double (wid p) 0 ⟨_, _, _, e1⟩ zero_num.1).2.1.1 hz.1
        have z2 := (Flo.order_num Ieee.double (wid q) 0 ⟨_, _, _, e3⟩ zero_num.1).2.1.1 hz.2
        rw [show Flo.V Ieee.double 0 = 0 from zero_num.2] at z1 z2
        have q1 : ∀ x a c, Ieee.double.read x = .number false a c → Flo.V Ieee.double x = 0 → (floatBits .quo .f64 4607182418800017408 x).getD 0 = (floatBits .quo .f64 4607182418800017408 0).getD 0 := by
          intro x a c hx hv
          have ha : a = 0 := by
            rw [Flo.V_eq hx] at hv
            unfold Flo.val at hv
            simp only [Bool.false_eq_true, if_false] at hv
            rcases Nat.eq_zero_or_pos a with h0 | h0
            · exact h0
            · exfalso
              have h1 : (0 : Rat) < a := by exact_mod_cast h0
              have := Rat.mul_pos h1 (Flo.pw_pos c)
              grind
          subst ha
          have hz : Ieee.double.read 0 = .number false 0 (-1074) := by decide
          show ((Ieee.double.div 4607182418800017408 x).getD 0) = ((Ieee.double.div 4607182418800017408 0).getD 0)
          unfold Ieee.Format.div
          rw [hx, hz]
          cases hr : Ieee.double.read 4607182418800017408 with
          | nan s f => rfl
          | infinity s => rfl
          | number s m i => by_cases hm : m = 0 <;> simp [Ieee.Datum.quotient, hm]
        rw [q1 _ _ _ e1 z1, q1 _ _ _ e3 z2]
        simp
      · rw [eq]; rfl
    · rw [h2] at k2; cases k2
  · rcases k with ⟨m', i', n', j', k1, k2, k3⟩ | ⟨k1, k2⟩
    · rw [h2] at k2; cases k2
    · have e1 := wid_inf h1
      have e2 := wid_inf k1
      have hz : Ieee.double.read 0 = .number false 0 (-1074) := by decide
      have o1 : Ieee.double.order (wid p) 0 = some .gt := by unfold Ieee.Format.order; rw [e1, hz]; rfl
      have o2 : Ieee.double.order (wid p) (wid q) = some .eq := by unfold Ieee.Format.order; rw [e1, e2]; rfl
      rw [o1, o2]; rfl

/-- narrowed again -/
theorem tw_narrow {x z : Nat} {s : Bool} {m : Nat} {i : Int} (hx : Ieee.single.read x = .number s m i) {n : Nat} {j : Int} (hz : Ieee.double.read z = .number false n j) (he : (n : Rat) * Flo.pw j = (m : Rat) * Flo.pw i) (w : World) :
    Tw (fcv w .f64 z .f32) z ∧ fcd .f64 z .f32 = 0 := by
  obtain ⟨h1, h2, h3⟩ := single_bound hx
  have e1 : Ieee.single.leastPlace = -149 := by decide
  have e2 : (2 ^ Ieee.single.exponentBits : Nat) = 256 := by decide
  obtain ⟨m', p', w1, w4⟩ := Flo.write_exact_top Ieee.single (by decide) false n j m i he (Nat.lt_of_lt_of_le h1 (by decide)) (by omega) (by omega)
  have hd : FloatKind.f64.decode z = .number false n j := hz
  have hr : FloatKind.f32.decode (FloatKind.f32.encode (.number false n j)) = .number false m' p' := w1
  constructor
  · unfold fcv
    rw [if_neg (by decide), hd]
    simp only
    rw [hr]
    simp only [Ieee.Datum.isInfinity, Bool.false_eq_true, if_false]
    exact .inl ⟨m', p', n, j, w1, hz, w4⟩
  · unfold fcd
    rw [if_neg (by decide), hd]
    simp only
    rw [hr]
    simp [Ieee.Datum.isInfinity]
theorem tw_narrow_inf {z : Nat} (hz : Ieee.double.read z = .infinity false) (w : World) : Tw (fcv w .f64 z .f32) z ∧ fcd .f64 z .f32 = 0 := by
  have hd : FloatKind.f64.decode z = .infinity false := hz
  constructor
  · unfold fcv
    rw [if_neg (by decide), hd]
    refine .inr ⟨?_, hz⟩
    show Ieee.single.read (Ieee.single.word false Ieee.single.infRung) = _
    rw [Flo.read_word_inf, if_neg (by decide)]
  · unfold fcd
    rw [if_neg (by decide), hd]


/-! ### absolute values -/
theorem labs_read {z : Nat} (hz : z < 2 ^ 64) {s : Bool} {n : Nat} {j : Int} (h : Ieee.double.read z = .number s n j) : ∃ n' j', Ieee.double.read (labs z) = .number false n' j' ∧ (n' : Rat) * Flo.pw j' = (n : Rat) * Flo.pw j := by
  have o := Flo.order_num Ieee.double z 0 ⟨_, _, _, h⟩ zero_num.1
  rw [show Flo.V Ieee.double 0 = 0 from zero_num.2, Flo.V_eq h] at o
  have hp := Flo.pw_pos j
  have hn : (0 : Rat) ≤ n := by exact_mod_cast Nat.zero_le n
  have hnp := Rat.mul_nonneg hn (Rat.le_of_lt hp)
  unfold labs
  rw [show FloatKind.f64.format = Ieee.double from rfl]
  by_cases h1 : Ieee.double.order z 0 = some .lt
  · rw [if_pos h1]
    have hlt := o.1.1 h1
    have hs : s = true := by
      cases s with
      | true => rfl
      | false => exfalso; unfold Flo.val at hlt; simp only [Bool.false_eq_true, if_false] at hlt; grind
    subst hs
    exact ⟨n, j, neg_read z hz true n j h, rfl⟩
  · rw [if_neg h1]
    by_cases h2 : Ieee.double.order z 0 = some .eq
    · rw [if_pos h2]
      have hv := o.2.1.1 h2
      refine ⟨0, -1074, by decide, ?_⟩
      unfold Flo.val at hv
      cases s <;> simp at hv ⊢ <;> grind
    · rw [if_neg h2]
      have hs : s = false := by
        cases s with
        | false => rfl
        | true =>
          exfalso
          unfold Flo.val at o
          simp only [if_true] at o
          rcases Classical.em (-1 * ((n : Rat) * Flo.pw j) < 0) with h3 | h3
          · exact h1 (o.1.2 h3)
          · exact h2 (o.2.1.2 (by grind))
      subst hs
      exact ⟨n, j, h, rfl⟩
theorem neg_inf {z : Nat} (hz : z < 2 ^ 64) (h : Ieee.double.read z = .infinity true) : Ieee.double.read (Op.negFloat .f64 z) = .infinity false := by
  have hsw : Ieee.double.signWeight = 9223372036854775808 := by decide
  have hir : Ieee.double.infRung = 9218868437227405312 := by decide
  have hz2 : z = 18442240474082181120 := by
    unfold Ieee.Format.read at h
    rw [hsw, hir] at h
    simp only at h
    split at h
    · cases h
    · split at h
      · cases h
      · split at h
        · rename_i g
          have hs : (z / 9223372036854775808 % 2 == 1) = true := by injection h
          simp only [beq_iff_eq] at hs
          omega
        · cases h
  rw [hz2]
  decide
theorem labs_inf {z : Nat} (hz : z < 2 ^ 64) {s : Bool} (h : Ieee.double.read z = .infinity s) : Ieee.double.read (labs z) = .infinity false := by
  have h0 : Ieee.double.read 0 = .number false 0 (-1074) := by decide
  unfold labs
  rw [show FloatKind.f64.format = Ieee.double from rfl]
  cases s with
  | true =>
    have h1 : Ieee.double.order z 0 = some .lt := by unfold Ieee.Format.order; rw [h, h0]; rfl
    rw [if_pos h1]
    exact neg_inf hz h
  | false =>
    have h1 : Ieee.double.order z 0 = some .gt := by unfold Ieee.Format.order; rw [h, h0]; rfl
    rw [h1]
    exact h

/-- THE ABSOLUTE VALUE IN SINGLE PRECISION, AND THAT OF THE MODEL: both stand for the same -/
theorem tw_abs {x : Nat} (hx : nan32 x = false) (w : World) : Tw (fcv w .f64 (wid x % signBit) .f32) (labs (wid x)) ∧ fcd .f64 (wid x % signBit) .f32 = 0 := by
  have hm := mod_read (wid x)
  cases hd : Ieee.single.read x with
  | nan s f => unfold nan32 at hx; rw [show FloatKind.f32.decode x = _ from hd] at hx; cases hx
  | infinity s =>
    have hw := wid_inf hd
    rw [show FloatKind.f64.decode (wid x) = _ from hw] at hm
    have k := tw_narrow_inf hm w
    refine ⟨?_, k.2⟩
    rcases k.1 with ⟨m, i, n, j, h1, h2, h3⟩ | ⟨h1, h2⟩
    · rw [show Ieee.double.read (wid x % signBit) = _ from hm] at h2; cases h2
    · exact .inr ⟨h1, labs_inf (wid_lt x) hw⟩
  | number s m i =>
    obtain ⟨n, j, hw, he⟩ := wid_read hd
    rw [show FloatKind.f64.decode (wid x) = _ from hw] at hm
    have k := tw_narrow hd hm he w
    refine ⟨?_, k.2⟩
    obtain ⟨n', j', l1, l2⟩ := labs_read (wid_lt x) hw
    rcases k.1 with ⟨m1, i1, n1, j1, h1, h2, h3⟩ | ⟨h1, h2⟩
    · rw [show Ieee.double.read (wid x % signBit) = _ from hm] at h2
      cases h2
      exact .inl ⟨m1, i1, n', j', h1, l1, by rw [h3, l2]⟩
    · rw [show Ieee.double.read (wid x % signBit) = _ from hm] at h2; cases h2

end Go.Proofs.Ytlhhcchncobmhaa

/- Absolute values of single precision: the walk of absoluteSingle.
   Conditions: those that each statement names. -/
namespace Go.Proofs.Ytlhhcchncobmhaa
set_option linter.unusedSimpArgs false
set_option linter.unusedVariables false
open Go Go.RowKit

theorem implAbs_wide (x : Nat) (hx : nan32 x = false) (w : World) :
    Calls Try.prog 125 #[.float .f32 x] w fun e w' => (∃ p, e = .returned (.float .f32 p) ∧ Tw p (labs (wid x))) ∧ w = w' := by
  have a1 := fcv_wide hx
  have a2 := fcd_wide hx
  have a3 := fun w => (tw_abs hx w).2
  have a3 := a3 w
  have lt := wid_lt x
  go_enter Try.func125, Try.ntmps125
  go_wp2_with (go_at_call 101; refine (abs_any _ _ lt).mono ?_; rintro e w' ⟨rfl, rfl⟩)
  all_goals (go_ret; exact ⟨⟨_, rfl, (tw_abs hx _).1⟩, rfl⟩)
theorem nan_abs {z : Nat} (h : nan64 z = true) (w : World) : nan32 (fcv w .f64 (z % signBit) .f32) = true := by
  unfold nan64 at h
  have hm := mod_read z
  cases hd : FloatKind.f64.decode z with
  | number s m p => rw [hd] at h; cases h
  | infinity s => rw [hd] at h; cases h
  | nan s f =>
    rw [hd] at hm
    unfold fcv
    rw [if_neg (by decide), hm]
    exact nan_conv _ _ _
theorem nan_order {k : FloatKind} {z : Nat} (h : (k.decode z).isNaN = true) (b : Nat) : (k.format.order z b == some .gt) = false := by
  unfold Ieee.Format.order
  unfold FloatKind.decode at h
  cases hd : k.format.read z <;> rw [hd] at h <;> simp [Ieee.Datum.isNaN] at h
  simp [Ieee.Datum.order]
theorem nan_labs {z : Nat} (h : nan64 z = true) : labs z = z := by
  have h0 : FloatKind.f64.format.order z 0 = none := by
    unfold Ieee.Format.order
    unfold nan64 FloatKind.decode at h
    cases hd : FloatKind.f64.format.read z <;> rw [hd] at h <;> simp [Ieee.Datum.isNaN] at h
    simp [Ieee.Datum.order]
  unfold labs; rw [h0]; simp
theorem implAbs_nan (x : Nat) (hx : nan32 x = true) (h32 : x < 2 ^ 32) (w : World) :
    Calls Try.prog 125 #[.float .f32 x] w fun e w' => (∃ p, e = .returned (.float .f32 p) ∧ nan32 p = true) ∧ Nw w w' := by
  have lt := fun w => fcv_wf w .f32 x .f64 (show x < 2 ^ FloatKind.f32.format.width from h32)
  have hn := fun w => nan_wide hx w
  go_enter Try.func125, Try.ntmps125
  go_wp2_with (go_at_call 101; refine (abs_any _ _ (lt _)).mono ?_; rintro e w' ⟨rfl, rfl⟩)
  all_goals (go_ret; exact ⟨⟨_, rfl, nan_abs (hn _) _⟩, ⟨rfl, rfl, rfl, Nat.le_refl _, fun _ _ _ => rfl⟩⟩)

end Go.Proofs.Ytlhhcchncobmhaa

/- The walks of bowSticks and BowForce, for all numbers.
   Conditions: those that each statement names. -/
namespace Go.Proofs.Ytlhhcchncobmhaa
set_option linter.unusedSimpArgs false
set_option linter.unusedVariables false
open Go Go.RowKit

/-- does the bow stick? -/
def stickB (d g : Nat) : Bool := !nan32 g && (FloatKind.f64.format.order (labs (wid d)) (wid g) == some .lt || FloatKind.f64.format.order (labs (wid d)) (wid g) == some .eq)
/-- the force, but for the bits of NaN -/
def forceA (bow vel grip : Nat) : Option Nat :=
  match floatBits .sub .f32 bow vel with
  | some d => if stickB d grip then some d else fA .quo .f32 (fA .mul .f32 (fab .f32 grip) (fab .f32 grip)) (some d)
  | none => none
def BowP (bow vel grip : Nat) (w : World) (e : Ending) (w' : World) : Prop := ∃ r, e = .returned (.float .f32 r) ∧ fab .f32 r = forceA bow vel grip ∧ Nw w w'
def BowP2 (bow vel grip : Nat) (w : World) (e : Ending) (w' : World) : Prop := ∃ r b, e = .returned (.tuple #[.float .f32 r, .bool b]) ∧ fab .f32 r = forceA bow vel grip ∧ Nw w w'

theorem nan_right {k : FloatKind} {z : Nat} (h : (k.decode z).isNaN = true) (b : Nat) (o : Ordering) : (k.format.order b z == some o) = false := by
  unfold Ieee.Format.order
  unfold FloatKind.decode at h
  cases hd : k.format.read z <;> rw [hd] at h <;> simp [Ieee.Datum.isNaN] at h
  cases k.format.read b <;> simp [Ieee.Datum.order]
theorem nan_left {k : FloatKind} {z : Nat} (h : (k.decode z).isNaN = true) (b : Nat) (o : Ordering) : (k.format.order z b == some o) = false := by
  unfold Ieee.Format.order
  unfold FloatKind.decode at h
  cases hd : k.format.read z <;> rw [hd] at h <;> simp [Ieee.Datum.isNaN] at h
  simp [Ieee.Datum.order]

theorem sub_nan {bow vel : Nat} (h : floatBits .sub .f32 bow vel = none) (w : World) : nan32 (fres w .sub .f32 bow vel) = true := by
  unfold fres; rw [h]; exact nan_cut _ _ _ _
theorem fA_none_right (op : BinOp) (k : FloatKind) (a : Option Nat) : fA op k a none = none := by cases a <;> rfl

end Go.Proofs.Ytlhhcchncobmhaa

/- The walk of BowBody with the greatest grip, twelve steps of a valid body of at most three modes: the first eleven outputs are the same each time, but for the bits of NaN.
   Conditions: those that each statement names. -/
namespace Go.Proofs.Ytlhhcchncobmhaa
set_option linter.unusedSimpArgs false
set_option linter.unusedVariables false
open Go Go.RowKit

def gmax : Nat := 2139095039
theorem gmax_read : Ieee.single.read 2139095039 = .number false 16777215 104 := by decide
theorem stick_max (d : Nat) (h : Sm d) : stickB d 2139095039 = true := by
  obtain ⟨s, m, i, hd⟩ := h
  obtain ⟨h1, h2, h3⟩ := single_bound hd
  obtain ⟨n, j, hw, he⟩ := wid_read hd
  obtain ⟨n', j', l1, l2⟩ := labs_read (wid_lt d) hw
  obtain ⟨n2, j2, hw2, he2⟩ := wid_read gmax_read
  have o := Flo.order_num Ieee.double (labs (wid d)) (wid 2139095039) ⟨_, _, _, l1⟩ ⟨_, _, _, hw2⟩
  rw [Flo.V_eq l1, Flo.V_eq hw2] at o
  unfold Flo.val at o
  simp only [Bool.false_eq_true, if_false] at o
  have hp := Flo.pw_pos i
  have hle : (n' : Rat) * Flo.pw j' ≤ (n2 : Rat) * Flo.pw j2 := by
    rw [l2, he, he2]
    have hm : (m : Rat) ≤ ((16777215 : Nat) : Rat) := by exact_mod_cast (by omega : m ≤ 16777215)
    have hpw : Flo.pw i ≤ Flo.pw 104 := Flo.pw_le h3
    have q1 := Rat.mul_le_mul_of_nonneg_right hm (Rat.le_of_lt hp)
    have q2 := Rat.mul_le_mul_of_nonneg_left hpw (show (0 : Rat) ≤ ((16777215 : Nat) : Rat) by exact_mod_cast Nat.zero_le _)
    grind
  unfold stickB
  rw [show nan32 2139095039 = false from by decide, show FloatKind.f64.format = Ieee.double from rfl]
  by_cases e : (n' : Rat) * Flo.pw j' = (n2 : Rat) * Flo.pw j2
  · rw [o.2.1.2 (by rw [e])]; rfl
  · rw [o.1.2 (by grind)]; rfl

theorem fab_inj {k : FloatKind} {r y : Nat} (h : fab k r = some y) : r = y := by
  unfold fab at h
  split at h
  · cases h
  · injection h

/-- the eleventh output, but for the bits of NaN -/
def bowO (ms : List M4) (x0 : Nat) : Option Nat := outA (stepAll ms (bowSt ms x0 10).1 (bowF ms x0 10))
def BowS (ms : List M4) (x0 k n gs bs : Nat) (w : World) (e : Ending) (w' : World) : Prop :=
  ∃ (y : Nat) (sr : List (Nat × Nat)), e = .returned (.float .f32 y) ∧ sr.length = n ∧ w'.ownsRow bs 59 1 (.slice (some ⟨gs, 0, none⟩) n n) n (cellsC sr) ∧ w.grownBy w' (some gs) ∧
    (k < 10 → y = (bowSt ms x0 (k + 1)).2 ∧ sr = (bowSt ms x0 (k + 1)).1) ∧ (k = 10 → fab .f32 y = bowO ms x0)
theorem bow_steps (ms : List M4) (hms : ∀ m ∈ ms, m.ok) (hl : ms.length ≤ 3) (x0 : Nat) (hx : Sm x0) (b0 : Flo.Ab (S x0) 9) (k r : Nat) (hr : k ≤ 10 → r = bowF ms x0 k) (ss : List (Nat × Nat)) (n gs bs bm : Nat) (v : Value) (hn : ms.length = n) (hss : ss.length = n)
    (hk : k ≤ 10 → ss = (bowSt ms x0 k).1) (w : World)
    (hm : w.ownsRow bm 61 2 v n (cellsM ms)) (hs : w.ownsRow bs 59 1 (.slice (some ⟨gs, 0, none⟩) n n) n (cellsC ss)) (hne : v.ownBlock ≠ some gs) :
    Calls Try.prog 59 #[v, .slice (some ⟨gs, 0, none⟩) n n, .float .f32 r] w (BowS ms x0 k n gs bs w) := by
  have hla : ∀ x, (stepAll ms ss x).length = n := fun x => by simp [stepAll, hn, hss]
  by_cases h1 : k < 10
  · have e1 := hr (by omega)
    have e2 := hk (by omega)
    subst e1; subst e2
    refine (stepStates_ok ms hms _ _ n gs bs bm v hn hss (by omega) w hm hs hne (bow_step ms hms hl x0 hx b0 k (by omega)) (bow_sum ms hms hl x0 hx b0 k h1)).mono ?_
    rintro e w' ⟨rfl, h2, h3⟩
    exact ⟨_, _, rfl, hla _, h2, h3, fun _ => ⟨rfl, rfl⟩, fun h => by omega⟩
  · by_cases h10 : k = 10
    · subst h10
      have e1 := hr (by omega)
      have e2 := hk (by omega)
      subst e1; subst e2
      refine (stepStates_fab ms hms _ _ n gs bs bm v hn hss (by omega) w hm hs hne (bow_step ms hms hl x0 hx b0 10 (by omega))).mono ?_
      rintro e w' ⟨⟨y, rfl, hy⟩, h2, h3⟩
      exact ⟨_, _, rfl, hla _, h2, h3, fun h => by omega, fun _ => hy⟩
    · refine (stepStates_any ms ss r n gs bs bm v hn hss (by omega) w hm hs hne).mono ?_
      rintro e w' ⟨y, rfl, sr, h1', h2, h3⟩
      exact ⟨_, _, rfl, h1', h2, h3, fun h => by omega, fun h => by omega⟩

/-- what is known of the outputs after k steps -/
def BowY (ms : List M4) (x0 k : Nat) (ys : List Nat) : Prop :=
  ys.length = 12 ∧ (∀ j, j < k → j < 10 → ys[j]? = some (bowSt ms x0 (j + 1)).2) ∧ (10 < k → ∃ y, ys[10]? = some y ∧ fab .f32 y = bowO ms x0)
theorem bowY_next {ms : List M4} {x0 k y : Nat} {ys : List Nat} (h : BowY ms x0 k ys) (hk : k < 12) (h1 : k < 10 → y = (bowSt ms x0 (k + 1)).2) (h2 : k = 10 → fab .f32 y = bowO ms x0) : BowY ms x0 (k + 1) (ys.set k y) := by
  obtain ⟨a, b, c⟩ := h
  refine ⟨by rw [List.length_set]; exact a, fun j hj hj10 => ?_, fun h10 => ?_⟩
  · by_cases e : j = k
    · subst e
      rw [List.getElem?_set_self (by omega), h1 hj10]
    · rw [List.getElem?_set_ne (fun x => e x.symm)]
      exact b j (by omega) hj10
  · by_cases e : k = 10
    · subst e
      exact ⟨y, List.getElem?_set_self (by omega), h2 rfl⟩
    · rw [List.getElem?_set_ne e]
      exact c (by omega)

def BowI (bb gs gu q : Nat) (ms : List M4) (x0 : Nat) (bv : Value) (w : World) (vel i : Value) (wr : World) : Prop :=
  ∃ (k b : Nat) (ss : List (Nat × Nat)) (ys : List Nat), k ≤ 12 ∧ i = .int .i64 (k : Int) ∧ vel = .float .f32 b ∧ (k ≤ 10 → b = (bowSt ms x0 k).2) ∧ (k ≤ 10 → ss = (bowSt ms x0 k).1) ∧ ss.length = q ∧
    wr.ownsRow w.heap.size 59 1 (.slice (some ⟨gs, 0, none⟩) q q) q (cellsC ss) ∧ wr.ownsRow w.heap.size 31 1 (.slice (some ⟨gu, 0, none⟩) 12 12) 12 (cellsS ys) ∧ BowY ms x0 k ys ∧ Has1 wr bb bv ∧ Nw w wr
def BowBP (ms : List M4) (x0 : Nat) (w : World) (e : Ending) (w' : World) : Prop :=
  ∃ (g : Nat) (ys : List Nat), e = .returned (.tuple #[.slice (some ⟨g, 0, none⟩) 12 12, .bool true]) ∧ w'.ownsRow w.heap.size 31 1 (.slice (some ⟨g, 0, none⟩) 12 12) 12 (cellsS ys) ∧ BowY ms x0 12 ys ∧ Nw w w'

end Go.Proofs.Ytlhhcchncobmhaa

/- A small number less any number of single precision is a number of single precision.
   Conditions: those that each statement names. -/
namespace Go.Proofs.Ytlhhcchncobmhaa
set_option linter.unusedSimpArgs false
set_option linter.unusedVariables false
open Go Go.RowKit

def mx : Nat := 340282346638528859811704183484516925449
theorem mx_kept : Flo.keptOf Ieee.single false mx 0 = 16777215 ∧ Flo.lastOf Ieee.single mx 0 = 104 := by decide +kernel
theorem mx_eq : ((mx : Nat) : Rat) = 9 + 16777215 * Flo.pw 104 := by
  rw [show Flo.pw 104 = ((2 ^ 104 : Nat) : Rat) from Flo.pw_nat 104]
  have : mx = 9 + 16777215 * 2 ^ 104 := by decide
  rw [this]; push_cast; grind
theorem fit_write (q : Bool) (k : Nat) (e : Int) (h : (k : Rat) * Flo.pw e ≤ ((mx : Nat) : Rat)) : Sm (Ieee.single.write (.number q k e)) := by
  have hw : Ieee.single.write (.number q k e) = Ieee.single.nearest q k e := rfl
  rw [hw]
  by_cases h0 : k = 0
  · subst h0
    have : Ieee.single.nearest q 0 e = Ieee.single.word q 0 := by unfold Ieee.Format.nearest; simp
    rw [this]
    exact ⟨_, _, _, Flo.zero_read _ _⟩
  · have hm0 : (mx : Nat) ≠ 0 := by decide
    have hmono := Flo.kept_mono Ieee.single q false k mx e 0 h0 hm0 (by rw [Flo.pw_zero]; grind)
    rw [mx_kept.1, mx_kept.2] at hmono
    have hlast : Flo.lastOf Ieee.single k e ≤ 104 := by
      have z1 := (Flo.size_pw k e h0).1
      have z2 : ((mx : Nat) : Rat) < Flo.pw 128 := by
        rw [show Flo.pw 128 = ((2 ^ 128 : Nat) : Rat) from Flo.pw_nat 128]
        exact_mod_cast (by decide : mx < 2 ^ 128)
      have z3 : e + (k.log2 : Int) < 128 := Flo.lt_of_pw_lt (by grind)
      have e1 : Ieee.single.leastPlace = -149 := by decide
      have e2 : Ieee.single.fractionBits = 23 := rfl
      unfold Flo.lastOf
      omega
    have hb : Ieee.single.binade = 8388608 := by decide
    have hi : Ieee.single.infRung = 255 * 8388608 := by decide
    have e1 : Ieee.single.leastPlace = -149 := by decide
    have hkl := Flo.kept_le Ieee.single q k e h0
    have hr : Flo.rungOf Ieee.single q k e < Ieee.single.infRung := by
      have hcase : Flo.lastOf Ieee.single k e = 104 → Flo.keptOf Ieee.single q k e ≤ 16777215 := by
        intro hl
        rw [hl] at hmono
        refine Flo.le_nat_of _ _ 104 ?_
        have := Flo.pw_pos 104
        grind
      have hkl' : Flo.keptOf Ieee.single q k e ≤ 16777216 := hkl
      unfold Flo.rungOf
      rw [hb, hi, e1]
      generalize Flo.lastOf Ieee.single k e = l at *
      generalize Flo.keptOf Ieee.single q k e = c at *
      by_cases hl : l = 104
      · have := hcase hl
        subst hl
        show (104 - -149 : Int).toNat * 8388608 + c < 255 * 8388608
        have e : (104 - -149 : Int).toNat = 253 := by decide
        rw [e]; omega
      · have hl2 : (l - -149).toNat ≤ 252 := by omega
        have := Nat.mul_le_mul_right 8388608 hl2
        omega
    obtain ⟨m', p', h1, -, -, -⟩ := Flo.read_nearest Ieee.single q k e h0 hr
    exact ⟨_, _, _, h1⟩
theorem fit_sub (x b : Nat) (hx : Sm x) (hb : Sm b) (h8 : Flo.Ab (S x) 9) : Calm .sub .f32 x b ∧ Sm (opB .sub .f32 x b) := by
  obtain ⟨s, m, i, hx⟩ := hx
  obtain ⟨t, n, j, hb⟩ := hb
  obtain ⟨n1, n2, n3⟩ := single_bound hb
  obtain ⟨q, k, e, h1, h2⟩ := Flo.sum_val s (!t) m n i j
  rw [show S x = Flo.val s m i from Flo.V_eq hx] at h8
  have hs : floatBits .sub .f32 x b = some (Ieee.single.write (.number q k e)) := by
    show Ieee.single.sub x b = _
    unfold Ieee.Format.sub
    rw [hx, hb]
    show (Ieee.Datum.sum (.number s m i) (.number (!t) n j)).map _ = _
    rw [h1]; rfl
  have hn : (n : Rat) * Flo.pw j ≤ 16777215 * Flo.pw 104 := by
    have hm : (n : Rat) ≤ ((16777215 : Nat) : Rat) := by exact_mod_cast (by omega : n ≤ 16777215)
    have hm' : (n : Rat) ≤ 16777215 := hm
    have q1 := Rat.mul_le_mul_of_nonneg_right hm' (Rat.le_of_lt (Flo.pw_pos j))
    have q2 := Rat.mul_le_mul_of_nonneg_left (Flo.pw_le n3) (show (0 : Rat) ≤ 16777215 by grind)
    grind
  have hk : (k : Rat) * Flo.pw e ≤ ((mx : Nat) : Rat) := by
    rw [mx_eq]
    have hp := Flo.mag_nonneg n j
    unfold Flo.val at h2 h8
    unfold Flo.Ab at h8
    generalize (n : Rat) * Flo.pw j = N at *
    generalize (k : Rat) * Flo.pw e = K at *
    generalize (m : Rat) * Flo.pw i = M at *
    cases q <;> cases t <;> cases s <;> simp at h2 h8 <;> grind
  obtain ⟨c, eq⟩ := Calm.of hs
  rw [eq]
  exact ⟨c, fit_write q k e hk⟩
end Go.Proofs.Ytlhhcchncobmhaa

/- Plain facts: a number of single precision with its sign turned.
   Conditions: those that each statement names. No program stands in it. -/
namespace Go.Proofs.Ytlhhcchncobmhaa
set_option linter.unusedSimpArgs false
set_option linter.unusedVariables false
open Go

abbrev ng (b : Nat) : Nat := Op.negFloat .f32 b
theorem ng_eq (b : Nat) : ng b = b ^^^ 2 ^ 31 := rfl
theorem ng_ng (b : Nat) : ng (ng b) = b := by rw [ng_eq, ng_eq, Nat.xor_assoc, Nat.xor_self, Nat.xor_zero]
theorem ng_mod (b : Nat) : ng b % 2 ^ 31 = b % 2 ^ 31 := by
  rw [ng_eq, Nat.xor_mod_two_pow]
  simp
theorem ng_bit (b : Nat) : (ng b / 2 ^ 31 % 2 == 1) = !(b / 2 ^ 31 % 2 == 1) := by
  have h1 := Nat.testBit_xor b (2 ^ 31) 31
  have h2 : (2 ^ 31 : Nat).testBit 31 = true := by decide
  rw [h2] at h1
  rw [Nat.testBit_eq_decide_div_mod_eq, Nat.testBit_eq_decide_div_mod_eq] at h1
  rw [ng_eq]
  have e : ∀ z : Nat, (z == 1) = decide (z = 1) := fun z => by by_cases hz : z = 1 <;> simp [hz]
  rw [e, e, h1]
  cases decide (b / 2 ^ 31 % 2 = 1) <;> rfl
theorem ng_read (b : Nat) {s : Bool} {m : Nat} {p : Int} (h : Ieee.single.read b = .number s m p) : Ieee.single.read (ng b) = .number (!s) m p := by
  have hsw : Ieee.single.signWeight = 2 ^ 31 := rfl
  unfold Ieee.Format.read at h ⊢
  rw [hsw] at h ⊢
  simp only [ng_mod, ng_bit] at h ⊢
  split at h
  · rename_i g; cases h; rw [if_pos g]
  · rename_i g
    split at h
    · rename_i g2; cases h; rw [if_neg g, if_pos g2]
    · split at h <;> cases h
theorem ng_val {b : Nat} (h : Sm b) : Sm (ng b) ∧ S (ng b) = - S b := by
  obtain ⟨s, m, p, h⟩ := h
  refine ⟨⟨_, _, _, ng_read b h⟩, ?_⟩
  rw [show S (ng b) = Flo.val (!s) m p from Flo.V_eq (ng_read b h), show S b = Flo.val s m p from Flo.V_eq h]
  unfold Flo.val
  cases s <;> simp <;> grind
end Go.Proofs.Ytlhhcchncobmhaa

/- Rounding does not look at the sign: differences, quotients and forces of opposite numbers are opposite.
   Conditions: those that each statement names. -/
namespace Go.Proofs.Ytlhhcchncobmhaa
set_option linter.unusedSimpArgs false
set_option linter.unusedVariables false
open Go Go.RowKit

theorem ng_word (s : Bool) (r : Nat) (h : r < 2 ^ 31) : ng (Ieee.single.word s r) = Ieee.single.word (!s) r := by
  have hsw : Ieee.single.signWeight = 2 ^ 31 := rfl
  have key : ng r = 2 ^ 31 + r := by
    have e1 := ng_mod r
    have e2 := ng_bit r
    have hlt : ng r < 2 ^ 32 := by rw [ng_eq]; exact Nat.xor_lt_two_pow (by omega) (by decide)
    rw [Nat.mod_eq_of_lt h] at e1
    rw [Nat.div_eq_of_lt h] at e2
    have e3 : ng r / 2 ^ 31 % 2 = 1 := by simpa using e2
    omega
  unfold Ieee.Format.word
  rw [hsw]
  cases s with
  | false => simpa using key
  | true =>
    simp only [Bool.not_true, if_true, Bool.false_eq_true, if_false]
    rw [← key, ng_ng]
theorem write_ng (s : Bool) (m : Nat) (p : Int) (h : m ≠ 0) : Ieee.single.write (.number (!s) m p) = ng (Ieee.single.write (.number s m p)) := by
  show Ieee.single.nearest (!s) m p = ng (Ieee.single.nearest s m p)
  have hk : Flo.rungOf Ieee.single (!s) m p = Flo.rungOf Ieee.single s m p := rfl
  have hi : Ieee.single.infRung < 2 ^ 31 := by decide
  rw [Flo.nearest_eq _ _ _ _ h, Flo.nearest_eq _ _ _ _ h, hk, ng_word _ _ (by omega)]

/-- the difference of the opposite numbers -/
theorem sub_ng (x y : Nat) (hx : Sm x) (hy : Sm y) : ∃ q q2 K e, floatBits .sub .f32 x y = some (Ieee.single.write (.number q K e)) ∧ floatBits .sub .f32 (ng x) (ng y) = some (Ieee.single.write (.number q2 K e)) ∧ (K ≠ 0 → q2 = !q) := by
  obtain ⟨s, m, i, hx⟩ := hx
  obtain ⟨t, n, j, hy⟩ := hy
  have hs : ∀ (s : Bool) (m k : Nat), Ieee.signed (!s) m k = - Ieee.signed s m k := by
    intro s m k; unfold Ieee.signed; cases s <;> simp
  have h1 : floatBits .sub .f32 x y = (Ieee.Datum.sum (.number s m i) (.number (!t) n j)).map Ieee.single.write := by
    show Ieee.single.sub x y = _
    unfold Ieee.Format.sub
    rw [hx, hy]; rfl
  have h2 : floatBits .sub .f32 (ng x) (ng y) = (Ieee.Datum.sum (.number (!s) m i) (.number (!(!t)) n j)).map Ieee.single.write := by
    show Ieee.single.sub (ng x) (ng y) = _
    unfold Ieee.Format.sub
    rw [ng_read x hx, ng_read y hy]; rfl
  rw [h1, h2]
  obtain ⟨T, hT⟩ : ∃ T : Int, T = Ieee.signed s m (i - min i j).toNat + Ieee.signed (!t) n (j - min i j).toNat := ⟨_, rfl⟩
  have hT2 : Ieee.signed (!s) m (i - min i j).toNat + Ieee.signed (!(!t)) n (j - min i j).toNat = -T := by rw [hs s, hs (!t), hT]; omega
  have e1 : Ieee.Datum.sum (.number s m i) (.number (!t) n j) = some (.number (if T = 0 then s && !t else decide (T < 0)) T.natAbs (min i j)) := by rw [hT]; rfl
  have e2 : Ieee.Datum.sum (.number (!s) m i) (.number (!(!t)) n j) = some (.number (if -T = 0 then (!s) && !(!t) else decide (-T < 0)) (-T).natAbs (min i j)) := by rw [← hT2]; rfl
  rw [e1, e2, Int.natAbs_neg]
  refine ⟨_, _, _, _, rfl, rfl, fun hK => ?_⟩
  have h0 : T ≠ 0 := fun e => hK (by rw [e]; rfl)
  rw [if_neg h0, if_neg (by omega)]
  by_cases hn : T < 0
  · rw [decide_eq_true hn, decide_eq_false (by omega)]; rfl
  · rw [decide_eq_false hn, decide_eq_true (by omega)]; rfl

/-- A difference and that of the opposite numbers: opposite words, or both are zeros. -/
theorem sub_two (x y : Nat) (hx : Sm x) (hy : Sm y) (h8 : Flo.Ab (S x) 9) : ∃ D D2, floatBits .sub .f32 x y = some D ∧ floatBits .sub .f32 (ng x) (ng y) = some D2 ∧ Sm D ∧ Sm D2 ∧ S D2 = - S D ∧ (S D ≠ 0 → D2 = ng D) := by
  obtain ⟨q, q2, K, e, h1, h2, h3⟩ := sub_ng x y hx hy
  obtain ⟨c, hs⟩ := fit_sub x y hx hy h8
  have hD : opB .sub .f32 x y = Ieee.single.write (.number q K e) := by unfold opB; rw [h1]; rfl
  rw [hD] at hs
  refine ⟨_, _, h1, h2, hs, ?_⟩
  by_cases hK : K = 0
  · subst hK
    have hz : ∀ b, Ieee.single.read (Ieee.single.write (.number b 0 e)) = .number b 0 (-149) := by
      intro b
      show Ieee.single.read (Ieee.single.nearest b 0 e) = _
      have : Ieee.single.nearest b 0 e = Ieee.single.word b 0 := by unfold Ieee.Format.nearest; simp
      rw [this, Flo.zero_read]; rfl
    have hv : ∀ b, S (Ieee.single.write (.number b 0 e)) = 0 := by
      intro b
      rw [show S (Ieee.single.write (.number b 0 e)) = Flo.val b 0 (-149) from Flo.V_eq (hz b)]
      unfold Flo.val; cases b <;> simp
    refine ⟨⟨_, _, _, hz q2⟩, by rw [hv, hv]; grind, fun h => absurd (hv q) h⟩
  · have e2 := h3 hK
    subst e2
    rw [write_ng q K e hK]
    obtain ⟨a, b⟩ := ng_val hs
    exact ⟨a, b, fun _ => rfl⟩

/-- the stick's test by values -/
theorem le32_iff {a b : Nat} (ha : Sm a) (hb : Sm b) : (FloatKind.f32.format.order a b == some .lt || FloatKind.f32.format.order a b == some .eq) = true ↔ S a ≤ S b := by
  rw [show FloatKind.f32.format = Ieee.single from rfl, Bool.or_eq_true, beq_iff_eq, beq_iff_eq]
  have o := Flo.order_num Ieee.single a b ha hb
  constructor
  · rintro (h | h)
    · have := o.1.1 h; exact Rat.le_of_lt this
    · have := o.2.1.1 h; show Flo.V Ieee.single a ≤ Flo.V Ieee.single b; rw [this]; exact Rat.le_refl
  · intro h
    by_cases e : S a = S b
    · exact .inr (o.2.1.2 e)
    · exact .inl (o.1.2 (by show S a < S b; grind))
theorem stick_iff {d g : Nat} (hd : Sm d) (hg : Sm g) : stickB d g = true ↔ ra (S d) ≤ S g := by
  obtain ⟨s, m, i, h⟩ := hd
  obtain ⟨n, j, hw, he⟩ := wid_read h
  obtain ⟨n', j', l1, l2⟩ := labs_read (wid_lt d) hw
  obtain ⟨g1, g2⟩ := wid_num hg
  have hv : Flo.V Ieee.double (labs (wid d)) = ra (S d) := by
    rw [Flo.V_eq l1, show S d = Flo.val s m i from Flo.V_eq h, Flo.val_ra, ← he, ← l2]
    unfold Flo.val; simp
  have o := Flo.order_num Ieee.double (labs (wid d)) (wid g) ⟨_, _, _, l1⟩ g1
  rw [hv, show Flo.V Ieee.double (wid g) = S g from g2] at o
  unfold stickB
  rw [show nan32 g = false from (by obtain ⟨t, k, l, hr⟩ := hg; unfold nan32; rw [show FloatKind.f32.decode g = _ from hr]; rfl), show FloatKind.f64.format = Ieee.double from rfl]
  simp only [Bool.not_false, Bool.true_and, Bool.or_eq_true, beq_iff_eq]
  constructor
  · rintro (h | h)
    · exact Rat.le_of_lt (o.1.1 h)
    · rw [o.2.1.1 h]; exact Rat.le_refl
  · intro h
    by_cases e : ra (S d) = S g
    · exact .inr (o.2.1.2 e)
    · exact .inl (o.1.2 (by grind))

/-! ### the force -/
/-- what a written number reads as -/
theorem write_read (s : Bool) (M : Nat) (p : Int) : (∃ k l, Ieee.single.read (Ieee.single.write (.number s M p)) = .number s k l) ∨ Ieee.single.read (Ieee.single.write (.number s M p)) = .infinity s := by
  show (∃ k l, Ieee.single.read (Ieee.single.nearest s M p) = _) ∨ Ieee.single.read (Ieee.single.nearest s M p) = _
  by_cases h : M = 0
  · subst h
    have : Ieee.single.nearest s 0 p = Ieee.single.word s 0 := by unfold Ieee.Format.nearest; simp
    rw [this, Flo.zero_read]
    exact .inl ⟨_, _, rfl⟩
  · by_cases hr : Flo.rungOf Ieee.single s M p < Ieee.single.infRung
    · obtain ⟨k, l, h1, -⟩ := Flo.read_nearest Ieee.single s M p h hr
      exact .inl ⟨_, _, h1⟩
    · right
      rw [Flo.nearest_eq _ _ _ _ h, Nat.min_eq_right (by omega)]
      exact Flo.read_word_inf Ieee.single s
theorem ran (q : Rat) : ra (-q) = ra q := by unfold ra; split <;> split <;> grind
theorem raz : ra 0 = 0 := by unfold ra; simp
theorem order_same {b : Nat} {s : Bool} (h : (∃ k l, Ieee.single.read b = .number s k l) ∨ Ieee.single.read b = .infinity s) : (FloatKind.f32.format.order b b == some .eq) = true := by
  rw [show FloatKind.f32.format = Ieee.single from rfl, beq_iff_eq]
  rcases h with ⟨k, l, h⟩ | h
  · exact (Flo.order_num Ieee.single b b ⟨_, _, _, h⟩ ⟨_, _, _, h⟩).2.1.2 rfl
  · unfold Ieee.Format.order; rw [h]; cases s <;> rfl
theorem order_pos {b : Nat} (h : (∃ k l, Ieee.single.read b = .number false k l) ∨ Ieee.single.read b = .infinity false) : (FloatKind.f32.format.order b 0 == some .lt) = false := by
  rw [show FloatKind.f32.format = Ieee.single from rfl]
  have hz : Ieee.single.read 0 = .number false 0 (-149) := by decide
  rcases h with ⟨k, l, h⟩ | h
  · have o := (Flo.order_num Ieee.single b 0 ⟨_, _, _, h⟩ ⟨_, _, _, hz⟩).1
    cases hc : (Ieee.single.order b 0 == some .lt)
    · rfl
    · rw [beq_iff_eq] at hc
      have hlt := o.1 hc
      rw [Flo.V_eq h, Flo.V_eq hz] at hlt
      have hn := Flo.mag_nonneg k l
      unfold Flo.val at hlt
      simp at hlt
      grind
  · unfold Ieee.Format.order; rw [h, hz]; rfl

theorem force_two (x y g : Nat) (hx : Sm x) (hy : Sm y) (h8 : Flo.Ab (S x) 9) (hg : Sm g) (g0 : 0 ≤ S g) (g8 : Flo.Ab (S g) 9) :
    ∃ D r1 r2, floatBits .sub .f32 x y = some D ∧ Sm D ∧ forceA x y g = some r1 ∧ forceA (ng x) (ng y) g = some r2 ∧ (FloatKind.f32.format.order r1 (ng r2) == some .eq) = true ∧
      ((((FloatKind.f32.format.order D g == some .lt || FloatKind.f32.format.order D g == some .eq) && (FloatKind.f32.format.order (ng D) g == some .lt || FloatKind.f32.format.order (ng D) g == some .eq)) = true ∧ (FloatKind.f32.format.order r1 D == some .eq) = true) ∨
       (((FloatKind.f32.format.order D g == some .lt || FloatKind.f32.format.order D g == some .eq) && (FloatKind.f32.format.order (ng D) g == some .lt || FloatKind.f32.format.order (ng D) g == some .eq)) = false ∧ ∃ P, floatBits .mul .f32 r1 D = some P ∧ (FloatKind.f32.format.order P 0 == some .lt) = false)) := by
  obtain ⟨D, D2, h1, h2, hD, hD2, hS, hn⟩ := sub_two x y hx hy h8
  obtain ⟨nD, nS⟩ := ng_val hD
  have hB : ((FloatKind.f32.format.order D g == some .lt || FloatKind.f32.format.order D g == some .eq) && (FloatKind.f32.format.order (ng D) g == some .lt || FloatKind.f32.format.order (ng D) g == some .eq)) = true ↔ ra (S D) ≤ S g := by
    rw [Bool.and_eq_true, le32_iff hD hg, le32_iff nD hg, nS]
    constructor
    · rintro ⟨a, b⟩; exact ra_le ⟨by grind, a⟩
    · intro h; have := ra_ab (S D); exact ⟨by have := this.2; grind, by have := this.1; grind⟩
  by_cases hst : ra (S D) ≤ S g
  · have s1 := (stick_iff hD hg).2 hst
    have s2 := (stick_iff hD2 hg).2 (by rw [hS]; have : ra (-S D) = ra (S D) := ran _; rw [this]; exact hst)
    obtain ⟨nD2, nS2⟩ := ng_val hD2
    refine ⟨D, D, D2, h1, hD, by unfold forceA; rw [h1]; simp only [s1, if_true], by unfold forceA; rw [h2]; simp only [s2, if_true], ?_, .inl ⟨hB.2 hst, ?_⟩⟩
    · rw [show FloatKind.f32.format = Ieee.single from rfl, beq_iff_eq]
      exact (Flo.order_num Ieee.single D (ng D2) hD nD2).2.1.2 (by show S D = S (ng D2); rw [nS2, hS]; grind)
    · rw [show FloatKind.f32.format = Ieee.single from rfl, beq_iff_eq]
      exact (Flo.order_num Ieee.single D D hD hD).2.1.2 rfl
  · have s1 : stickB D g = false := by
      cases h : stickB D g
      · rfl
      · exact absurd ((stick_iff hD hg).1 h) hst
    have hS0 : S D ≠ 0 := by
      intro e
      rw [e] at hst
      exact hst (by have : ra 0 = 0 := raz; rw [this]; exact g0)
    have hD2e := hn hS0
    subst hD2e
    have s2 : stickB (ng D) g = false := by
      cases h : stickB (ng D) g
      · rfl
      · exfalso; have h3 := (stick_iff nD hg).1 h; rw [nS, ran] at h3; exact hst h3
    have hB0 : ((FloatKind.f32.format.order D g == some .lt || FloatKind.f32.format.order D g == some .eq) && (FloatKind.f32.format.order (ng D) g == some .lt || FloatKind.f32.format.order (ng D) g == some .eq)) = false := by
      cases h : ((FloatKind.f32.format.order D g == some .lt || FloatKind.f32.format.order D g == some .eq) && (FloatKind.f32.format.order (ng D) g == some .lt || FloatKind.f32.format.order (ng D) g == some .eq))
      · rfl
      · exact absurd (hB.1 h) hst
    obtain ⟨sD, n, j, hrD⟩ := hD
    have hn0 : n ≠ 0 := by
      intro e
      subst e
      apply hS0
      rw [show S D = Flo.val sD 0 j from Flo.V_eq hrD]
      unfold Flo.val; cases sD <;> simp
    obtain ⟨sg, mg, ig, hrg⟩ := hg
    have hl9 : Flo.pw 7 < Flo.pw 127 := Flo.pw_lt (by omega)
    rw [show Flo.pw 7 = 128 from Flo.pw_nat 7] at hl9
    obtain ⟨g2, q1, q2, -⟩ := Flo.s_mul g g ⟨_, _, _, hrg⟩ ⟨_, _, _, hrg⟩ (9 * 9) (g8.mul g8) (by grind)
    have hg2w : g2 = Ieee.single.write (.number (sg ^^ sg) (mg * mg) (ig + ig)) := by
      have h3 : floatBits .mul .f32 g g = some (Ieee.single.write (.number (sg ^^ sg) (mg * mg) (ig + ig))) := by
        show Ieee.single.mul g g = _
        unfold Ieee.Format.mul
        rw [hrg]; rfl
      rw [h3] at q1; injection q1 with q1; exact q1.symm
    obtain ⟨k, l, hr2⟩ : ∃ k l, Ieee.single.read g2 = .number false k l := by
      have h3 := write_read (sg ^^ sg) (mg * mg) (ig + ig)
      rw [← hg2w, Bool.xor_self] at h3
      rcases h3 with h3 | h3
      · exact h3
      · obtain ⟨a, b, c, h4⟩ := q2; rw [h3] at h4; cases h4
    have hfg : fA .mul .f32 (fab .f32 g) (fab .f32 g) = some g2 := by
      rw [fab_some (show (FloatKind.f32.decode g).isNaN = false from by rw [show FloatKind.f32.decode g = _ from hrg]; rfl)]
      exact q1
    obtain ⟨Q, e, hq⟩ : ∃ Q e, ∀ s, Ieee.Datum.quotient (Ieee.single.fractionBits + 2) (.number false k l) (.number s n j) = some (.number s Q e) := by
      let more := Ieee.single.fractionBits + 2 + n.log2 - k.log2
      let dividend := k <<< more
      refine ⟨2 * (dividend / n) + (dividend % n != 0).toNat, l - j - (more : Int) - 1, fun s => ?_⟩
      simp only [Ieee.Datum.quotient, if_neg hn0, Bool.false_xor]
      rfl
    have hquo : ∀ d s, Ieee.single.read d = .number s n j → floatBits .quo .f32 g2 d = some (Ieee.single.write (.number s Q e)) := by
      intro d s hd
      show Ieee.single.div g2 d = _
      unfold Ieee.Format.div
      rw [hr2, hd, hq s]; rfl
    have hng : ng (Ieee.single.write (.number (!sD) Q e)) = Ieee.single.write (.number sD Q e) := by
      by_cases hQ : Q = 0
      · subst hQ
        have hw : ∀ b, Ieee.single.write (.number b 0 e) = Ieee.single.word b 0 := by
          intro b
          show Ieee.single.nearest b 0 e = _
          unfold Ieee.Format.nearest; simp
        rw [hw, hw, ng_word _ _ (by decide), Bool.not_not]
      · rw [write_ng sD Q e hQ, ng_ng]
    have hr1 := write_read sD Q e
    refine ⟨D, Ieee.single.write (.number sD Q e), Ieee.single.write (.number (!sD) Q e), h1, ⟨_, _, _, hrD⟩, ?_, ?_, ?_, .inr ⟨hB0, ?_⟩⟩
    · unfold forceA; rw [h1]; simp only [s1, Bool.false_eq_true, if_false]; rw [hfg]; exact hquo D sD hrD
    · unfold forceA; rw [h2]; simp only [s2, Bool.false_eq_true, if_false]; rw [hfg]; exact hquo _ _ (ng_read D hrD)
    · rw [hng]; exact order_same hr1
    · rcases hr1 with ⟨a, b, hr1⟩ | hr1
      · refine ⟨Ieee.single.write (.number false (a * n) (b + j)), ?_, order_pos (write_read _ _ _)⟩
        show Ieee.single.mul _ D = _
        unfold Ieee.Format.mul
        rw [hr1, hrD]
        show (some (Ieee.Datum.number (sD ^^ sD) (a * n) (b + j))).map _ = _
        rw [Bool.xor_self]; rfl
      · refine ⟨Ieee.single.write (.infinity false), ?_, order_pos (.inr (Flo.read_word_inf Ieee.single false))⟩
        show Ieee.single.mul _ D = _
        unfold Ieee.Format.mul
        rw [hr1, hrD]
        show (if n = 0 then none else some (Ieee.Datum.infinity (sD ^^ sD))).map _ = _
        rw [if_neg hn0, Bool.xor_self]; rfl
end Go.Proofs.Ytlhhcchncobmhaa

/- The shapes of strikes as plain lists of bits, and what the kernel finds of all of them: 2,080 places for each kind.
   Conditions: none beyond those that each statement names. -/
namespace Go.Proofs.Ytlhhcchncobmhaa
set_option linter.unusedSimpArgs false
set_option linter.unusedVariables false
open Go

def rampAt (n i : Nat) : Nat := opB .quo .f32 (floatOfInt .f32 ((i : Int) + 1)) (floatOfInt .f32 (n : Int))
def archT (n i : Nat) : Nat := opB .quo .f32 (floatOfInt .f32 (2 * (i : Int) + 1)) (floatOfInt .f32 (2 * (n : Int)))
def archP (n i : Nat) : Nat := opB .mul .f32 1082130432 (archT n i)
def archM (n i : Nat) : Nat := opB .sub .f32 1065353216 (archT n i)
def archAt (n i : Nat) : Nat := opB .mul .f32 (archP n i) (archM n i)
def clickAt (i : Nat) : Nat := if i = 0 then 1065353216 else 0
def shapeAt (kind n i : Nat) : Nat := if kind = 0 then clickAt i else if kind = 1 then rampAt n i else archAt n i
def shapeL (kind n : Nat) : List Nat := (List.range n).map (shapeAt kind n)

/-- from 0 to 1, and multiplied by 1 itself -/
def unitB (v : Nat) : Bool :=
  fin .f32 v && (FloatKind.f32.format.order v 0 == some .gt || FloatKind.f32.format.order v 0 == some .eq) && (FloatKind.f32.format.order v 1065353216 == some .lt || FloatKind.f32.format.order v 1065353216 == some .eq) &&
    (floatBits .mul .f32 v 1065353216 == some v)
def calmB (o : BinOp) (x y : Nat) : Bool := (floatBits o .f32 x y).isSome
theorem calm_of {o : BinOp} {x y : Nat} (h : calmB o x y = true) : Calm o .f32 x y := by
  unfold calmB at h
  unfold Calm opB
  cases hb : floatBits o .f32 x y with
  | some r => rfl
  | none => rw [hb] at h; simp at h
def upB (a b : Nat) : Bool := !(FloatKind.f32.format.order a b == some .gt || FloatKind.f32.format.order a b == some .eq)
/-- the number is reckoned once, ahead of what is asked of it -/
def force (x : Nat) (k : Nat → Bool) : Bool := match x with
  | 0 => k 0
  | n + 1 => k (n + 1)
theorem force_eq (x : Nat) (k : Nat → Bool) : force x k = k x := by cases x <;> rfl
def p20 : Nat := 4517110426252607488
theorem p20_eq : powB 20 = p20 := by decide +kernel
def rampB (n i : Nat) : Bool :=
  force (rampAt n i) fun v => force (rampAt n (i - 1)) fun u =>
  calmB .quo (floatOfInt .f32 ((i : Int) + 1)) (floatOfInt .f32 (n : Int)) && unitB v && (i == 0 || upB u v) && (i + 1 != n || FloatKind.f32.format.order v 1065353216 == some .eq)
def archB (n i : Nat) : Bool :=
  force (archT n i) fun t => force (opB .mul .f32 1082130432 t) fun p => force (opB .sub .f32 1065353216 t) fun m => force (opB .mul .f32 p m) fun v =>
  calmB .quo (floatOfInt .f32 (2 * (i : Int) + 1)) (floatOfInt .f32 (2 * (n : Int))) && calmB .mul 1082130432 t && calmB .sub 1065353216 t && calmB .mul p m && unitB v
/-- as the law asks: the difference of the widened ones -/
def archD (n i : Nat) : Nat := opB .sub .f64 (wid (archAt n i)) (wid (archAt n (n - 1 - i)))
def archF (n i : Nat) (k : Nat → Bool) : Bool := force (archT n i) fun t => force (opB .mul .f32 1082130432 t) fun p => force (opB .sub .f32 1065353216 t) fun m => force (opB .mul .f32 p m) k
theorem archF_eq (n i : Nat) (k : Nat → Bool) : archF n i k = k (archAt n i) := by simp only [archF, force_eq]; rfl
def nearB (n i : Nat) : Bool :=
  archF n i fun v => archF n (n - 1 - i) fun u => force (wid v) fun a => force (wid u) fun b => force (opB .sub .f64 a b) fun d =>
  (floatBits .sub .f64 a b).isSome && fin .f64 d && force (szd d 0) fun s => leB s p20
theorem rampB_eq (n i : Nat) : rampB n i = (calmB .quo (floatOfInt .f32 ((i : Int) + 1)) (floatOfInt .f32 (n : Int)) && unitB (rampAt n i) && (i == 0 || upB (rampAt n (i - 1)) (rampAt n i)) && (i + 1 != n || FloatKind.f32.format.order (rampAt n i) 1065353216 == some .eq)) := by
  unfold rampB; simp only [force_eq]
theorem archB_eq (n i : Nat) : archB n i = (calmB .quo (floatOfInt .f32 (2 * (i : Int) + 1)) (floatOfInt .f32 (2 * (n : Int))) && calmB .mul 1082130432 (archT n i) && calmB .sub 1065353216 (archT n i) && calmB .mul (archP n i) (archM n i) && unitB (archAt n i)) := by
  unfold archB; simp only [force_eq]; rfl
theorem nearB_eq (n i : Nat) : nearB n i = ((floatBits .sub .f64 (wid (archAt n i)) (wid (archAt n (n - 1 - i)))).isSome && fin .f64 (archD n i) && leB (szd (archD n i) 0) (powB 20)) := by
  unfold nearB; simp only [force_eq, archF_eq, p20_eq]; rfl

/-- all places of the lengths from lo on -/
def chunk (p : Nat → Nat → Bool) (lo k : Nat) : Bool := (List.range k).all fun d => (List.range (lo + d)).all fun i => p (lo + d) i
theorem chunk_get {p : Nat → Nat → Bool} {lo k : Nat} (h : chunk p lo k = true) (n i : Nat) (h1 : lo ≤ n) (h2 : n < lo + k) (hi : i < n) : p n i = true := by
  unfold chunk at h
  rw [List.all_eq_true] at h
  have h3 := h (n - lo) (List.mem_range.2 (by omega))
  rw [List.all_eq_true] at h3
  have h4 := h3 i (List.mem_range.2 (by omega))
  rw [show lo + (n - lo) = n from by omega] at h4
  exact h4
def AllB (p : Nat → Nat → Bool) : Prop := ∀ n i : Nat, n ≤ 64 → i < n → p n i = true
theorem all_of {p : Nat → Nat → Bool} (h0 : chunk p 0 24 = true) (h1 : chunk p 24 9 = true) (h2 : chunk p 33 7 = true) (h3 : chunk p 40 6 = true) (h4 : chunk p 46 6 = true) (h5 : chunk p 52 5 = true) (h6 : chunk p 57 4 = true) (h7 : chunk p 61 4 = true) : AllB p := by
  intro n i hn hi
  by_cases c0 : n < 24
  · exact chunk_get h0 n i (by omega) (by omega) hi
  by_cases c1 : n < 33
  · exact chunk_get h1 n i (by omega) (by omega) hi
  by_cases c2 : n < 40
  · exact chunk_get h2 n i (by omega) (by omega) hi
  by_cases c3 : n < 46
  · exact chunk_get h3 n i (by omega) (by omega) hi
  by_cases c4 : n < 52
  · exact chunk_get h4 n i (by omega) (by omega) hi
  by_cases c5 : n < 57
  · exact chunk_get h5 n i (by omega) (by omega) hi
  by_cases c6 : n < 61
  · exact chunk_get h6 n i (by omega) (by omega) hi
  exact chunk_get h7 n i (by omega) (by omega) hi
set_option maxRecDepth 100000 in
theorem ramp_0 : chunk rampB 0 24 = true := by decide +kernel
set_option maxRecDepth 100000 in
theorem ramp_1 : chunk rampB 24 9 = true := by decide +kernel
set_option maxRecDepth 100000 in
theorem ramp_2 : chunk rampB 33 7 = true := by decide +kernel
set_option maxRecDepth 100000 in
theorem ramp_3 : chunk rampB 40 6 = true := by decide +kernel
set_option maxRecDepth 100000 in
theorem ramp_4 : chunk rampB 46 6 = true := by decide +kernel
set_option maxRecDepth 100000 in
theorem ramp_5 : chunk rampB 52 5 = true := by decide +kernel
set_option maxRecDepth 100000 in
theorem ramp_6 : chunk rampB 57 4 = true := by decide +kernel
set_option maxRecDepth 100000 in
theorem ramp_7 : chunk rampB 61 4 = true := by decide +kernel
theorem ramp_all : AllB rampB := all_of ramp_0 ramp_1 ramp_2 ramp_3 ramp_4 ramp_5 ramp_6 ramp_7
set_option maxRecDepth 100000 in
theorem arch_0 : chunk archB 0 24 = true := by decide +kernel
set_option maxRecDepth 100000 in
theorem arch_1 : chunk archB 24 9 = true := by decide +kernel
set_option maxRecDepth 100000 in
theorem arch_2 : chunk archB 33 7 = true := by decide +kernel
set_option maxRecDepth 100000 in
theorem arch_3 : chunk archB 40 6 = true := by decide +kernel
set_option maxRecDepth 100000 in
theorem arch_4 : chunk archB 46 6 = true := by decide +kernel
set_option maxRecDepth 100000 in
theorem arch_5 : chunk archB 52 5 = true := by decide +kernel
set_option maxRecDepth 100000 in
theorem arch_6 : chunk archB 57 4 = true := by decide +kernel
set_option maxRecDepth 100000 in
theorem arch_7 : chunk archB 61 4 = true := by decide +kernel
theorem arch_all : AllB archB := all_of arch_0 arch_1 arch_2 arch_3 arch_4 arch_5 arch_6 arch_7
set_option maxRecDepth 100000 in
theorem near_0 : chunk nearB 0 24 = true := by decide +kernel
set_option maxRecDepth 100000 in
theorem near_1 : chunk nearB 24 9 = true := by decide +kernel
set_option maxRecDepth 100000 in
theorem near_2 : chunk nearB 33 7 = true := by decide +kernel
set_option maxRecDepth 100000 in
theorem near_3 : chunk nearB 40 6 = true := by decide +kernel
set_option maxRecDepth 100000 in
theorem near_4 : chunk nearB 46 6 = true := by decide +kernel
set_option maxRecDepth 100000 in
theorem near_5 : chunk nearB 52 5 = true := by decide +kernel
set_option maxRecDepth 100000 in
theorem near_6 : chunk nearB 57 4 = true := by decide +kernel
set_option maxRecDepth 100000 in
theorem near_7 : chunk nearB 61 4 = true := by decide +kernel
theorem near_all : AllB nearB := all_of near_0 near_1 near_2 near_3 near_4 near_5 near_6 near_7
theorem all_pairs {p : Nat → Nat → Bool} (h : AllB p) (n i : Nat) (hn : n ≤ 64) (hi : i < n) : p n i = true := h n i hn hi
theorem click_all : unitB 1065353216 = true ∧ unitB 0 = true := by decide +kernel

theorem shape_unit (kind n i : Nat) (hk : kind ≤ 2) (hn : n ≤ 64) (hi : i < n) : unitB (shapeAt kind n i) = true := by
  unfold shapeAt
  split
  · unfold clickAt; split
    · exact click_all.1
    · exact click_all.2
  · split
    · have h := all_pairs ramp_all n i hn hi
      rw [rampB_eq] at h
      simp only [Bool.and_eq_true] at h
      exact h.1.1.2
    · have h := all_pairs arch_all n i hn hi
      rw [archB_eq] at h
      simp only [Bool.and_eq_true] at h
      exact h.2

end Go.Proofs.Ytlhhcchncobmhaa

/- The walks of StrikeShape, scaleSamples and StrikeBody.
   Conditions: those that each statement names. -/
namespace Go.Proofs.Ytlhhcchncobmhaa
set_option linter.unusedSimpArgs false
set_option linter.unusedVariables false
open Go Go.RowKit

def FillI (B g n : Nat) (f : Nat → Nat) (w : World) (i : Value) (wr : World) : Prop :=
  ∃ k : Nat, k ≤ n ∧ i = .int .i64 (k : Int) ∧ wr.ownsRow B 31 1 (.slice (some ⟨g, 0, none⟩) n n) n (cellsS (fillL f n k)) ∧ Nw w wr
def ShapeP (n : Nat) (xs : List Nat) (w : World) (e : Ending) (w' : World) : Prop :=
  ∃ g : Nat, e = .returned (.tuple #[.slice (some ⟨g, 0, none⟩) n n, .bool true]) ∧ w'.ownsRow w.heap.size 31 1 (.slice (some ⟨g, 0, none⟩) n n) n (cellsS xs) ∧ Nw w w'

theorem shapeL_click (n : Nat) : shapeL 0 n = (List.range n).map clickAt := by
  have h : shapeAt 0 n = clickAt := by funext i; simp [shapeAt]
  unfold shapeL; rw [h]
theorem shapeL_ramp (n : Nat) : shapeL 1 n = (List.range n).map (rampAt n) := by
  have h : shapeAt 1 n = rampAt n := by funext i; simp [shapeAt]
  unfold shapeL; rw [h]
theorem shapeL_arch (n : Nat) : shapeL 2 n = (List.range n).map (archAt n) := by
  have h : shapeAt 2 n = archAt n := by funext i; simp [shapeAt]
  unfold shapeL; rw [h]
theorem click_set (n : Nat) (h : 1 ≤ n) : (cellsS (fillL clickAt n 0)).set 0 (.float .f32 1065353216) = cellsS ((List.range n).map clickAt) := by
  obtain ⟨m, rfl⟩ : ∃ m, n = m + 1 := ⟨n - 1, by omega⟩
  rw [fillL_zero, List.replicate_succ, List.range_succ_eq_map]
  simp only [cellsS, List.map_cons, List.map_map, List.set_cons_zero, List.map_replicate]
  congr 1
  apply List.ext_getElem?
  intro i
  simp only [List.getElem?_replicate, List.getElem?_map, List.getElem?_range']
  by_cases hi : i < m <;> simp [hi, clickAt]

end Go.Proofs.Ytlhhcchncobmhaa

/- The walks of scaleSamples, StrikeBody and, where nothing is drawn, small.
   Conditions: those that each statement names. -/
namespace Go.Proofs.Ytlhhcchncobmhaa
set_option linter.unusedSimpArgs false
set_option linter.unusedVariables false
open Go Go.RowKit

def RowF (xs : List Nat) (n : Nat) (w : World) (e : Ending) (w' : World) : Prop :=
  ∃ v : Value, e = .returned v ∧ w'.ownsRow w.heap.size 31 1 v n (cellsS xs) ∧ Nw w w'
theorem scaled_eq (xs : List Nat) (n f : Nat) (h : xs.length = n) : (List.range n).map (fun k => opB .mul .f32 (inputOf xs k) f) = xs.map fun x => opB .mul .f32 x f := by
  subst h
  apply List.ext_getElem?
  intro i
  by_cases hi : i < xs.length
  · simp [hi, inputOf]
  · simp [hi]

set_option maxRecDepth 100000 in
theorem scaleSamples_ok (xs : List Nat) (n bi f : Nat) (v : Value) (hx : xs.length = n) (hn : n ≤ 1048576) (w : World)
    (hi : w.ownsRow bi 31 1 v n (cellsS xs)) (hc : ∀ x ∈ xs, Calm .mul .f32 x f) :
    Calls Try.prog 62 #[v, .float .f32 f] w (RowF (xs.map fun x => opB .mul .f32 x f) n w) := by
  obtain ⟨va, vc, rfl⟩ := own_shape' hi
  obtain ⟨f0, hf, hfz0, hfz1, hfz2⟩ := info_parts info_f32
  have Hi := Lib.hid hi
  have Hx := Lib.hid hx
  have Hc := Lib.hid hc
  clear hi hx hc
  go_enter Try.func62, Try.ntmps62
  go_wp2_with (first
    | (at_make; refine wpList_make_full _ rfl _ _ 28 rfl w.heap.size 31 f0 (.float .f32 0) 1 Try.underlying28 hf hfz0 hfz1 _ _ _ _ n rfl rfl rfl rfl (by rw [hfz2]; omega) (by unfold maxLen; omega) (Nat.le_refl _) ?_))
  intro w3 hown3 hgrow3
  have O3 := Lib.hid (show w3.ownsRow w.heap.size 31 1 (.slice (some ⟨w.heap.size, 0, none⟩) n n) n (cellsS (fillL (fun k => opB .mul .f32 (inputOf xs k) f) n 0)) from by
    rw [toList_madeCells_one] at hown3
    rw [fillL_zero]
    simpa [cellsS] using hown3)
  have N3 := Lib.hid (show Nw w w3 from hgrow3)
  clear hown3 hgrow3
  go_wp2_with fail
  go_loopw [13] (fun i wr => FillI w.heap.size w.heap.size n (fun k => opB .mul .f32 (inputOf xs k) f) w i wr) (fun i _ => n - (intOf i).toNat)
  case atStart => exact ⟨0, by omega, rfl, O3.out, N3.out⟩
  case round =>
    obtain ⟨k, hk, rfl, how, hnw⟩ := hrel
    have Ow := Lib.hid how
    have Nr := Lib.hid hnw
    clear how hnw
    by_cases hlt : k < n
    · obtain ⟨x, hxk⟩ : ∃ x, xs[k]? = some x := ⟨xs[k]'(by rw [Hx.out]; exact hlt), List.getElem?_eq_getElem _⟩
      obtain ⟨g, cap, hv, hcap, hmax, hgs, e0⟩ := own_sample (own_nw Hi.out Nr.out) hxk Hx.out.symm
      cases hv
      have hcx := Hc.out x (List.mem_of_getElem? hxk)
      have r1 := hcx.res
      have d1 := hcx.fdr
      have e1 := Ow.out.cellAt k (by omega)
      rw [fillL_cell _ n k hlt] at e1
      have e2 := Ow.out.frozenAt k
      have hset := Ow.out.stored k (.float .f32 (opB .mul .f32 (inputOf xs k) f))
      rw [fillL_set (fun k => opB .mul .f32 (inputOf xs k) f) n k hlt] at hset
      have hin : inputOf xs k = x := by unfold inputOf; rw [List.getD_eq_getElem?_getD, hxk]; rfl
      rw [hin] at hset
      have F := Lib.hid hset.1
      have N2 := Lib.hid (Nr.out.set (p := ⟨w.heap.size, k, none⟩) (by show w.heap.size ≤ w.heap.size; omega) (.float .f32 (opB .mul .f32 x f)))
      unfold maxLen at hmax
      clear hset hxk hcx hin
      go_wp2_with fail
      go_roundw
      case rel => exact ⟨k + 1, by omega, by rw [show ((k + 1 : Nat) : Int) = (k : Int) + 1 from by omega], F.out, N2.out⟩
      case measure => simp only [intOf]; omega
    · obtain rfl : k = n := by omega
      go_wp2_with fail
      go_ret
      exact ⟨_, rfl, by have h := Ow.out; rw [fillL_full, scaled_eq xs _ f Hx.out] at h; exact h, Nr.out⟩

theorem small_calm (a b c d k : Nat) (w : World) (c1 : Calm .sub .f64 a c) (c2 : Calm .sub .f64 b d) (n1 : Flo.Nm (opB .sub .f64 a c)) (n2 : Flo.Nm (opB .sub .f64 b d)) :
    Calls Try.prog 27 #[.complex .f64 a b, .complex .f64 c d, .float .f64 k] w fun e w' => e = .returned (.bool (leB (szd (opB .sub .f64 a c) (opB .sub .f64 b d)) k)) ∧ ∃ n, w' = w.drewN n := by
  have l1 : opB .sub .f64 a c < 2 ^ 64 := by have := floatBits_wf c1; simpa [Lit.wf] using this
  have l2 : opB .sub .f64 b d < 2 ^ 64 := by have := floatBits_wf c2; simpa [Lit.wf] using this
  have r1 := c1.res
  have d1 := c1.fdr
  have r2 := c2.res
  have d2 := c2.fdr
  go_enter Try.func27, Try.ntmps27
  go_wp2_with (go_at_call 38; refine (sizeDouble_fin _ _ _ l1 l2 n1 n2).mono ?_; rintro e w' ⟨rfl, n, rfl⟩)
  all_goals (go_ret; exact ⟨rfl, _, rfl⟩)

end Go.Proofs.Ytlhhcchncobmhaa

/- The walks of IsRoom and isPlace, of the products of weights, of weighed modes, RoomBody and RingRoom, over valid rooms with weights from -1 to 1.
   Conditions: those that each statement names. -/
namespace Go.Proofs.Ytlhhcchncobmhaa
set_option linter.unusedSimpArgs false
set_option linter.unusedVariables false
open Go Go.RowKit

theorem sixteen_s : Sm 1098907648 ∧ S 1098907648 = 16 := by
  have h : Ieee.single.read 1098907648 = .number false 8388608 (-19) := by decide
  refine ⟨⟨_, _, _, h⟩, ?_⟩
  rw [show S 1098907648 = _ from Flo.V_eq h]
  unfold Flo.val
  have := Flo.pw_neg_mul 19
  rw [show Flo.pw 19 = 524288 from Flo.pw_nat 19] at this
  simp only [Bool.false_eq_true, if_false]
  have e2 : ((8388608 : Nat) : Rat) = 8388608 := rfl
  rw [e2]; grind
theorem sm_nan {b : Nat} (h : Sm b) : nan32 b = false := by
  obtain ⟨t, k, l, hr⟩ := h
  unfold nan32; rw [show FloatKind.f32.decode b = _ from hr]; rfl

theorem isWeight_ok (x : Nat) (hx : Wt x) (w : World) :
    Calls Try.prog 117 #[.float .f32 x] w fun e w' => e = .returned (.bool true) ∧ w = w' := by
  have hst : stickB x 1098907648 = true := (stick_iff hx.1 sixteen_s.1).2 (by rw [sixteen_s.2]; have := ra_one hx.2; grind)
  have hn := sm_nan sixteen_s.1
  go_enter Try.func117, Try.ntmps117
  go_wp2_with fail
  refine (implAbs_wide x (sm_nan hx.1) _).mono ?_
  rintro e w1 ⟨⟨q, rfl, hq⟩, rfl⟩
  have hr : (FloatKind.f32.format.order q 1098907648 == some .lt || FloatKind.f32.format.order q 1098907648 == some .eq) = true := by
    rw [← hst]
    unfold stickB
    rw [hn, show FloatKind.f64.format.order (labs (wid x)) (wid 1098907648) = FloatKind.f32.format.order q 1098907648 from hq.order_wid hn]; rfl
  go_wp2
  go_ret
  exact ⟨by simp [hr], rfl⟩

theorem areWeights_ok (xs : List Nat) (n b : Nat) (v : Value) (hn : xs.length = n) (hn16 : n ≤ 64) (hx : ∀ x ∈ xs, Wt x) (w : World) (h : w.ownsRow b 31 1 v n (cellsS xs)) :
    Calls Try.prog 92 #[v] w (TestP true w) := by
  obtain ⟨va, vc, rfl⟩ := own_shape' h
  have H := Lib.hid h
  have Hn := Lib.hid hn
  have Hx := Lib.hid hx
  clear h hn hx
  go_enter Try.func92, Try.ntmps92
  go_wp2_with fail
  go_loopw [7] (fun i wr => ValI n w i wr) (fun i _ => n - (intOf i).toNat)
  case atStart => exact ⟨0, by omega, rfl, Nw.refl _⟩
  case round =>
    obtain ⟨k, hk, rfl, hnw⟩ := hrel
    have Nr := Lib.hid hnw
    clear hnw
    by_cases hlt : k < n
    · obtain ⟨x, hxk⟩ : ∃ x, xs[k]? = some x := ⟨xs[k]'(by rw [Hn.out]; exact hlt), List.getElem?_eq_getElem _⟩
      obtain ⟨g1, cap1, hv1, hcap1, hmax1, -, e1⟩ := own_sample (own_nw H.out Nr.out) hxk Hn.out.symm
      cases hv1
      have Hw := Lib.hid (Hx.out x (List.mem_of_getElem? hxk))
      unfold maxLen at hmax1
      clear hxk
      go_wp2_with fail
      refine (isWeight_ok x Hw.out _).mono ?_
      rintro e w5 ⟨rfl, rfl⟩
      go_wp2_with fail
      go_roundw
      case rel => exact ⟨k + 1, by omega, by rw [show ((k + 1 : Nat) : Int) = (k : Int) + 1 from by omega], Nr.out⟩
      case measure => simp only [intOf]; omega
    · go_wp2_with fail
      go_ret
      exact ⟨rfl, Nr.out⟩

/-- a room in memory: at most 16 modes, all valid; places with weights from -1 to 1 -/
structure RoomV (ms : List M4) (rows : List (List Nat)) (q P b bs : Nat) (mv sv : Value) (w : World) : Prop where
  hq : ms.length = q
  hq16 : q ≤ 16
  hP : rows.length = P
  hP16 : P ≤ 16
  ok : ∀ m ∈ ms, m.ok
  wt : ∀ r ∈ rows, ∀ x ∈ r, Wt x
  om : w.ownsRow b 61 2 mv q (cellsM ms)
  rs : RowsR w bs q sv rows
theorem RoomV.nw {ms : List M4} {rows : List (List Nat)} {q P b bs : Nat} {mv sv : Value} {w w' : World} (h : RoomV ms rows q P b bs mv sv w) (n : Nw w w') : RoomV ms rows q P b bs mv sv w' :=
  ⟨h.hq, h.hq16, h.hP, h.hP16, h.ok, h.wt, own_nw h.om n, h.rs.nw n⟩

set_option maxRecDepth 100000 in
theorem isRoom_ok (ms : List M4) (rows : List (List Nat)) (q P b bs : Nat) (mv sv : Value) (w : World) (h : RoomV ms rows q P b bs mv sv w) :
    Calls Try.prog 55 #[.agg #[mv, sv]] w (TestP true w) := by
  obtain ⟨ma, mc, rfl⟩ := own_shape' h.om
  obtain ⟨sa, sc, rfl⟩ := h.rs.shape
  have hP16 := h.hP16
  have e := h.hP
  rw [e] at h ⊢
  have N0 := Lib.hid ((Nw.refl w).alloc (.cells #[.slice ma q mc, .slice sa P sc] 26 (0, 0)))
  have B0 := Lib.hid (Has2.new w 26 (.slice ma q mc) (.slice sa P sc))
  have H := Lib.hid h
  have E := Lib.hid e
  clear h e
  go_enter Try.func55, Try.ntmps55
  obtain ⟨b0, b1, b2, b3, b4⟩ := B0.out
  go_wp2_with fail
  refine (implIsBody_ok ms H.out.ok q b _ H.out.hq H.out.hq16 _ (own_nw H.out.om N0.out)).mono ?_
  rintro e w1 ⟨rfl, n1⟩
  have B1 := Lib.hid (B0.out.nw n1)
  have N1 := Lib.hid (N0.out.trans n1)
  clear n1 b0 b1 b2 b3 b4
  obtain ⟨b0, b1, b2, b3, b4⟩ := B1.out
  go_wp2_with fail
  go_loopw [19] (fun i wr => ValI P w i wr ∧ Nw w1 wr) (fun i _ => P - (intOf i).toNat)
  case atStart => exact ⟨⟨0, by omega, rfl, N1.out⟩, Nw.refl _⟩
  case round =>
    obtain ⟨⟨k, hk, rfl, hnw⟩, hn1⟩ := hrel
    have Nr := Lib.hid (And.intro hnw hn1)
    clear hnw hn1 b0 b1 b2 b3 b4
    by_cases hlt : k < P
    · obtain ⟨r, hr⟩ : ∃ r, rows[k]? = some r := ⟨rows[k]'(by rw [E.out]; exact hlt), List.getElem?_eq_getElem _⟩
      obtain ⟨g, cap, ra, rc, hv, hcap, hmax, hgs, e1, own⟩ := (H.out.rs.nw Nr.out.1).at E.out.symm hr
      cases hv
      have Hl := Lib.hid (H.out.rs.lens r (List.mem_of_getElem? hr))
      have Hw := Lib.hid (H.out.wt r (List.mem_of_getElem? hr))
      have Ow := Lib.hid own
      have B2 := Lib.hid (B1.out.nw Nr.out.2)
      have hq16 := H.out.hq16
      obtain ⟨b0, b1, b2, b3, b4⟩ := B2.out
      unfold maxLen at hmax
      clear hr own
      go_wp2_with fail
      refine (areWeights_ok r q _ _ Hl.out (by omega) Hw.out _ Ow.out).mono ?_
      rintro e w5 ⟨rfl, n5⟩
      have N5 := Lib.hid (And.intro (Nr.out.1.trans n5) (Nr.out.2.trans n5))
      clear n5 e1 b0 b1 b2 b3 b4
      go_wp2_with fail
      go_roundw
      case rel => exact ⟨⟨k + 1, by omega, by rw [show ((k + 1 : Nat) : Int) = (k : Int) + 1 from by omega], N5.out.1⟩, N5.out.2⟩
      case measure => simp only [intOf]; omega
    · go_wp2_with fail
      go_ret
      exact ⟨rfl, Nr.out.1⟩

theorem isPlace_ok (mv : Value) (sa : Option Addr) (P sc p : Nat) (hP : P ≤ 64) (hp : p ≤ 64) (w : World) :
    Calls Try.prog 56 #[.agg #[mv, .slice sa P sc], .int .i64 (p : Int)] w (TestP (decide (p < P)) w) := by
  have N0 := Lib.hid ((Nw.refl w).alloc (.cells #[mv, .slice sa P sc] 26 (0, 0)))
  have B0 := Lib.hid (Has2.new w 26 mv (.slice sa P sc))
  go_enter Try.func56, Try.ntmps56
  obtain ⟨b0, b1, b2, b3, b4⟩ := B0.out
  go_wp2_with fail
  go_ret
  exact ⟨by simp, N0.out⟩
end Go.Proofs.Ytlhhcchncobmhaa

/- The walks of the products of weights, of weighed modes, RoomBody and RingRoom.
   Conditions: those that each statement names. -/
namespace Go.Proofs.Ytlhhcchncobmhaa
set_option linter.unusedSimpArgs false
set_option linter.unusedVariables false
open Go Go.RowKit

theorem mulW_range (xs ys : List Nat) (n : Nat) (h : xs.length = n) (h2 : ys.length = n) : (List.range n).map (fun k => opB .mul .f32 (inputOf xs k) (inputOf ys k)) = mulW xs ys := by
  subst h
  apply List.ext_getElem?
  intro i
  unfold mulW
  rw [List.getElem?_zipWith]
  by_cases hi : i < xs.length
  · have hj : i < ys.length := by omega
    simp [hi, hj, inputOf]
  · simp [hi, show xs.length ≤ i from by omega]

set_option maxRecDepth 100000 in
set_option maxHeartbeats 1600000 in
theorem multiplySamples_ok (xs ys : List Nat) (n bi bj : Nat) (v u : Value) (hx : xs.length = n) (hy : ys.length = n) (hn : n ≤ 64) (w : World)
    (hi : w.ownsRow bi 31 1 v n (cellsS xs)) (hj : w.ownsRow bj 31 1 u n (cellsS ys)) (wx : ∀ x ∈ xs, Wt x) (wy : ∀ x ∈ ys, Wt x) :
    Calls Try.prog 91 #[v, u] w (RowF (mulW xs ys) n w) := by
  obtain ⟨va, vc, rfl⟩ := own_shape' hi
  obtain ⟨ua, uc, rfl⟩ := own_shape' hj
  obtain ⟨f0, hf, hfz0, hfz1, hfz2⟩ := info_parts info_f32
  have Hi := Lib.hid hi
  have Hj := Lib.hid hj
  have Hx := Lib.hid (And.intro hx (And.intro hy (And.intro wx wy)))
  clear hi hj hx hy wx wy
  go_enter Try.func91, Try.ntmps91
  go_wp2_with (first
    | (at_make; refine wpList_make_full _ rfl _ _ 28 rfl w.heap.size 31 f0 (.float .f32 0) 1 Try.underlying28 hf hfz0 hfz1 _ _ _ _ n rfl rfl rfl rfl (by rw [hfz2]; omega) (by unfold maxLen; omega) (Nat.le_refl _) ?_))
  intro w3 hown3 hgrow3
  obtain ⟨f, hF⟩ : ∃ f : Nat → Nat, f = fun k => opB .mul .f32 (inputOf xs k) (inputOf ys k) := ⟨_, rfl⟩
  have O3 := Lib.hid (show w3.ownsRow w.heap.size 31 1 (.slice (some ⟨w.heap.size, 0, none⟩) n n) n (cellsS (fillL f n 0)) from by
    rw [toList_madeCells_one] at hown3
    rw [fillL_zero]
    simpa [cellsS] using hown3)
  have N3 := Lib.hid (show Nw w w3 from hgrow3)
  clear hown3 hgrow3
  go_wp2_with fail
  go_loopw [12] (fun i wr => FillI w.heap.size w.heap.size n f w i wr) (fun i _ => n - (intOf i).toNat)
  case atStart => exact ⟨0, by omega, rfl, O3.out, N3.out⟩
  case round =>
    obtain ⟨k, hk, rfl, how, hnw⟩ := hrel
    have Ow := Lib.hid how
    have Nr := Lib.hid hnw
    clear how hnw
    by_cases hlt : k < n
    · obtain ⟨x, hxk⟩ : ∃ x, xs[k]? = some x := ⟨xs[k]'(by rw [Hx.out.1]; exact hlt), List.getElem?_eq_getElem _⟩
      obtain ⟨y, hyk⟩ : ∃ y, ys[k]? = some y := ⟨ys[k]'(by rw [Hx.out.2.1]; exact hlt), List.getElem?_eq_getElem _⟩
      obtain ⟨g, cap, hv, hcap, hmax, hgs, e0⟩ := own_sample (own_nw Hi.out Nr.out) hxk Hx.out.1.symm
      cases hv
      obtain ⟨g', cap', hv, hcap', hmax', hgs', e0'⟩ := own_sample (own_nw Hj.out Nr.out) hyk Hx.out.2.1.symm
      cases hv
      have hcx := (wt_mul x y (Hx.out.2.2.1 x (List.mem_of_getElem? hxk)) (Hx.out.2.2.2 y (List.mem_of_getElem? hyk))).1
      have hrun := fun w => hcx.runs (P := Try.prog) (.inr (.inr rfl)) 31 w
      have hset := Ow.out.stored k (.float .f32 (f k))
      rw [fillL_set f n k hlt] at hset
      have hin : f k = opB .mul .f32 x y := by rw [hF]; unfold inputOf; simp only [List.getD_eq_getElem?_getD, hxk, hyk]; rfl
      rw [hin] at hset
      have F := Lib.hid hset.1
      have N2 := Lib.hid (Nr.out.set (p := ⟨w.heap.size, k, none⟩) (by show w.heap.size ≤ w.heap.size; omega) (.float .f32 (opB .mul .f32 x y)))
      unfold maxLen at hmax hmax'
      clear hset hxk hyk hcx hin
      go_wp2_with fail
      refine wp_region_still_tail 11 (by kernel_rfl) (by kernel_rfl) ?_
      simp only [List.take_succ_cons, List.take_zero, List.drop_succ_cons, List.drop_zero]
      repeat still_step
      refine wpStill_nil ?_
      change wpList _ _ _ _ _ (wr.drewN 1)
      have Ow2 := Lib.hid (own_nw Ow.out ((Nw.refl wr).draw 1))
      have e1 := Ow2.out.cellAt k (by omega)
      rw [fillL_cell _ n k hlt] at e1
      have e2 := Ow2.out.frozenAt k
      have F' := Lib.hid (show ((wr.drewN 1).setCell ⟨w.heap.size, k, none⟩ (.float .f32 (opB .mul .f32 x y))).ownsRow w.heap.size 31 1 (.slice (some ⟨w.heap.size, 0, none⟩) n n) n (cellsS (fillL f n (k + 1))) from own_nw F.out ((Nw.refl _).draw 1))
      have N2' := Lib.hid (show Nw w ((wr.drewN 1).setCell ⟨w.heap.size, k, none⟩ (.float .f32 (opB .mul .f32 x y))) from N2.out.draw 1)
      clear hrun e0 e0'
      generalize wr.drewN 1 = wr2 at *
      go_wp2_with fail
      go_roundw
      case rel => exact ⟨k + 1, by omega, by rw [show ((k + 1 : Nat) : Int) = (k : Int) + 1 from by omega], F'.out, N2'.out⟩
      case measure => simp only [intOf]; omega
    · obtain rfl : k = n := by omega
      have hm := mulW_range xs ys k Hx.out.1 Hx.out.2.1
      go_wp2_with fail
      go_ret
      exact ⟨_, rfl, by have h := Ow.out; rw [fillL_full, hF, hm] at h; exact h, Nr.out⟩

/-! ### weighed modes -/
def weighK (ms : List M4) (ws : List Nat) (k : Nat) : List M4 := (weighL ms ws).take k ++ ms.drop k
theorem weighK_zero (ms : List M4) (ws : List Nat) : weighK ms ws 0 = ms := by simp [weighK]
theorem weighK_full (ms : List M4) (ws : List Nat) (n : Nat) (h : ms.length = n) (hw : ws.length = n) : weighK ms ws n = weighL ms ws := by
  unfold weighK
  rw [List.take_of_length_le (by rw [weighL_len ms ws (by omega)]; omega), List.drop_of_length_le (by omega), List.append_nil]
theorem weighK_len (ms : List M4) (ws : List Nat) (k : Nat) (h : ws.length = ms.length) : (weighK ms ws k).length = ms.length := by
  unfold weighK; simp [weighL_len ms ws h]; omega
theorem weighK_at (ms : List M4) (ws : List Nat) (k : Nat) (m : M4) (hl : ws.length = ms.length) (h : ms[k]? = some m) : (weighK ms ws k)[k]? = some m := by
  obtain ⟨hk, he⟩ := List.getElem?_eq_some_iff.1 h
  have hlen : ((weighL ms ws).take k).length = k := by rw [List.length_take, weighL_len ms ws hl]; omega
  unfold weighK
  rw [List.getElem?_append_right (by omega), hlen, Nat.sub_self, List.getElem?_drop, Nat.add_zero, h]
theorem weighK_set (ms : List M4) (ws : List Nat) (k : Nat) (m : M4) (x : Nat) (hl : ws.length = ms.length) (h : ms[k]? = some m) (hx : ws[k]? = some x) : (weighK ms ws k).set k (weighM x m) = weighK ms ws (k + 1) := by
  obtain ⟨hk, he⟩ := List.getElem?_eq_some_iff.1 h
  have hat := weighL_at ms ws k m x h hx
  obtain ⟨hka, hae⟩ := List.getElem?_eq_some_iff.1 hat
  have hlen : ((weighL ms ws).take k).length = k := by rw [List.length_take, weighL_len ms ws hl]; omega
  unfold weighK
  rw [List.take_succ_eq_append_getElem hka, hae, List.drop_eq_getElem_cons hk, he, List.set_append_right _ _ (by omega), hlen, Nat.sub_self]
  simp
theorem cellsM_setg (l : List M4) (k : Nat) (m m' : M4) (h : l[k]? = some m) (hg : m'.pr = m.pr ∧ m'.pi = m.pi) :
    (cellsM l).set (k * 2 + 1) (.complex .f32 m'.gr m'.gi) = cellsM (l.set k m') := by
  induction l generalizing k with
  | nil => simp at h
  | cons x l ih =>
    cases k with
    | zero =>
      simp at h
      subst h
      simp [cellsM, M4.cells, hg.1, hg.2]
    | succ k =>
      have hk := ih k (by simpa using h)
      simp only [cellsM, List.flatMap_cons, List.set_cons_succ] at *
      rw [show (k + 1) * 2 + 1 = k * 2 + 1 + 2 from by omega]
      simp only [M4.cells, List.cons_append, List.nil_append, List.set_cons_succ]
      rw [hk]

def WeighI (ms : List M4) (ws : List Nat) (n base : Nat) (v : Value) (w : World) (i : Value) (wr : World) : Prop :=
  ∃ k : Nat, k ≤ n ∧ i = .int .i64 (k : Int) ∧ wr.ownsRow base 61 2 v n (cellsM (weighK ms ws k)) ∧ Nw w wr

set_option maxRecDepth 100000 in
set_option maxHeartbeats 1600000 in
theorem weighModes_ok (ms : List M4) (hms : ∀ m ∈ ms, m.ok) (ws : List Nat) (n bm bi : Nat) (v u : Value) (hn : ms.length = n) (hw : ws.length = n) (hn16 : n ≤ 16) (hwt : ∀ x ∈ ws, Wt x) (w : World)
    (hm : w.ownsRow bm 61 2 v n (cellsM ms)) (hi : w.ownsRow bi 31 1 u n (cellsS ws)) :
    Calls Try.prog 58 #[v, u] w (RowP (weighL ms ws) w) := by
  obtain ⟨va, vc, rfl⟩ := own_shape' hm
  obtain ⟨ua, uc, rfl⟩ := own_shape' hi
  have Hm := Lib.hid hm
  have Hi := Lib.hid hi
  have Hs := Lib.hid (And.intro hms (And.intro hn (And.intro hw hwt)))
  have hl : ws.length = ms.length := by omega
  have Hl := Lib.hid hl
  clear hm hi hms hn hw hwt hl
  go_enter Try.func58, Try.ntmps58
  go_wp2_with fail
  refine (clone_modes ms n bm _ Hs.out.2.1 (by omega) _ Hm.out).mono ?_
  rintro e w1 ⟨v1, rfl, own1, n1⟩
  obtain ⟨va1, vc1, rfl⟩ := own_shape' own1
  rw [Hs.out.2.1] at own1 ⊢
  have O1 := Lib.hid own1
  have N1 := Lib.hid n1
  clear own1 n1
  go_wp2_with fail
  go_loopw [12] (fun i wr => WeighI ms ws n w.heap.size (.slice va1 n vc1) w i wr) (fun i _ => n - (intOf i).toNat)
  case atStart => exact ⟨0, by omega, rfl, by rw [weighK_zero]; exact O1.out, N1.out⟩
  case round =>
    obtain ⟨k, hk, rfl, own, hN⟩ := hrel
    have Ow := Lib.hid own
    have Nr := Lib.hid hN
    clear own hN
    by_cases hlt : k < n
    · obtain ⟨m, hmk⟩ : ∃ m, ms[k]? = some m := ⟨ms[k]'(by rw [Hs.out.2.1]; exact hlt), List.getElem?_eq_getElem _⟩
      obtain ⟨x, hxk⟩ : ∃ x, ws[k]? = some x := ⟨ws[k]'(by rw [Hs.out.2.2.1]; exact hlt), List.getElem?_eq_getElem _⟩
      obtain ⟨g, cap, hv, hcap, hmax, hgs, e1, e2⟩ := own_mode (own_nw Hm.out Nr.out) hmk Hs.out.2.1.symm
      cases hv
      obtain ⟨g1, cap1, hv, hcap1, hmax1, hgs1, e3⟩ := own_sample (own_nw Hi.out Nr.out) hxk Hs.out.2.2.1.symm
      cases hv
      obtain ⟨g2, cap2, hv, hcap2, hmax2, hgs2, -, -⟩ := own_mode Ow.out (weighK_at ms ws k m Hl.out hmk) (by rw [weighK_len ms ws k Hl.out, Hs.out.2.1])
      cases hv
      have Hmk := Lib.hid (And.intro hmk hxk)
      have Hmo := Lib.hid (Hs.out.1 m (List.mem_of_getElem? hmk))
      have Hxo := Lib.hid (Hs.out.2.2.2 x (List.mem_of_getElem? hxk))
      unfold maxLen at hmax hmax1 hmax2
      clear hmk hxk
      have K1 := Lib.hid (HasMode.new wr 61 m.pr m.pi m.gr m.gi)
      have K2 := Lib.hid (Ow.out.alloc (.cells #[.complex .f32 m.pr m.pi, .complex .f32 m.gr m.gi] 61 (0, 0)))
      have K3 := Lib.hid (show (wr.alloc (.cells #[.complex .f32 m.pr m.pi, .complex .f32 m.gr m.gi] 61 (0, 0))).cell? ⟨g1, k, none⟩ = some (.float .f32 x) from Lib.cell?_alloc_some _ e3)
      have K5 := Lib.hid (Nr.out.alloc (.cells #[.complex .f32 m.pr m.pi, .complex .f32 m.gr m.gi] 61 (0, 0)))
      go_wp2_with fail
      obtain ⟨w4, hw4⟩ : ∃ w4, w4 = wr.alloc (.cells #[.complex .f32 m.pr m.pi, .complex .f32 m.gr m.gi] 61 (0, 0)) := ⟨_, rfl⟩
      rw [← hw4] at K1 K2 K3 K5
      rw [← hw4]
      clear hw4 e1 e2 e3
      obtain ⟨l0, l1, l2, l3, l4⟩ := K1.out
      have k3 := K3.out
      obtain ⟨c1, c2⟩ := weighM_calm m x Hmo.out Hxo.out
      refine wp_region_still_tail 9 (by kernel_rfl) (by kernel_rfl) ?_
      simp only [List.take_succ_cons, List.take_zero, List.drop_succ_cons, List.drop_zero]
      repeat still_step
      still_call ((implScale_ok _ _ _ _ c1 c2).mono fun _ _ h => ⟨h.1, h.2.symm⟩)
      refine wpStill_nil ?_
      change wpList _ _ _ _ _ (w4.drewN 1)
      have G2 := Lib.hid (own_nw K2.out ((Nw.refl w4).draw 1))
      have G5 := Lib.hid (K5.out.draw 1)
      have hs4 := (K2.out.lt _ rfl)
      clear l0 l1 l2 l3 l4 k3 c1 c2
      generalize w4.drewN 1 = w5 at *
      have e3 := G2.out.cellAt (k * 2 + 1) (by omega)
      have hc := (cellsM_at _ k m (weighK_at ms ws k m Hl.out Hmk.out.1)).2
      rw [show 2 * k + 1 = k * 2 + 1 from by omega] at hc
      rw [hc] at e3
      have e4 := G2.out.frozenAt (k * 2 + 1)
      have hset := G2.out.stored (k * 2 + 1) (.complex .f32 (weighM x m).gr (weighM x m).gi)
      rw [cellsM_setg (weighK ms ws k) k m (weighM x m) (weighK_at ms ws k m Hl.out Hmk.out.1) ⟨rfl, rfl⟩, weighK_set ms ws k m x Hl.out Hmk.out.1 Hmk.out.2] at hset
      have hfin : WeighI ms ws n w.heap.size (.slice (some ⟨g2, 0, none⟩) n vc1) w (.int .i64 ((k : Int) + 1)) (w5.setCell ⟨g2, k * 2 + 1, none⟩ (.complex .f32 (opB .mul .f32 m.gr x) (opB .mul .f32 m.gi x))) :=
        ⟨k + 1, by omega, by rw [show ((k + 1 : Nat) : Int) = (k : Int) + 1 from by omega], hset.1, G5.out.set (by show w.heap.size ≤ g2; exact hs4.1) _⟩
      have Hfin := Lib.hid hfin
      clear hfin hset hc
      go_wp2_with fail
      go_roundw
      case rel => exact Hfin.out
      case measure => simp only [intOf]; omega
    · obtain rfl : k = n := by omega
      have hwl := weighL_len ms ws Hl.out
      go_wp2_with fail
      go_ret
      refine ⟨_, rfl, ?_, Nr.out⟩
      have h := Ow.out
      rw [weighK_full ms ws k Hs.out.2.1 Hs.out.2.2.1] at h
      rw [hwl, Hs.out.2.1]
      exact h
end Go.Proofs.Ytlhhcchncobmhaa

/- The walks of RoomBody and RingRoom.
   Conditions: those that each statement names. -/
namespace Go.Proofs.Ytlhhcchncobmhaa
set_option linter.unusedSimpArgs false
set_option linter.unusedVariables false
open Go Go.RowKit

set_option maxRecDepth 100000 in
set_option maxHeartbeats 3200000 in
theorem roomBody_ok (ms : List M4) (rows : List (List Nat)) (q P b bs s t : Nat) (rs re : List Nat) (mv sv : Value) (w : World) (h : RoomV ms rows q P b bs mv sv w) (hs : rows[s]? = some rs) (he : rows[t]? = some re) :
    Calls Try.prog 52 #[.agg #[mv, sv], .int .i64 (s : Int), .int .i64 (t : Int)] w (DampP q (weighL ms (mulW rs re)) w) := by
  obtain ⟨ma, mc, rfl⟩ := own_shape' h.om
  obtain ⟨sa, sc, rfl⟩ := h.rs.shape
  have hP16 := h.hP16
  have hq16 := h.hq16
  have ee := h.hP
  rw [ee] at h ⊢
  have N0 := Lib.hid (((Nw.refl w).alloc (.cells #[.slice ma q mc, .slice sa P sc] 26 (0, 0))).alloc (.cells #[.slice none 0 0] 69 (0, 0)))
  have B0 := Lib.hid ((Has2.new w 26 (.slice ma q mc) (.slice sa P sc)).alloc (.cells #[.slice none 0 0] 69 (0, 0)))
  have D0 := Lib.hid (Has1.new (w.alloc (.cells #[.slice ma q mc, .slice sa P sc] 26 (0, 0))) 69 (.slice none 0 0))
  rw [show (w.alloc (.cells #[.slice ma q mc, .slice sa P sc] 26 (0, 0))).heap.size = w.heap.size + 1 from by simp] at D0
  have H := Lib.hid h
  have hsP : s < P := by have := (List.getElem?_eq_some_iff.1 hs).1; omega
  have heP : t < P := by have := (List.getElem?_eq_some_iff.1 he).1; omega
  have ds : decide (s < P) = true := by simp [hsP]
  have de : decide (t < P) = true := by simp [heP]
  have E := Lib.hid (And.intro ee (And.intro hs he))
  clear h ee hs he
  go_enter Try.func52, Try.ntmps52
  obtain ⟨b0, b1, b2, b3, b4⟩ := B0.out
  go_wp2_with fail
  refine (isRoom_ok ms rows q P b bs _ _ _ (H.out.nw N0.out)).mono ?_
  rintro e w1 ⟨rfl, n1⟩
  have B1 := Lib.hid (B0.out.nw n1)
  have D1 := Lib.hid (D0.out.nw n1)
  have N1 := Lib.hid (N0.out.trans n1)
  clear n1 b0 b1 b2 b3 b4
  obtain ⟨b0, b1, b2, b3, b4⟩ := B1.out
  go_wp2_with fail
  refine (isPlace_ok _ sa P sc s (by omega) (by omega) _).mono ?_
  rw [ds]
  rintro e w2 ⟨rfl, n2⟩
  have B2 := Lib.hid (B1.out.nw n2)
  have D2 := Lib.hid (D1.out.nw n2)
  have N2 := Lib.hid (N1.out.trans n2)
  clear n2 b0 b1 b2 b3 b4
  obtain ⟨b0, b1, b2, b3, b4⟩ := B2.out
  go_wp2_with fail
  refine (isPlace_ok _ sa P sc t (by omega) (by omega) _).mono ?_
  rw [de]
  rintro e w3 ⟨rfl, n3⟩
  have B3 := Lib.hid (B2.out.nw n3)
  have D3 := Lib.hid (D2.out.nw n3)
  have N3 := Lib.hid (N2.out.trans n3)
  have H3 := Lib.hid (H.out.nw N3.out)
  clear n3 b0 b1 b2 b3 b4
  obtain ⟨g, cap, ra, rc, hv, hcap, hmax, hgs, e1, own1⟩ := H3.out.rs.at E.out.1.symm E.out.2.1
  cases hv
  obtain ⟨g2, cap2, ta, tc, hv, hcap2, hmax2, hgs2, e2, own2⟩ := H3.out.rs.at E.out.1.symm E.out.2.2
  cases hv
  have O1 := Lib.hid own1
  have O2 := Lib.hid own2
  have L1 := Lib.hid (And.intro (H3.out.rs.lens rs (List.mem_of_getElem? E.out.2.1)) (H3.out.rs.lens re (List.mem_of_getElem? E.out.2.2)))
  have W1 := Lib.hid (And.intro (H3.out.wt rs (List.mem_of_getElem? E.out.2.1)) (H3.out.wt re (List.mem_of_getElem? E.out.2.2)))
  unfold maxLen at hmax hmax2
  clear own1 own2
  obtain ⟨b0, b1, b2, b3, b4⟩ := B3.out
  go_wp2_with fail
  refine wp_region_still_tail 10 (by kernel_rfl) (by kernel_rfl) ?_
  simp only [List.take_succ_cons, List.take_zero, List.drop_succ_cons, List.drop_zero]
  repeat still_step
  refine wpStill_nil ?_
  change wpList _ _ _ _ _ (w3.drewN 1)
  have N4 := Lib.hid (N3.out.draw 1)
  have B4 := Lib.hid (B3.out.draw 1)
  have D4 := Lib.hid (D3.out.draw 1)
  have M4' := Lib.hid (H3.out.nw ((Nw.refl w3).draw 1))
  have O1' := Lib.hid (own_nw O1.out ((Nw.refl w3).draw 1))
  have O2' := Lib.hid (own_nw O2.out ((Nw.refl w3).draw 1))
  clear b0 b1 b2 b3 b4 e1 e2
  generalize w3.drewN 1 = w4 at *
  go_wp2_with fail
  refine (multiplySamples_ok rs re q _ _ _ _ L1.out.1 L1.out.2 (by omega) _ O1'.out O2'.out W1.out.1 W1.out.2).mono ?_
  rintro e w5 ⟨v5, rfl, own5, n5⟩
  obtain ⟨pa, pc, rfl⟩ := own_shape' own5
  have O5 := Lib.hid own5
  have N5 := Lib.hid (N4.out.trans n5)
  have B5 := Lib.hid (B4.out.nw n5)
  have D5 := Lib.hid (D4.out.nw n5)
  have M5 := Lib.hid (M4'.out.nw n5)
  clear own5 n5
  obtain ⟨b0, b1, b2, b3, b4⟩ := B5.out
  have hwl := mulW_len rs re (L1.out.1.trans L1.out.2.symm)
  go_wp2_with fail
  refine (weighModes_ok ms M5.out.ok (mulW rs re) q b _ _ _ M5.out.hq (hwl.trans L1.out.1) hq16 (mulW_wt rs re W1.out.1 W1.out.2) _ M5.out.om O5.out).mono ?_
  rintro e w6 ⟨v6, rfl, own6, n6⟩
  obtain ⟨pa6, pc6, rfl⟩ := own_shape' own6
  have hl6 := weighL_len ms (mulW rs re) (by rw [hwl, L1.out.1, M5.out.hq])
  rw [hl6, M5.out.hq] at own6 ⊢
  have hl6' := hl6.trans M5.out.hq
  have N6 := Lib.hid ((N5.out.trans n6).alloc (.cells #[.slice pa6 q pc6] 69 (0, 0)))
  have O6 := Lib.hid (own6.alloc (.cells #[.slice pa6 q pc6] 69 (0, 0)))
  have D6 := Lib.hid ((D5.out.nw n6).alloc (.cells #[.slice pa6 q pc6] 69 (0, 0)))
  have E6 := Lib.hid (Has1.new w6 69 (.slice pa6 q pc6))
  have hs6 : w.heap.size + 2 ≤ w5.heap.size := by have := D5.out.1; omega
  clear own6 n6 b0 b1 b2 b3 b4
  obtain ⟨f0, f1, f2⟩ := E6.out
  go_wp2_with fail
  refine (implIsBody_ok (weighL ms (mulW rs re)) (weighL_ok ms _ M5.out.ok (mulW_wt rs re W1.out.1 W1.out.2)) q _ _ hl6' hq16 _ O6.out).mono ?_
  rintro e w7 ⟨rfl, n7⟩
  have N7 := Lib.hid (N6.out.trans n7)
  have O7 := Lib.hid (own_nw O6.out n7)
  have D7 := Lib.hid (D6.out.nw n7)
  have E7 := Lib.hid (E6.out.nw n7)
  clear n7 f0 f1 f2
  obtain ⟨f0, f1, f2⟩ := E7.out
  obtain ⟨d0, d1, d2⟩ := D7.out
  go_wp2_with fail
  exact bodyPost_ret (v := .tuple #[.agg #[.slice pa6 q pc6], .bool true]) (by simp [results, Try.results52, go_sem, d0, d1, d2]) rfl ⟨_, rfl, own_base (own_set O7.out (by show w.heap.size + 1 < w5.heap.size; omega) _) (by omega), N7.out.set (by show w.heap.size ≤ w.heap.size + 1; omega) _⟩

/-- .. and where a place is missing -/
theorem roomBody_no (ms : List M4) (rows : List (List Nat)) (q P b bs s t : Nat) (mv sv : Value) (w : World) (h : RoomV ms rows q P b bs mv sv w) (hs : s ≤ 64) (hsP : ¬ s < P) :
    Calls Try.prog 52 #[.agg #[mv, sv], .int .i64 (s : Int), .int .i64 (t : Int)] w fun e w' => e = .returned (.tuple #[.agg #[.slice none 0 0], .bool false]) ∧ Nw w w' := by
  obtain ⟨ma, mc, rfl⟩ := own_shape' h.om
  obtain ⟨sa, sc, rfl⟩ := h.rs.shape
  have hP16 := h.hP16
  have hq16 := h.hq16
  have ee := h.hP
  rw [ee] at h ⊢
  have N0 := Lib.hid (((Nw.refl w).alloc (.cells #[.slice ma q mc, .slice sa P sc] 26 (0, 0))).alloc (.cells #[.slice none 0 0] 69 (0, 0)))
  have B0 := Lib.hid ((Has2.new w 26 (.slice ma q mc) (.slice sa P sc)).alloc (.cells #[.slice none 0 0] 69 (0, 0)))
  have D0 := Lib.hid (Has1.new (w.alloc (.cells #[.slice ma q mc, .slice sa P sc] 26 (0, 0))) 69 (.slice none 0 0))
  rw [show (w.alloc (.cells #[.slice ma q mc, .slice sa P sc] 26 (0, 0))).heap.size = w.heap.size + 1 from by simp] at D0
  have H := Lib.hid h
  have ds : decide (s < P) = false := by simp [hsP]
  clear h ee
  go_enter Try.func52, Try.ntmps52
  obtain ⟨b0, b1, b2, b3, b4⟩ := B0.out
  go_wp2_with fail
  refine (isRoom_ok ms rows q P b bs _ _ _ (H.out.nw N0.out)).mono ?_
  rintro e w1 ⟨rfl, n1⟩
  have B1 := Lib.hid (B0.out.nw n1)
  have D1 := Lib.hid (D0.out.nw n1)
  have N1 := Lib.hid (N0.out.trans n1)
  clear n1 b0 b1 b2 b3 b4
  obtain ⟨b0, b1, b2, b3, b4⟩ := B1.out
  go_wp2_with fail
  refine (isPlace_ok _ sa P sc s (by omega) (by omega) _).mono ?_
  rw [ds]
  rintro e w2 ⟨rfl, n2⟩
  have D2 := Lib.hid (D1.out.nw n2)
  have N2 := Lib.hid (N1.out.trans n2)
  clear n2 b0 b1 b2 b3 b4
  obtain ⟨d0, d1, d2⟩ := D2.out
  go_wp2_with fail
  exact bodyPost_ret (v := .tuple #[.agg #[.slice none 0 0], .bool false]) (by simp [results, Try.results52, go_sem, d0, d1, d2]) rfl ⟨rfl, N2.out.set (by show w.heap.size ≤ w.heap.size + 1; omega) _⟩

/-! ### RingRoom -/
set_option maxRecDepth 100000 in
theorem ringRoom_ok (ms : List M4) (rows : List (List Nat)) (q P b bs s t p n bi : Nat) (rs re xs : List Nat) (mv sv iv : Value) (w : World) (h : RoomV ms rows q P b bs mv sv w) (hs : rows[s]? = some rs) (he : rows[t]? = some re)
    (hp : xs.length = p) (hxl : p ≤ 1048576) (hn : n ≤ 2000) (hi : w.ownsRow bi 31 1 iv p (cellsS xs)) (hok : RingOk (weighL ms (mulW rs re)) (inputOf xs) n) :
    Calls Try.prog 13 #[.agg #[mv, sv], .int .i64 (s : Int), .int .i64 (t : Int), iv, .int .i64 (n : Int)] w (RingP2 w.heap.size (ringS (weighL ms (mulW rs re)) (inputOf xs) n) n w) := by
  obtain ⟨ma, mc, rfl⟩ := own_shape' h.om
  obtain ⟨sa, sc, rfl⟩ := h.rs.shape
  obtain ⟨ia, ic, rfl⟩ := own_shape' hi
  have ee := h.hP
  have L1 := Lib.hid (And.intro (h.rs.lens rs (List.mem_of_getElem? hs)) (h.rs.lens re (List.mem_of_getElem? he)))
  have W1 := Lib.hid (mulW_wt rs re (h.wt rs (List.mem_of_getElem? hs)) (h.wt re (List.mem_of_getElem? he)))
  rw [ee] at h ⊢
  have N0 := Lib.hid ((Nw.refl w).alloc (.cells #[.slice ma q mc, .slice sa P sc] 26 (0, 0)))
  have B0 := Lib.hid (Has2.new w 26 (.slice ma q mc) (.slice sa P sc))
  have H := Lib.hid (h.nw N0.out)
  have I0 := Lib.hid (own_nw hi N0.out)
  have Hs := Lib.hid (And.intro hs (And.intro he (And.intro hp hok)))
  have hl6 : (weighL ms (mulW rs re)).length = q := by rw [weighL_len ms (mulW rs re) (by rw [mulW_len rs re (L1.out.1.trans L1.out.2.symm), L1.out.1, h.hq]), h.hq]
  have Hl := Lib.hid hl6
  have hq16 := h.hq16
  clear h hs he hp hok hi hl6 ee
  go_enter Try.func13, Try.ntmps13
  obtain ⟨b0, b1, b2, b3, b4⟩ := B0.out
  go_wp2_with fail
  refine (roomBody_ok ms rows q P b bs s t rs re _ _ _ H.out Hs.out.1 Hs.out.2.1).mono ?_
  rintro e w1 ⟨v1, rfl, own1, n1⟩
  obtain ⟨va, vc, rfl⟩ := own_shape' own1
  have N1 := Lib.hid ((N0.out.trans n1).alloc (.cells #[.slice va q vc] 69 (0, 0)))
  have O1 := Lib.hid (own1.alloc (.cells #[.slice va q vc] 69 (0, 0)))
  have I1 := Lib.hid ((own_nw I0.out n1).alloc (.cells #[.slice va q vc] 69 (0, 0)))
  have E1 := Lib.hid (Has1.new w1 69 (.slice va q vc))
  clear own1 n1 b0 b1 b2 b3 b4
  obtain ⟨f0, f1, f2⟩ := E1.out
  go_wp2_with fail
  refine (ringBody_some' (weighL ms (mulW rs re)) (weighL_ok ms _ H.out.ok W1.out) xs n q p _ _ _ _ Hl.out hq16 Hs.out.2.2.1 hxl hn _ O1.out I1.out Hs.out.2.2.2).mono ?_
  rintro e w2 ⟨g2, rfl, own2, n2⟩
  have N2 := Lib.hid (N1.out.trans n2)
  have O2 := Lib.hid (own_base own2 N1.out.size)
  clear own2 n2
  go_wp2_with fail
  go_ret2
  exact ⟨g2, rfl, O2.out, N2.out⟩

theorem ringRoom_no (ms : List M4) (rows : List (List Nat)) (q P b bs s t : Nat) (mv sv iv nv : Value) (w : World) (h : RoomV ms rows q P b bs mv sv w) (hs : s ≤ 64) (hsP : ¬ s < P) :
    Calls Try.prog 13 #[.agg #[mv, sv], .int .i64 (s : Int), .int .i64 (t : Int), iv, nv] w fun e w' => e = .returned (.tuple #[.slice none 0 0, .bool false]) ∧ Nw w w' := by
  obtain ⟨ma, mc, rfl⟩ := own_shape' h.om
  obtain ⟨sa, sc, rfl⟩ := h.rs.shape
  have ee := h.hP
  rw [ee] at h ⊢
  have N0 := Lib.hid ((Nw.refl w).alloc (.cells #[.slice ma q mc, .slice sa P sc] 26 (0, 0)))
  have B0 := Lib.hid (Has2.new w 26 (.slice ma q mc) (.slice sa P sc))
  have H := Lib.hid (h.nw N0.out)
  clear h ee
  go_enter Try.func13, Try.ntmps13
  obtain ⟨b0, b1, b2, b3, b4⟩ := B0.out
  go_wp2_with fail
  refine (roomBody_no ms rows q P b bs s t _ _ _ H.out hs hsP).mono ?_
  rintro e w1 ⟨rfl, n1⟩
  have N1 := Lib.hid ((N0.out.trans n1).alloc (.cells #[.slice none 0 0] 69 (0, 0)))
  clear n1
  go_wp2_with fail
  go_ret2
  exact ⟨rfl, N1.out⟩
end Go.Proofs.Ytlhhcchncobmhaa

/- The walks of joinWeights and ShareModes.
   Conditions: those that each statement names. -/
namespace Go.Proofs.Ytlhhcchncobmhaa
set_option linter.unusedSimpArgs false
set_option linter.unusedVariables false
open Go Go.RowKit

theorem splice_all (L : List Value) (off : Nat) (cs : List Value) (h : off + cs.length = L.length) : splice L off cs = L.take off ++ cs := by
  unfold splice
  rw [h, List.drop_length, List.append_nil]
theorem nw_of_below' {w w1 : World} (h : Below w.heap.size w w1) : Nw w w1 := ⟨h.os, h.tape, h.output, h.size, fun k hk _ => h.block k hk⟩
theorem below_of_nw {w w1 : World} (h : Nw w w1) : Below w.heap.size w w1 := ⟨h.os, h.tape, h.output, h.size, fun k hk => h.block k hk (by simp)⟩

theorem cellsS_one (xs : List Nat) : ∀ u ∈ cellsS xs, u.oneCell' = true := by
  intro u hu
  obtain ⟨x, _, rfl⟩ := List.mem_map.1 hu
  rfl
/-- where the cells of a row of samples lie -/
theorem own_src {w : World} {b n : Nat} {a : Option Addr} {c : Nat} {xs : List Nat} (h : w.ownsRow b 31 1 (.slice a n c) n (cellsS xs)) (h0 : 0 < n) : ∃ ad, a = some ad ∧ ∀ j v, (cellsS xs)[j]? = some v → w.cell? (ad.add j) = some v := by
  rcases h.2 with ⟨_, hn⟩ | ⟨g, cap, cur, hv, _⟩
  · omega
  · cases hv
    exact ⟨⟨g, 0, none⟩, rfl, fun j v hj => h.cells rfl j v hj⟩

set_option maxRecDepth 100000 in
set_option maxHeartbeats 1600000 in
theorem joinWeights_ok (xs ys : List Nat) (n m bi bj : Nat) (v u : Value) (hx : xs.length = n) (hy : ys.length = m) (hn : n ≤ 64) (hm : m ≤ 64) (w : World)
    (hi : w.ownsRow bi 31 1 v n (cellsS xs)) (hj : w.ownsRow bj 31 1 u m (cellsS ys)) :
    Calls Try.prog 64 #[v, u] w (RowF (xs ++ ys) (n + m) w) := by
  obtain ⟨va, vc, rfl⟩ := own_shape' hi
  obtain ⟨ua, uc, rfl⟩ := own_shape' hj
  obtain ⟨f0, hf, hfz0, hfz1, hfz2⟩ := info_parts info_f32
  have Hi := Lib.hid hi
  have Hj := Lib.hid hj
  have Hx := Lib.hid (And.intro hx hy)
  obtain ⟨X, hX⟩ : ∃ X, X = cellsS xs := ⟨_, rfl⟩
  obtain ⟨Y, hY⟩ : ∃ Y, Y = cellsS ys := ⟨_, rfl⟩
  have HX := Lib.hid (show X = cellsS xs ∧ X.length = n ∧ (∀ u ∈ X, u.oneCell' = true) from ⟨hX, by rw [hX, cellsS, List.length_map, hx], by rw [hX]; exact cellsS_one xs⟩)
  have HY := Lib.hid (show Y = cellsS ys ∧ Y.length = m ∧ (∀ u ∈ Y, u.oneCell' = true) from ⟨hY, by rw [hY, cellsS, List.length_map, hy], by rw [hY]; exact cellsS_one ys⟩)
  clear hi hj hx hy hX hY
  obtain ⟨N, hN⟩ : ∃ N, N = n + m := ⟨_, rfl⟩
  have hNi : (n : Int) + m = (N : Int) := by omega
  have hwr : IntKind.i64.wrap (N : Int) = (N : Int) := IntWalk.i64_in _ (by omega)
  have hNb : N ≤ 128 := by omega
  rw [← hN]
  have HN := Lib.hid hN
  clear hN
  go_enter Try.func64, Try.ntmps64
  go_wp2_with (first
    | (at_make; refine wpList_make_full _ rfl _ _ 28 rfl w.heap.size 31 f0 (.float .f32 0) 1 Try.underlying28 hf hfz0 hfz1 _ _ _ _ N rfl rfl rfl rfl (by rw [hfz2]; omega) (by unfold maxLen; omega) (Nat.le_refl _) ?_))
  intro w3 hown3 hgrow3
  rcases hown3.2 with ⟨h1, _⟩ | ⟨g, cap, cur, hv, hb, hg, hc, hmx, hsz, ht⟩
  · cases h1
  cases hv
  have hcl : cur.toList.length = N := by rw [Array.length_toList]; omega
  have G3 := Lib.hid (show w3.heap[w.heap.size]? = some (.cells cur.toList.toArray 31 (0, 0)) from by simpa using hg)
  have N3 := Lib.hid (show Nw w w3 from hgrow3)
  have B3 := Lib.hid (below_of_nw N3.out)
  have Hcl := Lib.hid hcl
  have S1 := Lib.hid (fun (h0 : 0 < n) => own_src (own_nw Hi.out N3.out) h0)
  generalize cur.toList = L at *
  clear hown3 hgrow3 hb hg hc hmx hsz ht hcl
  go_wp2_with (with_reducible refine wpList_copy_splice rfl (.tmp 12) (.tmp 13) 28 28 rfl 31 Try.underlying28 (by kernel_rfl) _ _ _ _ _ _ rfl rfl w.heap.size 0 L 31 G3.out X ?n1 ?n2 ?n3 HX.out.2.2 w.heap.size w B3.out (Nat.le_refl _) ?_)
  case n1 => rw [HX.out.2.1, HN.out]; simp only [Nat.min_def]; split <;> omega
  case n2 =>
    intro h0
    rw [HX.out.2.1] at h0
    obtain ⟨ad, e1, e2⟩ := S1.out h0
    rw [← HX.out.1] at e2
    first
      | exact ⟨ad, e1, e2⟩
      | exact ⟨rfl, ad, e1, e2⟩
  case n3 => rw [HX.out.2.1, Hcl.out, HN.out]; omega
  intro w4 G4 hb4
  have B4 := Lib.hid hb4
  have N4 := Lib.hid (nw_of_below' hb4)
  have S2 := Lib.hid (fun (h0 : 0 < m) => own_src (own_nw Hj.out N4.out) h0)
  clear hb4
  have Z4 := Lib.hid (show splice L 0 X = X ++ L.drop n from by unfold splice; rw [HX.out.2.1]; simp)
  go_wp2_with (with_reducible refine wpList_copy_splice rfl (.tmp 18) (.tmp 19) 28 28 rfl 31 Try.underlying28 (by kernel_rfl) _ _ _ _ _ _ rfl rfl w.heap.size n (splice L 0 X) 31 G4.out Y ?n1 ?n2 ?n3 HY.out.2.2 w.heap.size w B4.out (Nat.le_refl _) ?_)
  case n1 => have hN := HN.out; rw [HY.out.2.1]; simp only [Nat.min_def]; split <;> omega
  case n2.inl | n2.inr =>
    have hN := HN.out
    intro h0
    rw [HY.out.2.1] at h0
    obtain ⟨ad, e1, e2⟩ := S2.out h0
    rw [← HY.out.1] at e2
    first
      | exact ⟨ad, e1, e2⟩
      | exact ⟨rfl, ad, e1, e2⟩
      | (exfalso; omega)
  case n3 => have hN := HN.out; rw [HY.out.2.1, Z4.out, List.length_append, HX.out.2.1, List.length_drop, Hcl.out]; omega
  case inl =>
    intro w5 g5 hb5
    have hN := HN.out
    have N5 := Lib.hid (nw_of_below' hb5)
    have e5 : splice (splice L 0 X) n Y = X ++ Y := by
      rw [splice_all _ _ _ (by rw [HY.out.2.1, Z4.out, List.length_append, HX.out.2.1, List.length_drop, Hcl.out]; omega), Z4.out, List.take_append_of_le_length (by rw [HX.out.2.1]; exact Nat.le_refl _), List.take_of_length_le (by rw [HX.out.2.1]; exact Nat.le_refl _)]
    have hl : (X ++ Y).length = N := by rw [List.length_append, HX.out.2.1, HY.out.2.1, hN]
    have hXY : X ++ Y = cellsS (xs ++ ys) := by rw [HX.out.1, HY.out.1]; simp [cellsS]
    have f5 : w5.ownsRow w.heap.size 31 1 (.slice (some ⟨w.heap.size, 0, none⟩) N N) N (cellsS (xs ++ ys)) := by
      rw [← hXY]
      refine ⟨by omega, .inr ⟨w.heap.size, N, (X ++ Y).toArray, rfl, Nat.le_refl _, by have := g5.out; rw [e5] at this; exact this, Nat.le_refl _, by unfold maxLen; omega, by simp only [List.size_toArray]; omega, ?_⟩⟩
      rw [List.take_of_length_le (by simp only [List.length_append] at hl ⊢; omega)]
    clear g5 hb5 e5 hl hXY
    rw [h] at f5
    have F5 := Lib.hid f5
    clear f5 hN
    go_wp2_with fail
    go_ret
    exact ⟨_, rfl, by rw [h]; exact F5.out, N5.out⟩
  case inr =>
    intro w5 g5 hb5
    have hN := HN.out
    have N5 := Lib.hid (nw_of_below' hb5)
    have e5 : splice (splice L 0 X) n Y = X ++ Y := by
      rw [splice_all _ _ _ (by rw [HY.out.2.1, Z4.out, List.length_append, HX.out.2.1, List.length_drop, Hcl.out]; omega), Z4.out, List.take_append_of_le_length (by rw [HX.out.2.1]; exact Nat.le_refl _), List.take_of_length_le (by rw [HX.out.2.1]; exact Nat.le_refl _)]
    have hl : (X ++ Y).length = N := by rw [List.length_append, HX.out.2.1, HY.out.2.1, hN]
    have hXY : X ++ Y = cellsS (xs ++ ys) := by rw [HX.out.1, HY.out.1]; simp [cellsS]
    have f5 : w5.ownsRow w.heap.size 31 1 (.slice (some ⟨w.heap.size, 0, none⟩) N N) N (cellsS (xs ++ ys)) := by
      rw [← hXY]
      refine ⟨by omega, .inr ⟨w.heap.size, N, (X ++ Y).toArray, rfl, Nat.le_refl _, by have := g5.out; rw [e5] at this; exact this, Nat.le_refl _, by unfold maxLen; omega, by simp only [List.size_toArray]; omega, ?_⟩⟩
      rw [List.take_of_length_le (by simp only [List.length_append] at hl ⊢; omega)]
    clear g5 hb5 e5 hl hXY
    have F5 := Lib.hid f5
    clear f5 hN
    go_wp2_with fail
    go_ret
    exact ⟨_, rfl, F5.out, N5.out⟩

/-! ### ShareModes -/
/-- append of one row to a slice of rows, as a step of a region that draws its order -/
theorem step_append_row {ops : Array Oper} {o : Oper} {a : Act} {w : World} {K : Act → World → Prop} {Q : Exit → Act → World → Prop} {E : Prop} (hg : o.guard = none) (s x : Operand)
    (hop : o.op = Op.call { callee := Callee.builtin Builtin.append, args := #[s, x], argTypes := #[24, 24] }) (base n h : Nat) (v rv : Value) (vs : List Value) (hs : a.eval s = v) (hx : a.eval x = .slice (some ⟨h, 0, none⟩) 1 1)
    (hv : w.ownsRow base 28 1 v n vs) (hc : w.cell? ⟨h, 0, none⟩ = some rv) (h1 : rv.oneCell' = true) (hn : n ≤ 1048576) (hb : base ≤ w.heap.size)
    (hK : ∀ v' w', w'.ownsRow base 28 1 v' (n + 1) (vs ++ [rv]) → w.grownBy w' v.ownBlock → K (a.put o.dst v') w') :
    if Region.wanted o (yielded ops a.tmps) = true then Oper.wp Try.prog o a w K Q else E := by
  have hw : Region.wanted o (yielded ops a.tmps) = true := by simp [Region.wanted, hg]
  rw [if_pos hw]
  obtain ⟨j0, hj, hy0, hy1, hy2⟩ := info_parts info_rows
  refine wp_append_own w s x 24 hop base 28 j0 (.slice none 0 0) 1 24 Try.underlying24 hj hy0 hy1 hy2 rfl (by decide) v n vs hs hv ⟨h, 0, none⟩ 1 1 [rv] hx (by simp) ?_ ?_ (by unfold maxLen; omega) (by omega) hb ?_
  · intro j z hj
    match j, hj with
    | 0, hj => simp at hj; subst hj; simpa [Addr.add] using hc
  · intro u hu; simp at hu; subst hu; exact h1
  · intro v' w' h1 h2 _
    exact hK v' w' h1 h2

theorem RoomV.set {ms : List M4} {rows : List (List Nat)} {q P b bs : Nat} {mv sv : Value} {w : World} (h : RoomV ms rows q P b bs mv sv w) {p : Addr} (h1 : p.block < b) (h2 : p.block < bs) (u : Value) : RoomV ms rows q P b bs mv sv (w.setCell p u) :=
  ⟨h.hq, h.hq16, h.hP, h.hP16, h.ok, h.wt, own_set h.om h1 u, h.rs.set h2 u⟩
theorem RoomV.base {ms : List M4} {rows : List (List Nat)} {q P b bs c cs : Nat} {mv sv : Value} {w : World} (h : RoomV ms rows q P b bs mv sv w) (h1 : c ≤ b) (h2 : cs ≤ bs) : RoomV ms rows q P c cs mv sv w :=
  ⟨h.hq, h.hq16, h.hP, h.hP16, h.ok, h.wt, own_base h.om h1, h.rs.base h2⟩
/-- the room that is shared so far: its box lies at the end of wE's memory -/
structure ShareI (wE : World) (q : Nat) (mv sv : Value) (rows : List (List Nat)) (wr : World) : Prop where
  nw : Nw wE wr
  bx : Has2 wr wE.heap.size mv sv
  rs : RowsR wr (wE.heap.size + 1) q sv rows
  sz : wE.heap.size + 1 ≤ wr.heap.size
def ShareO (wE : World) (q : Nat) (mv : Value) (f : Nat → List (List Nat)) (n : Nat) (i : Value) (wr : World) : Prop :=
  ∃ (k : Nat) (sv : Value), k ≤ n ∧ i = .int .i64 (k : Int) ∧ ShareI wE q mv sv (f k) wr

def ShareP (ms : List M4) (rows : List (List Nat)) (q P : Nat) (w : World) (e : Ending) (w' : World) : Prop :=
  ∃ mv sv : Value, e = .returned (.tuple #[.agg #[mv, sv], .bool true]) ∧ RoomV ms rows q P w.heap.size w.heap.size mv sv w' ∧ Nw w w'

/-- samples, each multiplied by another -/
def scaleL (xs : List Nat) (f : Nat) : List Nat := xs.map fun x => opB .mul .f32 x f
theorem scaleL_wt (xs : List Nat) (f : Nat) (h : ∀ x ∈ xs, Wt x) (hf : Wt f) : ∀ x ∈ scaleL xs f, Wt x := by
  intro x hx
  obtain ⟨y, hy, rfl⟩ := List.mem_map.1 hx
  exact (wt_mul y f (h y hy) hf).2

/-- one row more -/
theorem share_step {wE w6 w7 : World} {q b2 : Nat} {mv sv sv' rv : Value} {acc : List (List Nat)} {r : List Nat} {vs : List Value} {o : Obj} (n6 : Nw wE w6) (bx : Has2 w6 wE.heap.size mv sv) (sz : wE.heap.size + 1 ≤ w6.heap.size)
    (ho : w6.ownsRow (wE.heap.size + 1) 28 1 sv acc.length vs) (hi : ∀ (p : Nat) r, acc[p]? = some r → r.length = q ∧ ∃ v, vs[p]? = some v ∧ w6.ownsRow (wE.heap.size + 1) 31 1 v q (cellsS r))
    (hr : w6.ownsRow b2 31 1 rv q (cellsS r)) (hb : wE.heap.size + 1 ≤ b2) (hq : r.length = q) (hn : w7.ownsRow (wE.heap.size + 1) 28 1 sv' (acc.length + 1) (vs ++ [rv])) (hg : (w6.alloc o).grownBy w7 sv.ownBlock) :
    ShareI wE q mv sv' (acc ++ [r]) (w7.setCell ⟨wE.heap.size, 1, none⟩ sv') ∧ Has2 w7 wE.heap.size mv sv := by
  have hrow : ∀ g, sv.ownBlock = some g → wE.heap.size + 1 ≤ g := fun g hg => own_ge ho g hg
  have bx7 : Has2 w7 wE.heap.size mv sv := (bx.alloc o).grown hg (fun e => by have := hrow _ e; omega)
  have rs7 := RowsR.snoc (ho.alloc o) (fun p r hp => ⟨(hi p r hp).1, by obtain ⟨v, a, b⟩ := (hi p r hp).2; exact ⟨v, a, b.alloc o⟩⟩) (hr.alloc o) hb hq hn hg
  have s7 := hg.size
  simp at s7
  exact ⟨⟨((n6.alloc o).grown hg (fun g h => by have := hrow g h; omega)).set (Nat.le_refl _) _, bx7.set1 _, rs7.set (by show wE.heap.size < wE.heap.size + 1; omega) _, by simp; omega⟩, bx7⟩

set_option maxRecDepth 100000 in
set_option maxHeartbeats 6400000 in
theorem shareModes_ok (ms ms' : List M4) (rows rows' : List (List Nat)) (q q' P P' b bs b' bs' d : Nat) (r0 r0' : List Nat) (mv sv mv' sv' : Value) (w : World) (h : RoomV ms rows q P b bs mv sv w) (h' : RoomV ms' rows' q' P' b' bs' mv' sv' w)
    (hr : rows[0]? = some r0) (hr' : rows'[0]? = some r0') (hQ : q + q' ≤ 16) (hPP : P + P' ≤ 16) (hd : Wt d) :
    Calls Try.prog 16 #[.agg #[mv, sv], .agg #[mv', sv'], .float .f32 d] w
      (ShareP (ms ++ ms') (rows.map (fun r => r ++ scaleL r0' d) ++ rows'.map (fun r => scaleL r0 d ++ r)) (q + q') (P + P') w) := by
  obtain ⟨ma, mc, rfl⟩ := own_shape' h.om
  obtain ⟨sa, sc, rfl⟩ := h.rs.shape
  obtain ⟨ma', mc', rfl⟩ := own_shape' h'.om
  obtain ⟨sa', sc', rfl⟩ := h'.rs.shape
  have ee := h.hP
  have ee' := h'.hP
  rw [ee] at h ⊢
  rw [ee'] at h' ⊢
  have hP0 : 0 < P := by have := (List.getElem?_eq_some_iff.1 hr).1; omega
  have hP0' : 0 < P' := by have := (List.getElem?_eq_some_iff.1 hr').1; omega
  have hne : ¬ ((P : Int) = 0) := by omega
  have hne' : ¬ ((P' : Int) = 0) := by omega
  have hnb : ((P : Int) == 0) = false := by simp; omega
  have hnb' : ((P' : Int) == 0) = false := by simp; omega
  have Hr := Lib.hid (And.intro ee (And.intro ee' (And.intro hr (And.intro hr' hd))))
  have N0 := Lib.hid ((((Nw.refl w).alloc (.cells #[.slice ma q mc, .slice sa P sc] 26 (0, 0))).alloc (.cells #[.slice ma' q' mc', .slice sa' P' sc'] 26 (0, 0))).alloc (.cells #[.slice none 0 0, .slice none 0 0] 26 (0, 0)))
  have A0 := Lib.hid (((Has2.new w 26 (.slice ma q mc) (.slice sa P sc)).alloc (.cells #[.slice ma' q' mc', .slice sa' P' sc'] 26 (0, 0))).alloc (.cells #[.slice none 0 0, .slice none 0 0] 26 (0, 0)))
  have B0 := Lib.hid (show Has2 _ (w.heap.size + 1) (.slice ma' q' mc') (.slice sa' P' sc') from by simpa using (Has2.new (w.alloc (.cells #[.slice ma q mc, .slice sa P sc] 26 (0, 0))) 26 (.slice ma' q' mc') (.slice sa' P' sc')).alloc (.cells #[.slice none 0 0, .slice none 0 0] 26 (0, 0)))
  have C0 := Lib.hid (show Has2 _ (w.heap.size + 1 + 1) (.slice none 0 0) (.slice none 0 0) from by simpa using Has2.new ((w.alloc (.cells #[.slice ma q mc, .slice sa P sc] 26 (0, 0))).alloc (.cells #[.slice ma' q' mc', .slice sa' P' sc'] 26 (0, 0))) 26 (.slice none 0 0) (.slice none 0 0))
  have H := Lib.hid h
  have H' := Lib.hid h'
  clear h h' ee ee' hr hr' hd
  go_enter Try.func16, Try.ntmps16
  obtain ⟨b0, b1, b2, b3, b4⟩ := A0.out
  go_wp2_with fail
  refine (isRoom_ok ms rows q P b bs _ _ _ (H.out.nw N0.out)).mono ?_
  rintro e w1 ⟨rfl, n1⟩
  have N1 := Lib.hid (N0.out.trans n1)
  have A1 := Lib.hid (A0.out.nw n1)
  have B1 := Lib.hid (B0.out.nw n1)
  have C1 := Lib.hid (C0.out.nw n1)
  clear n1 b0 b1 b2 b3 b4
  obtain ⟨b0, b1, b2, b3, b4⟩ := B1.out
  go_wp2_with fail
  refine (isRoom_ok ms' rows' q' P' b' bs' _ _ _ (H'.out.nw N1.out)).mono ?_
  rintro e w2 ⟨rfl, n2⟩
  have N2 := Lib.hid (N1.out.trans n2)
  have A2 := Lib.hid (A1.out.nw n2)
  have B2 := Lib.hid (B1.out.nw n2)
  have C2 := Lib.hid (C1.out.nw n2)
  have H2 := Lib.hid (H.out.nw N2.out)
  have H2' := Lib.hid (H'.out.nw N2.out)
  clear n2 b0 b1 b2 b3 b4
  obtain ⟨g, cap, ra, rc, hv, hcap, hmax, hgs, e1, own1⟩ := H2.out.rs.at Hr.out.1.symm Hr.out.2.2.1
  cases hv
  obtain ⟨g', cap', ra', rc', hv, hcap', hmax', hgs', e1', own1'⟩ := H2'.out.rs.at Hr.out.2.1.symm Hr.out.2.2.2.1
  cases hv
  have O1 := Lib.hid own1
  have O1' := Lib.hid own1'
  have L1 := Lib.hid (And.intro (H2.out.rs.lens r0 (List.mem_of_getElem? Hr.out.2.2.1)) (H2'.out.rs.lens r0' (List.mem_of_getElem? Hr.out.2.2.2.1)))
  have W1 := Lib.hid (And.intro (H2.out.wt r0 (List.mem_of_getElem? Hr.out.2.2.1)) (H2'.out.wt r0' (List.mem_of_getElem? Hr.out.2.2.2.1)))
  have E1 := Lib.hid e1
  have E1' := Lib.hid e1'
  unfold maxLen at hmax hmax'
  clear own1 own1'
  obtain ⟨a0, a1, a2, a3, a4⟩ := A2.out
  obtain ⟨b0, b1, b2, b3, b4⟩ := B2.out
  have hq16 := H2.out.hq16
  have hq16' := H2'.out.hq16
  go_upto_region 3 with fail
  go_cut [8, 9] (fun fa fb wx => ∃ (xa : Option Addr) (xc : Nat) (ya : Option Addr) (yc : Nat), fa = .slice xa q xc ∧ fb = .slice ya q' yc ∧ wx.ownsRow w.heap.size 31 1 (.slice xa q xc) q (cellsS (scaleL r0 d)) ∧ wx.ownsRow w.heap.size 31 1 (.slice ya q' yc) q' (cellsS (scaleL r0' d)) ∧ Nw w2 wx)
  case first =>
    have hw2 := N2.out.size
    have K1 := Lib.hid (scaleSamples_ok r0 q _ d (.slice ra q rc) L1.out.1 (by omega) w2.drew O1.out.drew (fun x hx => (wt_mul x d (W1.out.1 x hx) Hr.out.2.2.2.2).1))
    go_region_with (first
      | (go_at_call 62
         with_reducible refine K1.out.mono ?_
         rintro e w5 ⟨v5, rfl, own5, n5⟩
         obtain ⟨xa, xc, rfl⟩ := own_shape' own5
         have N5 := Lib.hid (((Nw.refl w2).draw 1).trans n5)
         have O5 := Lib.hid own5
         obtain ⟨c0, c1, c2, c3, c4⟩ := B2.out.nw N5.out
         have e5 := (N5.out.cell (p := ⟨g', 0, none⟩) hgs').trans E1'.out
         have K2 := Lib.hid (scaleSamples_ok r0' q' _ d (.slice ra' q' rc') L1.out.2 (by omega) w5 (own_nw O1'.out N5.out) (fun x hx => (wt_mul x d (W1.out.2 x hx) Hr.out.2.2.2.2).1))
         clear own5 n5)
      | (go_at_call 62
         with_reducible refine K2.out.mono ?_
         rintro e w6 ⟨v6, rfl, own6, n6⟩
         obtain ⟨ya, yc, rfl⟩ := own_shape' own6
         have N6 := Lib.hid (N5.out.trans n6)
         have O6 := Lib.hid (own_nw O5.out n6)
         have P6 := Lib.hid (own_base own6 N5.out.size)
         clear own6 n6))
    all_goals
      go_wp2_with fail
      go_meet
      exact ⟨_, _, _, _, rfl, rfl, own_base O6.out hw2, own_base P6.out hw2, N6.out⟩
  case rest =>
    obtain ⟨xa, xc, ya, yc, rfl, rfl, ox, oy, n3⟩ := hcut
    have N3 := Lib.hid (N2.out.trans n3)
    have X3 := Lib.hid ox
    have Y3 := Lib.hid oy
    have A3 := Lib.hid (A2.out.nw n3)
    have B3 := Lib.hid (B2.out.nw n3)
    have C3 := Lib.hid (C2.out.nw n3)
    have H3 := Lib.hid (H2.out.nw n3)
    have H3' := Lib.hid (H2'.out.nw n3)
    clear ox oy n3 a0 a1 a2 a3 a4 b0 b1 b2 b3 b4 e1 e1'
    obtain ⟨a0, a1, a2, a3, a4⟩ := A3.out
    obtain ⟨b0, b1, b2, b3, b4⟩ := B3.out
    have K4 := Lib.hid (Has2.new wc 23 (.slice ma q mc) (.slice ma' q' mc'))
    have n4 : Nw wc (wc.alloc (.cells #[.slice ma q mc, .slice ma' q' mc'] 23 (0, 0))) := (Nw.refl wc).alloc _
    have N4 := Lib.hid n4
    clear n4
    obtain ⟨k0, k1, k2, k3, k4⟩ := K4.out
    go_wp2_with fail
    refine (concat_modes ms ms' q q' _ _ wc.heap.size _ _ H3.out.hq H3'.out.hq hq16 hq16' _ (own_nw H3.out.om N4.out) (own_nw H3'.out.om N4.out) k0 k1 k2).mono ?_
    rintro e w5 ⟨v5, rfl, own5, n5⟩
    have hl5 : (ms ++ ms').length = q + q' := by rw [List.length_append, H3.out.hq, H3'.out.hq]
    rw [hl5] at own5
    obtain ⟨va, vc, rfl⟩ := own_shape' own5
    have N5 := Lib.hid (N4.out.trans n5)
    have hwc := N3.out.size
    have hc3 : w.heap.size + 1 + 1 < wc.heap.size := C3.out.1
    have O5 := Lib.hid (own_base own5 (b' := w.heap.size + 3) (by have := N4.out.size; omega))
    have A5 := Lib.hid (A3.out.nw N5.out)
    have B5 := Lib.hid (B3.out.nw N5.out)
    have C5 := Lib.hid (C3.out.nw N5.out)
    have X5 := Lib.hid (own_nw X3.out N5.out)
    have Y5 := Lib.hid (own_nw Y3.out N5.out)
    have H5 := Lib.hid (H3.out.nw N5.out)
    have H5' := Lib.hid (H3'.out.nw N5.out)
    have Hl5 := Lib.hid hl5
    have I5 := Lib.hid (show ShareI w5 (q + q') (.slice va (q + q') vc) (.slice none 0 0) [] (w5.alloc (.cells #[.slice va (q + q') vc, .slice none 0 0] 26 (0, 0))) from
      ⟨(Nw.refl w5).alloc _, Has2.new _ _ _ _, RowsR.nil _ _ _, by simp⟩)
    clear own5 n5 k0 k1 k2 k3 k4 a0 a1 a2 a3 a4 b0 b1 b2 b3 b4 hl5
    have A6 := Lib.hid (A5.out.alloc (.cells #[.slice va (q + q') vc, .slice none 0 0] 26 (0, 0)))
    obtain ⟨a0, a1, a2, a3, a4⟩ := A6.out
    go_wp2_with fail
    go_loopw [58] (fun i wr => ShareO w5 (q + q') (.slice va (q + q') vc) (fun k => (rows.take k).map (fun r => r ++ scaleL r0' d)) P i wr) (fun i _ => P - (intOf i).toNat)
    case atStart => exact ⟨0, _, by omega, rfl, by simpa using I5.out⟩
    case round =>
      obtain ⟨k, sv, hk, rfl, hI⟩ := hrel
      have Ir := Lib.hid (show ShareI w5 (q + q') (.slice va (q + q') vc) sv ((rows.take k).map (fun r => r ++ scaleL r0' d)) wr from hI)
      clear hI a0 a1 a2 a3 a4
      have A7 := Lib.hid (A5.out.nw Ir.out.nw)
      obtain ⟨a0, a1, a2, a3, a4⟩ := A7.out
      by_cases hlt : k < P
      · obtain ⟨r, hr⟩ : ∃ r, rows[k]? = some r := ⟨rows[k]'(by rw [Hr.out.1]; exact hlt), List.getElem?_eq_getElem _⟩
        obtain ⟨g3, cap3, la, lc, hv, hcap3, hmax3, hgs3, e3, own3⟩ := (H5.out.nw Ir.out.nw).rs.at Hr.out.1.symm hr
        cases hv
        have Lr := Lib.hid (H5.out.rs.lens r (List.mem_of_getElem? hr))
        have hacc : ((rows.take k).map (fun r => r ++ scaleL r0' d)).length = k := by rw [List.length_map, List.length_take, Hr.out.1]; omega
        have hsnoc : (rows.take (k + 1)).map (fun r => r ++ scaleL r0' d) = (rows.take k).map (fun r => r ++ scaleL r0' d) ++ [r ++ scaleL r0' d] := by
          obtain ⟨hk', he⟩ := List.getElem?_eq_some_iff.1 hr
          rw [List.take_succ_eq_append_getElem hk', he, List.map_append]; rfl
        have Hsn := Lib.hid (And.intro hacc hsnoc)
        obtain ⟨acc, hA⟩ : ∃ acc, acc = (rows.take k).map (fun r => r ++ scaleL r0' d) := ⟨_, rfl⟩
        rw [← hA] at Hsn Ir
        have HA := Lib.hid hA
        clear hr hacc hsnoc hA
        obtain ⟨vs, ho, hin⟩ := Ir.out.rs
        obtain ⟨ta, tc, rfl⟩ := own_shape' ho
        have Ho := Lib.hid (And.intro ho hin)
        have O3 := Lib.hid own3
        unfold maxLen at hmax3
        clear ho hin own3
        have hlr : (r ++ scaleL r0' d).length = q + q' := by rw [List.length_append, Lr.out, show (scaleL r0' d).length = q' from by unfold scaleL; rw [List.length_map, L1.out.2]]
        have Hlr := Lib.hid hlr
        clear hlr
        obtain ⟨l0, l1, l2, l3, l4⟩ := Ir.out.bx
        go_upto_region 8 with fail
        have Y7 := Lib.hid (own_nw Y5.out Ir.out.nw)
        have K1 := Lib.hid (joinWeights_ok r (scaleL r0' d) q q' _ _ (.slice la q lc) (.slice ya q' yc) Lr.out (by unfold scaleL; rw [List.length_map, L1.out.2]) (by omega) (by omega) wr.drew O3.out.drew Y7.out.drew)
        clear a0 a1 a2 a3 a4 e3
        go_region_law (first
          | (go_simp
             go_at_call 64
             with_reducible refine K1.out.mono ?_
             rintro e w6 ⟨v6, rfl, own6, n6⟩
             obtain ⟨pa, pc, rfl⟩ := own_shape' own6
             have N6 := Lib.hid (((Nw.refl wr).draw 1).trans n6)
             have O6 := Lib.hid own6
             have Bx6 := Lib.hid (Ir.out.bx.nw N6.out)
             have Ho6 := Lib.hid (own_nw Ho.out.1 N6.out)
             have Hi6 := Lib.hid (fun p r hp => show r.length = q + q' ∧ ∃ v, vs[p]? = some v ∧ w6.ownsRow (w5.heap.size + 1) 31 1 v (q + q') (cellsS r) from ⟨(Ho.out.2 p r hp).1, by obtain ⟨v, a, b⟩ := (Ho.out.2 p r hp).2; exact ⟨v, a, own_nw b N6.out⟩⟩)
             obtain ⟨m0, m1, m2, m3, m4⟩ := Bx6.out
             clear own6 n6)
          | (refine step_append_row rfl (.tmp 63) (.tmp 67) rfl (w5.heap.size + 1) acc.length w6.heap.size (.slice ta acc.length tc) (.slice pa (q + q') pc) vs rfl rfl (Ho6.out.alloc _) (by go_simp) rfl (by rw [Hsn.out.1]; omega) (by have := Ir.out.sz; have := N6.out.size; simp; omega) ?_
             intro v7 w7 own7 gr7
             obtain ⟨F7, B7⟩ := share_step (Ir.out.nw.trans N6.out) Bx6.out (Nat.le_trans Ir.out.sz N6.out.size) Ho6.out Hi6.out O6.out Ir.out.sz Hlr.out own7 gr7
             have Hf7 := Lib.hid F7
             obtain ⟨qa, qn, qc, rfl⟩ := own_shape own7
             obtain ⟨o0, o1, o2, o3, o4⟩ := B7
             clear F7 own7 gr7))
        all_goals
          go_wp2_with fail
          go_roundw
          case rel => exact ⟨k + 1, _, by omega, by rw [show ((k + 1 : Nat) : Int) = (k : Int) + 1 from by omega], by show ShareI _ _ _ _ ((rows.take (k + 1)).map (fun r => r ++ scaleL r0' d)) _; rw [Hsn.out.2]; exact Hf7.out⟩
          case measure => simp only [intOf]; omega
      · have hkP : k = P := by omega
        have Iw := Lib.hid (show ShareI w5 (q + q') (.slice va (q + q') vc) sv (rows.map (fun r => r ++ scaleL r0' d)) wr from by
          have := Ir.out
          rwa [List.take_of_length_le (by rw [Hr.out.1]; omega)] at this)
        clear Ir A7 a0 a1 a2 a3 a4
        have A7 := Lib.hid (B5.out.nw Iw.out.nw)
        obtain ⟨a0, a1, a2, a3, a4⟩ := A7.out
        go_wp2_with fail
        go_loopw [74] (fun i wr => ShareO w5 (q + q') (.slice va (q + q') vc) (fun k => rows.map (fun r => r ++ scaleL r0' d) ++ (rows'.take k).map (fun r => scaleL r0 d ++ r)) P' i wr) (fun i _ => P' - (intOf i).toNat)
        case atStart => exact ⟨0, _, by omega, rfl, by simpa using Iw.out⟩
        case round =>
          clear a0 a1 a2 a3 a4 A7 Iw hkP hlt hk
          obtain ⟨k, sv, hk, rfl, hI⟩ := hrel
          have Ir := Lib.hid (show ShareI w5 (q + q') (.slice va (q + q') vc) sv (rows.map (fun r => r ++ scaleL r0' d) ++ (rows'.take k).map (fun r => scaleL r0 d ++ r)) wr from hI)
          clear hI
          have A7 := Lib.hid (B5.out.nw Ir.out.nw)
          obtain ⟨a0, a1, a2, a3, a4⟩ := A7.out
          by_cases hlt : k < P'
          · obtain ⟨r, hr⟩ : ∃ r, rows'[k]? = some r := ⟨rows'[k]'(by rw [Hr.out.2.1]; exact hlt), List.getElem?_eq_getElem _⟩
            obtain ⟨g3, cap3, la, lc, hv, hcap3, hmax3, hgs3, e3, own3⟩ := (H5'.out.nw Ir.out.nw).rs.at Hr.out.2.1.symm hr
            cases hv
            have Lr := Lib.hid (H5'.out.rs.lens r (List.mem_of_getElem? hr))
            have hacc : (rows.map (fun r => r ++ scaleL r0' d) ++ (rows'.take k).map (fun r => scaleL r0 d ++ r)).length = P + k := by rw [List.length_append, List.length_map, List.length_map, List.length_take, Hr.out.1, Hr.out.2.1]; omega
            have hsnoc : rows.map (fun r => r ++ scaleL r0' d) ++ (rows'.take (k + 1)).map (fun r => scaleL r0 d ++ r) = rows.map (fun r => r ++ scaleL r0' d) ++ (rows'.take k).map (fun r => scaleL r0 d ++ r) ++ [scaleL r0 d ++ r] := by
              obtain ⟨hk', he⟩ := List.getElem?_eq_some_iff.1 hr
              rw [List.take_succ_eq_append_getElem hk', he, List.map_append, List.append_assoc]; rfl
            have Hsn := Lib.hid (And.intro hacc hsnoc)
            obtain ⟨acc, hA⟩ : ∃ acc, acc = rows.map (fun r => r ++ scaleL r0' d) ++ (rows'.take k).map (fun r => scaleL r0 d ++ r) := ⟨_, rfl⟩
            rw [← hA] at Hsn Ir
            have HA := Lib.hid hA
            clear hr hacc hsnoc hA
            obtain ⟨vs, ho, hin⟩ := Ir.out.rs
            obtain ⟨ta, tc, rfl⟩ := own_shape' ho
            have Ho := Lib.hid (And.intro ho hin)
            have O3 := Lib.hid own3
            unfold maxLen at hmax3
            clear ho hin own3
            have hlr : (scaleL r0 d ++ r).length = q + q' := by rw [List.length_append, Lr.out, show (scaleL r0 d).length = q from by unfold scaleL; rw [List.length_map, L1.out.1]]
            have Hlr := Lib.hid hlr
            clear hlr
            obtain ⟨l0, l1, l2, l3, l4⟩ := Ir.out.bx
            go_upto_region 13 with fail
            have Y7 := Lib.hid (own_nw X5.out Ir.out.nw)
            have K1 := Lib.hid (joinWeights_ok (scaleL r0 d) r q q' _ _ (.slice xa q xc) (.slice la q' lc) (by unfold scaleL; rw [List.length_map, L1.out.1]) Lr.out (by omega) (by omega) wr.drew Y7.out.drew O3.out.drew)
            clear a0 a1 a2 a3 a4 e3
            go_region_law (first
              | (go_simp
                 go_at_call 64
                 with_reducible refine K1.out.mono ?_
                 rintro e w6 ⟨v6, rfl, own6, n6⟩
                 obtain ⟨pa, pc, rfl⟩ := own_shape' own6
                 have N6 := Lib.hid (((Nw.refl wr).draw 1).trans n6)
                 have O6 := Lib.hid own6
                 have Bx6 := Lib.hid (Ir.out.bx.nw N6.out)
                 have Ho6 := Lib.hid (own_nw Ho.out.1 N6.out)
                 have Hi6 := Lib.hid (fun p r hp => show r.length = q + q' ∧ ∃ v, vs[p]? = some v ∧ w6.ownsRow (w5.heap.size + 1) 31 1 v (q + q') (cellsS r) from ⟨(Ho.out.2 p r hp).1, by obtain ⟨v, a, b⟩ := (Ho.out.2 p r hp).2; exact ⟨v, a, own_nw b N6.out⟩⟩)
                 obtain ⟨m0, m1, m2, m3, m4⟩ := Bx6.out
                 clear own6 n6)
              | (refine step_append_row rfl (.tmp 79) (.tmp 83) rfl (w5.heap.size + 1) acc.length w6.heap.size (.slice ta acc.length tc) (.slice pa (q + q') pc) vs rfl rfl (Ho6.out.alloc _) (by go_simp) rfl (by rw [Hsn.out.1]; omega) (by have := Ir.out.sz; have := N6.out.size; simp; omega) ?_
                 intro v7 w7 own7 gr7
                 obtain ⟨F7, B7⟩ := share_step (Ir.out.nw.trans N6.out) Bx6.out (Nat.le_trans Ir.out.sz N6.out.size) Ho6.out Hi6.out O6.out Ir.out.sz Hlr.out own7 gr7
                 have Hf7 := Lib.hid F7
                 obtain ⟨qa, qn, qc, rfl⟩ := own_shape own7
                 obtain ⟨o0, o1, o2, o3, o4⟩ := B7
                 clear F7 own7 gr7))
            all_goals
              go_wp2_with fail
              go_roundw
              case rel => exact ⟨k + 1, _, by omega, by rw [show ((k + 1 : Nat) : Int) = (k : Int) + 1 from by omega], by show ShareI _ _ _ _ (rows.map (fun r => r ++ scaleL r0' d) ++ (rows'.take (k + 1)).map (fun r => scaleL r0 d ++ r)) _; rw [Hsn.out.2]; exact Hf7.out⟩
              case measure => simp only [intOf]; omega
          · have hkP : k = P' := by omega
            have Iw := Lib.hid (show ShareI w5 (q + q') (.slice va (q + q') vc) sv (rows.map (fun r => r ++ scaleL r0' d) ++ rows'.map (fun r => scaleL r0 d ++ r)) wr from by
              have := Ir.out
              rwa [List.take_of_length_le (by rw [Hr.out.2.1]; omega)] at this)
            have hQl : (rows.map (fun r => r ++ scaleL r0' d) ++ rows'.map (fun r => scaleL r0 d ++ r)).length = P + P' := by rw [List.length_append, List.length_map, List.length_map, Hr.out.1, Hr.out.2.1]
            obtain ⟨fa, fc, hsv⟩ := Iw.out.rs.shape
            rw [hQl] at hsv
            subst hsv
            have hw5 := N3.out.size
            have hw55 := N5.out.size
            have V := Lib.hid (show RoomV (ms ++ ms') (rows.map (fun r => r ++ scaleL r0' d) ++ rows'.map (fun r => scaleL r0 d ++ r)) (q + q') (P + P') (w.heap.size + 3) (w.heap.size + 3) (.slice va (q + q') vc) (.slice fa (P + P') fc) wr from
              ⟨Hl5.out, hQ, hQl, hPP, fun m hm => by
                rcases List.mem_append.1 hm with hm | hm
                · exact H5.out.ok m hm
                · exact H5'.out.ok m hm, fun r hr x hx => by
                rcases List.mem_append.1 hr with hr | hr
                · obtain ⟨r1, h1, rfl⟩ := List.mem_map.1 hr
                  rcases List.mem_append.1 hx with hx | hx
                  · exact H5.out.wt r1 h1 x hx
                  · exact scaleL_wt r0' d W1.out.2 Hr.out.2.2.2.2 x hx
                · obtain ⟨r1, h1, rfl⟩ := List.mem_map.1 hr
                  rcases List.mem_append.1 hx with hx | hx
                  · exact scaleL_wt r0 d W1.out.1 Hr.out.2.2.2.2 x hx
                  · exact H5'.out.wt r1 h1 x hx, own_nw O5.out Iw.out.nw, Iw.out.rs.base (by omega)⟩)
            have C7 := Lib.hid (C5.out.nw Iw.out.nw)
            have D7 := Lib.hid Iw.out.bx
            have N7 := Lib.hid (N3.out.trans (N5.out.trans Iw.out.nw))
            clear Iw Ir hQl hkP a0 a1 a2 a3 a4
            obtain ⟨f0, f1, f2, f3, f4⟩ := D7.out
            go_wp2_with fail
            refine (isRoom_ok _ _ _ _ _ _ _ _ _ V.out).mono ?_
            rintro e w8 ⟨rfl, n8⟩
            have C8 := Lib.hid (C7.out.nw n8)
            have D8 := Lib.hid (D7.out.nw n8)
            have V8 := Lib.hid (V.out.nw n8)
            have N8 := Lib.hid (N7.out.trans n8)
            clear n8 f0 f1 f2 f3 f4
            obtain ⟨f0, f1, f2, f3, f4⟩ := D8.out
            obtain ⟨d0, d1, d2, d3, d4⟩ := C8.out
            go_wp2_with fail
            exact bodyPost_ret (v := .tuple #[.agg #[.slice va (q + q') vc, .slice fa (P + P') fc], .bool true]) (by simp [results, Try.results16, go_sem, d0, d1, d2, d3, d4]) rfl
              ⟨_, _, rfl, ((V8.out.set (by show w.heap.size + 1 + 1 < w.heap.size + 3; omega) (by show w.heap.size + 1 + 1 < w.heap.size + 3; omega) _).set (by show w.heap.size + 1 + 1 < w.heap.size + 3; omega) (by show w.heap.size + 1 + 1 < w.heap.size + 3; omega) _).base (by omega) (by omega),
                (N8.out.set (by show w.heap.size ≤ w.heap.size + 1 + 1; omega) _).set (by show w.heap.size ≤ w.heap.size + 1 + 1; omega) _⟩

/-- .. and where the second room has no places -/
theorem shareModes_no (ms ms' : List M4) (rows rows' : List (List Nat)) (q q' P b bs b' bs' d : Nat) (mv sv mv' sv' : Value) (w : World) (h : RoomV ms rows q P b bs mv sv w) (h' : RoomV ms' rows' q' 0 b' bs' mv' sv' w) (hP0 : 0 < P) :
    Calls Try.prog 16 #[.agg #[mv, sv], .agg #[mv', sv'], .float .f32 d] w fun e w' => e = .returned (.tuple #[.agg #[.slice none 0 0, .slice none 0 0], .bool false]) ∧ Nw w w' := by
  obtain ⟨ma, mc, rfl⟩ := own_shape' h.om
  obtain ⟨sa, sc, rfl⟩ := h.rs.shape
  obtain ⟨ma', mc', rfl⟩ := own_shape' h'.om
  obtain ⟨sa', sc', rfl⟩ := h'.rs.shape
  have ee := h.hP
  have ee' := h'.hP
  rw [ee] at h ⊢
  rw [ee'] at h' ⊢
  have hne : ¬ ((P : Int) = 0) := by omega
  have hnb : ((P : Int) == 0) = false := by simp; omega
  have N0 := Lib.hid ((((Nw.refl w).alloc (.cells #[.slice ma q mc, .slice sa P sc] 26 (0, 0))).alloc (.cells #[.slice ma' q' mc', .slice sa' 0 sc'] 26 (0, 0))).alloc (.cells #[.slice none 0 0, .slice none 0 0] 26 (0, 0)))
  have A0 := Lib.hid (((Has2.new w 26 (.slice ma q mc) (.slice sa P sc)).alloc (.cells #[.slice ma' q' mc', .slice sa' 0 sc'] 26 (0, 0))).alloc (.cells #[.slice none 0 0, .slice none 0 0] 26 (0, 0)))
  have B0 := Lib.hid (show Has2 _ (w.heap.size + 1) (.slice ma' q' mc') (.slice sa' 0 sc') from by simpa using (Has2.new (w.alloc (.cells #[.slice ma q mc, .slice sa P sc] 26 (0, 0))) 26 (.slice ma' q' mc') (.slice sa' 0 sc')).alloc (.cells #[.slice none 0 0, .slice none 0 0] 26 (0, 0)))
  have C0 := Lib.hid (show Has2 _ (w.heap.size + 1 + 1) (.slice none 0 0) (.slice none 0 0) from by simpa using Has2.new ((w.alloc (.cells #[.slice ma q mc, .slice sa P sc] 26 (0, 0))).alloc (.cells #[.slice ma' q' mc', .slice sa' 0 sc'] 26 (0, 0))) 26 (.slice none 0 0) (.slice none 0 0))
  have H := Lib.hid h
  have H' := Lib.hid h'
  clear h h' ee ee'
  go_enter Try.func16, Try.ntmps16
  obtain ⟨b0, b1, b2, b3, b4⟩ := A0.out
  go_wp2_with fail
  refine (isRoom_ok ms rows q P b bs _ _ _ (H.out.nw N0.out)).mono ?_
  rintro e w1 ⟨rfl, n1⟩
  have N1 := Lib.hid (N0.out.trans n1)
  have A1 := Lib.hid (A0.out.nw n1)
  have B1 := Lib.hid (B0.out.nw n1)
  have C1 := Lib.hid (C0.out.nw n1)
  clear n1 b0 b1 b2 b3 b4
  obtain ⟨b0, b1, b2, b3, b4⟩ := B1.out
  go_wp2_with fail
  refine (isRoom_ok ms' rows' q' 0 b' bs' _ _ _ (H'.out.nw N1.out)).mono ?_
  rintro e w2 ⟨rfl, n2⟩
  have N2 := Lib.hid (N1.out.trans n2)
  have A2 := Lib.hid (A1.out.nw n2)
  have B2 := Lib.hid (B1.out.nw n2)
  have C2 := Lib.hid (C1.out.nw n2)
  clear n2 b0 b1 b2 b3 b4
  obtain ⟨a0, a1, a2, a3, a4⟩ := A2.out
  obtain ⟨b0, b1, b2, b3, b4⟩ := B2.out
  obtain ⟨d0, d1, d2, d3, d4⟩ := C2.out
  go_wp2_with fail
  exact bodyPost_ret (v := .tuple #[.agg #[.slice none 0 0, .slice none 0 0], .bool false]) (by simp [results, Try.results16, go_sem, d0, d1, d2, d3, d4]) rfl
    ⟨rfl, (N2.out.set (by show w.heap.size ≤ w.heap.size + 1 + 1; omega) _).set (by show w.heap.size ≤ w.heap.size + 1 + 1; omega) _⟩
end Go.Proofs.Ytlhhcchncobmhaa

/- The walk of ListenAlong at a place where all weights are 1.
   Conditions: those that each statement names. -/
namespace Go.Proofs.Ytlhhcchncobmhaa
set_option linter.unusedSimpArgs false
set_option linter.unusedVariables false
open Go Go.RowKit

def HearI (ss : List (Nat × Nat)) (n : Nat) (w : World) (y i : Value) (wr : World) : Prop :=
  ∃ k : Nat, k ≤ n ∧ i = .int .i64 (k : Int) ∧ y = .float .f32 (outS (ss.take k)) ∧ wr = w

set_option maxRecDepth 100000 in
theorem hearOnes_ok (ss : List (Nat × Nat)) (ws : List Nat) (n bs bi : Nat) (v u : Value) (hn : ss.length = n) (hw : ws = List.replicate n 1065353216) (hn16 : n ≤ 16) (w : World)
    (hs : w.ownsRow bs 59 1 v n (cellsC ss)) (hi : w.ownsRow bi 31 1 u n (cellsS ws)) (hsm : ∀ s ∈ ss, Sm s.1) (hsum : SumOk ss) :
    Calls Try.prog 61 #[v, u] w fun e w' => e = .returned (.float .f32 (outS ss)) ∧ w = w' := by
  obtain ⟨va, vc, rfl⟩ := own_shape' hs
  obtain ⟨ua, uc, rfl⟩ := own_shape' hi
  have Hs := Lib.hid hs
  have Hi := Lib.hid hi
  have H := Lib.hid (And.intro hn (And.intro hsm hsum))
  have Hw := Lib.hid hw
  clear hs hi hn hsm hsum hw
  go_enter Try.func61, Try.ntmps61
  go_wp2_with fail
  go_loopw [5, 10] (fun y i wr => HearI ss n w y i wr) (fun _ i _ => n - (intOf i).toNat)
  case atStart => exact ⟨0, by omega, rfl, rfl, rfl⟩
  case round =>
    obtain ⟨k, hk, rfl, rfl, rfl⟩ := hrel
    by_cases hlt : k < n
    · obtain ⟨s, hsk⟩ : ∃ s, ss[k]? = some s := ⟨ss[k]'(by rw [H.out.1]; exact hlt), List.getElem?_eq_getElem _⟩
      have hxk : ws[k]? = some 1065353216 := by rw [Hw.out, List.getElem?_replicate, if_pos hlt]
      obtain ⟨g, cap, hv, hcap, hmax, hgs, e0⟩ := own_sample Hi.out hxk (by rw [Hw.out, List.length_replicate])
      cases hv
      rcases Hs.out.2 with ⟨_, h0⟩ | ⟨g2, cap2, cur, hv, hb, hg, hc, hm, hss, ht⟩
      · omega
      cases hv
      have c1 := Hs.out.cellAt k (by omega)
      rw [show (cellsC ss)[k]? = some (.complex .f32 s.1 s.2) from by simp [cellsC, hsk]] at c1
      have hm1 := H.out.2.1 s (List.mem_of_getElem? hsk)
      have hr := mul_one_read hm1
      have hcm := calm_mul_num s.1 1065353216 hm1 one_s.1
      have hca := calm_add_read (x := outS (ss.take k)) hr (H.out.2.2 k s hsk)
      have r1 := hcm.res
      have d1 := hcm.fdr
      have r2 := hca.res
      have d2 := hca.fdr
      have hadd : opB .add .f32 (outS (ss.take k)) (opB .mul .f32 s.1 1065353216) = outS (ss.take (k + 1)) := by rw [outS_take ss k s hsk]; exact add_read hr
      unfold maxLen at hmax hm
      clear hb hg hss ht hm1 hr hcm hca hsk hxk
      go_wp2_with fail
      go_roundw
      case rel => exact ⟨k + 1, by omega, by rw [show ((k + 1 : Nat) : Int) = (k : Int) + 1 from by omega], rfl, rfl⟩
      case measure => simp only [intOf]; omega
    · obtain rfl : k = n := by omega
      have ht := List.take_of_length_le (l := ss) (i := k) (Nat.le_of_eq H.out.1)
      rw [ht]
      go_wp2_with fail
      go_ret
      exact ⟨rfl, rfl⟩

theorem arePlaces_ok (mv : Value) (sa : Option Addr) (P sc l n b : Nat) (v : Value) (hP : P ≤ 64) (hl : l < P) (hn : n ≤ 2000) (w : World) (h : w.ownsRow b 3 1 v n (List.replicate n (.int .i64 (l : Int)))) :
    Calls Try.prog 57 #[.agg #[mv, .slice sa P sc], v] w (TestP true w) := by
  obtain ⟨va, vc, rfl⟩ := own_shape' h
  have N0 := Lib.hid ((Nw.refl w).alloc (.cells #[mv, .slice sa P sc] 26 (0, 0)))
  have B0 := Lib.hid (Has2.new w 26 mv (.slice sa P sc))
  have H := Lib.hid h
  have dl : decide (l < P) = true := by simp [hl]
  clear h
  go_enter Try.func57, Try.ntmps57
  obtain ⟨b0, b1, b2, b3, b4⟩ := B0.out
  go_wp2_with fail
  generalize w.alloc (.cells #[mv, .slice sa P sc] 26 (0, 0)) = w0 at *
  go_loopw [9] (fun i wr => ValI n w i wr ∧ Nw w0 wr) (fun i _ => n - (intOf i).toNat)
  case atStart => exact ⟨⟨0, by omega, rfl, N0.out⟩, Nw.refl _⟩
  case round =>
    obtain ⟨⟨k, hk, rfl, hnw⟩, hn1⟩ := hrel
    have Nr := Lib.hid (And.intro hnw hn1)
    clear hnw hn1 b0 b1 b2 b3 b4
    by_cases hlt : k < n
    · have B1 := Lib.hid (B0.out.nw Nr.out.2)
      obtain ⟨b0, b1, b2, b3, b4⟩ := B1.out
      have Ow := Lib.hid (own_nw H.out Nr.out.1)
      rcases Ow.out.2 with ⟨_, h0⟩ | ⟨g2, cap2, cur, hv, hb, hg, hc, hm, hss, ht⟩
      · omega
      cases hv
      have c1 := Ow.out.cellAt k (by omega)
      rw [List.getElem?_replicate, if_pos hlt] at c1
      unfold maxLen at hm
      clear hb hg hss ht
      go_wp2_with fail
      refine (isPlace_ok _ sa P sc l hP (by omega) _).mono ?_
      rw [dl]
      rintro e w5 ⟨rfl, n5⟩
      have N5 := Lib.hid (And.intro (Nr.out.1.trans n5) (Nr.out.2.trans n5))
      clear n5 b0 b1 b2 b3 b4 c1
      go_wp2_with fail
      go_roundw
      case rel => exact ⟨⟨k + 1, by omega, by rw [show ((k + 1 : Nat) : Int) = (k : Int) + 1 from by omega], N5.out.1⟩, N5.out.2⟩
      case measure => simp only [intOf]; omega
    · go_wp2_with fail
      go_ret
      exact ⟨rfl, Nr.out.1⟩

/-- what the loop of ListenAlong holds -/
def ListI (B bb gs gu n q : Nat) (ms : List M4) (x : Nat → Nat) (mv sv : Value) (w w0 : World) (i : Value) (wr : World) : Prop :=
  ∃ k : Nat, k ≤ n ∧ i = .int .i64 (k : Int) ∧ wr.ownsRow B 59 1 (.slice (some ⟨gs, 0, none⟩) q q) q (cellsC (stAt ms x k)) ∧
    wr.ownsRow B 31 1 (.slice (some ⟨gu, 0, none⟩) n n) n (cellsS (outsAt ms x n k)) ∧ Has2 wr bb mv sv ∧ Nw w wr

set_option maxRecDepth 100000 in
set_option maxHeartbeats 3200000 in
theorem listenLast_ok (ms : List M4) (rows : List (List Nat)) (q P b bs s l p n bi be : Nat) (rs xs : List Nat) (mv sv iv ev : Value) (w : World) (h : RoomV ms rows q P b bs mv sv w) (hs : rows[s]? = some rs) (hl : rows[l]? = some (List.replicate q 1065353216))
    (hp : xs.length = p) (hxl : p ≤ 1048576) (hn : n ≤ 2000) (hi : w.ownsRow bi 31 1 iv p (cellsS xs)) (he : w.ownsRow be 3 1 ev n (List.replicate n (.int .i64 (l : Int)))) (hok : RingOk (weighL ms rs) (inputOf xs) n)
    (hsm : ∀ i, i < n → ∀ s ∈ stAt (weighL ms rs) (inputOf xs) (i + 1), Sm s.1) :
    Calls Try.prog 15 #[.agg #[mv, sv], .int .i64 (s : Int), ev, iv] w (RingP2 w.heap.size (ringS (weighL ms rs) (inputOf xs) n) n w) := by
  obtain ⟨ma, mc, rfl⟩ := own_shape' h.om
  obtain ⟨sa, sc, rfl⟩ := h.rs.shape
  obtain ⟨ia, ic, rfl⟩ := own_shape' hi
  obtain ⟨ea, ec, rfl⟩ := own_shape' he
  obtain ⟨j0, hj, hjz0, hjz1, hjz2⟩ := info_parts info_c64
  obtain ⟨f0, hf, hfz0, hfz1, hfz2⟩ := info_parts info_f32
  have hP16 := h.hP16
  have hq16 := h.hq16
  have ee := h.hP
  rw [ee] at h ⊢
  have N0 := Lib.hid ((Nw.refl w).alloc (.cells #[.slice ma q mc, .slice sa P sc] 26 (0, 0)))
  have B0 := Lib.hid (Has2.new w 26 (.slice ma q mc) (.slice sa P sc))
  have H := Lib.hid h
  have hsP : s < P := by have := (List.getElem?_eq_some_iff.1 hs).1; omega
  have hlP : l < P := by have := (List.getElem?_eq_some_iff.1 hl).1; omega
  have ds : decide (s < P) = true := by simp [hsP]
  have E := Lib.hid (And.intro ee (And.intro hs hl))
  have Hp := Lib.hid hp
  have Hi := Lib.hid hi
  have He := Lib.hid he
  have Hok := Lib.hid (And.intro hok hsm)
  obtain ⟨wms, hwms⟩ : ∃ wms, wms = weighL ms rs := ⟨_, rfl⟩
  have lrs := h.rs.lens rs (List.mem_of_getElem? hs)
  have Wt1 := Lib.hid (h.wt rs (List.mem_of_getElem? hs))
  have Wok := Lib.hid (show (∀ m ∈ wms, m.ok) ∧ wms.length = q from by rw [hwms]; exact ⟨weighL_ok ms rs h.ok (h.wt rs (List.mem_of_getElem? hs)), by rw [weighL_len ms rs (by rw [lrs, h.hq]), h.hq]⟩)
  have Hwms := Lib.hid hwms
  rw [← hwms] at Hok ⊢
  clear h ee hs hl hp hi he hok hsm hwms
  go_enter Try.func15, Try.ntmps15
  obtain ⟨b0, b1, b2, b3, b4⟩ := B0.out
  go_wp2_with fail
  refine (isRoom_ok ms rows q P b bs _ _ _ (H.out.nw N0.out)).mono ?_
  rintro e w1 ⟨rfl, n1⟩
  have B1 := Lib.hid (B0.out.nw n1)
  have N1 := Lib.hid (N0.out.trans n1)
  clear n1 b0 b1 b2 b3 b4
  obtain ⟨b0, b1, b2, b3, b4⟩ := B1.out
  go_wp2_with fail
  refine (isPlace_ok _ sa P sc s (by omega) (by omega) _).mono ?_
  rw [ds]
  rintro e w2 ⟨rfl, n2⟩
  have B2 := Lib.hid (B1.out.nw n2)
  have N2 := Lib.hid (N1.out.trans n2)
  clear n2 b0 b1 b2 b3 b4
  obtain ⟨b0, b1, b2, b3, b4⟩ := B2.out
  go_wp2_with fail
  refine (arePlaces_ok _ sa P sc l n _ _ (by omega) hlP hn _ (own_nw He.out N2.out)).mono ?_
  rintro e w3 ⟨rfl, n3⟩
  have B3 := Lib.hid (B2.out.nw n3)
  have N3 := Lib.hid (N2.out.trans n3)
  have H3 := Lib.hid (H.out.nw N3.out)
  clear n3 b0 b1 b2 b3 b4
  obtain ⟨g, cap, ra, rc, hv, hcap, hmax, hgs, e1, own1⟩ := H3.out.rs.at E.out.1.symm E.out.2.1
  cases hv
  have O1 := Lib.hid own1
  unfold maxLen at hmax
  clear own1
  obtain ⟨b0, b1, b2, b3, b4⟩ := B3.out
  go_wp2_with fail
  refine wp_region_still_tail 7 (by kernel_rfl) (by kernel_rfl) ?_
  simp only [List.take_succ_cons, List.take_zero, List.drop_succ_cons, List.drop_zero]
  repeat still_step
  refine wpStill_nil ?_
  change wpList _ _ _ _ _ (w3.drewN 1)
  have N4 := Lib.hid (N3.out.draw 1)
  have B4 := Lib.hid (B3.out.draw 1)
  have M4' := Lib.hid (H3.out.nw ((Nw.refl w3).draw 1))
  have O4 := Lib.hid (own_nw O1.out ((Nw.refl w3).draw 1))
  clear b0 b1 b2 b3 b4 e1
  generalize w3.drewN 1 = w4 at *
  go_wp2_with fail
  refine (weighModes_ok ms M4'.out.ok rs q b _ _ _ M4'.out.hq lrs hq16 Wt1.out _ M4'.out.om O4.out).mono ?_
  rw [← Hwms.out]
  rintro e w5 ⟨v5, rfl, own5, n5⟩
  rw [Wok.out.2] at own5
  obtain ⟨pa, pc, rfl⟩ := own_shape' own5
  have O5 := Lib.hid own5
  have N5 := Lib.hid (N4.out.trans n5)
  have B5 := Lib.hid (B4.out.nw n5)
  have hplt : ∀ g, (Value.slice pa q pc).ownBlock = some g → g < w5.heap.size := fun g hg => (own5.lt g hg).2
  have Hplt := Lib.hid hplt
  clear own5 n5 hplt
  have hs1 := N5.out.size
  go_wp2_with (first
    | (at_make; refine wpList_make_full _ rfl _ _ 97 rfl w.heap.size 59 j0 (.complex .f32 0 0) 1 Try.underlying97 hj hjz0 hjz1 _ _ _ _ q rfl rfl rfl rfl (by rw [hjz2]; omega) (by unfold maxLen; omega) hs1 ?_))
  intro w6 hown6 hgrow6
  have Hs6 := Lib.hid (show w6.ownsRow w.heap.size 59 1 (.slice (some ⟨w5.heap.size, 0, none⟩) q q) q (cellsC (stAt wms (inputOf xs) 0)) from by
    rw [toList_madeCells_one] at hown6
    rw [show cellsC (stAt wms (inputOf xs) 0) = List.replicate q (Value.complex .f32 0 0) from by simp only [stAt, cellsC, List.map_map, Function.comp_def]; rw [List.map_const', Wok.out.2]]
    exact hown6)
  have B6 := Lib.hid (B5.out.nw hgrow6)
  have N6 := Lib.hid (N5.out.trans hgrow6)
  have O6 := Lib.hid (own_nw O5.out hgrow6)
  have hs6 := N6.out.size
  have hlt6 : w5.heap.size < w6.heap.size := (Hs6.out.lt _ rfl).2
  have hlt0 : w.heap.size < w6.heap.size := B6.out.1
  have hlt5 : w.heap.size < w5.heap.size := B5.out.1
  clear hown6 hgrow6
  go_wp2_with (first
    | (at_make; refine wpList_make_full _ rfl _ _ 28 rfl w.heap.size 31 f0 (.float .f32 0) 1 Try.underlying28 hf hfz0 hfz1 _ _ _ _ n rfl rfl rfl rfl (by rw [hfz2]; omega) (by unfold maxLen; omega) hs6 ?_))
  intro w7 hown7 hgrow7
  have Ho7 := Lib.hid (show w7.ownsRow w.heap.size 31 1 (.slice (some ⟨w6.heap.size, 0, none⟩) n n) n (cellsS (outsAt wms (inputOf xs) n 0)) from by
    rw [toList_madeCells_one] at hown7
    rw [outsAt_zero]
    simpa [cellsS] using hown7)
  have Hs7 := Lib.hid (own_nw Hs6.out hgrow7)
  have B7 := Lib.hid (B6.out.nw hgrow7)
  have N7 := Lib.hid (N6.out.trans hgrow7)
  have O7 := Lib.hid (own_nw O6.out hgrow7)
  clear hown7 hgrow7
  go_wp2_with fail
  go_loopw [51] (fun i wr => ListI w.heap.size w.heap.size w5.heap.size w6.heap.size n q wms (inputOf xs) (.slice ma q mc) (.slice (some ⟨g, 0, none⟩) P sc) w w7 i wr ∧ wr.ownsRow 0 61 2 (.slice pa q pc) q (cellsM wms)) (fun i _ => n - (intOf i).toNat)
  case atStart => exact ⟨⟨0, by omega, rfl, Hs7.out, Ho7.out, B7.out, N7.out⟩, own_base O7.out (Nat.zero_le _)⟩
  case round =>
    obtain ⟨⟨k, hk, rfl, hst, hou, hbx, hnw⟩, hmo⟩ := hrel
    have Hst := Lib.hid hst
    have Hou := Lib.hid hou
    have Hbx := Lib.hid hbx
    have Nr := Lib.hid hnw
    have Hmo := Lib.hid hmo
    clear hst hou hbx hnw hmo
    by_cases hlt : k < n
    · have Er := Lib.hid (own_nw He.out Nr.out)
      have Hir := Lib.hid (own_nw Hi.out Nr.out)
      rcases Er.out.2 with ⟨_, h0⟩ | ⟨g2, cap2, cur, hv, hb, hg, hc, hm, hss, ht⟩
      · omega
      cases hv
      have c1 := Er.out.cellAt k (by omega)
      rw [List.getElem?_replicate, if_pos hlt] at c1
      unfold maxLen at hm
      clear hb hg hss ht
      have hss := (Hst.out.lt _ rfl)
      have hoo := (Hou.out.lt _ rfl)
      have hne : (Value.slice pa q pc).ownBlock ≠ some w5.heap.size := fun e => by have := Hplt.out _ e; omega
      have hne2 : some w6.heap.size ≠ some w5.heap.size := fun e => by simp at e; omega
      have Hk := Lib.hid (Hok.out.1 k hlt)
      have Hqq := Lib.hid ((stAt_len wms (inputOf xs) k).trans Wok.out.2)
      go_wp2_with fail
      refine (sampleAt_any xs p bi k _ Hp.out (by omega) hxl _ Hir.out).mono ?_
      rintro e w8 ⟨rfl, rfl⟩
      go_wp2_with fail
      refine (stepStates_ok wms Wok.out.1 (stAt wms (inputOf xs) k) (inputOf xs k) q w5.heap.size w.heap.size 0 _ Wok.out.2 Hqq.out hq16 _ Hmo.out Hst.out hne Hk.out.1 Hk.out.2).mono ?_
      rintro e w9 ⟨rfl, hst9, hgr9⟩
      rw [show stepAll wms (stAt wms (inputOf xs) k) (inputOf xs k) = stAt wms (inputOf xs) (k + 1) from rfl] at hst9 ⊢
      have St9 := Lib.hid hst9
      have Nw9 := Lib.hid (nw_grown Nr.out (Nw.refl _) hgr9 hss.1)
      have Bx9 := Lib.hid (Has2.grown Hbx.out hgr9 (fun e => by simp at e; omega))
      have Ou9 := Lib.hid (Hou.out.kept hgr9 (.inr hne2))
      have Mo9 := Lib.hid (Hmo.out.kept hgr9 (.inr hne))
      have Hs9 := Lib.hid (And.intro (Hok.out.2 k hlt) Hk.out.2)
      clear hst9 hgr9 c1
      obtain ⟨b0, b1, b2, b3, b4⟩ := Bx9.out
      obtain ⟨g3, cap3, la, lc, hv, hcap3, hmax3, hgs3, e3, own3⟩ := (H.out.nw Nw9.out).rs.at E.out.1.symm E.out.2.2
      cases hv
      unfold maxLen at hmax3
      have Ol9 := Lib.hid own3
      have e1 := Ou9.out.cellAt k (by omega)
      have e2 := Ou9.out.frozenAt k
      rw [outs_cell wms (inputOf xs) n k hlt] at e1
      have hoo9 := (Ou9.out.lt _ rfl)
      clear own3
      go_wp2_with fail
      refine (hearOnes_ok (stAt wms (inputOf xs) (k + 1)) _ q _ _ _ _ ((stAt_len wms (inputOf xs) (k + 1)).trans Wok.out.2) rfl hq16 _ St9.out Ol9.out Hs9.out.1 Hs9.out.2).mono ?_
      rintro e w10 ⟨rfl, rfl⟩
      have hset := Ou9.out.stored k (.float .f32 (outS (stAt wms (inputOf xs) (k + 1))))
      have F1 := Lib.hid (St9.out.kept hset.2 (.inr (fun e => hne2 e.symm)))
      have F2 := Lib.hid (outsAt_set wms (inputOf xs) n k hlt ▸ hset.1)
      have F3 := Lib.hid (Bx9.out.set (p := ⟨w6.heap.size, k, none⟩) (by show w6.heap.size ≠ w.heap.size; omega) (.float .f32 (outS (stAt wms (inputOf xs) (k + 1)))))
      have F4 := Lib.hid (Nw9.out.set (p := ⟨w6.heap.size, k, none⟩) hoo9.1 (.float .f32 (outS (stAt wms (inputOf xs) (k + 1)))))
      have F5 := Lib.hid (own_setne Mo9.out (p := ⟨w6.heap.size, k, none⟩) (fun e => by have := Hplt.out _ e; simp at this; omega) (.float .f32 (outS (stAt wms (inputOf xs) (k + 1)))))
      clear hset e3
      go_wp2_with fail
      go_roundw
      case rel => exact ⟨⟨k + 1, by omega, by rw [show ((k + 1 : Nat) : Int) = (k : Int) + 1 from by omega], F1.out, F2.out, F3.out, F4.out⟩, F5.out⟩
      case measure => simp only [intOf]; omega
    · obtain rfl : k = n := by omega
      go_wp2_with fail
      go_ret2
      refine ⟨_, rfl, ?_, Nr.out⟩
      have := Hou.out
      rw [outsAt_full] at this
      exact this
end Go.Proofs.Ytlhhcchncobmhaa

/- The walks of l8Same, FirstDifference and same: what they answer of two rows of samples that are numbers.
   Conditions: those that each statement names. -/
namespace Go.Proofs.Ytlhhcchncobmhaa
set_option linter.unusedSimpArgs false
set_option linter.unusedVariables false
open Go Go.RowKit

/-- are two numbers the same: NaN and NaN, zeros of one sign, or equal ones -/
def sameB (a b : Nat) : Bool :=
  if (FloatKind.f64.decode a).isNaN || (FloatKind.f64.decode b).isNaN then (FloatKind.f64.decode a).isNaN && (FloatKind.f64.decode b).isNaN
  else if (FloatKind.f64.format.order a 0 == some .eq) && (FloatKind.f64.format.order b 0 == some .eq) then
    (FloatKind.f64.format.order (opB .quo .f64 4607182418800017408 a) 0 == some .gt) == (FloatKind.f64.format.order (opB .quo .f64 4607182418800017408 b) 0 == some .gt)
  else FloatKind.f64.format.order a b == some .eq

theorem one_quo (a : Nat) (h : (FloatKind.f64.decode a).isNaN = false) : Calm .quo .f64 4607182418800017408 a := by
  have h1 : Ieee.double.read 4607182418800017408 = .number false 4503599627370496 (-52) := by decide
  have hx : ∃ r, floatBits .quo .f64 4607182418800017408 a = some r := by
    unfold FloatKind.decode at h
    rw [show FloatKind.f64.format = Ieee.double from rfl] at h
    show ∃ r, Ieee.double.div 4607182418800017408 a = some r
    unfold Ieee.Format.div
    rw [h1]
    cases hd : Ieee.double.read a with
    | number s m p => by_cases hm : m = 0 <;> simp [Ieee.Datum.quotient, hm]
    | infinity s => exact ⟨_, rfl⟩
    | nan s f => rw [hd] at h; simp [Ieee.Datum.isNaN] at h
  obtain ⟨r, hr⟩ := hx
  exact (Calm.of hr).1

theorem l8Same_any (a b : Nat) (w : World) :
    Calls Try.prog 67 #[.float .f64 a, .float .f64 b] w fun e w' => e = .returned (.bool (sameB a b)) ∧ w = w' := by
  have o1 := order_self .f64 a
  have o2 := order_self .f64 b
  cases ha : (FloatKind.f64.decode a).isNaN
  all_goals cases hb : (FloatKind.f64.decode b).isNaN
  all_goals rw [ha] at o1; rw [hb] at o2
  case false.false =>
    have c1 := one_quo a ha
    have c2 := one_quo b hb
    have r1 := c1.res
    have r2 := c2.res
    have d1 := c1.fdr
    have d2 := c2.fdr
    go_enter Try.func67, Try.ntmps67
    go_wp2
    all_goals (go_ret; refine ⟨by simp_all [sameB], ?_⟩; first | rfl | (exfalso; simp_all))
  all_goals
    go_enter Try.func67, Try.ntmps67
    go_wp2
    all_goals (go_ret; refine ⟨by simp_all [sameB], ?_⟩; first | rfl | (exfalso; simp_all))

theorem sameB_self (a : Nat) : sameB a a = true := by
  unfold sameB
  cases ha : (FloatKind.f64.decode a).isNaN
  · have o1 := order_self .f64 a
    rw [ha] at o1
    simp only [Bool.or_self, Bool.false_eq_true, if_false, beq_self_eq_true]
    split
    · rfl
    · simpa using o1
  · simp

def SameI (n : Nat) (w : World) (i : Value) (wr : World) : Prop := ∃ k : Nat, k ≤ n ∧ i = .int .i64 (k : Int) ∧ Nw w wr

set_option maxRecDepth 100000 in
theorem firstDifference_eq (xs ys : List Nat) (n bx cy : Nat) (v u : Value) (hx : xs.length = n) (hy : ys.length = n) (hn : n ≤ 1048576) (w : World)
    (ox : w.ownsRow bx 31 1 v n (cellsS xs)) (oy : w.ownsRow cy 31 1 u n (cellsS ys)) (hsx : ∀ x ∈ xs, Sm x) (hsy : ∀ y ∈ ys, Sm y)
    (hs : ∀ (k : Nat) x y, xs[k]? = some x → ys[k]? = some y → sameB (wid x) (wid y) = true) :
    Calls Try.prog 54 #[v, u] w fun e w' => e = .returned (.int .i64 (-1)) ∧ Nw w w' := by
  obtain ⟨va, vc, rfl⟩ := own_shape' ox
  obtain ⟨ua, uc, rfl⟩ := own_shape' oy
  have Ox := Lib.hid ox
  have Oy := Lib.hid oy
  have Hx := Lib.hid hx
  have Hy := Lib.hid hy
  have Hsx := Lib.hid hsx
  have Hsy := Lib.hid hsy
  have Hs := Lib.hid hs
  clear ox oy hx hy hsx hsy hs
  go_enter Try.func54, Try.ntmps54
  go_wp2_with fail
  go_loopw [5] (fun i wr => SameI n w i wr) (fun i _ => n - (intOf i).toNat)
  case atStart => exact ⟨0, by omega, rfl, Nw.refl _⟩
  case round =>
    obtain ⟨k, hk, rfl, hN⟩ := hrel
    have Nr := Lib.hid hN
    clear hN
    by_cases hlt : k < n
    · obtain ⟨x, hxk⟩ : ∃ x, xs[k]? = some x := ⟨xs[k]'(by rw [Hx.out]; exact hlt), List.getElem?_eq_getElem _⟩
      obtain ⟨y, hyk⟩ : ∃ y, ys[k]? = some y := ⟨ys[k]'(by rw [Hy.out]; exact hlt), List.getElem?_eq_getElem _⟩
      obtain ⟨g1, cap1, hv1, hcap1, hmax1, -, e1⟩ := own_sample (own_nw Ox.out Nr.out) hxk Hx.out.symm
      obtain ⟨g2, cap2, hv2, hcap2, hmax2, -, e2⟩ := own_sample (own_nw Oy.out Nr.out) hyk Hy.out.symm
      cases hv1
      cases hv2
      have hb := Hs.out k x y hxk hyk
      have sx := Hsx.out x (List.mem_of_getElem? hxk)
      have sy := Hsy.out y (List.mem_of_getElem? hyk)
      have a1 := fcv_up sx
      have a2 := fcd_up sx
      have b1 := fcv_up sy
      have b2 := fcd_up sy
      unfold maxLen at hmax1 hmax2
      clear hxk hyk sx sy
      go_wp2_with fail
      go_quiet (first | (go_at_call 67; with_reducible exact quiet_eq (l8Same_any _ _ _)))
      have N2 := Lib.hid (Nr.out.draw nq)
      go_wp2_with fail
      go_roundw
      case rel => exact ⟨k + 1, by omega, by rw [show ((k + 1 : Nat) : Int) = (k : Int) + 1 from by omega], N2.out⟩
      case measure => simp only [intOf]; omega
    · obtain rfl : k = n := by omega
      go_wp2_with fail
      go_ret
      exact ⟨rfl, Nr.out⟩

theorem same_eq (xs ys : List Nat) (n bx cy : Nat) (v u : Value) (hx : xs.length = n) (hy : ys.length = n) (hn : n ≤ 1048576) (w : World)
    (ox : w.ownsRow bx 31 1 v n (cellsS xs)) (oy : w.ownsRow cy 31 1 u n (cellsS ys)) (hsx : ∀ x ∈ xs, Sm x) (hsy : ∀ y ∈ ys, Sm y)
    (hs : ∀ (k : Nat) x y, xs[k]? = some x → ys[k]? = some y → sameB (wid x) (wid y) = true) :
    Calls Try.prog 14 #[v, u] w fun e w' => e = .returned (.bool true) ∧ Nw w w' := by
  have Ox := Lib.hid ox
  have Oy := Lib.hid oy
  have Hs := Lib.hid (And.intro hx (And.intro hy (And.intro hsx (And.intro hsy hs))))
  clear ox oy hx hy hsx hsy hs
  go_enter Try.func14, Try.ntmps14
  go_wp2_with fail
  refine (firstDifference_eq xs ys n bx cy _ _ Hs.out.1 Hs.out.2.1 hn _ Ox.out Oy.out Hs.out.2.2.1 Hs.out.2.2.2.1 Hs.out.2.2.2.2).mono ?_
  rintro e w1 ⟨rfl, n1⟩
  have N1 := Lib.hid n1
  clear n1
  go_wp2
  go_ret
  exact ⟨rfl, N1.out⟩

end Go.Proofs.Ytlhhcchncobmhaa
