/- Merged bodies as a plain function, and the walk of MergeBodies.
   Conditions: those that each statement names. -/
import Derived.Test.YtfgofmcpgfofaaaConcat
import Derived.Test.YtfgofmcpgfofaaaTest
namespace Go.Proofs.Ytfgofmcpgfofaaa
open Go Go.RowKit

def mergeL (l : List M4) : List M4 := l.foldl put1 []
theorem mergeL_take (l : List M4) (k : Nat) (m : M4) (h : l[k]? = some m) : mergeL (l.take (k + 1)) = put1 (mergeL (l.take k)) m := by
  obtain ⟨hk, he⟩ := List.getElem?_eq_some_iff.1 h
  unfold mergeL
  rw [List.take_succ_eq_append_getElem hk, List.foldl_append, he]; rfl
/-- finite parts, and gains of at most 2048 for each mode that came in -/
def GB (k : Nat) (x : M4) : Prop := x.Fin ∧ Flo.Ab (S x.gr) (2048 * ((k : Rat) + 1)) ∧ Flo.Ab (S x.gi) (2048 * ((k : Rat) + 1))
theorem gb_ok (m : M4) (hm : m.ok) : m.Fin ∧ Flo.Ab (S m.gr) 1024 ∧ Flo.Ab (S m.gi) 1024 := by
  obtain ⟨n1, n2, n3, n4⟩ := hm.nums
  obtain ⟨-, -, -, -, -, h6, h7⟩ := Valid.parts hm
  obtain ⟨m3, v3⟩ := wid_num n3
  obtain ⟨m4, v4⟩ := wid_num n4
  obtain ⟨l3, lv3⟩ := labs_num _ (wid_lt m.gr) m3
  obtain ⟨l4, lv4⟩ := labs_num _ (wid_lt m.gi) m4
  rw [v3] at lv3
  rw [v4] at lv4
  have v1024 : Flo.W 4652218415073722368 = 1024 := by
    have h : Ieee.double.read 4652218415073722368 = .number false 4503599627370496 (-42) := by decide
    rw [show Flo.W 4652218415073722368 = _ from Flo.V_eq h]
    unfold Flo.val
    have := Flo.pw_neg_mul 42
    rw [show Flo.pw 42 = 4398046511104 from Flo.pw_nat 42] at this
    simp only [Bool.false_eq_true, if_false]
    have e2 : ((4503599627370496 : Nat) : Rat) = 4503599627370496 := rfl
    rw [e2]; grind
  have g3 := (leB_iff l3 num_1024).1 h6
  have g4 := (leB_iff l4 num_1024).1 h7
  rw [v1024, lv3] at g3
  rw [v1024, lv4] at g4
  exact ⟨⟨n1, n2, n3, n4⟩, (ra_ab _).mono g3, (ra_ab _).mono g4⟩
theorem gb_add (k : Nat) (hk : k ≤ 40) (x y : Nat) (hx : Sm x) (hy : Sm y) (h1 : Flo.Ab (S x) (2048 * ((k : Rat) + 1))) (h2 : Flo.Ab (S y) 1024) :
    Calm .add .f32 x y ∧ Sm (opB .add .f32 x y) ∧ Flo.Ab (S (opB .add .f32 x y)) (2048 * (((k + 1 : Nat) : Rat) + 1)) := by
  have hk0 : (k : Rat) ≤ ((40 : Nat) : Rat) := by exact_mod_cast hk
  have hk1 : ((40 : Nat) : Rat) = 40 := rfl
  have hk2 : (0 : Rat) ≤ k := by exact_mod_cast Nat.zero_le k
  have h := h1.add h2
  have l1 : Flo.pw 40 ≤ Flo.pw 127 := Flo.pw_le (by omega)
  have l2 : Flo.pw 40 = 1099511627776 := Flo.pw_nat 40
  obtain ⟨r, r1, r2, r3⟩ := Flo.s_add x y hx hy _ h (by grind)
  obtain ⟨c1, e1⟩ := Calm.of r1
  rw [← e1] at r2 r3
  have hv : Flo.v ≤ 1 / 1048576 := by have := Flo.v_eq; grind
  have hv0 := Flo.v_pos
  have hes : Flo.es ≤ 1 := by rw [← Flo.pw_zero]; exact Flo.pw_le (by omega)
  have hb := Rat.mul_le_mul_of_nonneg_left hv (show 0 ≤ 2048 * ((k : Rat) + 1) + 1024 by grind)
  have hc : ((k + 1 : Nat) : Rat) = (k : Rat) + 1 := by exact_mod_cast rfl
  refine ⟨c1, r2, ?_⟩
  rw [hc]
  exact ((r3.add h).eq (by grind)).mono (by grind)
theorem gb_put (k : Nat) (hk : k ≤ 40) (m : M4) (hm : m.ok) : ∀ l : List M4, (∀ x ∈ l, GB k x) → ∀ x ∈ put1 l m, GB (k + 1) x
  | [], _, x, hx => by
    obtain ⟨f, a, b⟩ := gb_ok m hm
    simp [put1] at hx
    subst hx
    have hk2 : (0 : Rat) ≤ ((k + 1 : Nat) : Rat) := by exact_mod_cast Nat.zero_le _
    exact ⟨f, a.mono (by grind), b.mono (by grind)⟩
  | y :: l, h, x, hx => by
    have hc : ((k + 1 : Nat) : Rat) = (k : Rat) + 1 := by exact_mod_cast rfl
    have up : ∀ z, GB k z → GB (k + 1) z := fun z hz => ⟨hz.1, hz.2.1.mono (by rw [hc]; grind), hz.2.2.mono (by rw [hc]; grind)⟩
    have hy := h y (List.mem_cons_self ..)
    have hl := fun z hz => h z (List.mem_cons_of_mem _ hz)
    unfold put1 at hx
    split at hx
    · rcases List.mem_cons.1 hx with rfl | hx
      · obtain ⟨f, a, b⟩ := gb_ok m hm
        have a1 := gb_add k hk y.gr m.gr hy.1.2.2.1 f.2.2.1 hy.2.1 a
        have a2 := gb_add k hk y.gi m.gi hy.1.2.2.2 f.2.2.2 hy.2.2 b
        exact ⟨⟨hy.1.1, hy.1.2.1, a1.2.1, a2.2.1⟩, a1.2.2, a2.2.2⟩
      · exact up x (hl x hx)
    · rcases List.mem_cons.1 hx with rfl | hx
      · exact up _ hy
      · exact gb_put k hk m hm l hl x hx
theorem gb_merge (l : List M4) (hl : ∀ m ∈ l, m.ok) : ∀ k, k ≤ l.length → k ≤ 40 → ∀ x ∈ mergeL (l.take k), GB k x
  | 0, _, _, x, hx => by simp [mergeL] at hx
  | k + 1, h, h40, x, hx => by
    have hk : l[k]? = some l[k] := List.getElem?_eq_getElem (by omega)
    rw [mergeL_take l k _ hk] at hx
    exact gb_put k (by omega) _ (hl _ (List.getElem_mem _)) _ (gb_merge l hl k (by omega) (by omega)) x hx
theorem merge_calm (l : List M4) (hl : ∀ m ∈ l, m.ok) (k : Nat) (m : M4) (hk : l[k]? = some m) (h40 : k ≤ 40) : ∀ x ∈ mergeL (l.take k), Calm .add .f32 x.gr m.gr ∧ Calm .add .f32 x.gi m.gi := by
  intro x hx
  have h := gb_merge l hl k (by have := (List.getElem?_eq_some_iff.1 hk).1; omega) h40 x hx
  obtain ⟨f, a, b⟩ := gb_ok m (hl m (List.mem_of_getElem? hk))
  exact ⟨(gb_add k h40 x.gr m.gr h.1.2.2.1 f.2.2.1 h.2.1 a).1, (gb_add k h40 x.gi m.gi h.1.2.2.2 f.2.2.2 h.2.2 b).1⟩
theorem mergeL_len (l : List M4) : ∀ k, k ≤ l.length → (mergeL (l.take k)).length ≤ k
  | 0, _ => by simp [mergeL]
  | k + 1, h => by
    have hk : l[k]? = some l[k] := List.getElem?_eq_getElem (by omega)
    rw [mergeL_take l k _ hk]
    have := mergeL_len l k (by omega)
    rcases put1_len (mergeL (l.take k)) l[k] with e | e <;> omega

theorem grownBy_set (W : World) (p : Addr) (v : Value) : W.grownBy (W.setCell p v) (some p.block) :=
  ⟨rfl, rfl, rfl, by simp [World.setCell], fun i hi hne => by simp only [World.setCell, Array.getElem?_modify]; rw [if_neg (fun e => hne (by rw [e]))]⟩
def MergedP (c : List M4) (w : World) (e : Ending) (w' : World) : Prop :=
  ∃ v : Value, e = .returned (.tuple #[.agg #[v], .bool (bodyB c)]) ∧ w'.ownsRow w.heap.size 38 2 v (if bodyB c then c.length else 0) (cellsM (if bodyB c then c else [])) ∧ Nw w w'
def MbI (l : List M4) (N base bl L R D : Nat) (lv : Value) (w : World) (i : Value) (wr : World) : Prop :=
  ∃ (k : Nat) (cur : Value), k ≤ N ∧ i = .int .i64 (k : Int) ∧ Has1 wr D cur ∧ Has1 wr R (.slice none 0 0) ∧ wr.ownsRow base 38 2 cur (mergeL (l.take k)).length (cellsM (mergeL (l.take k))) ∧ wr.ownsRow bl 38 2 lv N (cellsM l) ∧ Nw w wr ∧ base ≤ wr.heap.size

set_option maxRecDepth 100000 in
set_option maxHeartbeats 3200000 in
theorem mergeBodies_ok (a b : List M4) (ha : ∀ m ∈ a, m.ok) (hb : ∀ m ∈ b, m.ok) (n m ba bb : Nat) (va vb : Value) (hn : a.length = n) (hm : b.length = m) (hn16 : n ≤ 16) (hm16 : m ≤ 16) (w : World)
    (oa : w.ownsRow ba 38 2 va n (cellsM a)) (ob : w.ownsRow bb 38 2 vb m (cellsM b)) :
    Calls Try.prog 37 #[.agg #[va], .agg #[vb]] w (MergedP (mergeL (a ++ b)) w) := by
  obtain ⟨sa, sc, rfl⟩ := own_shape' oa
  obtain ⟨ta, tc, rfl⟩ := own_shape' ob
  have hl : ∀ x ∈ a ++ b, x.ok := fun x hx => (List.mem_append.1 hx).elim (ha x) (hb x)
  have Hl := Lib.hid hl
  have Hll := Lib.hid (show (a ++ b).length = n + m from by rw [List.length_append, hn, hm])
  obtain ⟨l, hl0⟩ : ∃ l, l = a ++ b := ⟨_, rfl⟩
  have Ha := Lib.hid (And.intro ha (And.intro hn oa))
  have Hb := Lib.hid (And.intro hb (And.intro hm ob))
  have Hl0 := Lib.hid hl0
  rw [← hl0] at Hl Hll ⊢
  have N0 := Lib.hid ((((Nw.refl w).alloc (.cells #[.slice sa n sc] 45 (0, 0))).alloc (.cells #[.slice ta m tc] 45 (0, 0))).alloc (.cells #[.slice none 0 0] 45 (0, 0)))
  have A0 := Lib.hid (((Has1.new w 45 (.slice sa n sc)).alloc (.cells #[.slice ta m tc] 45 (0, 0))).alloc (.cells #[.slice none 0 0] 45 (0, 0)))
  have B0 := Lib.hid ((Has1.new (w.alloc (.cells #[.slice sa n sc] 45 (0, 0))) 45 (.slice ta m tc)).alloc (.cells #[.slice none 0 0] 45 (0, 0)))
  have R0 := Lib.hid (Has1.new ((w.alloc (.cells #[.slice sa n sc] 45 (0, 0))).alloc (.cells #[.slice ta m tc] 45 (0, 0))) 45 (.slice none 0 0))
  rw [show (w.alloc (.cells #[.slice sa n sc] 45 (0, 0))).heap.size = w.heap.size + 1 from by simp] at B0
  rw [show ((w.alloc (.cells #[.slice sa n sc] 45 (0, 0))).alloc (.cells #[.slice ta m tc] 45 (0, 0))).heap.size = w.heap.size + 2 from by simp] at R0
  clear oa ob hn hm ha hb hl hl0
  go_enter Try.func37, Try.ntmps37
  obtain ⟨x0, x1, x2⟩ := A0.out
  obtain ⟨y0, y1, y2⟩ := B0.out
  go_wp2_with fail
  refine (implIsBody_fin a (fun m hm => (Ha.out.1 m hm).nums) n ba _ Ha.out.2.1 (by omega) _ (own_nw Ha.out.2.2 N0.out)).mono ?_
  rintro e w1 ⟨rfl, n1⟩
  rw [(bodyB_iff a).2 ⟨by rw [Ha.out.2.1]; exact hn16, Ha.out.1⟩]
  have N1 := Lib.hid (N0.out.trans n1)
  have A1 := Lib.hid (A0.out.nw n1)
  have B1 := Lib.hid (B0.out.nw n1)
  have R1 := Lib.hid (R0.out.nw n1)
  clear n1 x0 x1 x2 y0 y1 y2
  obtain ⟨x0, x1, x2⟩ := A1.out
  obtain ⟨y0, y1, y2⟩ := B1.out
  go_wp2_with fail
  refine (implIsBody_fin b (fun m hm => (Hb.out.1 m hm).nums) m bb _ Hb.out.2.1 (by omega) _ (own_nw Hb.out.2.2 N1.out)).mono ?_
  rintro e w2 ⟨rfl, n2⟩
  rw [(bodyB_iff b).2 ⟨by rw [Hb.out.2.1]; exact hm16, Hb.out.1⟩]
  have N2 := Lib.hid ((N1.out.trans n2).alloc (.cells #[.slice none 0 0] 45 (0, 0)))
  have A2 := Lib.hid ((A1.out.nw n2).alloc (.cells #[.slice none 0 0] 45 (0, 0)))
  have B2 := Lib.hid ((B1.out.nw n2).alloc (.cells #[.slice none 0 0] 45 (0, 0)))
  have R2 := Lib.hid ((R1.out.nw n2).alloc (.cells #[.slice none 0 0] 45 (0, 0)))
  have W2 := Lib.hid (show w.heap.size + 3 ≤ w2.heap.size from by have h1 := (R1.out.nw n2).1; omega)
  have D2 := Lib.hid (Has1.new w2 45 (.slice none 0 0))
  clear n2 x0 x1 x2 y0 y1 y2
  obtain ⟨x0, x1, x2⟩ := A2.out
  obtain ⟨y0, y1, y2⟩ := B2.out
  have S2 := Lib.hid (show (w2.alloc (.cells #[.slice none 0 0] 45 (0, 0))).heap.size = w2.heap.size + 1 from by simp)
  go_wp2_with fail
  refine (concat_modes a b n m ba bb (w2.heap.size + 1) _ _ Ha.out.2.1 Hb.out.2.1 hn16 hm16 _ (own_nw Ha.out.2.2 (N2.out.alloc _)) (own_nw Hb.out.2.2 (N2.out.alloc _)) (by simp) (by go_simp) (by go_simp)).mono ?_
  rintro e w4 ⟨v4, rfl, own4, n4⟩
  obtain ⟨la, lc, rfl⟩ := own_shape' own4
  rw [← Hl0.out, Hll.out] at own4 ⊢
  have n4' := ((Nw.refl (w2.alloc (.cells #[.slice none 0 0] 45 (0, 0)))).alloc (.cells #[.slice sa n sc, .slice ta m tc] 43 (0, 0))).trans n4
  have N4 := Lib.hid (N2.out.trans n4')
  have R4 := Lib.hid (R2.out.nw n4')
  have D4 := Lib.hid (D2.out.nw n4')
  have O4 := Lib.hid own4
  have Olt := Lib.hid (show ∀ q, (Value.slice la (n + m) lc).ownBlock = some q → w2.heap.size + 2 ≤ q ∧ q < w4.heap.size from fun q hq => ⟨by have := (own4.lt q hq).1; simpa using this, (own4.lt q hq).2⟩)
  clear own4 n4 n4' x0 x1 x2 y0 y1 y2
  go_wp2_with fail
  go_loopw [26] (fun i wr => MbI l (n + m) w4.heap.size 0 0 (w.heap.size + 2) w2.heap.size (.slice la (n + m) lc) w i wr) (fun i _ => (n + m) - (intOf i).toNat)
  case atStart => exact ⟨0, .slice none 0 0, by omega, rfl, D4.out, R4.out, by simpa [mergeL, cellsM] using World.ownsRow_nil _ _ _ _, own_base O4.out (Nat.zero_le _), N4.out, Nat.le_refl _⟩
  case round =>
    obtain ⟨k, cur, hk, rfl, hD, hR, hcur, hlr, hN, hsz4'⟩ := hrel
    obtain ⟨ua, uc, rfl⟩ := own_shape' hcur
    have Dr := Lib.hid hD
    have Rr := Lib.hid hR
    have Cr := Lib.hid hcur
    have Lr := Lib.hid hlr
    have Nr := Lib.hid hN
    clear hD hR hcur hlr hN
    obtain ⟨d0, d1, d2⟩ := Dr.out
    obtain ⟨r0, r1, r2⟩ := Rr.out
    have hsz4 := Lib.hid (show w4.heap.size ≤ wr.heap.size ∧ w2.heap.size < w4.heap.size from ⟨hsz4', D4.out.1⟩)
    by_cases hlt : k < n + m
    · obtain ⟨x, hxk⟩ : ∃ x, l[k]? = some x := ⟨l[k]'(by rw [Hll.out]; exact hlt), List.getElem?_eq_getElem _⟩
      obtain ⟨g, cap, hv, hcap, hmax, hgs, e1, e2⟩ := own_mode Lr.out hxk Hll.out.symm
      cases hv
      unfold maxLen at hmax
      have Hxk := Lib.hid hxk
      clear hxk
      have hml := mergeL_len l k (by rw [Hll.out]; omega)
      have NA := Lib.hid (Nr.out.alloc (.cells #[.complex .f32 x.pr x.pi, .complex .f32 x.gr x.gi] 38 (0, 0)))
      have CA := Lib.hid (Cr.out.alloc (.cells #[.complex .f32 x.pr x.pi, .complex .f32 x.gr x.gi] 38 (0, 0)))
      have DA := Lib.hid (Dr.out.alloc (.cells #[.complex .f32 x.pr x.pi, .complex .f32 x.gr x.gi] 38 (0, 0)))
      have RA := Lib.hid (Rr.out.alloc (.cells #[.complex .f32 x.pr x.pi, .complex .f32 x.gr x.gi] 38 (0, 0)))
      have LA := Lib.hid (Lr.out.alloc (.cells #[.complex .f32 x.pr x.pi, .complex .f32 x.gr x.gi] 38 (0, 0)))
      have sA := Lib.hid (show w4.heap.size ≤ (wr.alloc (.cells #[.complex .f32 x.pr x.pi, .complex .f32 x.gr x.gi] 38 (0, 0))).heap.size from by simp; omega)
      go_wp2_with fail
      refine (mergeMode_ok (mergeL (l.take k)) x _ w4.heap.size _ rfl (by omega) _ sA.out (merge_calm l Hl.out k x Hxk.out (by omega)) CA.out).mono ?_
      rintro e w5 ⟨v5, rfl, own5, gr5⟩
      obtain ⟨pa, pc, rfl⟩ := own_shape' own5
      have hge : ∀ q, (Value.slice ua (mergeL (l.take k)).length uc).ownBlock = some q → w4.heap.size ≤ q := fun q hq => (CA.out.lt q hq).1
      have h42 := hsz4.out
      have hW2 := W2.out
      have D5 := Lib.hid (DA.out.grown gr5 (fun e => by have := hge _ e; omega))
      have R5 := Lib.hid (RA.out.grown gr5 (fun e => by have := hge _ e; omega))
      have L5 := Lib.hid (LA.out.kept gr5 (.inr (fun e => by have := (Olt.out _ rfl).2; have := hge _ e.symm; omega)))
      have N5 := Lib.hid (NA.out.grown gr5 (fun q hq => by have := hge q hq; have := N4.out.size; omega))
      have s5 := Lib.hid (Nat.le_trans sA.out gr5.size)
      rw [← mergeL_take l k x Hxk.out] at own5 ⊢
      have C5 := Lib.hid own5
      clear own5 gr5 d0 d1 d2 r0 r1 r2 e1 e2 hge
      obtain ⟨d0, d1, d2⟩ := D5.out
      go_wp2_with fail
      go_roundw
      case rel =>
        refine ⟨k + 1, _, by omega, by rw [show ((k + 1 : Nat) : Int) = (k : Int) + 1 from by omega], D5.out.put _, R5.out.set (by show w2.heap.size ≠ w.heap.size + 2; omega) _, own_set C5.out (by show w2.heap.size < w4.heap.size; omega) _, ?_, N5.out.set (by show w.heap.size ≤ w2.heap.size; omega) _, ?_⟩
        · exact L5.out.kept (grownBy_set _ _ _) (.inr (fun e => by have := (Olt.out _ e).1; simp at this; omega))
        · have := s5.out
          simpa [World.setCell] using this
      case measure => simp only [intOf]; omega
    · obtain rfl : k = n + m := by omega
      have hml := mergeL_len l (n + m) (by rw [Hll.out]; exact Nat.le_refl _)
      have hall : l.take (n + m) = l := List.take_of_length_le (by rw [Hll.out]; exact Nat.le_refl _)
      have hfin := Lib.hid (fun x hx => (gb_merge l Hl.out (n + m) (by rw [Hll.out]; exact Nat.le_refl _) (by omega) x hx).1)
      go_wp2_with fail
      rw [hall] at Cr hml hfin Dr
      refine (implIsBody_fin (mergeL l) hfin.out _ _ _ rfl (by omega) _ Cr.out).mono ?_
      rintro e w6 ⟨rfl, n6⟩
      have C6 := Lib.hid (own_nw Cr.out n6)
      have D6 := Lib.hid (Dr.out.nw n6)
      have R6 := Lib.hid (Rr.out.nw n6)
      have N6 := Lib.hid (Nr.out.trans n6)
      have h42 := hsz4.out
      have hW2 := W2.out
      clear n6 d0 d1 d2 r0 r1 r2
      obtain ⟨d0, d1, d2⟩ := D6.out
      obtain ⟨r0, r1, r2⟩ := R6.out
      have Hw4 := Lib.hid N4.out.size
      cases hbo : bodyB (mergeL l) with
      | true =>
        go_wp2_with fail
        exact bodyPost_ret (v := .tuple #[.agg #[.slice ua (mergeL l).length uc], .bool true]) (by simp [results, Try.results37, go_sem, r0, r1, r2]) rfl ⟨_, by rw [hbo], by rw [hbo]; simp only [if_true]; exact own_base (own_set C6.out (by show w.heap.size + 2 < w4.heap.size; omega) _) Hw4.out, N6.out.set (by show w.heap.size ≤ w.heap.size + 2; omega) _⟩
      | false =>
        go_wp2_with fail
        exact bodyPost_ret (v := .tuple #[.agg #[.slice none 0 0], .bool false]) (by simp [results, Try.results37, go_sem, r0, r1, r2]) rfl ⟨_, by rw [hbo], by rw [hbo]; simp only [Bool.false_eq_true, if_false]; exact World.ownsRow_nil _ _ _ _, N6.out.set (by show w.heap.size ≤ w.heap.size + 2; omega) _⟩

end Go.Proofs.Ytfgofmcpgfofaaa
