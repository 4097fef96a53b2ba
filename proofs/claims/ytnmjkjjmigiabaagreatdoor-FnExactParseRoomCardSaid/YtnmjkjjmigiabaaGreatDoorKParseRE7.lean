/- Texts of a proof, put together: RmG, RmL.
   Conditions: those that each statement names. -/
import Derived.Test.YtnmjkjjmigiabaaGreatDoorKParseRE6
/- The marks of rooms, and of all their rows.
   Conditions: those that each statement names. -/
namespace Go.Proofs.YtnmjkjjmigiabaaGreatDoor
set_option linter.unusedSimpArgs false
set_option linter.unusedVariables false
open Go Go.RowKit

def MkRI (M q P base N : Nat) (rows : List (List Nat)) (sv : Value) (w : World) (m i : Value) (wr : World) : Prop :=
  ∃ k A : Nat, k ≤ P ∧ A = M + k * q ∧ i = .int .i64 (k : Int) ∧ m = .int .i64 (A : Int) ∧ RowsN wr base N sv (mkRR M q rows k) ∧ Rg base N w wr
def MkRP (M q P base N : Nat) (rows : List (List Nat)) (sv : Value) (w : World) (e : Ending) (w' : World) : Prop :=
  e = .returned (.int .i64 ((M + P * q : Nat) : Int)) ∧ RowsN w' base N sv (mkRR M q rows P) ∧ Rg base N w w'
theorem mul_le16 {k q : Nat} (hk : k ≤ 16) (hq : q ≤ 16) : k * q ≤ 256 := Nat.mul_le_mul hk hq
set_option maxHeartbeats 6400000 in
set_option maxRecDepth 100000 in
theorem markRows_ok (M q P base N : Nat) (rows : List (List Nat)) (sv : Value) (hP : rows.length = P) (hP16 : P ≤ 16) (hq : q ≤ 16) (hM : M ≤ 100) (hr : ∀ r ∈ rows, r.length = q) (w : World) (h : RowsN w base N sv rows) :
    Calls Tryz.prog 89 #[sv, .int .i64 (M : Int)] w (MkRP M q P base N rows sv w) := by
  obtain ⟨sa, sc, rfl⟩ := h.g.shape
  rw [hP] at h ⊢
  have H := Lib.hid h
  have E := Lib.hid hP
  have Hr := Lib.hid hr
  clear h hP hr
  go_enter Tryz.func89, Tryz.ntmps89
  go_wp2_with fail
  go_loopw [1, 5] (fun m i wr => MkRI M q P base N rows (.slice sa P sc) w m i wr) (fun _ i _ => P - (intOf i).toNat)
  case atStart => exact ⟨0, M, by omega, by simp, rfl, rfl, by rw [mkRR_zero]; exact H.out, Rg.refl _ _ _⟩
  case round =>
    obtain ⟨k, A, hk, hA, rfl, rfl, hrw, hrg⟩ := hrel
    have Rw := Lib.hid hrw
    have Rr := Lib.hid hrg
    have hAb : A ≤ 1000 := by have := mul_le16 (k := k) (q := q) (by omega) hq; omega
    have HA := Lib.hid hA
    clear hrw hrg hA
    by_cases hlt : k < P
    · obtain ⟨r, hrk⟩ : ∃ r, rows[k]? = some r := ⟨rows[k]'(by rw [E.out]; exact hlt), List.getElem?_eq_getElem _⟩
      have hrq := Hr.out r (List.mem_of_getElem? hrk)
      obtain ⟨g, cap, ra, rc, hv, hcap, hmax, hgs, e1, own⟩ := Rw.out.g.at (n := P) (by rw [mkRR_len M q rows k (by rw [E.out]; exact hk)]; exact E.out.symm) (by rw [mkRR_at M q rows k k (Nat.le_refl _)]; exact hrk)
      cases hv
      rw [hrq] at e1 own
      have Rk := Lib.hid hrk
      have Ow := Lib.hid own
      have HR := Lib.hid hrq
      have hvv := Lib.hid (show ∀ vs : List Value, wr.ownsRow base 35 1 (.slice (some ⟨g, 0, none⟩) P sc) rows.length vs → vs[k]? = some (.slice ra q rc) from fun vs ho => by
        rw [E.out] at ho
        rw [← ho.cellAt k (by omega)]; exact e1)
      unfold maxLen at hmax
      clear hrk own hrq
      go_wp2_with fail
      refine (markRow_ok A (by omega) r q _ _ HR.out (by omega) _ Ow.out).mono ?_
      rintro e w5 ⟨rfl, o5, g5⟩
      have R5 := Lib.hid (RowsN.mark Rw.out (by rw [E.out]; exact hlt) Rk.out hvv.out Ow.out (by rw [← HA.out]; exact o5) g5)
      have hNb : ∀ x, (Value.slice ra q rc).ownBlock = some x → x < N := fun x hx => by
        obtain ⟨vs, h1, h2, h3, h4⟩ := Rw.out
        rw [mkRR_len M q rows k (by rw [E.out]; exact hk)] at h1
        exact h4 k _ (hvv.out vs h1) x hx
      have G5 := Lib.hid (Rr.out.trans (Rg.of Ow.out hNb g5))
      clear o5 g5 hNb e1
      go_wp2_with fail
      go_roundw
      case rel => exact ⟨k + 1, A + q, by omega, by rw [HA.out, Nat.succ_mul]; omega, by rw [show ((k + 1 : Nat) : Int) = (k : Int) + 1 from by omega], by rw [show ((A + q : Nat) : Int) = (A : Int) + (q : Int) from by omega], R5.out, G5.out⟩
      case measure => simp only [intOf]; omega
    · obtain rfl : k = P := by omega
      go_wp2_with fail
      go_ret
      exact ⟨by rw [← HA.out]; rfl, Rw.out, Rr.out⟩

def HdRI (M q P : Nat) (w : World) (m i : Value) (wr : World) : Prop :=
  ∃ k A : Nat, k ≤ P ∧ A = M + k * q ∧ i = .int .i64 (k : Int) ∧ m = .int .i64 (A : Int) ∧ Nw w wr
set_option maxHeartbeats 6400000 in
set_option maxRecDepth 100000 in
theorem heldRows_ok (M q P base N : Nat) (rows : List (List Nat)) (sv : Value) (hP : rows.length = P) (hP16 : P ≤ 16) (hq : q ≤ 16) (hM : M ≤ 100) (w : World) (h : RowsN w base N sv (mkRR M q rows P)) :
    Calls Tryz.prog 90 #[sv, .int .i64 (M : Int)] w fun e w' => e = .returned (.int .i64 ((M + P * q : Nat) : Int)) ∧ Nw w w' := by
  have hlen := mkRR_len M q rows P (by omega)
  obtain ⟨sa, sc, rfl⟩ := h.g.shape
  rw [hlen, hP] at h ⊢
  have H := Lib.hid h
  have E := Lib.hid hP
  clear h hP hlen
  go_enter Tryz.func90, Tryz.ntmps90
  go_wp2_with fail
  go_loopw [1, 5] (fun m i wr => HdRI M q P w m i wr) (fun _ i _ => P - (intOf i).toNat)
  case atStart => exact ⟨0, M, by omega, by simp, rfl, rfl, Nw.refl _⟩
  case round =>
    obtain ⟨k, A, hk, hA, rfl, rfl, hN⟩ := hrel
    have Nr := Lib.hid hN
    have hAb : A ≤ 1000 := by have := mul_le16 (k := k) (q := q) (by omega) hq; omega
    have HA := Lib.hid hA
    clear hN hA
    by_cases hlt : k < P
    · obtain ⟨g, cap, ra, rc, hv, hcap, hmax, hgs, e1, own⟩ := (H.out.nw Nr.out).g.at (n := P) (by rw [mkRR_len M q rows P (by rw [E.out]; exact Nat.le_refl _)]; exact E.out.symm) (mkRR_old M q rows P k hlt)
      cases hv
      rw [mkRow_len] at e1 own
      rw [← HA.out] at own
      have Ow := Lib.hid own
      have hpos : ¬ ((A : Int) + (q : Int) < 0) := by omega
      unfold maxLen at hmax
      clear own
      go_wp2_with fail
      refine (heldRow_ok A (by omega) q _ _ (by omega) _ Ow.out).mono ?_
      rintro e w5 ⟨rfl, n5⟩
      have N5 := Lib.hid (Nr.out.trans n5)
      clear n5 e1
      go_wp2_with fail
      go_roundw
      case rel => exact ⟨k + 1, A + q, by omega, by rw [HA.out, Nat.succ_mul]; omega, by rw [show ((k + 1 : Nat) : Int) = (k : Int) + 1 from by omega], by rw [show ((A + q : Nat) : Int) = (A : Int) + (q : Int) from by omega], N5.out⟩
      case measure => simp only [intOf]; omega
    · obtain rfl : k = P := by omega
      go_wp2_with fail
      go_ret
      exact ⟨by rw [← HA.out]; rfl, Nr.out⟩

/-! ### rooms -/
theorem own_apartM {w w' : World} {b b' n n' : Nat} {v v' : Value} {xs xs' : List Value} {E : TypeId} {sz : Nat} (h : w.ownsRow b E sz v n xs) (k : w.ownsRow b' 93 2 v' n' xs') (hE : E ≠ 93) (hg : w.grownBy w' v'.ownBlock) : w'.ownsRow b E sz v n xs := h.kept hg (own_apart h k hE)
set_option maxRecDepth 100000 in
theorem eqRoom_ok (ms : List M4) (hf : ∀ m ∈ ms, m.Fin) (rows : List (List Nat)) (q P b1 b2 : Nat) (v u v' u' : Value) (hq : ms.length = q) (hq16 : q ≤ 1048576) (hP : rows.length = P) (hP16 : P ≤ 1048576) (hr : ∀ r ∈ rows, r.length ≤ 1048576) (w : World)
    (h1 : w.ownsRow b1 93 2 v q (cellsM ms)) (r1 : RowsG w b1 u rows) (h2 : w.ownsRow b2 93 2 v' q (cellsM ms)) (r2 : RowsG w b2 u' rows) :
    Calls Tryz.prog 37 #[.agg #[v, u], .agg #[v', u']] w fun e w' => e = .returned (.bool true) ∧ Nw w w' := by
  obtain ⟨va, vc, rfl⟩ := own_shape' h1
  obtain ⟨va', vc', rfl⟩ := own_shape' h2
  obtain ⟨ua, uc, rfl⟩ := r1.shape
  obtain ⟨ua', uc', rfl⟩ := r2.shape
  rw [hP] at r1 r2 ⊢
  have C := Lib.hid (fun w => eqModeS_ok ms hf q b1 b2 (.slice va q vc) (.slice va' q vc') hq hq16 w)
  have D := Lib.hid (fun w => eqRows_ok rows P b1 b2 (.slice ua P uc) (.slice ua' P uc') hP hP16 hr w)
  have N0 := Lib.hid (((Nw.refl w).alloc (.cells #[.slice va q vc, .slice ua P uc] 43 (0, 0))).alloc (.cells #[.slice va' q vc', .slice ua' P uc'] 43 (0, 0)))
  have B1 := Lib.hid ((Has2.new w 43 (.slice va q vc) (.slice ua P uc)).alloc (.cells #[.slice va' q vc', .slice ua' P uc'] 43 (0, 0)))
  have B2 := Lib.hid (Has2.new (w.alloc (.cells #[.slice va q vc, .slice ua P uc] 43 (0, 0))) 43 (.slice va' q vc') (.slice ua' P uc'))
  have H := Lib.hid (And.intro h1 (And.intro h2 (And.intro r1 r2)))
  clear h1 h2 r1 r2 hq hP hf hr
  have hs0 : (w.alloc (.cells #[.slice va q vc, .slice ua P uc] 43 (0, 0))).heap.size = w.heap.size + 1 := by simp
  rw [hs0] at B2
  clear hs0
  go_enter Tryz.func37, Tryz.ntmps37
  go_wp2_with fail
  refine (C.out _ (own_nw H.out.1 N0.out) (own_nw H.out.2.1 N0.out)).mono ?_
  rintro e w1 ⟨rfl, n1⟩
  have N1 := Lib.hid (N0.out.trans n1)
  obtain ⟨x0, x1, x2, x3, x4⟩ := B1.out.nw n1
  obtain ⟨y0, y1, y2, y3, y4⟩ := B2.out.nw n1
  clear n1
  go_wp2_with fail
  refine (D.out _ (H.out.2.2.1.nw N1.out) (H.out.2.2.2.nw N1.out)).mono ?_
  rintro e w2 ⟨rfl, n2⟩
  have N2 := Lib.hid (N1.out.trans n2)
  clear n2 x0 x1 x2 x3 x4 y0 y1 y2 y3 y4
  go_wp2_with fail
  go_ret
  exact ⟨rfl, N2.out⟩

/-- the marked room: its marks begin at 1 -/
def MkMP (ms : List M4) (rows : List (List Nat)) (q P base N : Nat) (v u : Value) (w : World) (e : Ending) (w' : World) : Prop :=
  e = .returned (.int .i64 ((2 * q + 1 + P * q : Nat) : Int)) ∧ w'.ownsRow base 93 2 v q (cellsM (mkM ms q)) ∧ RowsN w' base N u (mkRR (2 * q + 1) q rows P) ∧
    (∀ W : World, Nw W w → W.heap.size ≤ base → Nw W w') ∧ ∀ (b : Nat) (x y : Value), N ≤ b → Has2 w b x y → Has2 w' b x y
set_option maxRecDepth 100000 in
theorem markRoom_ok (ms : List M4) (rows : List (List Nat)) (q P base N : Nat) (v u : Value) (hq : ms.length = q) (hq16 : q ≤ 16) (hP : rows.length = P) (hP16 : P ≤ 16) (hr : ∀ r ∈ rows, r.length = q) (w : World)
    (hN : ∀ x, v.ownBlock = some x → x < N) (h1 : w.ownsRow base 93 2 v q (cellsM ms)) (r1 : RowsN w base N u rows) :
    Calls Tryz.prog 38 #[.agg #[v, u], .int .i64 1] w (MkMP ms rows q P base N v u w) := by
  obtain ⟨va, vc, rfl⟩ := own_shape' h1
  obtain ⟨ua, uc, rfl⟩ := r1.g.shape
  rw [hP] at r1 ⊢
  have C := Lib.hid (fun w => markM_ok ms q base (.slice va q vc) hq hq16 w)
  have D := Lib.hid (fun w => markRows_ok (2 * q + 1) q P base N rows (.slice ua P uc) hP hP16 hq16 (by omega) hr w)
  have B := Lib.hid (Has2.new w 43 (.slice va q vc) (.slice ua P uc))
  have H1 := Lib.hid (h1.alloc (.cells #[.slice va q vc, .slice ua P uc] 43 (0, 0)))
  have R1 := Lib.hid (r1.nw ((Nw.refl w).alloc (.cells #[.slice va q vc, .slice ua P uc] 43 (0, 0))))
  have HN := Lib.hid hN
  have Lt := Lib.hid (fun x hx => (h1.lt x hx).2)
  clear h1 r1 hN hq hP hr
  go_enter Tryz.func38, Tryz.ntmps38
  go_wp2_with fail
  refine (C.out _ H1.out).mono ?_
  rintro e w1 ⟨rfl, o1, g1⟩
  have O1 := Lib.hid o1
  have G1 := Lib.hid g1
  have Rw1 := Lib.hid (R1.out.modes H1.out g1)
  obtain ⟨x0, x1, x2, x3, x4⟩ := B.out.grown g1 (fun e => by have := Lt.out _ e; omega)
  rw [show (2 * (q : Int) + 1) = ((2 * q + 1 : Nat) : Int) from by omega]
  obtain ⟨A, hA⟩ : ∃ A, A = 2 * q + 1 := ⟨_, rfl⟩
  rw [← hA] at D ⊢
  have HA := Lib.hid hA
  clear o1 g1 hA
  go_wp2_with fail
  refine (D.out _ Rw1.out).mono ?_
  rintro e w2 ⟨rfl, r2, g2⟩
  have R2 := Lib.hid r2
  have G2 := Lib.hid g2
  clear r2 g2 x0 x1 x2 x3 x4
  go_wp2_with fail
  go_ret
  refine ⟨by rw [HA.out]; rfl, G2.out.md _ _ _ _ O1.out, by rw [← HA.out]; exact R2.out, fun W hW hb => ?_, fun b x y hb hx => ?_⟩
  · exact G2.out.nw (nw_gr (hW.alloc _) G1.out H1.out hb) hb
  · exact G2.out.has2 (.inl hb) ((hx.alloc _).grown G1.out (fun e => by have := HN.out _ e; omega))
set_option maxRecDepth 100000 in
theorem heldRoom_ok (ms : List M4) (rows : List (List Nat)) (q P base N : Nat) (v u : Value) (hq : ms.length = q) (hq16 : q ≤ 16) (hP : rows.length = P) (hP16 : P ≤ 16) (w : World)
    (h1 : w.ownsRow base 93 2 v q (cellsM (mkM ms q))) (r1 : RowsN w base N u (mkRR (2 * q + 1) q rows P)) :
    Calls Tryz.prog 39 #[.agg #[v, u], .int .i64 1] w fun e w' => e = .returned (.int .i64 ((2 * q + 1 + P * q : Nat) : Int)) ∧ Nw w w' := by
  obtain ⟨va, vc, rfl⟩ := own_shape' h1
  obtain ⟨ua, uc, rfl⟩ := r1.g.shape
  have hlen := mkRR_len (2 * q + 1) q rows P (by omega)
  rw [hlen, hP] at r1 ⊢
  have C := Lib.hid (fun w => heldM_ok ms q base (.slice va q vc) hq hq16 w)
  have D := Lib.hid (fun w => heldRows_ok (2 * q + 1) q P base N rows (.slice ua P uc) hP hP16 hq16 (by omega) w)
  have B := Lib.hid (Has2.new w 43 (.slice va q vc) (.slice ua P uc))
  have N0 := Lib.hid ((Nw.refl w).alloc (.cells #[.slice va q vc, .slice ua P uc] 43 (0, 0)))
  have H := Lib.hid (And.intro h1 r1)
  clear h1 r1 hq hP hlen
  go_enter Tryz.func39, Tryz.ntmps39
  go_wp2_with fail
  refine (C.out _ (own_nw H.out.1 N0.out)).mono ?_
  rintro e w1 ⟨rfl, n1⟩
  have N1 := Lib.hid (N0.out.trans n1)
  obtain ⟨x0, x1, x2, x3, x4⟩ := B.out.nw n1
  have hpos : ¬ (((2 * q + 1 : Nat) : Int) < 0) := by omega
  rw [show (2 * (q : Int) + 1) = ((2 * q + 1 : Nat) : Int) from by omega]
  obtain ⟨A, hA⟩ : ∃ A, A = 2 * q + 1 := ⟨_, rfl⟩
  rw [← hA] at D H hpos ⊢
  obtain ⟨T, hT⟩ : ∃ T, T = A + P * q := ⟨_, rfl⟩
  have hpos2 : ¬ ((T : Int) < 0) := by omega
  rw [← hT] at D
  have HT := Lib.hid (And.intro hT hA)
  clear n1 hA hT
  go_wp2_with fail
  refine (D.out _ (H.out.2.nw N1.out)).mono ?_
  rintro e w2 ⟨rfl, n2⟩
  have N2 := Lib.hid (N1.out.trans n2)
  clear n2 x0 x1 x2 x3 x4
  go_wp2_with fail
  go_ret
  exact ⟨by rw [← HT.out.2, ← HT.out.1]; rfl, N2.out⟩
end Go.Proofs.YtnmjkjjmigiabaaGreatDoor

/- The law FnExactParseRoom as a call.
   Conditions: those that each statement names. -/
namespace Go.Proofs.YtnmjkjjmigiabaaGreatDoor
set_option linter.unusedSimpArgs false
set_option linter.unusedVariables false
open Go Go.RowKit

def PrQ (ms : List M4) (rows : List (List Nat)) (b : Bool) (w : World) (e : Ending) (w' : World) : Prop :=
  ∃ v u, e = .returned (.tuple #[.agg #[v, u], .bool b]) ∧ w'.ownsRow w.heap.size 93 2 v ms.length (cellsM ms) ∧ RowsG w' w.heap.size u rows ∧ Nw w w'
def PrN (ms : List M4) (rows : List (List Nat)) (b : Bool) (w : World) (e : Ending) (w' : World) : Prop :=
  ∃ v u, e = .returned (.tuple #[.agg #[v, u], .bool b]) ∧ w'.ownsRow w.heap.size 93 2 v ms.length (cellsM ms) ∧ RowsN w' w.heap.size w'.heap.size u rows ∧ Nw w w'
theorem textR_val {l : List UInt8} {ms ms' : List M4} {rows rows' : List (List Nat)} (h : TextR l ms rows) (k : TextR l ms' rows') : ms = ms' ∧ rows = rows' := by
  obtain ⟨ps, qs, a1, a2, e⟩ := h
  obtain ⟨r, ls, hsp⟩ : ∃ r ls, spl 10 l = ls ++ [r] := ⟨_, _, (List.dropLast_concat_getLast (spl_ne 10 l)).symm⟩
  refine its_good hsp ?_ k
  obtain ⟨ps', qs', b1, b2, rfl⟩ := textR_lines hsp ⟨ps, qs, a1, a2, e⟩
  constructor
  · rw [List.filter_append, List.filter_eq_self.2 (fun p hp => by obtain ⟨m, hm⟩ := b1.mem p hp; rw [isP_mode hm]; rfl), List.filter_eq_nil_iff.2 (fun p hp => by obtain ⟨m, hm⟩ := b2.mem p hp; rw [isP_place hm]; simp), List.append_nil]
    exact b1.imp (fun p m _ hm => ⟨lineM_fin hm, fun m' hm' => lineM_K.val hm hm'⟩)
  · rw [List.filter_append, List.filter_eq_nil_iff.2 (fun p hp => by obtain ⟨m, hm⟩ := b1.mem p hp; rw [isP_mode hm]; simp), List.filter_eq_self.2 (fun p hp => by obtain ⟨m, hm⟩ := b2.mem p hp; exact isP_place hm), List.nil_append]
    exact b2
theorem parseRoom_both (s : ByteArray) (hs : s.size ≤ 1048576) : ∃ ms rows b, (∀ m ∈ ms, m.Fin) ∧ ms.length ≤ 16 ∧ rows.length ≤ 16 ∧ (∀ r ∈ rows, r.length = ms.length) ∧ (∀ w, Calls Tryz.prog 36 #[.string s] w (PrQ ms rows b w)) ∧ (∀ w, LibW w → Calls Tryz.prog 21 #[.string s] w (PrN ms rows b w)) := by
  by_cases h : ∃ ms rows, GoodR s.data.toList ms rows
  · obtain ⟨ms, rows, g⟩ := h
    obtain ⟨o1, o2, o3⟩ := roomB_iff.1 g.1
    have hf : ∀ m ∈ ms, m.Fin := fun m hm => by
      obtain ⟨ps, qs, a, -⟩ := g.2
      obtain ⟨p, hp⟩ := a.memr m hm
      exact (lineM_fin hp).1
    refine ⟨ms, rows, true, hf, ((bodyB_iff ms).1 o1).1, o2, fun r hr => (rowB_iff.1 (o3 r hr)).1, fun w => (specParseRoom s hs w).mono fun e w' h => ?_, fun w hL => (implParseRoom s hs w hL).mono fun e w' h => ?_⟩
    · obtain ⟨hn, ⟨ns, rs, v, u, g2, -, -, rfl, own, rws⟩ | ⟨hno, -⟩⟩ := h
      · obtain ⟨e1, e2⟩ := textR_val g2.2 g.2
        subst e1 e2
        exact ⟨v, u, rfl, own, rws, hn⟩
      · exact absurd g (hno ms rows)
    · obtain ⟨hn, ⟨ns, rs, v, u, g2, rfl, own, rws⟩ | ⟨hno, -⟩⟩ := h
      · obtain ⟨e1, e2⟩ := textR_val g2.2 g.2
        subst e1 e2
        exact ⟨v, u, rfl, own, rws.n, hn⟩
      · exact absurd g (hno ms rows)
  · have hno : ∀ ms rows, ¬ GoodR s.data.toList ms rows := fun ms rows g => h ⟨ms, rows, g⟩
    refine ⟨[], [], false, by simp, by simp, by simp, by simp, fun w => (specParseRoom s hs w).mono fun e w' h => ?_, fun w hL => (implParseRoom s hs w hL).mono fun e w' h => ?_⟩
    · obtain ⟨hn, ⟨ns, rs, v, u, g2, -⟩ | ⟨-, rfl⟩⟩ := h
      · exact absurd g2 (hno ns rs)
      · exact ⟨_, _, rfl, World.ownsRow_nil _ _ _ _, RowsG.nil _ _, hn⟩
    · obtain ⟨hn, ⟨ns, rs, v, u, g2, -⟩ | ⟨-, rfl⟩⟩ := h
      · exact absurd g2 (hno ns rs)
      · exact ⟨_, _, rfl, World.ownsRow_nil _ _ _ _, (RowsH.nil _ _).n, hn⟩

set_option maxHeartbeats 12800000 in
set_option maxRecDepth 100000 in
theorem law_parseRoom (s : ByteArray) (w : World) (hL : LibW w) :
    Calls Tryz.prog 6 #[.string s] w fun e w' => e = .returned (.bool true) ∧ Nw w w' := by
  by_cases hs : s.size ≤ 1048576
  · obtain ⟨ms, rows, b, hf, h16, hP16, hrl, k1, k2⟩ := parseRoom_both s hs
    obtain ⟨n, hn⟩ : ∃ n, n = ms.length := ⟨_, rfl⟩
    obtain ⟨P, hP⟩ : ∃ P, P = rows.length := ⟨_, rfl⟩
    unfold PrQ at k1
    unfold PrN at k2
    rw [← hn] at k1 k2 h16 hrl
    rw [← hP] at hP16
    have Hn := Lib.hid (And.intro hn.symm hP.symm)
    have Hf := Lib.hid (And.intro hf hrl)
    have C1 := Lib.hid k1
    have C2 := Lib.hid k2
    have L := Lib.hid hL
    obtain ⟨T, hT⟩ : ∃ T, T = 2 * n + 1 + P * n := ⟨_, rfl⟩
    have hT0 : ¬ ((T : Int) < 0) := by omega
    have HT := Lib.hid hT
    clear hn hP hf hrl k1 k2 hL hT
    go_enter Tryz.func6, Tryz.ntmps6
    go_wp2_with fail
    refine (C1.out _).mono ?_
    rintro e w1 ⟨v0, u0, rfl, own0, rws0, n1⟩
    obtain ⟨va, vc, rfl⟩ := own_shape' own0
    obtain ⟨ua, uc, rfl⟩ := rws0.shape
    rw [Hn.out.2] at rws0 ⊢
    have B0 := Lib.hid (Has2.new w1 43 (.slice va n vc) (.slice ua P uc))
    have O1 := Lib.hid (own0.alloc (.cells #[.slice va n vc, .slice ua P uc] 43 (0, 0)))
    have U1 := Lib.hid (rws0.nw ((Nw.refl w1).alloc (.cells #[.slice va n vc, .slice ua P uc] 43 (0, 0))))
    have N1 := Lib.hid (n1.alloc (.cells #[.slice va n vc, .slice ua P uc] 43 (0, 0)))
    have hs1 := Lib.hid (show w.heap.size ≤ w1.heap.size from n1.size)
    have hs1' := Lib.hid (show (w1.alloc (.cells #[.slice va n vc, .slice ua P uc] 43 (0, 0))).heap.size = w1.heap.size + 1 from by simp)
    clear own0 rws0 n1
    go_wp2_with fail
    refine (C2.out _ (L.out.nw N1.out)).mono ?_
    rintro e w2 ⟨g0, g1, rfl, own1, rws1, n2⟩
    rw [hs1'.out] at own1 rws1
    obtain ⟨ga, gc, rfl⟩ := own_shape' own1
    obtain ⟨ka, kc, rfl⟩ := rws1.g.shape
    rw [Hn.out.2] at rws1 ⊢
    obtain ⟨obj, hobj⟩ : ∃ obj, obj = Obj.cells #[.slice ga n gc, .slice ka P kc] 43 (0, 0) := ⟨_, rfl⟩
    have A2 := Lib.hid (show Nw w2 (w2.alloc (.cells #[.slice ga n gc, .slice ka P kc] 43 (0, 0))) from (Nw.refl w2).alloc _)
    have B1 := Lib.hid ((B0.out.nw n2).nw A2.out)
    have D1 := Lib.hid (Has2.new w2 43 (.slice ga n gc) (.slice ka P kc))
    have O2 := Lib.hid (own_nw (own_nw O1.out n2) A2.out)
    have U2 := Lib.hid ((U1.out.nw n2).nw A2.out)
    have G2 := Lib.hid (own_nw own1 A2.out)
    have K2 := Lib.hid (rws1.nw A2.out)
    have N2 := Lib.hid ((N1.out.trans n2).trans A2.out)
    have M2 := Lib.hid (n2.trans A2.out)
    have hs2 : w1.heap.size < w2.heap.size := by have := (B0.out.nw n2).1; omega
    have Gb := Lib.hid (fun q hq => (own1.lt q hq).2)
    clear own1 rws1 n2 hobj
    obtain ⟨x0, x1, x2, x3, x4⟩ := B1.out
    obtain ⟨y0, y1, y2, y3, y4⟩ := D1.out
    go_wp2_with fail
    refine (eqRoom_ok ms Hf.out.1 rows n P _ _ (.slice ga n gc) (.slice ka P kc) (.slice va n vc) (.slice ua P uc) Hn.out.1 (by omega) Hn.out.2 (by omega) (fun r hr => by rw [Hf.out.2 r hr]; omega) _ G2.out K2.out.g O2.out U2.out).mono ?_
    rintro e w3 ⟨rfl, n3⟩
    have D3 := Lib.hid (D1.out.nw n3)
    have G3 := Lib.hid (own_nw G2.out n3)
    have K3 := Lib.hid (K2.out.nw n3)
    have N3 := Lib.hid (N2.out.trans n3)
    have M3 := Lib.hid (M2.out.trans n3)
    clear n3 x0 x1 x2 x3 x4 y0 y1 y2 y3 y4
    obtain ⟨x0, x1, x2, x3, x4⟩ := B0.out.nw M3.out
    obtain ⟨y0, y1, y2, y3, y4⟩ := D3.out
    go_wp2_with fail
    refine (markRoom_ok ms rows n P _ _ _ _ Hn.out.1 h16 Hn.out.2 hP16 Hf.out.2 _ Gb.out G3.out K3.out).mono ?_
    rintro e w4 ⟨rfl, g4, k4, hW, hB⟩
    rw [← HT.out]
    have G4 := Lib.hid g4
    have K4 := Lib.hid k4
    have N4 := Lib.hid (hW w N3.out (by have := hs1.out; omega))
    have M4 := Lib.hid (hW _ M3.out (by rw [hs1'.out]; exact Nat.le_refl _))
    have D4 := Lib.hid (hB _ _ _ (Nat.le_refl _) D3.out)
    clear g4 k4 hW hB x0 x1 x2 x3 x4 y0 y1 y2 y3 y4
    obtain ⟨x0, x1, x2, x3, x4⟩ := B0.out.nw M4.out
    obtain ⟨y0, y1, y2, y3, y4⟩ := D4.out
    go_wp2_with fail
    refine (heldRoom_ok ms rows n P _ _ _ _ Hn.out.1 h16 Hn.out.2 hP16 _ G4.out K4.out).mono ?_
    rintro e w5 ⟨rfl, n5⟩
    rw [← HT.out]
    have D5 := Lib.hid (D4.out.nw n5)
    have G5 := Lib.hid (own_nw G4.out n5)
    have K5 := Lib.hid (K4.out.nw n5)
    have N5 := Lib.hid (N4.out.trans n5)
    have M5 := Lib.hid (M4.out.trans n5)
    clear n5 x0 x1 x2 x3 x4 y0 y1 y2 y3 y4
    go_wp2_with fail
    refine (C2.out _ (L.out.nw N5.out)).mono ?_
    rintro e w6 ⟨h0', h1', rfl, own6, rws6, n6⟩
    obtain ⟨ha, hc, rfl⟩ := own_shape' own6
    obtain ⟨ja, jc, rfl⟩ := rws6.g.shape
    rw [Hn.out.2] at rws6 ⊢
    have A6 := Lib.hid (show Nw w6 (w6.alloc (.cells #[.slice ha n hc, .slice ja P jc] 43 (0, 0))) from (Nw.refl w6).alloc _)
    have D6 := Lib.hid ((D5.out.nw n6).nw A6.out)
    have E6 := Lib.hid (Has2.new w6 43 (.slice ha n hc) (.slice ja P jc))
    have G6 := Lib.hid (own_nw (own_nw G5.out n6) A6.out)
    have K6 := Lib.hid ((K5.out.nw n6).nw A6.out)
    have H6 := Lib.hid (own_nw own6 A6.out)
    have J6 := Lib.hid (rws6.g.nw A6.out)
    have N6 := Lib.hid ((N5.out.trans n6).trans A6.out)
    have M6 := Lib.hid ((M5.out.trans n6).trans A6.out)
    clear own6 rws6 n6
    obtain ⟨x0, x1, x2, x3, x4⟩ := B0.out.nw M6.out
    obtain ⟨z0, z1, z2, z3, z4⟩ := E6.out
    go_wp2_with fail
    refine (eqRoom_ok ms Hf.out.1 rows n P _ _ (.slice ha n hc) (.slice ja P jc) (.slice va n vc) (.slice ua P uc) Hn.out.1 (by omega) Hn.out.2 (by omega) (fun r hr => by rw [Hf.out.2 r hr]; omega) _ H6.out J6.out (own_nw O1.out M6.out) (U1.out.nw M6.out)).mono ?_
    rintro e w7 ⟨rfl, n7⟩
    have G7 := Lib.hid (own_nw G6.out n7)
    have K7 := Lib.hid (K6.out.nw n7)
    have N7 := Lib.hid (N6.out.trans n7)
    have D7 := Lib.hid (D6.out.nw n7)
    clear n7 x0 x1 x2 x3 x4 z0 z1 z2 z3 z4
    obtain ⟨y0, y1, y2, y3, y4⟩ := D7.out
    go_wp2_with fail
    refine (heldRoom_ok ms rows n P _ _ _ _ Hn.out.1 h16 Hn.out.2 hP16 _ G7.out K7.out).mono ?_
    rintro e w8 ⟨rfl, n8⟩
    rw [← HT.out]
    have N8 := Lib.hid (N7.out.trans n8)
    clear n8
    go_wp2_with fail
    go_ret
    exact ⟨rfl, N8.out⟩
  · have hs' : 1048576 < s.size := by omega
    clear hs hL
    go_enter Tryz.func6, Tryz.ntmps6
    go_wp2_with fail
    all_goals
      go_ret
      exact ⟨rfl, Nw.refl _⟩
end Go.Proofs.YtnmjkjjmigiabaaGreatDoor
