/- The walks of EqualSingle and mergeMode over modes with finite parts.
   Conditions: those that each statement names. -/
import Derived.Test.YtfgofmcpgfofaaaTuneB
namespace Go.Proofs.Ytfgofmcpgfofaaa
open Go Go.RowKit

def eqB (a b : Nat) : Bool := FloatKind.f32.format.order a b == some .eq

theorem equalSingle_any (a b c d : Nat) (w : World) :
    Calls Try.prog 39 #[.complex .f32 a b, .complex .f32 c d] w fun e w' => e = .returned (.bool (eqB a c && eqB b d)) ∧ w = w' := by
  go_enter Try.func39, Try.ntmps39
  go_wp2
  go_ret
  exact ⟨rfl, rfl⟩

def poleEq (x m : M4) : Bool := eqB x.pr m.pr && eqB x.pi m.pi
def addG (x m : M4) : M4 := ⟨x.pr, x.pi, opB .add .f32 x.gr m.gr, opB .add .f32 x.gi m.gi⟩
/-- one mode more: added to the first one with an equal pole, or put at the end -/
def put1 : List M4 → M4 → List M4
  | [], m => [m]
  | x :: l, m => if poleEq x m then addG x m :: l else x :: put1 l m
theorem put1_none (l : List M4) (m : M4) (h : ∀ j : Nat, j < l.length → ∀ x, l[j]? = some x → poleEq x m = false) : put1 l m = l ++ [m] := by
  induction l with
  | nil => rfl
  | cons x l ih =>
    have h0 := h 0 (by simp) x rfl
    simp only [put1, h0, Bool.false_eq_true, if_false, List.cons_append]
    rw [ih (fun j hj y hy => h (j + 1) (by simp; omega) y (by simpa using hy))]
theorem put1_hit (l : List M4) (m : M4) (k : Nat) (x : M4) (hk : l[k]? = some x) (hx : poleEq x m = true) (h : ∀ j : Nat, j < k → ∀ x, l[j]? = some x → poleEq x m = false) : put1 l m = l.set k (addG x m) := by
  induction l generalizing k with
  | nil => simp at hk
  | cons y l ih =>
    cases k with
    | zero =>
      simp at hk
      subst hk
      simp [put1, hx]
    | succ k =>
      have h0 := h 0 (by omega) y rfl
      simp only [put1, h0, Bool.false_eq_true, if_false, List.set_cons_succ]
      rw [ih k (by simpa using hk) (fun j hj z hz => h (j + 1) (by omega) z (by simpa using hz))]
theorem put1_len (l : List M4) (m : M4) : (put1 l m).length = l.length ∨ (put1 l m).length = l.length + 1 := by
  induction l with
  | nil => right; rfl
  | cons x l ih =>
    unfold put1
    split
    · left; simp
    · rcases ih with h | h <;> simp [h]

theorem cellsM_setG (l : List M4) (k : Nat) (m m' : M4) (h : l[k]? = some m) (hg : m'.pr = m.pr ∧ m'.pi = m.pi) :
    (cellsM l).set (k * 2 + 1) (.complex .f32 m'.gr m'.gi) = cellsM (l.set k m') := by
  induction l generalizing k with
  | nil => simp at h
  | cons x l ih =>
    cases k with
    | zero =>
      simp at h
      subst h
      simp [cellsM, M4.cells, hg.1, hg.2]
    | succ k =>
      have hk := ih k (by simpa using h)
      simp only [cellsM, List.flatMap_cons, List.set_cons_succ] at *
      rw [show (k + 1) * 2 + 1 = k * 2 + 1 + 2 from by omega]
      simp only [M4.cells, List.cons_append, List.nil_append, List.set_cons_succ]
      rw [hk]

def MergeP (base : Nat) (v : Value) (out : List M4) (w : World) (e : Ending) (w' : World) : Prop :=
  ∃ v', e = .returned v' ∧ w'.ownsRow base 38 2 v' out.length (cellsM out) ∧ w.grownBy w' v.ownBlock
def MergeI (out : List M4) (m : M4) (n base : Nat) (v : Value) (b : Nat) (w : World) (i : Value) (wr : World) : Prop :=
  ∃ k : Nat, k ≤ n ∧ i = .int .i64 (k : Int) ∧ (∀ j : Nat, j < k → ∀ x, out[j]? = some x → poleEq x m = false) ∧ wr.ownsRow base 38 2 v n (cellsM out) ∧ HasMode wr b m.pr m.pi m.gr m.gi ∧ w.grownBy wr v.ownBlock

set_option maxRecDepth 100000 in
theorem mergeMode_ok (out : List M4) (m : M4) (n base : Nat) (v : Value) (hn : out.length = n) (hn64 : n ≤ 64) (w : World) (hb : base ≤ w.heap.size)
    (hc : ∀ x ∈ out, Calm .add .f32 x.gr m.gr ∧ Calm .add .f32 x.gi m.gi) (hm : w.ownsRow base 38 2 v n (cellsM out)) :
    Calls Try.prog 86 #[v, .agg #[.complex .f32 m.pr m.pi, .complex .f32 m.gr m.gi]] w (MergeP base v (put1 out m) w) := by
  obtain ⟨va, vc, rfl⟩ := own_shape' hm
  have Hm := Lib.hid hm
  have Hn := Lib.hid hn
  have Hc := Lib.hid hc
  have H0 := Lib.hid (hm.alloc (.cells #[.complex .f32 m.pr m.pi, .complex .f32 m.gr m.gi] 38 (0, 0)))
  have M0 := Lib.hid (HasMode.new w 38 m.pr m.pi m.gr m.gi)
  have G0 := Lib.hid (World.grownBy_alloc w (.cells #[.complex .f32 m.pr m.pi, .complex .f32 m.gr m.gi] 38 (0, 0)) (Value.slice va n vc).ownBlock)
  have Hlt := Lib.hid (fun q hq => (hm.lt q hq).2)
  clear hm hn hc
  go_enter Try.func86, Try.ntmps86
  go_wp2_with fail
  go_loopw [8] (fun i wr => MergeI out m n base (.slice va n vc) w.heap.size w i wr) (fun i _ => n - (intOf i).toNat)
  case atStart => exact ⟨0, by omega, rfl, fun j hj => absurd hj (by omega), H0.out, M0.out, G0.out⟩
  case round =>
    obtain ⟨k, hk, rfl, hno, hrow, hmo, hgr⟩ := hrel
    have Hno := Lib.hid hno
    have Hro := Lib.hid hrow
    have Hmo := Lib.hid hmo
    have Hgr := Lib.hid hgr
    clear hno hrow hmo hgr
    by_cases hlt : k < n
    · obtain ⟨x, hxk⟩ : ∃ x, out[k]? = some x := ⟨out[k]'(by rw [Hn.out]; exact hlt), List.getElem?_eq_getElem _⟩
      obtain ⟨g, cap, hv, hcap, hmax, hgs, e1, e2⟩ := own_mode Hro.out hxk Hn.out.symm
      cases hv
      have Hxk := Lib.hid hxk
      obtain ⟨l0, l1, l2, l3, l4⟩ := Hmo.out
      unfold maxLen at hmax
      clear hxk
      cases hb : poleEq x m with
      | false =>
        have hb0 := hb
        unfold poleEq eqB at hb0
        go_wp2_with fail
        go_quiet (fail)
        have R1 := Lib.hid (own_nw Hro.out ((Nw.refl wr).draw nq))
        have R2 := Lib.hid (Hmo.out.draw nq)
        have R3 := Lib.hid (Hgr.out.trans' ⟨rfl, rfl, rfl, Nat.le_refl _, fun _ _ _ => rfl⟩ : w.grownBy (wr.drewN nq) _)
        clear l0 l1 l2 l3 l4 e1 e2
        go_wp2_with fail
        go_roundw
        case rel =>
          refine ⟨k + 1, by omega, by rw [show ((k + 1 : Nat) : Int) = (k : Int) + 1 from by omega], fun j hj y hy => ?_, R1.out, R2.out, R3.out⟩
          by_cases hjk : j < k
          · exact Hno.out j hjk y hy
          · obtain rfl : j = k := by omega
            rw [Hxk.out] at hy
            cases hy
            exact hb
        case measure => simp only [intOf]; omega
      | true =>
        have hb0 := hb
        unfold poleEq eqB at hb0
        go_wp2_with fail
        go_quiet (fail)
        have R1 := Lib.hid (own_nw Hro.out ((Nw.refl wr).draw nq))
        have R2 := Lib.hid (Hmo.out.draw nq)
        have R3 := Lib.hid (Hgr.out.trans' ⟨rfl, rfl, rfl, Nat.le_refl _, fun _ _ _ => rfl⟩ : w.grownBy (wr.drewN nq) _)
        clear l0 l1 l2 l3 l4 e1 e2
        generalize wr.drewN nq = w2 at *
        obtain ⟨g', cap', hv', hcap', hmax', hgs', e1, e2⟩ := own_mode R1.out Hxk.out Hn.out.symm
        cases hv'
        obtain ⟨l0, l1, l2, l3, l4⟩ := R2.out
        have hcc := Hc.out x (List.mem_of_getElem? Hxk.out)
        have hrun : ∀ w, (binOp .add 36 (.complex .f32 x.gr x.gi) (.complex .f32 m.gr m.gi)).run Try.prog w = .ok (.complex .f32 (opB .add .f32 x.gr m.gr) (opB .add .f32 x.gi m.gi)) w := fun w => by
          rw [run_cx_add, hcc.1.res, hcc.2.res, hcc.1.fdr, hcc.2.fdr]; rfl
        clear hcc
        go_wp2_with fail
        refine wp_region_still_tail 8 (by kernel_rfl) (by kernel_rfl) ?_
        simp only [List.take_succ_cons, List.take_zero, List.drop_succ_cons, List.drop_zero]
        repeat still_step
        refine wpStill_nil ?_
        change wpList _ _ _ _ _ (w2.drewN 1)
        have G1 := Lib.hid (own_nw R1.out ((Nw.refl w2).draw 1))
        have G3 := Lib.hid (R3.out.trans' ⟨rfl, rfl, rfl, Nat.le_refl _, fun _ _ _ => rfl⟩ : w.grownBy (w2.drewN 1) _)
        clear e1 e2 l0 l1 l2 l3 l4
        generalize w2.drewN 1 = w5 at *
        have e3 := G1.out.cellAt (k * 2 + 1) (by omega)
        have hc2 := (cellsM_at out k x Hxk.out).2
        rw [Nat.mul_comm] at hc2
        rw [hc2] at e3
        have e4 := G1.out.frozenAt (k * 2 + 1)
        have hset := G1.out.stored (k * 2 + 1) (.complex .f32 (addG x m).gr (addG x m).gi)
        rw [cellsM_setG out k x (addG x m) Hxk.out ⟨rfl, rfl⟩, ← put1_hit out m k x Hxk.out hb Hno.out] at hset
        have Hset := Lib.hid hset
        clear hset hc2
        go_wp2_with fail
        go_ret
        exact ⟨_, rfl, by rw [show (put1 out m).length = n from by rw [put1_hit out m k x Hxk.out hb Hno.out, List.length_set, Hn.out]]; exact Hset.out.1, G3.out.trans' Hset.out.2⟩
    · obtain rfl : k = n := by omega
      obtain ⟨l0, l1, l2, l3, l4⟩ := Hmo.out
      obtain ⟨i0, hi, hz0, hz1, hz2⟩ := info_parts info_mode
      go_wp2_with (at_builtin; refine wpList_append_own _ rfl _ _ 43 rfl base 38 i0 (.agg #[.complex .f32 0 0, .complex .f32 0 0]) 2 16 Try.underlying43 hi hz0 hz1 hz2 rfl (by decide) _ _ _ rfl (Hro.out.alloc _) ⟨wr.heap.size, 0, none⟩ 1 1 [.complex .f32 m.pr m.pi, .complex .f32 m.gr m.gi] rfl rfl ?c1 ?c2 ?c3 ?c4 ?c5 ?_)
      case c1 =>
        intro j u hj
        match j, hj with
        | 0, hj => simp at hj; subst hj; simp [Addr.add]
        | 1, hj => simp at hj; subst hj; simp [Addr.add]
      case c2 => intro u hu; simp at hu; rcases hu with rfl | rfl <;> rfl
      case c3 => unfold maxLen; omega
      case c4 => omega
      case c5 => have := Hgr.out.size; simp; omega
      · intro v' w4 hown4 hgrow _
        have Hown := Lib.hid hown4
        have Hgrow := Lib.hid hgrow
        clear hown4 hgrow
        have hput := put1_none out m (by rw [Hn.out]; exact Hno.out)
        have Hput := Lib.hid hput
        clear hput
        go_wp2_with fail
        go_ret
        refine ⟨v', rfl, ?_, ?_⟩
        · rw [Hput.out]
          have h := Hown.out
          simpa [cellsM, M4.cells, Hn.out] using h
        · exact (Hgr.out.trans' (World.grownBy_alloc wr _ _)).trans' Hgrow.out
end Go.Proofs.Ytfgofmcpgfofaaa
