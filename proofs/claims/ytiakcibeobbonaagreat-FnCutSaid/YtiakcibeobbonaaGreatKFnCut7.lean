/- Texts of a proof, put together: Noise, FirstS, PlayP, StrB, StrC, ScoM, PlayR, StrD, StrE, OpA, OpB, OpC.
   Conditions: those that each statement names. -/
import Derived.Test.YtiakcibeobbonaaGreatKFnCut6
import Derived.Deep.QuietTactic
import Derived.Lib.SliceRun
import Derived.Deep.RegionLawGrows
/- A region that draws its order and holds conversions whose bits are not fixed (those of NaN): one walk of the lexical order serves every order, if at each conversion what follows is shown for every value that it may yield.
   Conditions: no conversion stands apart from a call (each call waits for each conversion). No program stands in it. -/
namespace Go.Proofs.YtiakcibeobbonaaGreat
set_option linter.unusedSimpArgs false
set_option linter.unusedVariables false
open Go

namespace Noise
section
variable {P : Program} {ops : Array Oper} {md : Region.Mode} {C : World → Prop}

/-- 0: a conversion; 2: a call of a function; 1: all else -/
def kind (o : Oper) : Nat :=
  match o.op with
  | .convert .. => 0
  | .call c => (match c.callee with | .builtin _ => 1 | _ => 2)
  | _ => 1

@[go_sem] def noisyUpon (C : World → Prop) (S : Value → Prop) : Result Next → Prop
  | .ok (.value u) w' => C w' ∧ S u
  | _ => False
@[go_sem] def plainUpon (w : World) (v : Value) : Result Next → Prop
  | .ok (.value u) w' => w' = w ∧ u = v
  | .ok .skip w' => w' = w ∧ v = undef
  | _ => False

def Yields (P : Program) (ops : Array Oper) (C : World → Prop) (o : Oper) (S : Value → Prop) (a : Act) : Prop :=
  (Region.wanted o (yielded ops a.tmps) = true ∧ kind o = 0 ∧ (∃ v, S v) ∧ ∀ w, C w → noisyUpon C S ((execOp a.eval o).run P w)) ∨
  (Region.wanted o (yielded ops a.tmps) = true ∧ kind o = 1 ∧ ∃ v, (∀ u, S u ↔ u = v) ∧ ∀ w, C w → plainUpon w v ((execOp a.eval o).run P w)) ∨
  (Region.wanted o (yielded ops a.tmps) = true ∧ kind o = 2 ∧ ∃ v, (∀ u, S u ↔ u = v) ∧ ∀ w, C w → o.quietAt P a C w v) ∨
  (Region.wanted o (yielded ops a.tmps) = false ∧ ∀ u, S u ↔ u = undef)

theorem Yields.some {o : Oper} {S : Value → Prop} {a : Act} (h : Yields P ops C o S a) : ∃ v, S v := by
  rcases h with ⟨-, -, h, -⟩ | ⟨-, -, v, h, -⟩ | ⟨-, -, v, h, -⟩ | ⟨-, h⟩
  · exact h
  · exact ⟨v, (h v).2 rfl⟩
  · exact ⟨v, (h v).2 rfl⟩
  · exact ⟨undef, (h _).2 rfl⟩
theorem Yields.of_same {o : Oper} {S : Value → Prop} {a a' : Act} (hy : Yields P ops C o S a) (he : execOp a'.eval o = execOp a.eval o)
    (hw : Region.wanted o (yielded ops a'.tmps) = Region.wanted o (yielded ops a.tmps)) : Yields P ops C o S a' := by
  unfold Yields Oper.quietAt at *
  rw [he, hw]
  exact hy

/-- THE LEXICAL WALK -/
def wpNoise (P : Program) (ops : Array Oper) (C : World → Prop) (Q : Act → Prop) : List Oper → Act → Prop
  | [], a => Q a
  | o :: rest, a => ∃ S, Yields P ops C o S a ∧ ∀ v, S v → wpNoise P ops C Q rest (a.put o.dst v)

def nOp (P : Program) (ops : Array Oper) (C : World → Prop) (i : Nat) (K : Act → Prop) (a : Act) : Prop :=
  match ops[i]? with
  | none => K a
  | some o => ∃ S, Yields P ops C o S a ∧ ∀ v, S v → K (a.put o.dst v)

theorem nOp_mono {i : Nat} {a : Act} {K K' : Act → Prop} (h : ∀ a, K a → K' a) (hh : nOp P ops C i K a) : nOp P ops C i K' a := by
  unfold nOp at *
  split
  · exact h _ (by simpa [*] using hh)
  · rename_i o ho
    simp only [ho] at hh
    obtain ⟨S, h1, h2⟩ := hh
    exact ⟨S, h1, fun v hv => h _ (h2 v hv)⟩

/-- Whatever order is picked from here on. -/
def wpAnyN (P : Program) (md : Region.Mode) (ops : Array Oper) (C : World → Prop) (Q : Act → Prop) : Nat → Array Bool → Act → Prop
  | 0, listed, a => Region.ready md ops listed = [] ∧ Q a
  | fuel + 1, listed, a =>
    (Region.ready md ops listed = [] → Q a) ∧
    ∀ i ∈ Region.ready md ops listed, nOp P ops C i (wpAnyN P md ops C Q fuel (listed.setIfInBounds i true)) a

theorem wp_of {o : Oper} {a : Act} {S : Value → Prop} {K' : Act → World → Prop} {Q' : Exit → Act → World → Prop} {w : World} (hwt : Region.wanted o (yielded ops a.tmps) = true) (hw : C w)
    (h : ∀ v w', C w' → S v → K' (a.put o.dst v) w') (hy : Yields P ops C o S a) : o.wp P a w K' Q' := by
  rcases hy with ⟨-, -, -, h1⟩ | ⟨-, -, v, hv, h1⟩ | ⟨-, -, v, hv, h1⟩ | ⟨h0, -⟩
  · have h3 := h1 w hw
    unfold Oper.wp
    generalize (execOp a.eval o).run P w = r at *
    cases r with
    | ok n w' =>
      cases n <;> simp only [noisyUpon] at h3 <;> simp only [Oper.upon]
      exact h _ _ h3.1 h3.2
    | halt x w' => simp only [noisyUpon] at h3
  · have h3 := h1 w hw
    unfold Oper.wp
    generalize (execOp a.eval o).run P w = r at *
    cases r with
    | ok n w' =>
      cases n <;> simp only [plainUpon] at h3 <;> simp only [Oper.upon]
      case value u =>
        obtain ⟨e1, e2⟩ := h3
        rw [e1, e2]
        exact h _ _ hw ((hv v).2 rfl)
      case skip =>
        obtain ⟨e1, e2⟩ := h3
        rw [e1, ← e2]
        exact h _ _ hw ((hv v).2 rfl)
    | halt x w' => simp only [plainUpon] at h3
  · have h3 := h1 w hw
    unfold Oper.quietAt at h3
    unfold Oper.wp
    generalize (execOp a.eval o).run P w = r at *
    cases r with
    | ok n w' =>
      cases n <;> simp only [Oper.quietUpon] at h3 <;> simp only [Oper.upon]
      case value u =>
        obtain ⟨e1, e2⟩ := h3
        rw [e1, e2]
        exact h _ _ hw ((hv v).2 rfl)
      case skip =>
        obtain ⟨e1, e2⟩ := h3
        rw [e1, ← e2]
        exact h _ _ hw ((hv v).2 rfl)
      case enter f args =>
        obtain ⟨e1, hc⟩ := h3
        rw [e1]
        exact hc.mono fun e w'' ⟨he, hw''⟩ => by subst he; exact h _ _ hw'' ((hv v).2 rfl)
    | halt x w' => simp only [Oper.quietUpon] at h3
  · rw [h0] at hwt; cases hwt

theorem wpOp_of_nOp {i : Nat} {a : Act} {K : Act → Prop} {K' : Act → World → Prop} {Q' : Exit → Act → World → Prop} {w : World} (hC : C w) (h : ∀ a w', C w' → K a → K' a w') (hh : nOp P ops C i K a) : wpOp P ops Q' i K' a w := by
  unfold nOp at hh
  unfold wpOp
  split
  · rename_i ho; simp only [ho] at hh; exact h _ _ hC hh
  · rename_i o ho
    simp only [ho] at hh
    obtain ⟨S, hy, hk⟩ := hh
    split
    · rename_i hw; exact .inl (wp_of hw hC (fun v w' hw' hv => h _ _ hw' (hk v hv)) hy)
    · rename_i hw
      rcases hy with ⟨h0, -⟩ | ⟨h0, -⟩ | ⟨h0, -⟩ | ⟨-, h0⟩
      · exact absurd h0 hw
      · exact absurd h0 hw
      · exact absurd h0 hw
      · exact h _ _ hC (hk _ ((h0 _).2 rfl))

theorem wpAny_of_noise {Q : Act → Prop} {Q' : Exit → Act → World → Prop} (hQ : ∀ a w, C w → Q a → Q' .normal a w) : ∀ (fuel : Nat) (listed : Array Bool) (a : Act) (w : World), C w →
    wpAnyN P md ops C Q fuel listed a → wpAny P md ops Q' fuel listed a w
  | 0, _, _, _, hw, h => ⟨h.1, hQ _ _ hw h.2⟩
  | fuel + 1, _, _, _, hw, h => ⟨fun h0 => hQ _ _ hw (h.1 h0), fun i hi => wpOp_of_nOp hw (fun a' w' hw' => wpAny_of_noise hQ fuel _ a' w' hw') (h.2 i hi)⟩

/-- one operation 'oj', apart from 'oi': the two may change places -/
theorem nOp_put {j : Nat} {oi oj : Oper} {S : Value → Prop} (hj : ops[j]? = some oj) (hap : oi.apart ops oj = true)
    (hsi : ∀ cs b, oi.op ≠ .select cs b) (hsj : ∀ cs b, oj.op ≠ .select cs b) (h0 : ∃ w, C w) (hcall : kind oi = 0 → kind oj ≠ 2) {K : Act → Prop} {a : Act}
    (hy : Yields P ops C oi S a) (h : ∀ v, S v → nOp P ops C j K (a.put oi.dst v)) :
    nOp P ops C j (fun a' => Yields P ops C oi S a' ∧ ∀ v, S v → K (a'.put oi.dst v)) a := by
  obtain ⟨h1, h2, h3⟩ := Oper.apart_spec hap
  have keep : ∀ (a : Act), Yields P ops C oi S a → ∀ u, Yields P ops C oi S (a.put oj.dst u) := fun a hy u =>
    hy.of_same (execOp_put oi hsi a oj.dst u h3) (wanted_put oi a oj.dst u h3)
  have back : ∀ v T, Yields P ops C oj T (a.put oi.dst v) → Yields P ops C oj T a := fun v T hT =>
    hT.of_same (execOp_put oj hsj a oi.dst v h1).symm (wanted_put oj a oi.dst v h1).symm
  unfold nOp at *
  simp only [hj] at *
  have h' : ∀ v, S v → ∃ T, Yields P ops C oj T a ∧ ∀ u, T u → K ((a.put oj.dst u).put oi.dst v) := by
    intro v hv
    obtain ⟨T, hT, hK⟩ := h v hv
    exact ⟨T, back v T hT, fun u hu => by rw [← Act.put_comm a v u h2]; exact hK u hu⟩
  obtain ⟨v0, hv0⟩ := hy.some
  obtain ⟨T0, hT0, hK0⟩ := h' v0 hv0
  have one : (∀ v, S v → v = v0) → ∃ T, Yields P ops C oj T a ∧ ∀ u, T u → Yields P ops C oi S (a.put oj.dst u) ∧ ∀ v, S v → K ((a.put oj.dst u).put oi.dst v) :=
    fun hone => ⟨T0, hT0, fun u hu => ⟨keep a hy u, fun v hv => by rw [hone v hv]; exact hK0 u hu⟩⟩
  rcases id hy with ⟨-, k0, -, -⟩ | ⟨-, -, x, hx, -⟩ | ⟨-, -, x, hx, -⟩ | ⟨-, hx⟩
  · obtain ⟨w0, hw0⟩ := h0
    rcases id hT0 with ⟨g0, g1, g2, g3⟩ | ⟨g0, g1, x, g2, g3⟩ | ⟨g0, g1, -⟩ | ⟨g0, g2⟩
    · refine ⟨fun u => ∃ w, C w ∧ ∃ w', (execOp a.eval oj).run P w = .ok (.value u) w', .inl ⟨g0, g1, ?_, fun w hw => ?_⟩, fun u hu => ⟨keep a hy u, fun v hv => ?_⟩⟩
      · have := g3 w0 hw0
        generalize hr : (execOp a.eval oj).run P w0 = r at this
        cases r with
        | ok n w' =>
          cases n <;> simp only [noisyUpon] at this
          exact ⟨_, w0, hw0, _, hr⟩
        | halt x w' => simp only [noisyUpon] at this
      · have := g3 w hw
        generalize hr : (execOp a.eval oj).run P w = r at this
        cases r with
        | ok n w' =>
          cases n <;> simp only [noisyUpon] at this ⊢
          exact ⟨this.1, w, hw, _, hr⟩
        | halt x w' => simp only [noisyUpon] at this
      · obtain ⟨w, hw, w', hr⟩ := hu
        obtain ⟨T, hT, hK⟩ := h' v hv
        refine hK u ?_
        rcases hT with ⟨-, -, -, t3⟩ | ⟨-, t1, -⟩ | ⟨-, t1, -⟩ | ⟨t0, -⟩
        · have := t3 w hw
          rw [hr] at this
          exact this.2
        · rw [g1] at t1; cases t1
        · rw [g1] at t1; cases t1
        · rw [g0] at t0; cases t0
    · refine ⟨T0, hT0, fun u hu => ⟨keep a hy u, fun v hv => ?_⟩⟩
      obtain ⟨T, hT, hK⟩ := h' v hv
      refine hK u ?_
      rcases hT with ⟨-, t1, -⟩ | ⟨-, t1, y, t2, t3⟩ | ⟨-, t1, -⟩ | ⟨t0, -⟩
      · rw [g1] at t1; cases t1
      · have e : x = y := by
          have a1 := g3 w0 hw0
          have a2 := t3 w0 hw0
          generalize (execOp a.eval oj).run P w0 = r at a1 a2
          cases r with
          | ok n w' =>
            cases n <;> simp only [plainUpon] at a1 a2
            · exact a1.2.symm.trans a2.2
            · exact a1.2.trans a2.2.symm
          | halt x w' => simp only [plainUpon] at a1
        exact (t2 u).2 (((g2 u).1 hu).trans e)
      · rw [g1] at t1; cases t1
      · rw [g0] at t0; cases t0
    · exact absurd g1 (hcall k0)
    · refine ⟨T0, hT0, fun u hu => ⟨keep a hy u, fun v hv => ?_⟩⟩
      obtain ⟨T, hT, hK⟩ := h' v hv
      refine hK u ?_
      rcases hT with ⟨t0, -⟩ | ⟨t0, -⟩ | ⟨t0, -⟩ | ⟨-, t2⟩
      · rw [g0] at t0; cases t0
      · rw [g0] at t0; cases t0
      · rw [g0] at t0; cases t0
      · exact (t2 u).2 ((g2 u).1 hu)
  · exact one fun v hv => by rw [(hx v).1 hv, (hx v0).1 hv0]
  · exact one fun v hv => by rw [(hx v).1 hv, (hx v0).1 hv0]
  · exact one fun v hv => by rw [(hx v).1 hv, (hx v0).1 hv0]

/-- each call waits for each conversion -/
def callsWait (md : Region.Mode) (ops : Array Oper) : Bool :=
  (List.range ops.size).all fun i => (List.range ops.size).all fun j =>
    match ops[i]?, ops[j]? with
    | some oi, some oj => !(kind oi == 0 && kind oj == 2) || oj.after.toList.any fun e => Region.binds md e && e.on == i
    | _, _ => true
theorem callsWait_spec (h : callsWait md ops = true) {i j : Nat} {oi oj : Oper} (hi : ops[i]? = some oi) (hj : ops[j]? = some oj) (k0 : kind oi = 0) (k2 : kind oj = 2) : ∃ e ∈ oj.after, Region.binds md e = true ∧ e.on = i := by
  unfold callsWait at h
  have li : i < ops.size := by
    rcases Nat.lt_or_ge i ops.size with h' | h'
    · exact h'
    · rw [Array.getElem?_eq_none h'] at hi; cases hi
  have lj : j < ops.size := by
    rcases Nat.lt_or_ge j ops.size with h' | h'
    · exact h'
    · rw [Array.getElem?_eq_none h'] at hj; cases hj
  have h1 := List.all_eq_true.1 (List.all_eq_true.1 h i (List.mem_range.2 li)) j (List.mem_range.2 lj)
  simp only [hi, hj, k0, k2] at h1
  have h2 : (oj.after.toList.any fun e => Region.binds md e && e.on == i) = true := by simpa using h1
  obtain ⟨e, he, hp⟩ := List.any_eq_true.1 h2
  simp only [Bool.and_eq_true, beq_iff_eq] at hp
  exact ⟨e, Array.mem_toList_iff.1 he, hp.1, hp.2⟩

theorem wpAnyN_first {Q : Act → Prop} {i : Nat} {oi : Oper} {S : Value → Prop} (hi : ops[i]? = some oi) (hsel : ∀ (j : Nat) (o : Oper) cs b, ops[j]? = some o → o.op ≠ .select cs b) (h0 : ∃ w, C w) (hwait : callsWait md ops = true) :
    ∀ (fuel : Nat) (listed : Array Bool) (a : Act),
      (∀ j oj, ops[j]? = some oj → j ≠ i → listed.getD j true = false → (∀ e ∈ oj.after, Region.binds md e = true → e.on ≠ i) → oi.apart ops oj = true) →
      i ∈ Region.ready md ops listed → Yields P ops C oi S a →
      (∀ v, S v → wpAnyN P md ops C Q fuel (listed.setIfInBounds i true) (a.put oi.dst v)) → wpAnyN P md ops C Q (fuel + 1) listed a := by
  intro fuel
  induction fuel with
  | zero =>
    intro listed a _ hr hy H
    refine ⟨fun h => (by rw [h] at hr; cases hr), fun j hj => ?_⟩
    by_cases hji : j = i
    · subst hji
      unfold nOp
      simp only [hi]
      exact ⟨S, hy, H⟩
    · obtain ⟨v, hv⟩ := hy.some
      have := ready_mono hj hji
      rw [(H v hv).1] at this
      cases this
  | succ fuel ih =>
    intro listed a hfree hr hy H
    refine ⟨fun h => (by rw [h] at hr; cases hr), fun j hj => ?_⟩
    by_cases hji : j = i
    · subst hji
      unfold nOp
      simp only [hi]
      exact ⟨S, hy, H⟩
    · have h1 : ∀ v, S v → _ := fun v hv => (H v hv).2 j (ready_mono hj hji)
      obtain ⟨hjun, oj, hoj, hall⟩ := mem_ready.1 hj
      have hnot : ∀ e ∈ oj.after, Region.binds md e = true → e.on ≠ i := fun e he hb heq => by
        have h1 := hall e he hb
        have h0 := (mem_ready.1 hr).1
        rw [heq] at h1
        rcases Nat.lt_or_ge i listed.size with h' | h'
        · simp [h'] at h0 h1; rw [h0] at h1; cases h1
        · simp [Array.getElem?_eq_none h'] at h1
      have hcall : kind oi = 0 → kind oj ≠ 2 := fun k0 k2 => by
        obtain ⟨e, he, hb, ho⟩ := callsWait_spec hwait hi hoj k0 k2
        exact hnot e he hb ho
      have h2 := nOp_put hoj (hfree j oj hoj hji hjun hnot) (fun cs b => hsel i oi cs b hi) (fun cs b => hsel j oj cs b hoj) h0 hcall hy h1
      have hfree' : ∀ k ok, ops[k]? = some ok → k ≠ i → (listed.setIfInBounds j true).getD k true = false →
          (∀ e ∈ ok.after, Region.binds md e = true → e.on ≠ i) → oi.apart ops ok = true := fun k ok hk hki hun hno => by
        refine hfree k ok hk hki ?_ hno
        by_cases hjk : j = k
        · subst hjk; exact hjun
        · rw [getD_set_ne true hjk] at hun; exact hun
      refine nOp_mono (fun a' h3 => ih (listed.setIfInBounds j true) a' hfree' (ready_mono hr (Ne.symm hji)) h3.1 (fun v hv => ?_)) h2
      rw [Array.setIfInBounds_comm _ _ hji]
      exact h3.2 v hv

theorem wpAnyN_lex {Q : Act → Prop} (hs : Region.noSelect ops = true) (h0 : ∃ w, C w) (hwait : callsWait md ops = true) : ∀ (l : List Oper) (k : Nat) (listed : Array Bool) (a : Act), (∀ j, l[j]? = ops[k + j]?) →
    Region.lexFrom md ops l.length k listed = true → wpNoise P ops C Q l a → wpAnyN P md ops C Q l.length listed a
  | [], _, _, _, _, hB, h => ⟨by simpa [Region.lexFrom] using hB, h⟩
  | o :: l, k, listed, a, hl, hB, h => by
    have hk : ops[k]? = some o := by simpa using (hl 0).symm
    simp only [List.length_cons, Region.lexFrom, Bool.and_eq_true] at hB
    obtain ⟨⟨hr, hf⟩, hB'⟩ := hB
    obtain ⟨S, hy, hK⟩ := h
    exact wpAnyN_first hk (Region.noSelect_spec hs) h0 hwait l.length listed a (Region.free_spec hk hf) (by simpa using hr) hy
      (fun v hv => wpAnyN_lex hs h0 hwait l (k + 1) _ _ (fun j => by have := hl (j + 1); simpa [Nat.add_assoc, Nat.add_comm 1 j] using this) hB' (hK v hv))

/-- ONE WALK OF THE LEXICAL ORDER SERVES EVERY ORDER -/
theorem wp_region_noise {id : Nat} {Q : Exit → Act → World → Prop} {a : Act} {w : World} {l : List Oper} (hm : P.follows .mixedOrders = true) (hB : Region.lexB .any l.toArray = true) (hwait : callsWait .any l.toArray = true)
    (h : wpNoise P l.toArray (fun w' => ∃ n, w' = w.drewN n) (fun a' => ∀ w', (∃ n, w' = w.drewN n) → Q .normal a' w') l a) : (Code.region id l.toArray true).wp P Q a w := by
  simp only [Region.lexB, Bool.and_eq_true] at hB
  refine wp_region_any hm (wpAny_of_noise (Q := fun a' => ∀ w', (∃ n, w' = w.drewN n) → Q .normal a' w') (fun _ w' hw' h => h w' hw') _ _ _ _ ⟨1, rfl⟩ ?_)
  have := wpAnyN_lex (C := fun w' => ∃ n, w' = w.drewN n) (md := .any) hB.1 ⟨w.drewN 1, 1, rfl⟩ hwait l 0 (Array.replicate l.toArray.size false) a (by simp) (by simpa using hB.2) h
  simpa using this

/-! ### the steps of the walk -/
theorem noise_nil {Q : Act → Prop} {a : Act} (h : Q a) : wpNoise P ops C Q [] a := h
theorem noise_plain {Q : Act → Prop} {a : Act} {o : Oper} {rest : List Oper} (hw : Region.wanted o (yielded ops a.tmps) = true) (hk : kind o = 1) (v : Value) (hv : ∀ w, C w → (execOp a.eval o).run P w = .ok (.value v) w)
    (h : wpNoise P ops C Q rest (a.put o.dst v)) : wpNoise P ops C Q (o :: rest) a :=
  ⟨fun u => u = v, .inr (.inl ⟨hw, hk, v, fun _ => Iff.rfl, fun w hw => by rw [hv w hw]; exact ⟨rfl, rfl⟩⟩), fun u hu => by rw [hu]; exact h⟩
theorem noise_skip {Q : Act → Prop} {a : Act} {o : Oper} {rest : List Oper} (hw : Region.wanted o (yielded ops a.tmps) = false) (h : wpNoise P ops C Q rest (a.put o.dst undef)) : wpNoise P ops C Q (o :: rest) a :=
  ⟨fun u => u = undef, .inr (.inr (.inr ⟨hw, fun _ => Iff.rfl⟩)), fun u hu => by rw [hu]; exact h⟩
theorem noise_conv {Q : Act → Prop} {a : Act} {o : Oper} {rest : List Oper} (hw : Region.wanted o (yielded ops a.tmps) = true) (hk : kind o = 0) (S : Value → Prop) (hs : ∃ v, S v)
    (hv : ∀ w, C w → ∃ v w', (execOp a.eval o).run P w = .ok (.value v) w' ∧ C w' ∧ S v) (h : ∀ v, S v → wpNoise P ops C Q rest (a.put o.dst v)) : wpNoise P ops C Q (o :: rest) a :=
  ⟨S, .inl ⟨hw, hk, hs, fun w hw => by obtain ⟨v, w', e, c, s⟩ := hv w hw; rw [e]; exact ⟨c, s⟩⟩, h⟩
theorem noise_call {Q : Act → Prop} {a : Act} {o : Oper} {rest : List Oper} (hw : Region.wanted o (yielded ops a.tmps) = true) (hk : kind o = 2) (v : Value) (hv : ∀ w, C w → o.quietAt P a C w v)
    (h : wpNoise P ops C Q rest (a.put o.dst v)) : wpNoise P ops C Q (o :: rest) a :=
  ⟨fun u => u = v, .inr (.inr (.inl ⟨hw, hk, v, fun _ => Iff.rfl, hv⟩)), fun u hu => by rw [hu]; exact h⟩
/-- a step of each kind, what follows behind a variable -/
@[go_sem] def plain (P : Program) (o : Oper) (a : Act) (C : World → Prop) (K : Act → Prop) : Prop := ∃ v, (∀ w, C w → plainUpon w v ((execOp a.eval o).run P w)) ∧ K (a.put o.dst v)
theorem noise_step1 {Q : Act → Prop} {a : Act} {o : Oper} {rest : List Oper} (hk : kind o = 1)
    (h : ∀ K : Act → Prop, (∀ a, wpNoise P ops C Q rest a → K a) → if Region.wanted o (yielded ops a.tmps) then plain P o a C K else K (a.put o.dst undef)) : wpNoise P ops C Q (o :: rest) a := by
  have h1 := h _ (fun _ h => h)
  split at h1
  · rename_i hw
    obtain ⟨v, hv, hK⟩ := h1
    exact ⟨fun u => u = v, .inr (.inl ⟨hw, hk, v, fun _ => Iff.rfl, hv⟩), fun u hu => by rw [hu]; exact hK⟩
  · rename_i hw
    exact noise_skip (by simpa using hw) h1
theorem noise_step2 {Q : Act → Prop} {a : Act} {o : Oper} {rest : List Oper} (hk : kind o = 2)
    (h : ∀ K : Act → Prop, (∀ a, wpNoise P ops C Q rest a → K a) → if Region.wanted o (yielded ops a.tmps) then o.quiet P a C K else K (a.put o.dst undef)) : wpNoise P ops C Q (o :: rest) a := by
  have h1 := h _ (fun _ h => h)
  split at h1
  · rename_i hw
    obtain ⟨v, hv, hK⟩ := h1
    exact noise_call hw hk v hv hK
  · rename_i hw
    exact noise_skip (by simpa using hw) h1
theorem noise_step0 {Q : Act → Prop} {a : Act} {o : Oper} {rest : List Oper} (hk : kind o = 0)
    (h : ∀ K : Act → Prop, (∀ a, wpNoise P ops C Q rest a → K a) → if Region.wanted o (yielded ops a.tmps) then (∃ S : Value → Prop, (∃ v, S v) ∧ (∀ w, C w → noisyUpon C S ((execOp a.eval o).run P w)) ∧ ∀ v, S v → K (a.put o.dst v)) else K (a.put o.dst undef)) : wpNoise P ops C Q (o :: rest) a := by
  have h1 := h _ (fun _ h => h)
  split at h1
  · rename_i hw
    obtain ⟨S, hs, hv, hK⟩ := h1
    exact ⟨S, .inl ⟨hw, hk, hs, hv⟩, hK⟩
  · rename_i hw
    exact noise_skip (by simpa using hw) h1
end
end Noise
end Go.Proofs.YtiakcibeobbonaaGreat

/- The walk of the model's FirstDifference.
   Conditions: those that each statement names. -/
namespace Go.Proofs.YtiakcibeobbonaaGreat
set_option linter.unusedSimpArgs false
set_option linter.unusedVariables false
open Go Go.RowKit

/-- what was widened, whatever the bits of NaN -/
theorem sameX_fab {x y b1 b2 : Nat} (lx : x < 2 ^ 32) (ly : y < 2 ^ 32) (h1 : fab .f64 b1 = wA x) (h2 : fab .f64 b2 = wA y) : sameF b1 b2 = sameX x y := by
  have nn : ∀ {b z : Nat}, fab .f64 b = wA z → nan64 b = nan32 z := by
    intro b z h
    unfold wA at h
    cases hz : nan32 z with
    | true =>
      rw [hz] at h
      cases hb : nan64 b with
      | true => rfl
      | false => rw [fab_some hb] at h; cases h
    | false =>
      rw [hz] at h
      cases hb : nan64 b with
      | false => rfl
      | true => rw [fab_none hb] at h; cases h
  have wd : ∀ {b z : Nat}, fab .f64 b = wA z → nan32 z = false → b = wid z := by
    intro b z h hz
    have hb := nn h
    rw [hz] at hb
    unfold wA at h
    rw [hz, fab_some hb] at h
    simpa using h
  cases hx : nan32 x with
  | true =>
    have e1 := nn h1
    have e2 := nn h2
    rw [hx] at e1
    unfold sameF sameX
    rw [e1, e2, hx]
    cases hy : nan32 y with
    | true => simp
    | false =>
      have : x ≠ y := by intro e; subst e; rw [hx] at hy; cases hy
      simp [this]
  | false =>
    cases hy : nan32 y with
    | true =>
      have e1 := nn h1
      have e2 := nn h2
      rw [hx] at e1
      rw [hy] at e2
      unfold sameF sameX
      rw [e1, e2, hx, hy]
      have : x ≠ y := by intro e; subst e; rw [hx] at hy; cases hy
      simp [this]
    | false => rw [wd h1 hx, wd h2 hy, sameX_wide hx hy lx ly]

set_option maxHeartbeats 4000000 in
set_option maxRecDepth 100000 in
theorem specFirst_ok (xs ys : List Nat) (n m bx cy : Nat) (v u : Value) (hx : xs.length = n) (hy : ys.length = m) (hn : n ≤ 1048576) (hm : m ≤ 1048576) (h32 : ∀ x ∈ xs, x < 2 ^ 32) (k32 : ∀ y ∈ ys, y < 2 ^ 32) (w : World)
    (ox : w.ownsRow bx 23 1 v n (cellsS xs)) (oy : w.ownsRow cy 23 1 u m (cellsS ys)) :
    Calls Tryz.prog 21 #[v, u] w (FdP xs ys w) := by
  obtain ⟨va, vc, rfl⟩ := own_shape' ox
  obtain ⟨ua, uc, rfl⟩ := own_shape' oy
  have Ox := Lib.hid ox
  have Oy := Lib.hid oy
  have Hx := Lib.hid hx
  have Hy := Lib.hid hy
  have Hl := Lib.hid (And.intro h32 k32)
  clear ox oy hx hy h32 k32
  go_enter Tryz.func21, Tryz.ntmps21
  go_wp2_with fail
  go_loopw [5] (fun i wr => FdI xs ys n m w i wr) (fun i _ => n + m - (intOf i).toNat)
  case atStart => exact ⟨0, .inl (by omega), rfl, rfl, Nw.refl _⟩
  case round =>
    obtain ⟨k, hk, rfl, hfd, hN⟩ := hrel
    have Nr := Lib.hid hN
    have Hf := Lib.hid hfd
    clear hN hfd
    by_cases hlt : k < n
    · obtain ⟨x, hxk⟩ : ∃ x, xs[k]? = some x := ⟨xs[k]'(by rw [Hx.out]; exact hlt), List.getElem?_eq_getElem _⟩
      obtain ⟨g1, cap1, hv1, hcap1, hmax1, -, e1⟩ := own_sample (own_nw Ox.out Nr.out) hxk Hx.out.symm
      cases hv1
      by_cases hlt2 : k < m
      · obtain ⟨y, hyk⟩ : ∃ y, ys[k]? = some y := ⟨ys[k]'(by rw [Hy.out]; exact hlt2), List.getElem?_eq_getElem _⟩
        obtain ⟨g2, cap2, hv2, hcap2, hmax2, -, e2⟩ := own_sample (own_nw Oy.out Nr.out) hyk Hy.out.symm
        cases hv2
        unfold maxLen at hmax1 hmax2
        have lx := Hl.out.1 x (List.mem_of_getElem? hxk)
        have ly := Hl.out.2 y (List.mem_of_getElem? hyk)
        have Hk := Lib.hid (And.intro hxk hyk)
        have Lxy := Lib.hid (And.intro lx ly)
        clear hxk hyk lx ly
        have d1 : decide (n ≤ k) = false := by simp; omega
        have d2 : decide (m ≤ k) = false := by simp; omega
        by_cases hnan : nan32 x = false ∧ nan32 y = false
        · obtain ⟨hnx, hny⟩ := hnan
          have a1 := fcv_wide hnx
          have a2 := fcd_wide hnx
          have b1 := fcv_wide hny
          have b2 := fcd_wide hny
          have hw := (sameB_sameF (wid x) (wid y)).trans (sameX_wide hnx hny Lxy.out.1 Lxy.out.2)
          cases hs : sameX x y with
          | true =>
            have Hs := Lib.hid (Hf.out.trans (fdL_same Hk.out.1 Hk.out.2 hs))
            rw [hs] at hw
            go_upto_region 4 with fail
            go_quiet (first | (go_at_call 19; with_reducible exact quiet_eq (l8Same_any _ _ _)))
            all_goals
              go_wp2_with fail
              go_roundw
              case rel => exact ⟨k + 1, .inl (by omega), by rw [show ((k + 1 : Nat) : Int) = (k : Int) + 1 from by omega], Hs.out, Nr.out.draw _⟩
              case measure => simp only [intOf]; omega
          | false =>
            have Hs := Lib.hid (Hf.out.trans (fdL_differ Hk.out.1 Hk.out.2 hs))
            rw [hs] at hw
            go_upto_region 4 with fail
            go_quiet (first | (go_at_call 19; with_reducible exact quiet_eq (l8Same_any _ _ _)))
            all_goals
              go_wp2_with fail
              go_ret
              exact ⟨by rw [Hs.out]; rfl, Nr.out.draw _⟩
        · clear hnan
          cases hs : sameX x y with
          | true =>
            have Hs := Lib.hid (Hf.out.trans (fdL_same Hk.out.1 Hk.out.2 hs))
            have Hs0 := Lib.hid hs
            clear hs
            go_upto_region 4 with fail
            refine Noise.wp_region_noise (by kernel_rfl) (by kernel_rfl) (by kernel_rfl) ?_
            repeat (refine Noise.noise_step1 rfl (fun K hK => ?_); go_simp; refine hK _ ?_; clear hK K)
            refine Noise.noise_step0 rfl (fun K hK => ?_)
            go_simp
            refine ⟨fun v => ∃ b, v = .float .f64 b ∧ fab .f64 b = wA x, ⟨_, fcv wr .f32 x .f64, rfl, fab_wide x wr⟩, fun n => ⟨⟨_, rfl⟩, _, rfl, fab_wide x _⟩, ?_⟩
            rintro _ ⟨b1, rfl, hb1⟩
            refine hK _ ?_
            clear hK K
            repeat (refine Noise.noise_step1 rfl (fun K hK => ?_); go_simp; refine hK _ ?_; clear hK K)
            refine Noise.noise_step0 rfl (fun K hK => ?_)
            go_simp
            refine ⟨fun v => ∃ b, v = .float .f64 b ∧ fab .f64 b = wA y, ⟨_, fcv wr .f32 y .f64, rfl, fab_wide y wr⟩, fun n => ⟨⟨_, rfl⟩, _, rfl, fab_wide y _⟩, ?_⟩
            rintro _ ⟨b2, rfl, hb2⟩
            refine hK _ ?_
            clear hK K
            have hsb := (sameB_sameF b1 b2).trans (sameX_fab Lxy.out.1 Lxy.out.2 hb1 hb2)
            rw [Hs0.out] at hsb
            refine Noise.noise_step2 rfl (fun K hK => ?_)
            go_simp
            apply Exists.intro
            refine ⟨fun _ => ?_, hK _ ?_⟩
            · go_at_call 19; with_reducible exact quiet_eq (l8Same_any _ _ _)
            clear hK K
            repeat (refine Noise.noise_step1 rfl (fun K hK => ?_); go_simp; refine hK _ ?_; clear hK K)
            refine Noise.noise_nil ?_
            intro _ hw'
            obtain ⟨nq, hw''⟩ := hw'
            subst hw''
            go_wp2_with fail
            go_roundw
            case rel => exact ⟨k + 1, .inl (by omega), by rw [show ((k + 1 : Nat) : Int) = (k : Int) + 1 from by omega], Hs.out, Nr.out.draw _⟩
            case measure => simp only [intOf]; omega
          | false =>
            have Hs := Lib.hid (Hf.out.trans (fdL_differ Hk.out.1 Hk.out.2 hs))
            have Hs0 := Lib.hid hs
            clear hs
            go_upto_region 4 with fail
            refine Noise.wp_region_noise (by kernel_rfl) (by kernel_rfl) (by kernel_rfl) ?_
            repeat (refine Noise.noise_step1 rfl (fun K hK => ?_); go_simp; refine hK _ ?_; clear hK K)
            refine Noise.noise_step0 rfl (fun K hK => ?_)
            go_simp
            refine ⟨fun v => ∃ b, v = .float .f64 b ∧ fab .f64 b = wA x, ⟨_, fcv wr .f32 x .f64, rfl, fab_wide x wr⟩, fun n => ⟨⟨_, rfl⟩, _, rfl, fab_wide x _⟩, ?_⟩
            rintro _ ⟨b1, rfl, hb1⟩
            refine hK _ ?_
            clear hK K
            repeat (refine Noise.noise_step1 rfl (fun K hK => ?_); go_simp; refine hK _ ?_; clear hK K)
            refine Noise.noise_step0 rfl (fun K hK => ?_)
            go_simp
            refine ⟨fun v => ∃ b, v = .float .f64 b ∧ fab .f64 b = wA y, ⟨_, fcv wr .f32 y .f64, rfl, fab_wide y wr⟩, fun n => ⟨⟨_, rfl⟩, _, rfl, fab_wide y _⟩, ?_⟩
            rintro _ ⟨b2, rfl, hb2⟩
            refine hK _ ?_
            clear hK K
            have hsb := (sameB_sameF b1 b2).trans (sameX_fab Lxy.out.1 Lxy.out.2 hb1 hb2)
            rw [Hs0.out] at hsb
            refine Noise.noise_step2 rfl (fun K hK => ?_)
            go_simp
            apply Exists.intro
            refine ⟨fun _ => ?_, hK _ ?_⟩
            · go_at_call 19; with_reducible exact quiet_eq (l8Same_any _ _ _)
            clear hK K
            repeat (refine Noise.noise_step1 rfl (fun K hK => ?_); go_simp; refine hK _ ?_; clear hK K)
            refine Noise.noise_nil ?_
            intro _ hw'
            obtain ⟨nq, hw''⟩ := hw'
            subst hw''
            go_wp2_with fail
            go_ret
            exact ⟨by rw [Hs.out]; rfl, Nr.out.draw _⟩
      · have Hs := Lib.hid (Hf.out.trans (fdL_left (by rw [Hx.out]; exact hlt) (by rw [Hy.out]; omega)))
        have d1 : decide (n ≤ k) = false := by simp; omega
        have d2 : decide (m ≤ k) = true := by simp; omega
        clear e1 hxk
        go_upto_region 4 with fail
        go_quiet (fail)
        all_goals go_wp2_with fail
        all_goals
          go_ret
          exact ⟨by rw [Hs.out]; rfl, Nr.out.draw _⟩
    · by_cases hlt2 : k < m
      · have d1 : decide (n ≤ k) = true := by simp; omega
        have Hs := Lib.hid (Hf.out.trans (fdL_right (by rw [Hx.out]; omega) (by rw [Hy.out]; exact hlt2)))
        go_upto_region 4 with fail
        go_quiet (fail)
        all_goals go_wp2_with fail
        all_goals
          go_ret
          exact ⟨by rw [Hs.out]; rfl, Nr.out.draw _⟩
      · have Hs := Lib.hid (Hf.out.trans (fdL_end (by rw [Hx.out]; omega) (by rw [Hy.out]; omega)))
        go_wp2_with fail
        all_goals
          go_ret
          exact ⟨by rw [Hs.out]; rfl, Nr.out⟩

end Go.Proofs.YtiakcibeobbonaaGreat

/- Samples that are seen from somewhere on, compared (FnShifted, FnCut).
   Conditions: those that each statement names. -/
namespace Go.Proofs.YtiakcibeobbonaaGreat
set_option linter.unusedSimpArgs false
set_option linter.unusedVariables false
open Go Go.RowKit

theorem sameX_of_fab {x y : Nat} (h : fab .f32 x = fab .f32 y) : sameX x y = true := by
  unfold sameX nan32
  unfold fab at h
  cases hx : (FloatKind.f32.decode x).isNaN <;> cases hy : (FloatKind.f32.decode y).isNaN <;> rw [hx, hy] at h <;> simp at h ⊢
  exact h
set_option maxHeartbeats 4000000 in
set_option maxRecDepth 100000 in
theorem specFirst_view (xs ys : List Nat) (n bx cy : Nat) (v u : Value) (hx : xs.length = n) (hy : ys.length = n) (hn : n ≤ 1048576) (h32 : ∀ x ∈ xs, x < 2 ^ 32) (k32 : ∀ y ∈ ys, y < 2 ^ 32) (w : World)
    (ox : View w bx v xs) (oy : View w cy u ys) (hsame : ∀ (k : Nat) x y, xs[k]? = some x → ys[k]? = some y → sameX x y = true) :
    Calls Tryz.prog 21 #[v, u] w fun e w' => e = .returned (.int .i64 (-1)) ∧ Nw w w' := by
  obtain ⟨g1, o1, c1, cu1, rfl, hc1, hm1, -, hh1, ex⟩ := ox
  obtain ⟨g2, o2, c2, cu2, rfl, hc2, hm2, -, hh2, ey⟩ := oy
  rw [hx] at hc1 ⊢
  rw [hy] at hc2 ⊢
  have hg1 : g1 < w.heap.size := (Array.getElem?_eq_some_iff.1 hh1).1
  have hg2 : g2 < w.heap.size := (Array.getElem?_eq_some_iff.1 hh2).1
  have Ex := Lib.hid ex
  have Ey := Lib.hid ey
  have Hx := Lib.hid hx
  have Hy := Lib.hid hy
  have Hl := Lib.hid (And.intro h32 k32)
  have Hs := Lib.hid hsame
  unfold maxLen at hm1 hm2
  clear ex ey hx hy h32 k32 hh1 hh2 hsame
  go_enter Tryz.func21, Tryz.ntmps21
  go_wp2_with fail
  go_loopw [5] (fun i wr => ∃ k : Nat, k ≤ n ∧ i = .int .i64 (k : Int) ∧ Nw w wr) (fun i _ => n - (intOf i).toNat)
  case atStart => exact ⟨0, by omega, rfl, Nw.refl _⟩
  case round =>
    obtain ⟨k, hk, rfl, hN⟩ := hrel
    have Nr := Lib.hid hN
    clear hN
    by_cases hlt : k < n
    · obtain ⟨x, hxk⟩ : ∃ x, xs[k]? = some x := ⟨xs[k]'(by rw [Hx.out]; exact hlt), List.getElem?_eq_getElem _⟩
      obtain ⟨y, hyk⟩ : ∃ y, ys[k]? = some y := ⟨ys[k]'(by rw [Hy.out]; exact hlt), List.getElem?_eq_getElem _⟩
      have e1 : wr.cell? ⟨g1, o1 + k, none⟩ = some (.float .f32 x) := (Nr.out.cell (p := ⟨g1, o1 + k, none⟩) hg1).trans (Ex.out k x hxk)
      have e2 : wr.cell? ⟨g2, o2 + k, none⟩ = some (.float .f32 y) := (Nr.out.cell (p := ⟨g2, o2 + k, none⟩) hg2).trans (Ey.out k y hyk)
      have lx := Hl.out.1 x (List.mem_of_getElem? hxk)
      have ly := Hl.out.2 y (List.mem_of_getElem? hyk)
      have hs := Hs.out k x y hxk hyk
      have Lxy := Lib.hid (And.intro lx ly)
      clear hxk hyk lx ly
      have d1 : decide (n ≤ k) = false := by simp; omega
      by_cases hnan : nan32 x = false ∧ nan32 y = false
      · obtain ⟨hnx, hny⟩ := hnan
        have a1 := fcv_wide hnx
        have a2 := fcd_wide hnx
        have b1 := fcv_wide hny
        have b2 := fcd_wide hny
        have hw := (sameB_sameF (wid x) (wid y)).trans (sameX_wide hnx hny Lxy.out.1 Lxy.out.2)
        rw [hs] at hw
        clear hs
        go_upto_region 4 with fail
        go_quiet (first | (go_at_call 19; with_reducible exact quiet_eq (l8Same_any _ _ _)))
        all_goals
          go_wp2_with fail
          go_roundw
          case rel => exact ⟨k + 1, by omega, by rw [show ((k + 1 : Nat) : Int) = (k : Int) + 1 from by omega], Nr.out.draw _⟩
          case measure => simp only [intOf]; omega
      · clear hnan
        have Hs0 := Lib.hid hs
        clear hs
        go_upto_region 4 with fail
        refine Noise.wp_region_noise (by kernel_rfl) (by kernel_rfl) (by kernel_rfl) ?_
        repeat (refine Noise.noise_step1 rfl (fun K hK => ?_); go_simp; refine hK _ ?_; clear hK K)
        refine Noise.noise_step0 rfl (fun K hK => ?_)
        go_simp
        refine ⟨fun v => ∃ b, v = .float .f64 b ∧ fab .f64 b = wA x, ⟨_, fcv wr .f32 x .f64, rfl, fab_wide x wr⟩, fun n => ⟨⟨_, rfl⟩, _, rfl, fab_wide x _⟩, ?_⟩
        rintro _ ⟨b1, rfl, hb1⟩
        refine hK _ ?_
        clear hK K
        repeat (refine Noise.noise_step1 rfl (fun K hK => ?_); go_simp; refine hK _ ?_; clear hK K)
        refine Noise.noise_step0 rfl (fun K hK => ?_)
        go_simp
        refine ⟨fun v => ∃ b, v = .float .f64 b ∧ fab .f64 b = wA y, ⟨_, fcv wr .f32 y .f64, rfl, fab_wide y wr⟩, fun n => ⟨⟨_, rfl⟩, _, rfl, fab_wide y _⟩, ?_⟩
        rintro _ ⟨b2, rfl, hb2⟩
        refine hK _ ?_
        clear hK K
        have hsb := (sameB_sameF b1 b2).trans (sameX_fab Lxy.out.1 Lxy.out.2 hb1 hb2)
        rw [Hs0.out] at hsb
        refine Noise.noise_step2 rfl (fun K hK => ?_)
        go_simp
        apply Exists.intro
        refine ⟨fun _ => ?_, hK _ ?_⟩
        · go_at_call 19; with_reducible exact quiet_eq (l8Same_any _ _ _)
        clear hK K
        repeat (refine Noise.noise_step1 rfl (fun K hK => ?_); go_simp; refine hK _ ?_; clear hK K)
        refine Noise.noise_nil ?_
        intro _ hw'
        obtain ⟨nq, hw''⟩ := hw'
        subst hw''
        go_wp2_with fail
        go_roundw
        case rel => exact ⟨k + 1, by omega, by rw [show ((k + 1 : Nat) : Int) = (k : Int) + 1 from by omega], Nr.out.draw _⟩
        case measure => simp only [intOf]; omega
    · obtain rfl : k = n := by omega
      go_wp2_with fail
      all_goals
        go_ret
        exact ⟨rfl, Nr.out⟩
theorem same_view (xs ys : List Nat) (n bx cy : Nat) (v u : Value) (hx : xs.length = n) (hy : ys.length = n) (hn : n ≤ 1048576) (h32 : ∀ x ∈ xs, x < 2 ^ 32) (k32 : ∀ y ∈ ys, y < 2 ^ 32) (w : World)
    (ox : View w bx v xs) (oy : View w cy u ys) (hsame : ∀ (k : Nat) x y, xs[k]? = some x → ys[k]? = some y → sameX x y = true) :
    Calls Tryz.prog 10 #[v, u] w fun e w' => e = .returned (.bool true) ∧ Nw w w' := by
  have Hc := Lib.hid (specFirst_view xs ys n bx cy v u hx hy hn h32 k32 w ox oy hsame)
  clear ox oy hsame h32 k32
  go_enter Tryz.func10, Tryz.ntmps10
  go_wp2_with fail
  refine Hc.out.mono ?_
  rintro e w1 ⟨rfl, n1⟩
  have N1 := Lib.hid n1
  clear n1
  go_wp2_with fail
  go_ret
  exact ⟨rfl, N1.out⟩
end Go.Proofs.YtiakcibeobbonaaGreat

/- A player that is where a stream is: isAt, playerOf, IsStream (FnCut).
   Conditions: those that each statement names. -/
namespace Go.Proofs.YtiakcibeobbonaaGreat
set_option linter.unusedSimpArgs false
set_option linter.unusedVariables false
open Go Go.RowKit

/-- how great a voice that plays is -/
def PSz (p : Prt) : Prop := p.ms.length ≤ 1000 ∧ p.st.length = p.ms.length ∧ p.xs.length ≤ 1000
theorem PrtOk.sz {B X : Rat} {p : Prt} (h : PrtOk B X p) : PSz p := ⟨by have := h.len; omega, h.st, by have := h.xl; omega⟩
set_option maxHeartbeats 6400000 in
set_option maxRecDepth 100000 in
theorem equalVoices_self (zs1 zs2 : List (Prt × Loc)) (n b1 b2 : Nat) (vv pv : Value) (w : World) (h1 : VoicesR w b1 vv zs1) (h2 : PartsR w b2 pv zs2) (he : zs1.map Prod.fst = zs2.map Prod.fst) (hn : n = zs1.length) (hn64 : n ≤ 1000) (hsz : ∀ z ∈ zs1, PSz z.1) :
    Calls Tryz.prog 57 #[vv, pv, .func (.func 58) #[] #[]] w fun e w' => e = .returned (.bool true) ∧ Nw w w' := by
  have hl : zs2.length = n := by have := congrArg List.length he; simp at this; omega
  obtain ⟨va, vc, rfl⟩ := own_shape' h1.row
  obtain ⟨pa, pc, rfl⟩ := own_shape' h2.row
  rw [← hn] at h1 ⊢
  rw [hl] at h2 ⊢
  have H1 := Lib.hid h1
  have H2 := Lib.hid h2
  have Hn := Lib.hid (And.intro hn hl)
  have He := Lib.hid he
  have Hz := Lib.hid hsz
  clear h1 h2 hn he hl hsz
  go_enter Tryz.func57, Tryz.ntmps57
  go_wp2_with fail
  go_loopw [17] (fun i wr => ∃ k : Nat, k ≤ n ∧ i = .int .i64 (k : Int) ∧ Nw w wr) (fun i _ => n - (intOf i).toNat)
  case atStart => exact ⟨0, by omega, rfl, Nw.refl _⟩
  case round =>
    obtain ⟨k, hk, rfl, hN⟩ := hrel
    have Nr := Lib.hid hN
    clear hN
    by_cases hlt : k < n
    · obtain ⟨⟨p1, l1⟩, hk1⟩ : ∃ z, zs1[k]? = some z := ⟨zs1[k]'(by rw [← Hn.out.1]; exact hlt), List.getElem?_eq_getElem _⟩
      obtain ⟨⟨p2, l2⟩, hk2⟩ : ∃ z, zs2[k]? = some z := ⟨zs2[k]'(by rw [Hn.out.2]; exact hlt), List.getElem?_eq_getElem _⟩
      have hp : p1 = p2 := by
        have e := congrArg (fun l => l[k]?) He.out
        simp only [List.getElem?_map, hk1, hk2] at e
        simpa using e
      subst hp
      have P1 := Lib.hid ((H1.out.ins _ (List.mem_of_getElem? hk1)).nw Nr.out)
      have P2 := Lib.hid ((H2.out.ins _ (List.mem_of_getElem? hk2)).nw Nr.out)
      have Sz := Lib.hid (Hz.out _ (List.mem_of_getElem? hk1))
      obtain ⟨g, cap, hv, hcap, hmax, hgs, e0, e1, e2, e3⟩ := voice_at (by have o := own_nw H1.out.row Nr.out; rw [← Hn.out.1] at o; exact o) Hn.out.1 hk1
      cases hv
      obtain ⟨g', rfl, hpc, hpm⟩ : ∃ g', pa = some ⟨g', 0, none⟩ ∧ n ≤ pc ∧ pc ≤ maxLen := by
        rcases H2.out.row.2 with ⟨h1, h2⟩ | ⟨g', cap, cur, h1, hb, hg, hc, hmx, hs, ht⟩
        · rw [Hn.out.2] at h2; omega
        · cases h1; exact ⟨g', rfl, by rw [Hn.out.2] at hc; exact hc, hmx⟩
      obtain ⟨f0, f1, f2, f3, f4⟩ := part_at (by have o := own_nw H2.out.row Nr.out; rw [Hn.out.2] at o; exact o) Hn.out.2.symm hk2
      have hgs' : g' < wr.heap.size := ((own_nw H2.out.row Nr.out).lt g' rfl).2
      obtain ⟨⟨ma, mc, hm1⟩, ia, ic, hi1⟩ := P1.out.shape
      obtain ⟨⟨na, nc, hm2⟩, ja, jc, hi2⟩ := P2.out.shape
      have hm1 : l1.vm = .slice ma p1.ms.length mc := hm1
      have hm2 : l2.vm = .slice na p1.ms.length nc := hm2
      have hi1 : l1.vi = .slice ia p1.xs.length ic := hi1
      have hi2 : l2.vi = .slice ja p1.xs.length jc := hi2
      have e1 : wr.cell? ⟨g, k * 4 + 1, none⟩ = some (.slice ma p1.ms.length mc) := by rw [← hm1]; exact e1
      have e3 : wr.cell? ⟨g, k * 4 + 3, none⟩ = some (.slice ia p1.xs.length ic) := by rw [← hi1]; exact e3
      have f1 : wr.cell? ⟨g', k * 5 + 1, none⟩ = some (.slice na p1.ms.length nc) := by rw [← hm2]; exact f1
      have f3 : wr.cell? ⟨g', k * 5 + 3, none⟩ = some (.slice ja p1.xs.length jc) := by rw [← hi2]; exact f3
      simp only at e0 e2 f0 f2 f4
      have Hv := Lib.hid (And.intro hm1 (And.intro hi1 (And.intro hm2 hi2)))
      have K1 := Lib.hid ((Nw.refl wr).alloc (.cells #[.int .i64 p1.b, .slice ma p1.ms.length mc, .slice (some ⟨l1.g, 0, none⟩) p1.ms.length p1.ms.length, .slice ia p1.xs.length ic] 59 (0, 0)))
      have K2 := Lib.hid (K1.out.alloc (.cells #[.int .i64 p1.b, .slice na p1.ms.length nc, .slice (some ⟨l2.g, 0, none⟩) p1.ms.length p1.ms.length, .slice ja p1.xs.length jc, .int .i64 l2.tr] 84 (0, 0)))
      have sv := Lib.hid (fun W (hW : Nw wr W) => isAtC_self p1 l1 l2 b1 b2 W (P1.out.nw hW) (P2.out.nw hW) Sz.out)
      unfold maxLen at hmax hpm
      clear hk1 hk2 hm1 hm2 hi1 hi2
      go_wp2_with fail
      have sv2 := sv.out _ K2.out
      rw [Hv.out.1, Hv.out.2.1, Hv.out.2.2.1, Hv.out.2.2.2] at sv2
      refine sv2.mono ?_
      rintro e w5 ⟨rfl, n5⟩
      have N5 := Lib.hid ((Nr.out.trans K2.out).trans n5)
      clear n5 sv2 e0 e1 e2 e3 f0 f1 f2 f3 f4
      go_wp2_with fail
      go_roundw
      case rel => exact ⟨k + 1, by omega, by rw [show ((k + 1 : Nat) : Int) = (k : Int) + 1 from by omega], N5.out⟩
      case measure => simp only [intOf]; omega
    · obtain rfl : k = n := by omega
      go_wp2_with fail
      go_ret
      exact ⟨rfl, Nr.out⟩

set_option maxHeartbeats 6400000 in
set_option maxRecDepth 100000 in
theorem isAt_ok {W1 : World} {q L V C R L' V' C' R' : Nat} {sv ev eo sv' ev' : Value} {i i' d b env env2 b1 : Nat} {pv vv : Value} {zs zs1 : List (Prt × Loc)} {w : World} (h : PlS W1 q L' V' C' R' sv ev eo i' d b pv env2 zs w)
    (hv : VoicesR w b1 vv zs1) (hz : zs1.map Prod.fst = zs.map Prod.fst) (hl : zs1.length ≤ 1000) (hsz : ∀ z ∈ zs1, PSz z.1) (he : fab .f32 env = fab .f32 env2) (hss : (∃ a n c, sv' = .slice a n c) ∧ ∃ a n c, ev' = .slice a n c) :
    Calls Tryz.prog 33 #[.pointer (some ⟨q, 0, none⟩), .agg #[.int .i64 (L : Int), .int .i64 (V : Int), .float .f32 C, .float .f32 R, sv', ev', .int .i64 (i : Int), .int .i64 (d : Int), vv, .float .f32 env]] w fun e w' => e = .returned (.bool true) ∧ Nw w w' := by
  obtain ⟨⟨sa, sn, sc, rfl⟩, ea, en, ec, rfl⟩ := hss
  obtain ⟨va, vc, rfl⟩ := own_shape' hv.row
  obtain ⟨pa, pc, rfl⟩ := own_shape' h.par.row
  have hl2 : zs.length = zs1.length := by have := congrArg List.length hz; simp at this; omega
  obtain ⟨n, hn⟩ : ∃ n, n = zs1.length := ⟨_, rfl⟩
  rw [hl2, ← hn] at h
  rw [← hn] at hv hl ⊢
  have hn64 := hl
  have hbx := h.box
  have hqw := h.box.1
  obtain ⟨wd, hwd⟩ : ∃ wd, wd = w.alloc (.cells #[.int .i64 (L : Int), .int .i64 (V : Int), .float .f32 C, .float .f32 R, .slice sa sn sc, .slice ea en ec, .int .i64 (i : Int), .int .i64 (d : Int), .slice va n vc, .float .f32 env] 31 (0, 0)) := ⟨_, rfl⟩
  have Nd := Lib.hid (show Nw w wd from by rw [hwd]; exact (Nw.refl w).alloc _)
  have Bx := Lib.hid (show HasC wd w.heap.size [.int .i64 (L : Int), .int .i64 (V : Int), .float .f32 C, .float .f32 R, .slice sa sn sc, .slice ea en ec, .int .i64 (i : Int), .int .i64 (d : Int), .slice va n vc, .float .f32 env] from by rw [hwd]; exact HasC.newB w _ _)
  have Px := Lib.hid (hbx.nw Nd.out)
  have Hv := Lib.hid hv
  have Hp := Lib.hid h.par
  have Hz := Lib.hid (And.intro hz (And.intro hn hsz))
  have He := Lib.hid (sameX_of_fab he)
  have Hwd := Lib.hid hwd
  have KeepS := Lib.hid (show ∀ W', Nw wd W' → W'.cell? ⟨w.heap.size, 7, none⟩ = some (.int .i64 (d : Int)) ∧ W'.cell? ⟨w.heap.size, 8, none⟩ = some (.slice va n vc) ∧ W'.cell? ⟨w.heap.size, 9, none⟩ = some (.float .f32 env) ∧ W'.cell? ⟨q, 8, none⟩ = some (.int .i64 (d : Int)) ∧ W'.cell? ⟨q, 10, none⟩ = some (.slice pa n pc) ∧ W'.cell? ⟨q, 11, none⟩ = some (.float .f32 env2) from fun W' hW => by
    have x := Bx.out.nw hW
    have y := Px.out.nw hW
    exact ⟨(x.2 7 _ rfl).1, (x.2 8 _ rfl).1, (x.2 9 _ rfl).1, (y.2 8 _ rfl).1, (y.2 10 _ rfl).1, (y.2 11 _ rfl).1⟩)
  clear h hv hz hn hsz he hwd hl2 hbx hl
  go_enter Tryz.func33, Tryz.ntmps33
  go_upto_region 1 with fail
  rw [← Hwd.out]
  clear Hwd
  refine wp_region_held_drew (S := fun W' => W'.cell? ⟨w.heap.size, 7, none⟩ = some (.int .i64 (d : Int)) ∧ W'.cell? ⟨w.heap.size, 8, none⟩ = some (.slice va n vc) ∧ W'.cell? ⟨w.heap.size, 9, none⟩ = some (.float .f32 env) ∧ W'.cell? ⟨q, 8, none⟩ = some (.int .i64 (d : Int)) ∧ W'.cell? ⟨q, 10, none⟩ = some (.slice pa n pc) ∧ W'.cell? ⟨q, 11, none⟩ = some (.float .f32 env2)) (by kernel_rfl) (KeepS.out _ ((Nw.refl wd).draw 1)) (fun hHeld => ?_)
  refine wpAnyH_take (i := 0) (oi := _) (v := ?_) rfl (by kernel_rfl) (by kernel_rfl) (by kernel_rfl) (fun _ _ _ h => h) (_root_.Or.inl ⟨by kernel_rfl, ?_⟩) (by assumption) ?_
  rotate_left
  · intro w hSw
    (try dsimp only at hSw)
    go_simp
    all_goals with_reducible rfl
  try simp only [List.getElem_toArray, List.getElem_cons_succ, List.getElem_cons_zero, Act.put, List.setIfInBounds_toArray, List.set_cons_zero, List.set_cons_succ]
  refine wpAnyH_take (i := 1) (oi := _) (v := ?_) rfl (by kernel_rfl) (by kernel_rfl) (by kernel_rfl) (fun _ _ _ h => h) (_root_.Or.inl ⟨by kernel_rfl, ?_⟩) (by assumption) ?_
  rotate_left
  · intro w hSw
    (try dsimp only at hSw)
    go_simp
    all_goals with_reducible rfl
  try simp only [List.getElem_toArray, List.getElem_cons_succ, List.getElem_cons_zero, Act.put, List.setIfInBounds_toArray, List.set_cons_zero, List.set_cons_succ]
  refine wpAnyH_take (i := 2) (oi := _) (v := ?_) rfl (by kernel_rfl) (by kernel_rfl) (by kernel_rfl) (fun _ _ _ h => h) (_root_.Or.inl ⟨by kernel_rfl, ?_⟩) (by assumption) ?_
  rotate_left
  · intro w hSw
    (try dsimp only at hSw)
    go_simp
    all_goals with_reducible rfl
  try simp only [List.getElem_toArray, List.getElem_cons_succ, List.getElem_cons_zero, Act.put, List.setIfInBounds_toArray, List.set_cons_zero, List.set_cons_succ]
  refine wpAnyH_take (i := 3) (oi := _) (v := ?_) rfl (by kernel_rfl) (by kernel_rfl) (by kernel_rfl) (fun _ _ _ h => h) (_root_.Or.inl ⟨by kernel_rfl, ?_⟩) (by assumption) ?_
  rotate_left
  · intro w hSw
    (try dsimp only at hSw)
    go_simp
    all_goals with_reducible rfl
  try simp only [List.getElem_toArray, List.getElem_cons_succ, List.getElem_cons_zero, Act.put, List.setIfInBounds_toArray, List.set_cons_zero, List.set_cons_succ]
  refine wpAnyH_take (i := 4) (oi := _) (v := ?_) rfl (by kernel_rfl) (by kernel_rfl) (by kernel_rfl) (fun _ _ _ h => h) (_root_.Or.inl ⟨by kernel_rfl, ?_⟩) (by assumption) ?_
  rotate_left
  · intro w hSw
    (try dsimp only at hSw)
    go_simp
    all_goals with_reducible rfl
  try simp only [List.getElem_toArray, List.getElem_cons_succ, List.getElem_cons_zero, Act.put, List.setIfInBounds_toArray, List.set_cons_zero, List.set_cons_succ]
  refine wpAnyH_take (i := 5) (oi := _) (v := ?_) rfl (by kernel_rfl) (by kernel_rfl) (by kernel_rfl) (fun _ _ _ h => h) (_root_.Or.inl ⟨by kernel_rfl, ?_⟩) (by assumption) ?_
  rotate_left
  · intro w hSw
    (try dsimp only at hSw)
    go_simp
    all_goals with_reducible rfl
  try simp only [List.getElem_toArray, List.getElem_cons_succ, List.getElem_cons_zero, Act.put, List.setIfInBounds_toArray, List.set_cons_zero, List.set_cons_succ]
  refine wpAnyH_take (i := 6) (oi := _) (v := ?_) rfl (by kernel_rfl) (by kernel_rfl) (by kernel_rfl) (fun _ _ _ h => h) (_root_.Or.inl ⟨by kernel_rfl, ?_⟩) (by assumption) ?_
  rotate_left
  · intro w hSw
    (try dsimp only at hSw)
    go_simp
    all_goals with_reducible rfl
  try simp only [List.getElem_toArray, List.getElem_cons_succ, List.getElem_cons_zero, Act.put, List.setIfInBounds_toArray, List.set_cons_zero, List.set_cons_succ]
  refine wpAnyH_take (i := 7) (oi := _) (v := ?_) rfl (by kernel_rfl) (by kernel_rfl) (by kernel_rfl) (fun _ _ _ h => h) (_root_.Or.inl ⟨by kernel_rfl, ?_⟩) (by assumption) ?_
  rotate_left
  · intro w hSw
    (try dsimp only at hSw)
    go_simp
    all_goals with_reducible rfl
  try simp only [List.getElem_toArray, List.getElem_cons_succ, List.getElem_cons_zero, Act.put, List.setIfInBounds_toArray, List.set_cons_zero, List.set_cons_succ]
  refine wpAnyH_take (i := 8) (oi := _) (v := ?_) rfl (by kernel_rfl) (by kernel_rfl) (by kernel_rfl) (fun _ _ _ h => h) (_root_.Or.inl ⟨by kernel_rfl, ?_⟩) (by assumption) ?_
  rotate_left
  · intro w hSw
    (try dsimp only at hSw)
    go_simp
    all_goals with_reducible rfl
  try simp only [List.getElem_toArray, List.getElem_cons_succ, List.getElem_cons_zero, Act.put, List.setIfInBounds_toArray, List.set_cons_zero, List.set_cons_succ]
  refine wpAnyH_take (i := 9) (oi := _) (v := ?_) rfl (by kernel_rfl) (by kernel_rfl) (by kernel_rfl) (fun _ _ _ h => h) (_root_.Or.inl ⟨by kernel_rfl, ?_⟩) (by assumption) ?_
  rotate_left
  · intro w hSw
    (try dsimp only at hSw)
    go_simp
    all_goals with_reducible rfl
  try simp only [List.getElem_toArray, List.getElem_cons_succ, List.getElem_cons_zero, Act.put, List.setIfInBounds_toArray, List.set_cons_zero, List.set_cons_succ]
  refine wpAnyH_take (i := 10) (oi := _) (v := ?_) rfl (by kernel_rfl) (by kernel_rfl) (by kernel_rfl) (fun _ _ _ h => h) (_root_.Or.inl ⟨by kernel_rfl, ?_⟩) (by assumption) ?_
  rotate_left
  · intro w hSw
    (try dsimp only at hSw)
    go_simp
    all_goals with_reducible rfl
  try simp only [List.getElem_toArray, List.getElem_cons_succ, List.getElem_cons_zero, Act.put, List.setIfInBounds_toArray, List.set_cons_zero, List.set_cons_succ]
  refine wpAnyH_take (i := 11) (oi := _) (v := ?_) rfl (by kernel_rfl) (by kernel_rfl) (by kernel_rfl) (fun _ _ _ h => h) (_root_.Or.inl ⟨by kernel_rfl, ?_⟩) (by assumption) ?_
  rotate_left
  · intro w hSw
    (try dsimp only at hSw)
    go_simp
    all_goals with_reducible rfl
  try simp only [List.getElem_toArray, List.getElem_cons_succ, List.getElem_cons_zero, Act.put, List.setIfInBounds_toArray, List.set_cons_zero, List.set_cons_succ]
  refine wpAnyH_take (i := 12) (oi := _) (v := ?_) rfl (by kernel_rfl) (by kernel_rfl) (by kernel_rfl) (fun _ _ _ h => h) (_root_.Or.inl ⟨by kernel_rfl, ?_⟩) (by assumption) ?_
  rotate_left
  · intro w hSw
    (try dsimp only at hSw)
    go_simp
    all_goals with_reducible rfl
  try simp only [List.getElem_toArray, List.getElem_cons_succ, List.getElem_cons_zero, Act.put, List.setIfInBounds_toArray, List.set_cons_zero, List.set_cons_succ]
  refine wpAnyH_take (i := 13) (oi := _) (v := ?_) rfl (by kernel_rfl) (by kernel_rfl) (by kernel_rfl) (fun _ _ _ h => h) (_root_.Or.inl ⟨by kernel_rfl, ?_⟩) (by assumption) ?_
  rotate_left
  · intro w hSw
    (try dsimp only at hSw)
    go_simp
    all_goals with_reducible rfl
  try simp only [List.getElem_toArray, List.getElem_cons_succ, List.getElem_cons_zero, Act.put, List.setIfInBounds_toArray, List.set_cons_zero, List.set_cons_succ]
  refine wpAnyH_ready (rs := [14]) (by kernel_rfl) (by simp) ?_
  refine AllReadyH.cons (o := _) rfl (fun K hK => ?_) AllReadyH.nil
  go_simp
  go_at_call 56
  refine (sameSingle_any env env2 _).mono ?_
  rintro e w5 ⟨rfl, nk, rfl⟩
  have N5 := Lib.hid ((Nw.refl wd).draw (1 + nk))
  rw [He.out]
  clear hHeld
  go_wp2_with fail
  refine hK.out _ _ ?_ (fun hHeld => ?_)
  · exact KeepS.out _ N5.out
  clear hK K
  try simp only [List.getElem_toArray, List.getElem_cons_succ, List.getElem_cons_zero, Act.put, List.setIfInBounds_toArray, List.set_cons_zero, List.set_cons_succ]
  refine wpAnyH_take (i := 15) (oi := _) (v := ?_) rfl (by kernel_rfl) (by kernel_rfl) (by kernel_rfl) (fun _ _ _ h => h) (_root_.Or.inl ⟨by kernel_rfl, ?_⟩) (by assumption) ?_
  rotate_left
  · intro w hSw
    (try dsimp only at hSw)
    go_simp
    all_goals with_reducible rfl
  try simp only [List.getElem_toArray, List.getElem_cons_succ, List.getElem_cons_zero, Act.put, List.setIfInBounds_toArray, List.set_cons_zero, List.set_cons_succ]
  refine wpAnyH_take (i := 16) (oi := _) (v := ?_) rfl (by kernel_rfl) (by kernel_rfl) (by kernel_rfl) (fun _ _ _ h => h) (_root_.Or.inl ⟨by kernel_rfl, ?_⟩) (by assumption) ?_
  rotate_left
  · intro w hSw
    (try dsimp only at hSw)
    go_simp
    all_goals with_reducible rfl
  try simp only [List.getElem_toArray, List.getElem_cons_succ, List.getElem_cons_zero, Act.put, List.setIfInBounds_toArray, List.set_cons_zero, List.set_cons_succ]
  refine wpAnyH_take (i := 17) (oi := _) (v := ?_) rfl (by kernel_rfl) (by kernel_rfl) (by kernel_rfl) (fun _ _ _ h => h) (_root_.Or.inl ⟨by kernel_rfl, ?_⟩) (by assumption) ?_
  rotate_left
  · intro w hSw
    (try dsimp only at hSw)
    go_simp
    all_goals with_reducible rfl
  try simp only [List.getElem_toArray, List.getElem_cons_succ, List.getElem_cons_zero, Act.put, List.setIfInBounds_toArray, List.set_cons_zero, List.set_cons_succ]
  refine wpAnyH_take (i := 18) (oi := _) (v := ?_) rfl (by kernel_rfl) (by kernel_rfl) (by kernel_rfl) (fun _ _ _ h => h) (_root_.Or.inl ⟨by kernel_rfl, ?_⟩) (by assumption) ?_
  rotate_left
  · intro w hSw
    (try dsimp only at hSw)
    go_simp
    all_goals with_reducible rfl
  try simp only [List.getElem_toArray, List.getElem_cons_succ, List.getElem_cons_zero, Act.put, List.setIfInBounds_toArray, List.set_cons_zero, List.set_cons_succ]
  refine wpAnyH_take (i := 19) (oi := _) (v := ?_) rfl (by kernel_rfl) (by kernel_rfl) (by kernel_rfl) (fun _ _ _ h => h) (_root_.Or.inl ⟨by kernel_rfl, ?_⟩) (by assumption) ?_
  rotate_left
  · intro w hSw
    (try dsimp only at hSw)
    go_simp
    all_goals with_reducible rfl
  try simp only [List.getElem_toArray, List.getElem_cons_succ, List.getElem_cons_zero, Act.put, List.setIfInBounds_toArray, List.set_cons_zero, List.set_cons_succ]
  refine wpAnyH_take (i := 20) (oi := _) (v := ?_) rfl (by kernel_rfl) (by kernel_rfl) (by kernel_rfl) (fun _ _ _ h => h) (_root_.Or.inl ⟨by kernel_rfl, ?_⟩) (by assumption) ?_
  rotate_left
  · intro w hSw
    (try dsimp only at hSw)
    go_simp
    all_goals with_reducible rfl
  try simp only [List.getElem_toArray, List.getElem_cons_succ, List.getElem_cons_zero, Act.put, List.setIfInBounds_toArray, List.set_cons_zero, List.set_cons_succ]
  refine wpAnyH_take (i := 21) (oi := _) (v := ?_) rfl (by kernel_rfl) (by kernel_rfl) (by kernel_rfl) (fun _ _ _ h => h) (_root_.Or.inl ⟨by kernel_rfl, ?_⟩) (by assumption) ?_
  rotate_left
  · intro w hSw
    (try dsimp only at hSw)
    go_simp
    all_goals with_reducible rfl
  try simp only [List.getElem_toArray, List.getElem_cons_succ, List.getElem_cons_zero, Act.put, List.setIfInBounds_toArray, List.set_cons_zero, List.set_cons_succ]
  refine wpAnyH_take (i := 22) (oi := _) (v := ?_) rfl (by kernel_rfl) (by kernel_rfl) (by kernel_rfl) (fun _ _ _ h => h) (_root_.Or.inl ⟨by kernel_rfl, ?_⟩) (by assumption) ?_
  rotate_left
  · intro w hSw
    (try dsimp only at hSw)
    go_simp
    all_goals with_reducible rfl
  try simp only [List.getElem_toArray, List.getElem_cons_succ, List.getElem_cons_zero, Act.put, List.setIfInBounds_toArray, List.set_cons_zero, List.set_cons_succ]
  refine wpAnyH_ready (rs := [23]) (by kernel_rfl) (by simp) ?_
  refine AllReadyH.cons (o := _) rfl (fun K hK => ?_) AllReadyH.nil
  go_simp
  go_at_call 57
  refine (equalVoices_self zs1 zs n b1 W1.heap.size _ _ _ (Hv.out.nw (Nd.out.trans N5.out)) (Hp.out.nw (Nd.out.trans N5.out)) Hz.out.1 Hz.out.2.1 hn64 Hz.out.2.2).mono ?_
  rintro e w6 ⟨rfl, n6⟩
  have N6 := Lib.hid (N5.out.trans n6)
  clear n6 hHeld
  go_wp2_with fail
  refine hK.out _ _ ?_ (fun hHeld => ?_)
  · exact KeepS.out _ N6.out
  clear hK K
  try simp only [List.getElem_toArray, List.getElem_cons_succ, List.getElem_cons_zero, Act.put, List.setIfInBounds_toArray, List.set_cons_zero, List.set_cons_succ]
  refine wpAnyH_take (i := 24) (oi := _) (v := ?_) rfl (by kernel_rfl) (by kernel_rfl) (by kernel_rfl) (fun _ _ _ h => h) (_root_.Or.inl ⟨by kernel_rfl, ?_⟩) (by assumption) ?_
  rotate_left
  · intro w hSw
    (try dsimp only at hSw)
    go_simp
    all_goals with_reducible rfl
  try simp only [List.getElem_toArray, List.getElem_cons_succ, List.getElem_cons_zero, Act.put, List.setIfInBounds_toArray, List.set_cons_zero, List.set_cons_succ]
  refine wpAnyH_take (i := 25) (oi := _) (v := ?_) rfl (by kernel_rfl) (by kernel_rfl) (by kernel_rfl) (fun _ _ _ h => h) (_root_.Or.inl ⟨by kernel_rfl, ?_⟩) (by assumption) ?_
  rotate_left
  · intro w hSw
    (try dsimp only at hSw)
    go_simp
    all_goals with_reducible rfl
  try simp only [List.getElem_toArray, List.getElem_cons_succ, List.getElem_cons_zero, Act.put, List.setIfInBounds_toArray, List.set_cons_zero, List.set_cons_succ]
  refine wpAnyH_done (by kernel_rfl) ?_ _
  clear hHeld
  go_wp2_with fail
  go_ret
  exact ⟨rfl, Nd.out.trans N6.out⟩
end Go.Proofs.YtiakcibeobbonaaGreat

/- The player of a stream: playerOf, IsStream (FnCut).
   Conditions: those that each statement names. -/
namespace Go.Proofs.YtiakcibeobbonaaGreat
set_option linter.unusedSimpArgs false
set_option linter.unusedVariables false
open Go Go.RowKit

/-- a stream in memory, at sample i -/
structure StrV (w : World) (base L V C R : Nat) (bs : List (List M4)) (es : List Ev6) (i : Nat) (sv ev vv : Value) (env : Nat) (zs : List (Prt × Loc)) : Prop where
  sco : ScoV w base L V C R bs es sv ev
  voi : VoicesR w base vv zs
  hz : zs.map Prod.fst = preP bs V es i
  he : fab .f32 env = eAt bs V es R 0 (fab .f32 0) i
  hi : i ≤ L
  hL : L ≤ 70
theorem StrV.nw {w w' : World} {base L V C R : Nat} {bs : List (List M4)} {es : List Ev6} {i : Nat} {sv ev vv : Value} {env : Nat} {zs : List (Prt × Loc)} (h : StrV w base L V C R bs es i sv ev vv env zs) (k : Nw w w') : StrV w' base L V C R bs es i sv ev vv env zs :=
  ⟨h.sco.nw k, h.voi.nw k, h.hz, h.he, h.hi, h.hL⟩
theorem StrV.sz {w : World} {base L V C R : Nat} {bs : List (List M4)} {es : List Ev6} {i : Nat} {sv ev vv : Value} {env : Nat} {zs : List (Prt × Loc)} (h : StrV w base L V C R bs es i sv ev vv env zs) : zs.length ≤ 4 ∧ ∀ z ∈ zs, PSz z.1 := by
  have hp := pre_ok bs h.sco.bok L V h.sco.hV.1 es h.sco.eok i (by have := h.hi; have := h.hL; omega)
  rw [← h.hz] at hp
  refine ⟨by have := hp.1; rw [List.length_map] at this; have := h.sco.hV.2; omega, fun z hz => (hp.2 z.1 (List.mem_map_of_mem hz)).sz⟩
def strA (L V C R : Nat) (sv ev : Value) (i d : Nat) (vv : Value) (env : Nat) : Value := .agg #[.int .i64 (L : Int), .int .i64 (V : Int), .float .f32 C, .float .f32 R, sv, ev, .int .i64 (i : Int), .int .i64 (d : Int), vv, .float .f32 env]
def strC (L V C R : Nat) (sv ev : Value) (i d : Nat) (vv : Value) (env : Nat) : List Value := [.int .i64 (L : Int), .int .i64 (V : Int), .float .f32 C, .float .f32 R, sv, ev, .int .i64 (i : Int), .int .i64 (d : Int), vv, .float .f32 env]
theorem ten_at {w : World} {b : Nat} {v0 v1 v2 v3 v4 v5 v6 v7 v8 v9 : Value} (h : HasC w b [v0, v1, v2, v3, v4, v5, v6, v7, v8, v9]) :
    w.cell? ⟨b, 0, none⟩ = some v0 ∧ w.cell? ⟨b, 1, none⟩ = some v1 ∧ w.cell? ⟨b, 2, none⟩ = some v2 ∧ w.cell? ⟨b, 3, none⟩ = some v3 ∧ w.cell? ⟨b, 4, none⟩ = some v4 ∧ w.cell? ⟨b, 5, none⟩ = some v5 ∧ w.cell? ⟨b, 6, none⟩ = some v6 ∧ w.cell? ⟨b, 7, none⟩ = some v7 ∧ w.cell? ⟨b, 8, none⟩ = some v8 ∧ w.cell? ⟨b, 9, none⟩ = some v9 :=
  ⟨(h.2 0 _ rfl).1, (h.2 1 _ rfl).1, (h.2 2 _ rfl).1, (h.2 3 _ rfl).1, (h.2 4 _ rfl).1, (h.2 5 _ rfl).1, (h.2 6 _ rfl).1, (h.2 7 _ rfl).1, (h.2 8 _ rfl).1, (h.2 9 _ rfl).1⟩

def PlOfP (base L V C R : Nat) (bs : List (List M4)) (es : List Ev6) (sv ev : Value) (i : Nat) (w : World) (e : Ending) (w' : World) : Prop :=
  ∃ (q : Nat) (W0 W1 : World) (eo : Value) (b : Nat) (pv : Value) (env : Nat) (zs : List (Prt × Loc)), e = .returned (.tuple #[.pointer (some ⟨q, 0, none⟩), .bool true]) ∧ Nw w W0 ∧ PlF W0 W1 q base L V C R bs es sv ev eo ∧
    PlS W1 q L V C R sv ev eo i (dAt (ordE es) i) b pv env zs w' ∧ b ≤ dAt (ordE es) i ∧ fab .f32 env = eAt bs V es R 0 (fab .f32 0) i ∧ zs.map Prod.fst = preP bs V es i
set_option maxHeartbeats 6400000 in
set_option maxRecDepth 100000 in
theorem playerOf_ok {base L V C R : Nat} {bs : List (List M4)} {es : List Ev6} {i : Nat} {sv ev vv : Value} {env : Nat} {zs : List (Prt × Loc)} {w : World} (h : StrV w base L V C R bs es i sv ev vv env zs) :
    Calls Tryz.prog 15 #[strA L V C R sv ev i (dAt (ordE es) i) vv env] w (PlOfP base L V C R bs es sv ev i w) := by
  obtain ⟨nb, hnb⟩ : ∃ nb, nb = bs.length := ⟨_, rfl⟩
  obtain ⟨ne, hne⟩ : ∃ ne, ne = es.length := ⟨_, rfl⟩
  obtain ⟨⟨sa, sc, rfl⟩, ea, ec, rfl⟩ := h.sco.shape
  obtain ⟨va, vc, rfl⟩ := own_shape' h.voi.row
  obtain ⟨n, hn⟩ : ∃ n, n = zs.length := ⟨_, rfl⟩
  obtain ⟨d, hd⟩ : ∃ d, d = dAt (ordE es) i := ⟨_, rfl⟩
  rw [← hnb, ← hne, ← hn] at h ⊢
  rw [← hd]
  have hiL := h.hi
  have hL70 := h.hL
  obtain ⟨w1, hw1⟩ : ∃ w1, w1 = w.alloc (.cells #[.int .i64 (L : Int), .int .i64 (V : Int), .float .f32 C, .float .f32 R, .slice sa nb sc, .slice ea ne ec, .int .i64 (i : Int), .int .i64 (d : Int), .slice va n vc, .float .f32 env] 31 (0, 0)) := ⟨_, rfl⟩
  have N1 := Lib.hid (show Nw w w1 from by rw [hw1]; exact (Nw.refl w).alloc _)
  have X1 := Lib.hid (show HasC w1 w.heap.size (strC L V C R (.slice sa nb sc) (.slice ea ne ec) i d (.slice va n vc) env) from by rw [hw1]; exact HasC.newB w _ _)
  have H := Lib.hid h
  have Hn := Lib.hid (And.intro hnb (And.intro hne (And.intro hn hd)))
  have Hw := Lib.hid hw1
  clear h hnb hne hn hd hw1
  unfold strA
  go_enter Tryz.func15, Tryz.ntmps15
  go_upto_region 1 with fail
  rw [← Hw.out]
  clear Hw
  obtain ⟨e0, e1, e2, e3, e4, e5, e6, e7, e8, e9⟩ := ten_at X1.out
  go_wp2_with fail
  refine (isScore_ok base L V C R nb ne bs es _ _ _ (H.out.sco.nw N1.out) Hn.out.1 Hn.out.2.1).mono ?_
  rintro e w2 ⟨rfl, n2⟩
  have N2 := Lib.hid (N1.out.trans n2)
  have X2 := Lib.hid (X1.out.nw n2)
  clear n2 e0 e1 e2 e3 e4 e5 e6 e7 e8 e9 N1 X1
  obtain ⟨e0, e1, e2, e3, e4, e5, e6, e7, e8, e9⟩ := ten_at X2.out
  have hi0 : ¬ ((i : Int) < 0) := by omega
  have hiL2 : ¬ ((L : Int) < (i : Int)) := by omega
  go_wp2_with fail
  refine (newPlayer_ok base L V C R bs es _ _ _ (H.out.sco.nw N2.out)).mono ?_
  rintro e w3 ⟨q, eo, rfl, hq1, hq2, px, hbox, hev, n3⟩
  have F3 := Lib.hid (show PlF w2 w3 q base L V C R bs es (.slice sa nb sc) (.slice ea ne ec) eo from ⟨H.out.sco.nw N2.out, n3, hq1, hq2, px, hev⟩)
  have P3 := Lib.hid (show PlS w3 q L V C R (.slice sa nb sc) (.slice ea ne ec) eo 0 (dAt (ordE es) 0) 0 (.slice none 0 0) 0 [] w3 from ⟨Kp.refl _ _, by rw [dAt_zero _ (fun e he => (ord_mem es L bs.length H.out.sco.eok e he).1)]; exact hbox, PartsR.nil _ _, px⟩)
  have X3 := Lib.hid (X2.out.nw n3)
  clear hq1 hq2 px hbox hev n3 e0 e1 e2 e3 e4 e5 e6 e7 e8 e9
  obtain ⟨e0, e1, e2, e3, e4, e5, e6, e7, e8, e9⟩ := ten_at X3.out
  go_wp2_with fail
  refine (play_ok F3.out P3.out i (by omega) (Nat.zero_le _) rfl).mono ?_
  rintro e w4 ⟨g, ys, rfl, -, -, b', pv', env', zs', hb', hP, he', hz', hfr⟩
  rw [Nat.zero_add] at hb' hP hz'
  have P4 := Lib.hid hP
  have Q4 := Lib.hid (And.intro hb' (And.intro he' hz'))
  have N4 := Lib.hid (F3.out.nw hP.kp)
  have X4 := Lib.hid (X2.out.nw N4.out)
  clear hb' hP he' hz' hfr e0 e1 e2 e3 e4 e5 e6 e7 e8 e9 X3 P3
  obtain ⟨e0, e1, e2, e3, e4, e5, e6, e7, e8, e9⟩ := ten_at X4.out
  go_wp2_with fail
  have hvz := (H.out.voi.nw N2.out).nw N4.out
  have hse := H.out.sz
  have Z4 := Lib.hid (isAt_ok (L := L) (V := V) (C := C) (R := R) (i := i) (env := env) (sv' := .slice sa nb sc) (ev' := .slice ea ne ec) P4.out hvz (by rw [H.out.hz, Q4.out.2.2]) (by omega) hse.2 (by rw [H.out.he, Q4.out.2.1]) ⟨⟨_, _, _, rfl⟩, _, _, _, rfl⟩)
  rw [← Hn.out.2.2.2] at Z4
  refine Z4.out.mono ?_
  rintro e w5 ⟨rfl, n5⟩
  have P5 := Lib.hid (P4.out.nw n5)
  clear n5 e0 e1 e2 e3 e4 e5 e6 e7 e8 e9 hvz hse
  go_wp2_with fail
  go_ret2
  exact ⟨q, w2, w3, eo, b', pv', env', zs', rfl, N2.out, F3.out, P5.out, Q4.out.1, Q4.out.2.1, Q4.out.2.2⟩
set_option maxHeartbeats 6400000 in
set_option maxRecDepth 100000 in
theorem isStream_ok {base L V C R : Nat} {bs : List (List M4)} {es : List Ev6} {i : Nat} {sv ev vv : Value} {env : Nat} {zs : List (Prt × Loc)} {w : World} (h : StrV w base L V C R bs es i sv ev vv env zs) :
    Calls Tryz.prog 8 #[strA L V C R sv ev i (dAt (ordE es) i) vv env] w fun e w' => e = .returned (.bool true) ∧ Nw w w' := by
  obtain ⟨⟨sa, sc, rfl⟩, ea, ec, rfl⟩ := h.sco.shape
  obtain ⟨va, vc, rfl⟩ := own_shape' h.voi.row
  obtain ⟨d, hd⟩ : ∃ d, d = dAt (ordE es) i := ⟨_, rfl⟩
  obtain ⟨w1, hw1⟩ : ∃ w1, w1 = w.alloc (.cells #[.int .i64 (L : Int), .int .i64 (V : Int), .float .f32 C, .float .f32 R, .slice sa bs.length sc, .slice ea es.length ec, .int .i64 (i : Int), .int .i64 (d : Int), .slice va zs.length vc, .float .f32 env] 31 (0, 0)) := ⟨_, rfl⟩
  have N1 := Lib.hid (show Nw w w1 from by rw [hw1]; exact (Nw.refl w).alloc _)
  have X1 := Lib.hid (show HasC w1 w.heap.size (strC L V C R (.slice sa bs.length sc) (.slice ea es.length ec) i d (.slice va zs.length vc) env) from by rw [hw1]; exact HasC.newB w _ _)
  have Hp := Lib.hid (playerOf_ok (h.nw N1.out))
  unfold strA at Hp ⊢
  rw [← hd] at Hp ⊢
  have Hw := Lib.hid hw1
  clear h hd hw1
  go_enter Tryz.func8, Tryz.ntmps8
  go_upto_region 1 with fail
  rw [← Hw.out]
  clear Hw
  obtain ⟨e0, e1, e2, e3, e4, e5, e6, e7, e8, e9⟩ := ten_at X1.out
  go_wp2_with fail
  refine Hp.out.mono ?_
  rintro e w2 ⟨q, W0, W1, eo, b, pv, env', zs', rfl, n0, hF, hP, -, -, -⟩
  have N2 := Lib.hid ((N1.out.trans n0).trans (hF.nw hP.kp))
  clear n0 hF hP
  go_wp2_with fail
  go_ret
  exact ⟨rfl, N2.out⟩
end Go.Proofs.YtiakcibeobbonaaGreat

/- The walk of MakeScore: a score that is valid, in memory of its own.
   Conditions: those that each statement names. -/
namespace Go.Proofs.YtiakcibeobbonaaGreat
set_option linter.unusedSimpArgs false
set_option linter.unusedVariables false
open Go Go.RowKit

def MadeSco (M : Nat) (w : World) (e : Ending) (w' : World) : Prop :=
  ∃ (L V C R : Nat) (bs : List (List M4)) (es : List Ev6) (sv ev : Value), e = .returned (.agg #[.int .i64 (L : Int), .int .i64 (V : Int), .float .f32 C, .float .f32 R, sv, ev]) ∧ L ≤ M ∧ ScoV w' w.heap.size L V C R bs es sv ev ∧ Nw w w'
theorem nw_six {w w' : World} {b : Nat} (h : Nw w w') (hb : w.heap.size ≤ b) (v0 v1 v2 v3 v4 v5 : Value) : Nw w ((((((w'.setCell ⟨b, 0, none⟩ v0).setCell ⟨b, 1, none⟩ v1).setCell ⟨b, 2, none⟩ v2).setCell ⟨b, 3, none⟩ v3).setCell ⟨b, 4, none⟩ v4).setCell ⟨b, 5, none⟩ v5) :=
  (((((h.set (p := ⟨b, 0, none⟩) hb _).set (p := ⟨b, 1, none⟩) hb _).set (p := ⟨b, 2, none⟩) hb _).set (p := ⟨b, 3, none⟩) hb _).set (p := ⟨b, 4, none⟩) hb _).set (p := ⟨b, 5, none⟩) hb _
theorem rows_six {w : World} {base b : Nat} {sv ev : Value} {bs : List (List M4)} {es : List Ev6} (h1 : BodsR w base sv bs) (h2 : w.ownsRow base 68 6 ev es.length (cellsE es)) (hb : b < base) (v0 v1 v2 v3 v4 v5 : Value) :
    BodsR ((((((w.setCell ⟨b, 0, none⟩ v0).setCell ⟨b, 1, none⟩ v1).setCell ⟨b, 2, none⟩ v2).setCell ⟨b, 3, none⟩ v3).setCell ⟨b, 4, none⟩ v4).setCell ⟨b, 5, none⟩ v5) base sv bs ∧
    ((((((w.setCell ⟨b, 0, none⟩ v0).setCell ⟨b, 1, none⟩ v1).setCell ⟨b, 2, none⟩ v2).setCell ⟨b, 3, none⟩ v3).setCell ⟨b, 4, none⟩ v4).setCell ⟨b, 5, none⟩ v5).ownsRow base 68 6 ev es.length (cellsE es) :=
  ⟨(((((h1.set (p := ⟨b, 0, none⟩) hb _).set (p := ⟨b, 1, none⟩) hb _).set (p := ⟨b, 2, none⟩) hb _).set (p := ⟨b, 3, none⟩) hb _).set (p := ⟨b, 4, none⟩) hb _).set (p := ⟨b, 5, none⟩) hb _,
   own_set (p := ⟨b, 5, none⟩) (own_set (p := ⟨b, 4, none⟩) (own_set (p := ⟨b, 3, none⟩) (own_set (p := ⟨b, 2, none⟩) (own_set (p := ⟨b, 1, none⟩) (own_set (p := ⟨b, 0, none⟩) h2 hb _) hb _) hb _) hb _) hb _) hb _⟩

set_option maxRecDepth 100000 in
set_option maxHeartbeats 1600000 in
theorem makeScore_any (a : Option Addr) (len cap M : Nat) (hM0 : 1 ≤ M) (hM : M ≤ 500) (w : World) (hb : Bys w.heap.size a len w) :
    Calls Tryz.prog 4 #[.slice a len cap, .int .i64 (M : Int)] w (MadeSco M w) := by
  have Hb := Lib.hid hb
  clear hb
  have hsz : ∀ o, (w.alloc o).heap.size = w.heap.size + 1 := fun o => by simp
  have Hsz := Lib.hid hsz
  clear hsz
  go_enter Tryz.func4, Tryz.ntmps4
  go_wp2_with fail
  refine (l01New_any _ _ _ _ ((Hb.out.below ((Below.refl _ _).alloc (Nat.le_refl _) _)).mono (by simp))).mono ?_
  rintro e w1 ⟨rfl, hat⟩
  rw [Hsz.out] at hat
  have Hr1 := Lib.hid ((HasC.new w 27 (.int .i64 0) (.int .i64 0) (.float .f32 0) (.float .f32 0) (.slice none 0 0) (.slice none 0 0)).kp hat.2 (by omega))
  have Hn1 := Lib.hid ((((Nw.refl w).alloc (.cells #[.int .i64 0, .int .i64 0, .float .f32 0, .float .f32 0, .slice none 0 0, .slice none 0 0] 27 (0, 0))).trans (hat.2.nw (by simp))))
  have Hat := Lib.hid hat
  clear hat
  have hmin : min (M : Int) 500 = M := by omega
  have hmax : max 0 (M : Int) = M := by omega
  go_wp2_with fail
  refine (l7Score_at _ _ _ _ _ _ M hM _ Hat.out.here).mono ?_
  rintro e w2 ⟨L, V, C, R, bs, es, sv, ev, rfl, k1, k2, k3, k4, k5, k6, k7, k8, k9, hbods, hevs, hc2⟩
  have Hr2 := Lib.hid (Hr1.out.kp hc2.2 (by omega))
  have Hn2 := Lib.hid (show Nw w w2 from ⟨hc2.2.os.trans Hn1.out.os, hc2.2.tape.trans Hn1.out.tape, hc2.2.output.trans Hn1.out.output, Nat.le_trans Hn1.out.size hc2.2.size,
    fun k hk hne => (hc2.2.block k (Nat.lt_of_lt_of_le hk Hn1.out.size) (fun e => by cases e; omega)).trans (Hn1.out.block k hk hne)⟩)
  have hs1 : w.heap.size + 1 ≤ w1.heap.size := by have := Hat.out.2.size; rw [Hsz.out] at this; exact this
  obtain ⟨sa, sc, rfl⟩ := hbods.shape
  obtain ⟨ea, ec, rfl⟩ := own_shape' hevs
  obtain ⟨z1, z2⟩ := rows_six hbods hevs (b := w.heap.size) (by omega) (.int .i64 (L : Int)) (.int .i64 (V : Int)) (.float .f32 C) (.float .f32 R) (.slice sa bs.length sc) (.slice ea es.length ec)
  have hfin : MadeSco M w (.returned (.agg #[.int .i64 (L : Int), .int .i64 (V : Int), .float .f32 C, .float .f32 R, .slice sa bs.length sc, .slice ea es.length ec])) _ :=
    ⟨L, V, C, R, bs, es, _, _, rfl, k1, ⟨by omega, ⟨k2, k3⟩, k4, k5, k6, k7, k8, k9, z1.base (by omega), own_base z2 (by omega)⟩, nw_six Hn2.out (Nat.le_refl _) _ _ _ _ _ _⟩
  have Hfin := Lib.hid hfin
  clear hc2 hfin z1 z2 hbods hevs k4 k5 k8 k9
  obtain ⟨⟨r0, f0⟩, ⟨r1, f1⟩, ⟨r2, f2⟩, ⟨r3, f3⟩, ⟨r4, f4⟩, ⟨r5, f5⟩⟩ := six_at Hr2.out
  go_wp2_with fail
  exact bodyPost_ret (v := .agg #[.int .i64 (L : Int), .int .i64 (V : Int), .float .f32 C, .float .f32 R, .slice sa bs.length sc, .slice ea es.length ec]) (by simp [results, Tryz.results4, go_sem, r0, r1, r2, r3, r4, r5, f0]) rfl Hfin.out

end Go.Proofs.YtiakcibeobbonaaGreat

/- A score is copied and shifted: copyScore, ShiftScore (FnShifted).
   Conditions: those that each statement names. -/
namespace Go.Proofs.YtiakcibeobbonaaGreat
set_option linter.unusedSimpArgs false
set_option linter.unusedVariables false
open Go Go.RowKit

def CpsP (L V C R : Nat) (bs : List (List M4)) (es : List Ev6) (w : World) (e : Ending) (w' : World) : Prop :=
  ∃ (sv ev : Value), e = .returned (.agg #[.int .i64 (L : Int), .int .i64 (V : Int), .float .f32 C, .float .f32 R, sv, ev]) ∧ BodsR w' w.heap.size sv bs ∧ w'.ownsRow w.heap.size 68 6 ev es.length (cellsE es) ∧ Nw w w'
set_option maxHeartbeats 6400000 in
set_option maxRecDepth 100000 in
theorem copyScore_ok (base L V C R : Nat) (bs : List (List M4)) (es : List Ev6) (sv ev : Value) (w : World) (h : ScoV w base L V C R bs es sv ev) :
    Calls Tryz.prog 37 #[.agg #[.int .i64 (L : Int), .int .i64 (V : Int), .float .f32 C, .float .f32 R, sv, ev]] w (CpsP L V C R bs es w) := by
  obtain ⟨nb, hnb⟩ : ∃ nb, nb = bs.length := ⟨_, rfl⟩
  obtain ⟨ne, hne⟩ : ∃ ne, ne = es.length := ⟨_, rfl⟩
  obtain ⟨⟨sa, sc, rfl⟩, ea, ec, rfl⟩ := h.shape
  obtain ⟨j0, hj, hjz0, hjz1, hjz2⟩ := info_parts info_body
  have hb3 := h.hb
  have he13 := h.he
  rw [← hnb] at hb3
  rw [← hne] at he13
  rw [← hnb, ← hne] at h ⊢
  have H := Lib.hid h
  have Hn := Lib.hid (And.intro hnb hne)
  have hA : ∀ (w : World) o, (w.alloc o).heap.size = w.heap.size + 1 := fun w o => by simp
  obtain ⟨w1, hw1⟩ : ∃ w1, w1 = w.alloc (.cells #[.int .i64 (L : Int), .int .i64 (V : Int), .float .f32 C, .float .f32 R, .slice sa nb sc, .slice ea ne ec] 27 (0, 0)) := ⟨_, rfl⟩
  obtain ⟨w2, hw2⟩ : ∃ w2, w2 = w1.alloc (.cells #[.int .i64 0, .int .i64 0, .float .f32 0, .float .f32 0, .slice none 0 0, .slice none 0 0] 27 (0, 0)) := ⟨_, rfl⟩
  obtain ⟨w3, hw3⟩ : ∃ w3, w3 = w2.alloc (.cells #[.int .i64 (L : Int), .int .i64 (V : Int), .float .f32 C, .float .f32 R, .slice sa nb sc, .slice ea ne ec] 27 (0, 0)) := ⟨_, rfl⟩
  have s1 : w1.heap.size = w.heap.size + 1 := by rw [hw1, hA]
  have s2 : w2.heap.size = w.heap.size + 2 := by rw [hw2, hA, s1]
  have s3 : w3.heap.size = w.heap.size + 3 := by rw [hw3, hA, s2]
  have n3 : Nw w w3 := by rw [hw3, hw2, hw1]; exact (((Nw.refl w).alloc _).alloc _).alloc _
  have x1 : HasC w3 w.heap.size [.int .i64 (L : Int), .int .i64 (V : Int), .float .f32 C, .float .f32 R, .slice sa nb sc, .slice ea ne ec] := by
    rw [hw3, hw2, hw1]; exact ((HasC.new w _ _ _ _ _ _ _).alloc _).alloc _
  have x2 : HasC w3 (w.heap.size + 1) [.int .i64 0, .int .i64 0, .float .f32 0, .float .f32 0, .slice none 0 0, .slice none 0 0] := by
    rw [hw3, hw2, ← s1]; exact (HasC.new w1 _ _ _ _ _ _ _).alloc _
  have x3 : HasC w3 (w.heap.size + 2) [.int .i64 (L : Int), .int .i64 (V : Int), .float .f32 C, .float .f32 R, .slice sa nb sc, .slice ea ne ec] := by
    rw [hw3, ← s2]; exact HasC.new w2 _ _ _ _ _ _ _
  have N3 := Lib.hid n3
  have X1 := Lib.hid x1
  have X2 := Lib.hid x2
  have X3 := Lib.hid x3
  have Hw := Lib.hid (And.intro hw1 (And.intro hw2 hw3))
  have S3 := Lib.hid (And.intro s1 (And.intro s2 s3))
  clear h hnb hne hw1 hw2 hw3 s1 s2 s3 n3 x1 x2 x3 hA
  go_enter Tryz.func37, Tryz.ntmps37
  go_upto_region 2 with fail
  rw [← Hw.out.1, ← Hw.out.2.1, ← Hw.out.2.2, show w.heap.size + 1 + 1 = w.heap.size + 2 from rfl]
  obtain ⟨⟨e0, g0⟩, ⟨e1, g1⟩, ⟨e2, g2⟩, ⟨e3, g3⟩, ⟨e4, g4⟩, ⟨e5, g5⟩⟩ := six_at X1.out
  go_wp2_with (at_make; refine wpList_make_full _ rfl _ _ 24 rfl (w.heap.size + 3) 65 j0 (.agg #[.slice none 0 0]) 1 Tryz.underlying24 hj hjz0 hjz1 _ _ _ _ nb rfl rfl rfl rfl (by rw [hjz2]; omega) (by unfold maxLen; omega) (by have := S3.out.2.2; omega) ?_)
  intro w4 hown4 hgrow4
  rw [S3.out.2.2] at hown4 ⊢
  have R4 := Lib.hid (show w4.ownsRow (w.heap.size + 3) 65 1 (.slice (some ⟨w.heap.size + 3, 0, none⟩) nb nb) nb (List.replicate nb (.slice none 0 0)) from by
    have h : w4.ownsRow (w.heap.size + 3) 65 1 (.slice (some ⟨w.heap.size + 3, 0, none⟩) nb nb) nb (madeCells #[Value.slice none 0 0] nb).toList := hown4
    rw [toList_madeCells_one] at h
    exact h)
  have N4 := Lib.hid (show Nw w3 w4 from hgrow4)
  obtain ⟨⟨e0, g0⟩, ⟨e1, g1⟩, ⟨e2, g2⟩, ⟨e3, g3⟩, ⟨e4, g4⟩, ⟨e5, g5⟩⟩ := six_at (X3.out.nw N4.out)
  clear hown4 hgrow4
  go_upto_region 3 with fail
  obtain ⟨w5, hw5⟩ : ∃ w5, w5 = w4.setCell ⟨w.heap.size + 2, 4, none⟩ (.slice (some ⟨w.heap.size + 3, 0, none⟩) nb nb) := ⟨_, rfl⟩
  have Rw := Lib.hid (show w5.ownsRow (w.heap.size + 3) 65 1 (.slice (some ⟨w.heap.size + 3, 0, none⟩) nb nb) nb (List.replicate nb (.slice none 0 0)) from by rw [hw5]; exact own_set (p := ⟨w.heap.size + 2, 4, none⟩) R4.out (by show w.heap.size + 2 < w.heap.size + 3; omega) _)
  have K5 := Lib.hid (show HasC w5 (w.heap.size + 2) [.int .i64 (L : Int), .int .i64 (V : Int), .float .f32 C, .float .f32 R, .slice (some ⟨w.heap.size + 3, 0, none⟩) nb nb, .slice ea ne ec] from by rw [hw5]; exact (X3.out.nw N4.out).set 4 _)
  have X5 := Lib.hid (show HasC w5 w.heap.size [.int .i64 (L : Int), .int .i64 (V : Int), .float .f32 C, .float .f32 R, .slice sa nb sc, .slice ea ne ec] from by rw [hw5]; exact (X1.out.nw N4.out).sete (p := ⟨w.heap.size + 2, 4, none⟩) (by show w.heap.size + 2 ≠ w.heap.size; omega) _)
  have Z5 := Lib.hid (show HasC w5 (w.heap.size + 1) [.int .i64 0, .int .i64 0, .float .f32 0, .float .f32 0, .slice none 0 0, .slice none 0 0] from by rw [hw5]; exact (X2.out.nw N4.out).sete (p := ⟨w.heap.size + 2, 4, none⟩) (by show w.heap.size + 2 ≠ w.heap.size + 1; omega) _)
  have N5 := Lib.hid (show Nw w w5 from by rw [hw5]; exact (N3.out.trans N4.out).set (p := ⟨w.heap.size + 2, 4, none⟩) (by show w.heap.size ≤ w.heap.size + 2; omega) _)
  rw [← hw5]
  clear hw5 R4 N4 e0 g0 e1 g1 e2 g2 e3 g3 e4 g4 e5 g5 X1 X2 X3 N3 Hw
  obtain ⟨⟨e0, g0⟩, ⟨e1, g1⟩, ⟨e2, g2⟩, ⟨e3, g3⟩, ⟨e4, g4⟩, ⟨e5, g5⟩⟩ := six_at X5.out
  go_wp2_with fail
  clear e0 g0 e1 g1 e2 g2 e3 g3 e4 g4 e5 g5
  go_loopw [15] (fun c wr => ∃ (k : Nat) (vs : List Value), k ≤ nb ∧ c = .int .i64 (k : Int) ∧ wr.ownsRow (w.heap.size + 3) 65 1 (.slice (some ⟨w.heap.size + 3, 0, none⟩) nb nb) nb vs ∧ (∀ (p : Nat) ms, p < k → bs[p]? = some ms → ∃ v, vs[p]? = some v ∧ wr.ownsRow (w.heap.size + 3) 93 2 v ms.length (cellsM ms)) ∧
    (∀ (p : Nat), k ≤ p → p < nb → vs[p]? = some (.slice none 0 0)) ∧ HasC wr (w.heap.size + 2) [.int .i64 (L : Int), .int .i64 (V : Int), .float .f32 C, .float .f32 R, .slice (some ⟨w.heap.size + 3, 0, none⟩) nb nb, .slice ea ne ec] ∧ HasC wr w.heap.size [.int .i64 (L : Int), .int .i64 (V : Int), .float .f32 C, .float .f32 R, .slice sa nb sc, .slice ea ne ec] ∧ HasC wr (w.heap.size + 1) [.int .i64 0, .int .i64 0, .float .f32 0, .float .f32 0, .slice none 0 0, .slice none 0 0] ∧ Nw w wr) (fun c _ => nb - (intOf c).toNat)
  case atStart => exact ⟨0, _, by omega, rfl, Rw.out, fun p ms h => by omega, fun p _ h => by rw [List.getElem?_replicate]; simp [h], K5.out, X5.out, Z5.out, N5.out⟩
  case round =>
    obtain ⟨k, vs, hk, rfl, hR, hM, hV, hK, hX, hZ, hN⟩ := hrel
    have Rr := Lib.hid hR
    have Mr := Lib.hid hM
    have Vr := Lib.hid hV
    have Kr := Lib.hid hK
    have Xr := Lib.hid hX
    have Zr := Lib.hid hZ
    have Nr := Lib.hid hN
    clear hR hM hV hK hX hZ hN Rw K5 X5 Z5 N5
    by_cases hlt : k < nb
    · obtain ⟨ms, hms⟩ : ∃ ms, bs[k]? = some ms := ⟨bs[k]'(by rw [← Hn.out.1]; exact hlt), List.getElem?_eq_getElem _⟩
      have hml : ms.length ≤ 4 := (H.out.bok ms (List.mem_of_getElem? hms)).1
      obtain ⟨sg, scap, ma, mc, hsv, hs1, hs2, hs3, hsc, hso⟩ := (H.out.bods.nw Nr.out).at Hn.out.1 hms
      cases hsv
      have vk := Vr.out k (Nat.le_refl _) hlt
      have Mo' := Lib.hid hso
      have Hms := Lib.hid hms
      have hlw : w.heap.size < wr.heap.size := Xr.out.1
      have hlk : w.heap.size + 2 < wr.heap.size := Kr.out.1
      have hrw : w.heap.size + 3 < wr.heap.size := (Rr.out.lt _ rfl).2
      obtain ⟨wd, hwd⟩ : ∃ wd, wd = wr.alloc (.cells #[.slice ma ms.length mc] 65 (0, 0)) := ⟨_, rfl⟩
      have Na := Lib.hid (show Nw wr wd from by rw [hwd]; exact (Nw.refl wr).alloc _)
      have B4 := Lib.hid (show Has1 wd wr.heap.size (.slice ma ms.length mc) from by rw [hwd]; exact Has1.new wr _ _)
      have Hwd := Lib.hid hwd
      clear hso hms hwd
      go_upto_region 6 with fail
      rw [← Hwd.out]
      clear hsc Hwd
      have R4 := Lib.hid (own_nw Rr.out Na.out)
      have K4 := Lib.hid (Kr.out.nw Na.out)
      have Mo := Lib.hid (own_nw Mo'.out Na.out)
      have KeepS := Lib.hid (show ∀ W', HasC W' (w.heap.size + 2) [.int .i64 (L : Int), .int .i64 (V : Int), .float .f32 C, .float .f32 R, .slice (some ⟨w.heap.size + 3, 0, none⟩) nb nb, .slice ea ne ec] → Has1 W' wr.heap.size (.slice ma ms.length mc) → W'.cell? ⟨w.heap.size + 2, 4, none⟩ = some (.slice (some ⟨w.heap.size + 3, 0, none⟩) nb nb) ∧ W'.cell? ⟨wr.heap.size, 0, none⟩ = some (.slice ma ms.length mc) from fun W' h1 h2 => ⟨(h1.2 4 _ rfl).1, h2.2.1⟩)
      refine wp_region_held_drew (S := fun W' => W'.cell? ⟨w.heap.size + 2, 4, none⟩ = some (.slice (some ⟨w.heap.size + 3, 0, none⟩) nb nb) ∧ W'.cell? ⟨wr.heap.size, 0, none⟩ = some (.slice ma ms.length mc)) (by kernel_rfl) (KeepS.out _ (K4.out.nw ((Nw.refl wd).draw 1)) (B4.out.nw ((Nw.refl wd).draw 1))) (fun hHeld => ?_)
      refine wpAnyH_take (i := 0) (oi := _) (v := ?_) rfl (by kernel_rfl) (by kernel_rfl) (by kernel_rfl) (fun _ _ _ h => h) (_root_.Or.inl ⟨by rfl, ?_⟩) (by assumption) ?_
      rotate_left
      · intro w hSw
        (try dsimp only at hSw)
        go_simp
        all_goals with_reducible rfl
      try simp only [List.getElem_toArray, List.getElem_cons_succ, List.getElem_cons_zero, Act.put, List.setIfInBounds_toArray, List.set_cons_zero, List.set_cons_succ]
      refine wpAnyH_take (i := 1) (oi := _) (v := ?_) rfl (by kernel_rfl) (by kernel_rfl) (by kernel_rfl) (fun _ _ _ h => h) (_root_.Or.inl ⟨by rfl, ?_⟩) (by assumption) ?_
      rotate_left
      · intro w hSw
        (try dsimp only at hSw)
        go_simp
        all_goals with_reducible rfl
      try simp only [List.getElem_toArray, List.getElem_cons_succ, List.getElem_cons_zero, Act.put, List.setIfInBounds_toArray, List.set_cons_zero, List.set_cons_succ]
      refine wpAnyH_take (i := 2) (oi := _) (v := ?_) rfl (by kernel_rfl) (by kernel_rfl) (by kernel_rfl) (fun _ _ _ h => h) (_root_.Or.inl ⟨by rfl, ?_⟩) (by assumption) ?_
      rotate_left
      · intro w hSw
        (try dsimp only at hSw)
        go_simp
        all_goals with_reducible rfl
      try simp only [List.getElem_toArray, List.getElem_cons_succ, List.getElem_cons_zero, Act.put, List.setIfInBounds_toArray, List.set_cons_zero, List.set_cons_succ]
      refine wpAnyH_take (i := 3) (oi := _) (v := ?_) rfl (by kernel_rfl) (by kernel_rfl) (by kernel_rfl) (fun _ _ _ h => h) (_root_.Or.inl ⟨by rfl, ?_⟩) (by assumption) ?_
      rotate_left
      · intro w hSw
        (try dsimp only at hSw)
        go_simp
        all_goals with_reducible rfl
      try simp only [List.getElem_toArray, List.getElem_cons_succ, List.getElem_cons_zero, Act.put, List.setIfInBounds_toArray, List.set_cons_zero, List.set_cons_succ]
      refine wpAnyH_take (i := 4) (oi := _) (v := ?_) rfl (by kernel_rfl) (by kernel_rfl) (by kernel_rfl) (fun _ _ _ h => h) (_root_.Or.inl ⟨by rfl, ?_⟩) (by assumption) ?_
      rotate_left
      · intro w hSw
        (try dsimp only at hSw)
        go_simp
        all_goals with_reducible rfl
      try simp only [List.getElem_toArray, List.getElem_cons_succ, List.getElem_cons_zero, Act.put, List.setIfInBounds_toArray, List.set_cons_zero, List.set_cons_succ]
      refine wpAnyH_ready (rs := [5]) (by kernel_rfl) (by simp) ?_
      refine AllReadyH.cons (o := _) rfl (fun K hK => ?_) AllReadyH.nil
      go_simp
      go_at_call 64
      refine (clone_modes ms ms.length base (.slice ma ms.length mc) rfl (by omega) _ (own_nw Mo.out ((Nw.refl wd).draw 1))).mono ?_
      rintro e w5 ⟨v5, rfl, o5, d⟩
      obtain ⟨v5a, v5c, rfl⟩ := own_shape' o5
      have M5 := Lib.hid (((Nw.refl wd).draw 1).trans d)
      have O5 := Lib.hid (own_base o5 (show w.heap.size + 3 ≤ wd.drew.heap.size from by have := K4.out.1; show w.heap.size + 3 ≤ wd.heap.size; omega))
      clear d o5 hHeld
      go_wp2_with fail
      refine hK.out _ _ ?_ (fun hHeld => ?_)
      · exact KeepS.out _ (K4.out.nw M5.out) (B4.out.nw M5.out)
      clear hK K
      try simp only [List.getElem_toArray, List.getElem_cons_succ, List.getElem_cons_zero, Act.put, List.setIfInBounds_toArray, List.set_cons_zero, List.set_cons_succ]
      refine wpAnyH_take (i := 6) (oi := _) (v := ?_) rfl (by kernel_rfl) (by kernel_rfl) (by kernel_rfl) (fun _ _ _ h => h) (_root_.Or.inl ⟨by rfl, ?_⟩) (by assumption) ?_
      rotate_left
      · intro w hSw
        (try dsimp only at hSw)
        go_simp
        all_goals with_reducible rfl
      try simp only [List.getElem_toArray, List.getElem_cons_succ, List.getElem_cons_zero, Act.put, List.setIfInBounds_toArray, List.set_cons_zero, List.set_cons_succ]
      refine wpAnyH_take (i := 7) (oi := _) (v := ?_) rfl (by kernel_rfl) (by kernel_rfl) (by kernel_rfl) (fun _ _ _ h => h) (_root_.Or.inl ⟨by rfl, ?_⟩) (by assumption) ?_
      rotate_left
      · intro w hSw
        (try dsimp only at hSw)
        go_simp
        all_goals with_reducible rfl
      try simp only [List.getElem_toArray, List.getElem_cons_succ, List.getElem_cons_zero, Act.put, List.setIfInBounds_toArray, List.set_cons_zero, List.set_cons_succ]
      refine wpAnyH_ready (rs := [8]) (by kernel_rfl) (by simp) ?_
      refine AllReadyH.cons (o := _) rfl (fun K hK => ?_) AllReadyH.nil
      have R5 := Lib.hid (own_nw R4.out M5.out)
      have t5 := R5.out.cellAt k (by omega)
      rw [vk] at t5
      have f5 := R5.out.frozenAt k
      have hr5 : w.heap.size + 3 < w5.heap.size := (R5.out.lt _ rfl).2
      obtain ⟨s1, s2⟩ := R5.out.stored k (.slice v5a ms.length v5c)
      have S1 := Lib.hid (And.intro s1 s2)
      clear s1 s2
      go_simp
      clear t5 f5
      refine hK.out _ _ ?_ (fun hHeld => ?_)
      · exact KeepS.out _ ((K4.out.nw M5.out).sete (p := ⟨w.heap.size + 3, k, none⟩) (by show w.heap.size + 3 ≠ w.heap.size + 2; omega) _) ((B4.out.nw M5.out).set (p := ⟨w.heap.size + 3, k, none⟩) (by show w.heap.size + 3 ≠ wr.heap.size; omega) _)
      clear hK K hHeld
      try simp only [List.getElem_toArray, List.getElem_cons_succ, List.getElem_cons_zero, Act.put, List.setIfInBounds_toArray, List.set_cons_zero, List.set_cons_succ]
      refine wpAnyH_done (by kernel_rfl) ?_ _
      have Nf := Lib.hid ((Na.out.trans M5.out))
      have Kf := Lib.hid ((K4.out.nw M5.out).sete (p := ⟨w.heap.size + 3, k, none⟩) (by show w.heap.size + 3 ≠ w.heap.size + 2; omega) (.slice v5a ms.length v5c))
      have Xf := Lib.hid ((Xr.out.nw Nf.out).sete (p := ⟨w.heap.size + 3, k, none⟩) (by show w.heap.size + 3 ≠ w.heap.size; omega) (.slice v5a ms.length v5c))
      have Zf := Lib.hid ((Zr.out.nw Nf.out).sete (p := ⟨w.heap.size + 3, k, none⟩) (by show w.heap.size + 3 ≠ w.heap.size + 1; omega) (.slice v5a ms.length v5c))
      have Nz := Lib.hid ((Nr.out.trans Nf.out).set (p := ⟨w.heap.size + 3, k, none⟩) (by show w.heap.size ≤ w.heap.size + 3; omega) (.slice v5a ms.length v5c))
      go_wp2_with fail
      go_roundw
      case rel =>
        refine ⟨k + 1, vs.set k (.slice v5a ms.length v5c), by omega, by rw [show ((k + 1 : Nat) : Int) = (k : Int) + 1 from by omega], S1.out.1, fun p ms' hp hpm => ?_, fun p hp1 hp2 => ?_, Kf.out, Xf.out, Zf.out, Nz.out⟩
        · by_cases hpk : p = k
          · subst hpk
            rw [Hms.out] at hpm
            cases hpm
            have hvl : p < vs.length := (List.getElem?_eq_some_iff.1 vk).1
            exact ⟨_, List.getElem?_set_self hvl, O5.out.kept S1.out.2 (rows_apart O5.out R5.out (by decide))⟩
          · obtain ⟨v, hv1, hv2⟩ := Mr.out p ms' (by omega) hpm
            have hv3 := own_nw hv2 Nf.out
            exact ⟨v, by rw [List.getElem?_set_ne (by omega)]; exact hv1, hv3.kept S1.out.2 (rows_apart hv3 R5.out (by decide))⟩
        · rw [List.getElem?_set_ne (by omega)]
          exact Vr.out p (by omega) hp2
      case measure => simp only [intOf]; omega
    · obtain rfl : k = nb := by omega
      obtain ⟨⟨e0, g0⟩, ⟨e1, g1⟩, ⟨e2, g2⟩, ⟨e3, g3⟩, ⟨e4, g4⟩, ⟨e5, g5⟩⟩ := six_at Xr.out
      have Bd := Lib.hid (show BodsR wr (w.heap.size + 3) (.slice (some ⟨w.heap.size + 3, 0, none⟩) k k) bs from ⟨vs, by have o := Rr.out; rw [Hn.out.1] at o ⊢; exact o, fun p ms hp => Mr.out p ms (by have := (List.getElem?_eq_some_iff.1 hp).1; rw [Hn.out.1]; exact this) hp⟩)
      go_wp2_with fail
      refine (clone_events es ne base _ Hn.out.2.symm (by omega) _ (by have o := own_nw H.out.evs Nr.out; rwa [← Hn.out.2] at o)).mono ?_
      rintro e w6 ⟨v6, rfl, o6, n6⟩
      rw [← Hn.out.2] at o6
      obtain ⟨va, vc, rfl⟩ := own_shape' o6
      have N6 := Lib.hid n6
      have O6 := Lib.hid (own_base o6 (show w.heap.size + 3 ≤ wr.heap.size from by have := Kr.out.1; omega))
      clear n6 o6 e0 g0 e1 g1 e2 g2 e3 g3 e4 g4 e5 g5
      have K6 := Lib.hid ((Kr.out.nw N6.out).set 5 (.slice va ne vc))
      obtain ⟨⟨e0, g0⟩, ⟨e1, g1⟩, ⟨e2, g2⟩, ⟨e3, g3⟩, ⟨e4, g4⟩, ⟨e5, g5⟩⟩ := six_at (Kr.out.nw N6.out)
      have B6 := Lib.hid ((Bd.out.nw N6.out).set (p := ⟨w.heap.size + 2, 5, none⟩) (by show w.heap.size + 2 < w.heap.size + 3; omega) (.slice va ne vc))
      have E6 := Lib.hid (own_set (p := ⟨w.heap.size + 2, 5, none⟩) O6.out (by show w.heap.size + 2 < w.heap.size + 3; omega) (.slice va ne vc))
      have Z6 := Lib.hid ((Zr.out.nw N6.out).sete (p := ⟨w.heap.size + 2, 5, none⟩) (by show w.heap.size + 2 ≠ w.heap.size + 1; omega) (.slice va ne vc))
      have Nz := Lib.hid ((Nr.out.trans N6.out).set (p := ⟨w.heap.size + 2, 5, none⟩) (by show w.heap.size ≤ w.heap.size + 2; omega) (.slice va ne vc))
      go_upto_region 9 with fail
      obtain ⟨w7, hw7⟩ : ∃ w7, w7 = w6.setCell ⟨w.heap.size + 2, 5, none⟩ (.slice va ne vc) := ⟨_, rfl⟩
      rw [← hw7] at K6 B6 E6 Z6 Nz ⊢
      clear hw7 e0 g0 e1 g1 e2 g2 e3 g3 e4 g4 e5 g5
      obtain ⟨⟨e0, -⟩, ⟨e1, -⟩, ⟨e2, -⟩, ⟨e3, -⟩, ⟨e4, -⟩, ⟨e5, -⟩⟩ := six_at K6.out
      obtain ⟨⟨r0, f0⟩, ⟨r1, f1⟩, ⟨r2, f2⟩, ⟨r3, f3⟩, ⟨r4, f4⟩, ⟨r5, f5⟩⟩ := six_at Z6.out
      have Fin := Lib.hid (rows_six B6.out (by rw [← Hn.out.2]; exact E6.out) (b := w.heap.size + 1) (by omega) (.int .i64 (L : Int)) (.int .i64 (V : Int)) (.float .f32 C) (.float .f32 R) (.slice (some ⟨w.heap.size + 3, 0, none⟩) k k) (.slice va ne vc))
      have Nfin := Lib.hid (nw_six Nz.out (b := w.heap.size + 1) (by omega) (.int .i64 (L : Int)) (.int .i64 (V : Int)) (.float .f32 C) (.float .f32 R) (.slice (some ⟨w.heap.size + 3, 0, none⟩) k k) (.slice va ne vc))
      go_wp2_with fail
      exact bodyPost_ret (v := .agg #[.int .i64 (L : Int), .int .i64 (V : Int), .float .f32 C, .float .f32 R, .slice (some ⟨w.heap.size + 3, 0, none⟩) k k, .slice va ne vc]) (by simp [results, Tryz.results37, go_sem, r0, r1, r2, r3, r4, r5, f0]) rfl
        ⟨_, _, rfl, Fin.out.1.base (by omega), own_base Fin.out.2 (by omega), Nfin.out⟩

/-! ### a score is shifted -/
/-- a box that is a score -/
def ScX (w : World) (b : Nat) : Prop := ∃ cs f, w.heap[b]? = some (.cells cs 27 f)
theorem ScX.new (w : World) (cs : Array Value) : ScX (w.alloc (.cells cs 27 (0, 0))) w.heap.size := ⟨cs, (0, 0), by show (w.heap.push _)[w.heap.size]? = _; simp⟩
theorem ScX.of {w w' : World} {b : Nat} (h : ScX w b) (hb : w'.heap[b]? = w.heap[b]?) : ScX w' b := by
  obtain ⟨cs, f, e⟩ := h
  exact ⟨cs, f, by rw [hb, e]⟩
theorem ScX.lt {w : World} {b : Nat} (h : ScX w b) : b < w.heap.size := by
  obtain ⟨cs, f, e⟩ := h
  exact (Array.getElem?_eq_some_iff.1 e).1
theorem ScX.nw {w w' : World} {b : Nat} (h : ScX w b) (k : Nw w w') : ScX w' b := h.of (k.block b h.lt (by simp))
theorem ScX.set {w : World} {b : Nat} (h : ScX w b) (c o : Nat) (u : Value) : ScX (w.setCell ⟨c, o, none⟩ u) b := by
  by_cases e : c = b
  · subst e
    obtain ⟨cs, f, e⟩ := h
    refine ⟨cs.setIfInBounds o u, f, ?_⟩
    simp [World.setCell, Array.getElem?_modify, e]
  · exact h.of (Below.heap_setCell _ _ _ _ (fun h => e h.symm))
theorem own_scx {w : World} {base : Nat} {E : TypeId} {size n c : Nat} {v : Value} {xs : List Value} (h : w.ownsRow base E size v n xs) (hB : ScX w c) (hE : E ≠ 27) : v.ownBlock = none ∨ v.ownBlock ≠ some c := by
  obtain ⟨cs, f, e⟩ := hB
  rcases h.2 with ⟨rfl, _⟩ | ⟨g, cap, cur, rfl, hb, hg, _⟩
  · exact .inl rfl
  · right
    intro e2
    simp [Value.ownBlock] at e2
    subst e2
    rw [hg] at e
    injection e with e
    injection e with e1 e2 e3
    exact hE e2
theorem ScX.grown {w w' : World} {base : Nat} {E : TypeId} {size n b : Nat} {v : Value} {xs : List Value} (h : ScX w b) (ho : w.ownsRow base E size v n xs) (hE : E ≠ 27) (hg : w.grownBy w' v.ownBlock) : ScX w' b :=
  h.of (hg.block b h.lt (fun e => by rcases own_scx ho h hE with h2 | h2; rw [h2] at e; cases e; exact h2 e.symm))
theorem own_sets {w : World} {base : Nat} {E : TypeId} {size n c : Nat} {v : Value} {xs : List Value} (h : w.ownsRow base E size v n xs) (hB : ScX w c) (hE : E ≠ 27) (o : Nat) (u : Value) : (w.setCell ⟨c, o, none⟩ u).ownsRow base E size v n xs :=
  h.kept ((Kp.refl c w).set o u) (own_scx h hB hE)

theorem BodsR.sets {w : World} {base c : Nat} {sv : Value} {bs : List (List M4)} (h : BodsR w base sv bs) (hB : ScX w c) (o : Nat) (u : Value) : BodsR (w.setCell ⟨c, o, none⟩ u) base sv bs := by
  obtain ⟨vs, k1, k2⟩ := h
  exact ⟨vs, own_sets k1 hB (by decide) o u, fun p r hp => by obtain ⟨v, a, b⟩ := k2 p r hp; exact ⟨v, a, own_sets b hB (by decide) o u⟩⟩

def lateL (by' : Nat) (es : List Ev6) (k : Nat) : List Ev6 := (es.take k).map (Ev6.late by') ++ es.drop k
theorem lateL_len (by' : Nat) (es : List Ev6) (k : Nat) : (lateL by' es k).length = es.length := by simp [lateL]; omega
theorem lateL_zero (by' : Nat) (es : List Ev6) : lateL by' es 0 = es := by simp [lateL]
theorem lateL_full (by' : Nat) (es : List Ev6) (n : Nat) (h : n = es.length) : lateL by' es n = es.map (Ev6.late by') := by
  subst h
  simp [lateL]
theorem lateL_at (by' : Nat) (es : List Ev6) (k : Nat) (e : Ev6) (h : es[k]? = some e) : (lateL by' es k)[k]? = some e := by
  obtain ⟨hk, he⟩ := List.getElem?_eq_some_iff.1 h
  unfold lateL
  rw [List.getElem?_append_right (by simp; omega)]
  simp only [List.length_map, List.length_take, Nat.min_eq_left (Nat.le_of_lt hk), Nat.sub_self, List.getElem?_drop, Nat.add_zero, h]
theorem lateL_set (by' : Nat) (es : List Ev6) (k : Nat) (e : Ev6) (h : es[k]? = some e) : (lateL by' es k).set k (e.late by') = lateL by' es (k + 1) := by
  obtain ⟨hk, he⟩ := List.getElem?_eq_some_iff.1 h
  unfold lateL
  rw [List.take_succ_eq_append_getElem hk, he, List.drop_eq_getElem_cons hk, he, List.set_append_right _ _ (by simp; omega)]
  simp [Nat.min_eq_left (Nat.le_of_lt hk)]
theorem cellsE_set : ∀ (l : List Ev6) (k : Nat) (e e' : Ev6), l[k]? = some e → e'.k = e.k → e'.b = e.b → e'.s = e.s → e'.m = e.m → e'.f = e.f → (cellsE l).set (k * 6) (.int .i64 e'.t) = cellsE (l.set k e')
  | [], k, e, e', h, _, _, _, _, _ => by simp at h
  | x :: l, 0, e, e', h, h1, h2, h3, h4, h5 => by
    simp at h
    subst h
    simp [cellsE, Ev6.cells, h1, h2, h3, h4, h5]
  | x :: l, k + 1, e, e', h, h1, h2, h3, h4, h5 => by
    have ih := cellsE_set l k e e' (by simpa using h) h1 h2 h3 h4 h5
    have hl : x.cells.length = 6 := rfl
    simp only [cellsE, List.flatMap_cons, List.set_cons_succ] at ih ⊢
    rw [List.set_append_right _ _ (by rw [hl]; omega), hl, show (k + 1) * 6 - 6 = k * 6 from by omega, ih]
theorem late_ok {L nb by' : Nat} {e : Ev6} (h : e.ok L nb) : (e.late by').ok (L + by') nb := by
  obtain ⟨t0, t1, b0, b1, hk⟩ := h
  exact ⟨by show 0 ≤ e.t + (by' : Int); omega, by show e.t + (by' : Int) ≤ ((L + by' : Nat) : Int); omega, b0, b1, hk⟩

def ShiftP (L by' V C R : Nat) (bs : List (List M4)) (es : List Ev6) (w : World) (e : Ending) (w' : World) : Prop :=
  ∃ (sv ev : Value) (L' : Nat), L' = L + by' ∧ e = .returned (.tuple #[.agg #[.int .i64 (L' : Int), .int .i64 (V : Int), .float .f32 C, .float .f32 R, sv, ev], .bool true]) ∧ ScoV w' w.heap.size L' V C R bs (es.map (Ev6.late by')) sv ev ∧ Nw w w'
end Go.Proofs.YtiakcibeobbonaaGreat

/- A player hands its stream over: stream, Advance (FnCut).
   Conditions: those that each statement names. -/
namespace Go.Proofs.YtiakcibeobbonaaGreat
set_option linter.unusedSimpArgs false
set_option linter.unusedVariables false
open Go Go.RowKit

/-- a box that is a stream -/
def SmX (w : World) (b : Nat) : Prop := ∃ cs f, w.heap[b]? = some (.cells cs 31 f)
theorem SmX.new (w : World) (cs : Array Value) : SmX (w.alloc (.cells cs 31 (0, 0))) w.heap.size := ⟨cs, (0, 0), by show (w.heap.push _)[w.heap.size]? = _; simp⟩
theorem SmX.of {w w' : World} {b : Nat} (h : SmX w b) (hb : w'.heap[b]? = w.heap[b]?) : SmX w' b := by
  obtain ⟨cs, f, e⟩ := h
  exact ⟨cs, f, by rw [hb, e]⟩
theorem SmX.lt {w : World} {b : Nat} (h : SmX w b) : b < w.heap.size := by
  obtain ⟨cs, f, e⟩ := h
  exact (Array.getElem?_eq_some_iff.1 e).1
theorem SmX.nw {w w' : World} {b : Nat} (h : SmX w b) (k : Nw w w') : SmX w' b := h.of (k.block b h.lt (by simp))
theorem SmX.set {w : World} {b : Nat} (h : SmX w b) (c o : Nat) (u : Value) : SmX (w.setCell ⟨c, o, none⟩ u) b := by
  by_cases e : c = b
  · subst e
    obtain ⟨cs, f, e⟩ := h
    refine ⟨cs.setIfInBounds o u, f, ?_⟩
    simp [World.setCell, Array.getElem?_modify, e]
  · exact h.of (Below.heap_setCell _ _ _ _ (fun h => e h.symm))
theorem own_smx {w : World} {base : Nat} {E : TypeId} {size n c : Nat} {v : Value} {xs : List Value} (h : w.ownsRow base E size v n xs) (hB : SmX w c) (hE : E ≠ 31) : v.ownBlock = none ∨ v.ownBlock ≠ some c := by
  obtain ⟨cs, f, e⟩ := hB
  rcases h.2 with ⟨rfl, _⟩ | ⟨g, cap, cur, rfl, hb, hg, _⟩
  · exact .inl rfl
  · right
    intro e2
    simp [Value.ownBlock] at e2
    subst e2
    rw [hg] at e
    injection e with e
    injection e with e1 e2 e3
    exact hE e2
theorem SmX.grown {w w' : World} {base : Nat} {E : TypeId} {size n b : Nat} {v : Value} {xs : List Value} (h : SmX w b) (ho : w.ownsRow base E size v n xs) (hE : E ≠ 31) (hg : w.grownBy w' v.ownBlock) : SmX w' b :=
  h.of (hg.block b h.lt (fun e => by rcases own_smx ho h hE with h2 | h2; rw [h2] at e; cases e; exact h2 e.symm))
theorem own_setm {w : World} {base : Nat} {E : TypeId} {size n c : Nat} {v : Value} {xs : List Value} (h : w.ownsRow base E size v n xs) (hB : SmX w c) (hE : E ≠ 31) (o : Nat) (u : Value) : (w.setCell ⟨c, o, none⟩ u).ownsRow base E size v n xs :=
  h.kept ((Kp.refl c w).set o u) (own_smx h hB hE)

theorem info_voice : (Tryz.prog.info? 59).map (fun i => (i.zero, i.size, i.bytes)) = some (some (.agg #[.int .i64 0, .slice none 0 0, .slice none 0 0, .slice none 0 0]), 4, 80) := by kernel_rfl
theorem ten_fz {w : World} {b : Nat} {v0 v1 v2 v3 v4 v5 v6 v7 v8 v9 : Value} (h : HasC w b [v0, v1, v2, v3, v4, v5, v6, v7, v8, v9]) :
    w.frozen? ⟨b, 0, none⟩ = false ∧ w.frozen? ⟨b, 1, none⟩ = false ∧ w.frozen? ⟨b, 2, none⟩ = false ∧ w.frozen? ⟨b, 3, none⟩ = false ∧ w.frozen? ⟨b, 4, none⟩ = false ∧ w.frozen? ⟨b, 5, none⟩ = false ∧ w.frozen? ⟨b, 6, none⟩ = false ∧ w.frozen? ⟨b, 7, none⟩ = false ∧ w.frozen? ⟨b, 8, none⟩ = false ∧ w.frozen? ⟨b, 9, none⟩ = false :=
  ⟨(h.2 0 _ rfl).2, (h.2 1 _ rfl).2, (h.2 2 _ rfl).2, (h.2 3 _ rfl).2, (h.2 4 _ rfl).2, (h.2 5 _ rfl).2, (h.2 6 _ rfl).2, (h.2 7 _ rfl).2, (h.2 8 _ rfl).2, (h.2 9 _ rfl).2⟩
theorem ten_store {w : World} {b : Nat} {y0 y1 y2 y3 y4 y5 y6 y7 y8 y9 : Value} (h : HasC w b [y0, y1, y2, y3, y4, y5, y6, y7, y8, y9]) (hs : SmX w b) (x0 x1 x2 x3 x4 x5 x6 x7 x8 x9 : Value) :
    HasC (World.setCell (World.setCell (World.setCell (World.setCell (World.setCell (World.setCell (World.setCell (World.setCell (World.setCell (World.setCell w ⟨b, 0, none⟩ x0) ⟨b, 1, none⟩ x1) ⟨b, 2, none⟩ x2) ⟨b, 3, none⟩ x3) ⟨b, 4, none⟩ x4) ⟨b, 5, none⟩ x5) ⟨b, 6, none⟩ x6) ⟨b, 7, none⟩ x7) ⟨b, 8, none⟩ x8) ⟨b, 9, none⟩ x9) b [x0, x1, x2, x3, x4, x5, x6, x7, x8, x9] ∧ SmX (World.setCell (World.setCell (World.setCell (World.setCell (World.setCell (World.setCell (World.setCell (World.setCell (World.setCell (World.setCell w ⟨b, 0, none⟩ x0) ⟨b, 1, none⟩ x1) ⟨b, 2, none⟩ x2) ⟨b, 3, none⟩ x3) ⟨b, 4, none⟩ x4) ⟨b, 5, none⟩ x5) ⟨b, 6, none⟩ x6) ⟨b, 7, none⟩ x7) ⟨b, 8, none⟩ x8) ⟨b, 9, none⟩ x9) b ∧ (∀ base (E : TypeId) size n v xs, E ≠ 31 → w.ownsRow base E size v n xs → ((World.setCell (World.setCell (World.setCell (World.setCell (World.setCell (World.setCell (World.setCell (World.setCell (World.setCell (World.setCell w ⟨b, 0, none⟩ x0) ⟨b, 1, none⟩ x1) ⟨b, 2, none⟩ x2) ⟨b, 3, none⟩ x3) ⟨b, 4, none⟩ x4) ⟨b, 5, none⟩ x5) ⟨b, 6, none⟩ x6) ⟨b, 7, none⟩ x7) ⟨b, 8, none⟩ x8) ⟨b, 9, none⟩ x9)).ownsRow base E size v n xs) ∧
    (∀ c cs, b ≠ c → HasC w c cs → HasC (World.setCell (World.setCell (World.setCell (World.setCell (World.setCell (World.setCell (World.setCell (World.setCell (World.setCell (World.setCell w ⟨b, 0, none⟩ x0) ⟨b, 1, none⟩ x1) ⟨b, 2, none⟩ x2) ⟨b, 3, none⟩ x3) ⟨b, 4, none⟩ x4) ⟨b, 5, none⟩ x5) ⟨b, 6, none⟩ x6) ⟨b, 7, none⟩ x7) ⟨b, 8, none⟩ x8) ⟨b, 9, none⟩ x9) c cs) ∧ ∀ w0, Nw w0 w → w0.heap.size ≤ b → Nw w0 (World.setCell (World.setCell (World.setCell (World.setCell (World.setCell (World.setCell (World.setCell (World.setCell (World.setCell (World.setCell w ⟨b, 0, none⟩ x0) ⟨b, 1, none⟩ x1) ⟨b, 2, none⟩ x2) ⟨b, 3, none⟩ x3) ⟨b, 4, none⟩ x4) ⟨b, 5, none⟩ x5) ⟨b, 6, none⟩ x6) ⟨b, 7, none⟩ x7) ⟨b, 8, none⟩ x8) ⟨b, 9, none⟩ x9) := by
  refine ⟨?_, ?_, fun base E size n v xs hE ho => ?_, fun c cs hc hh => ?_, fun w0 hn hb => ?_⟩
  · exact (((((((((h.set 0 x0).set 1 x1).set 2 x2).set 3 x3).set 4 x4).set 5 x5).set 6 x6).set 7 x7).set 8 x8).set 9 x9
  · exact (((((((((hs.set b 0 x0).set b 1 x1).set b 2 x2).set b 3 x3).set b 4 x4).set b 5 x5).set b 6 x6).set b 7 x7).set b 8 x8).set b 9 x9
  ·
    have o0 := own_setm ho hs hE 0 x0
    have s0 := hs.set b 0 x0
    have o1 := own_setm o0 s0 hE 1 x1
    have s1 := s0.set b 1 x1
    have o2 := own_setm o1 s1 hE 2 x2
    have s2 := s1.set b 2 x2
    have o3 := own_setm o2 s2 hE 3 x3
    have s3 := s2.set b 3 x3
    have o4 := own_setm o3 s3 hE 4 x4
    have s4 := s3.set b 4 x4
    have o5 := own_setm o4 s4 hE 5 x5
    have s5 := s4.set b 5 x5
    have o6 := own_setm o5 s5 hE 6 x6
    have s6 := s5.set b 6 x6
    have o7 := own_setm o6 s6 hE 7 x7
    have s7 := s6.set b 7 x7
    have o8 := own_setm o7 s7 hE 8 x8
    have s8 := s7.set b 8 x8
    have o9 := own_setm o8 s8 hE 9 x9
    have s9 := s8.set b 9 x9
    exact o9
  · exact (((((((((hh.sete (p := ⟨b, 0, none⟩) hc x0).sete (p := ⟨b, 1, none⟩) hc x1).sete (p := ⟨b, 2, none⟩) hc x2).sete (p := ⟨b, 3, none⟩) hc x3).sete (p := ⟨b, 4, none⟩) hc x4).sete (p := ⟨b, 5, none⟩) hc x5).sete (p := ⟨b, 6, none⟩) hc x6).sete (p := ⟨b, 7, none⟩) hc x7).sete (p := ⟨b, 8, none⟩) hc x8).sete (p := ⟨b, 9, none⟩) hc x9
  · exact (((((((((hn.set (p := ⟨b, 0, none⟩) hb x0).set (p := ⟨b, 1, none⟩) hb x1).set (p := ⟨b, 2, none⟩) hb x2).set (p := ⟨b, 3, none⟩) hb x3).set (p := ⟨b, 4, none⟩) hb x4).set (p := ⟨b, 5, none⟩) hb x5).set (p := ⟨b, 6, none⟩) hb x6).set (p := ⟨b, 7, none⟩) hb x7).set (p := ⟨b, 8, none⟩) hb x8).set (p := ⟨b, 9, none⟩) hb x9
theorem bods_ten {w w' : World} {base : Nat} {sv : Value} {bs : List (List M4)} (hk : ∀ base (E : TypeId) size n v xs, E ≠ 31 → w.ownsRow base E size v n xs → w'.ownsRow base E size v n xs) (h : BodsR w base sv bs) : BodsR w' base sv bs := by
  obtain ⟨vs, k1, k2⟩ := h
  exact ⟨vs, hk _ _ _ _ _ _ (by decide) k1, fun p r hp => by obtain ⟨v, a, b⟩ := k2 p r hp; exact ⟨v, a, hk _ _ _ _ _ _ (by decide) b⟩⟩
theorem bods_setm {w : World} {base b o : Nat} {u : Value} {sv : Value} {bs : List (List M4)} (h : BodsR w base sv bs) (hs : SmX w b) : BodsR (w.setCell ⟨b, o, none⟩ u) base sv bs := by
  obtain ⟨vs, k1, k2⟩ := h
  exact ⟨vs, own_setm k1 hs (by decide) o u, fun p r hp => by obtain ⟨v, a, c⟩ := k2 p r hp; exact ⟨v, a, own_setm c hs (by decide) o u⟩⟩
theorem ten_low {w : World} {b : Nat} (x0 x1 x2 x3 x4 x5 x6 x7 x8 x9 : Value) :
    (∀ base (E : TypeId) size n v xs, b < base → w.ownsRow base E size v n xs → ((World.setCell (World.setCell (World.setCell (World.setCell (World.setCell (World.setCell (World.setCell (World.setCell (World.setCell (World.setCell w ⟨b, 0, none⟩ x0) ⟨b, 1, none⟩ x1) ⟨b, 2, none⟩ x2) ⟨b, 3, none⟩ x3) ⟨b, 4, none⟩ x4) ⟨b, 5, none⟩ x5) ⟨b, 6, none⟩ x6) ⟨b, 7, none⟩ x7) ⟨b, 8, none⟩ x8) ⟨b, 9, none⟩ x9)).ownsRow base E size v n xs) ∧ ∀ w0, Nw w0 w → w0.heap.size ≤ b → Nw w0 (World.setCell (World.setCell (World.setCell (World.setCell (World.setCell (World.setCell (World.setCell (World.setCell (World.setCell (World.setCell w ⟨b, 0, none⟩ x0) ⟨b, 1, none⟩ x1) ⟨b, 2, none⟩ x2) ⟨b, 3, none⟩ x3) ⟨b, 4, none⟩ x4) ⟨b, 5, none⟩ x5) ⟨b, 6, none⟩ x6) ⟨b, 7, none⟩ x7) ⟨b, 8, none⟩ x8) ⟨b, 9, none⟩ x9) := by
  refine ⟨fun base E size n v xs hb ho => ?_, fun w0 hn hb => ?_⟩
  · exact own_set (p := ⟨b, 9, none⟩) (own_set (p := ⟨b, 8, none⟩) (own_set (p := ⟨b, 7, none⟩) (own_set (p := ⟨b, 6, none⟩) (own_set (p := ⟨b, 5, none⟩) (own_set (p := ⟨b, 4, none⟩) (own_set (p := ⟨b, 3, none⟩) (own_set (p := ⟨b, 2, none⟩) (own_set (p := ⟨b, 1, none⟩) (own_set (p := ⟨b, 0, none⟩) ho hb x0) hb x1) hb x2) hb x3) hb x4) hb x5) hb x6) hb x7) hb x8) hb x9
  · exact (((((((((hn.set (p := ⟨b, 0, none⟩) hb x0).set (p := ⟨b, 1, none⟩) hb x1).set (p := ⟨b, 2, none⟩) hb x2).set (p := ⟨b, 3, none⟩) hb x3).set (p := ⟨b, 4, none⟩) hb x4).set (p := ⟨b, 5, none⟩) hb x5).set (p := ⟨b, 6, none⟩) hb x6).set (p := ⟨b, 7, none⟩) hb x7).set (p := ⟨b, 8, none⟩) hb x8).set (p := ⟨b, 9, none⟩) hb x9
theorem cellsVo_snoc (zs : List (Prt × Loc)) (k : Nat) (z : Prt × Loc) (h : zs[k]? = some z) : cellsVo (zs.take (k + 1)) = cellsVo (zs.take k) ++ cellV z := by
  rw [List.take_add_one, h]
  rw [show zs.take k ++ (some z).toList = zs.take k ++ [z] from rfl, cellsVo_append]
  simp [cellsVo]
def StreamP (W1 : World) (L V C R : Nat) (bs : List (List M4)) (es : List Ev6) (i d env : Nat) (zs : List (Prt × Loc)) (w : World) (e : Ending) (w' : World) : Prop :=
  ∃ sv ev vv, e = .returned (strA L V C R sv ev i d vv env) ∧ ScoV w' W1.heap.size L V C R bs es sv ev ∧ VoicesR w' W1.heap.size vv zs ∧ Nw w w'
def StreamS (W1 : World) (q base L V C R : Nat) (bs : List (List M4)) (es : List Ev6) (i d env : Nat) (w : World) (u : Value) (wx : World) : Prop :=
  ∃ (b3 : Nat) (sv ev : Value), u = .pointer (some ⟨b3, 0, none⟩) ∧ w.heap.size < b3 ∧ HasC wx b3 (strC L V C R sv ev i d (.slice none 0 0) env) ∧ SmX wx b3 ∧ BodsR wx (w.heap.size + 1) sv bs ∧ wx.ownsRow (w.heap.size + 1) 68 6 ev es.length (cellsE es) ∧
    HasC wx w.heap.size [.int .i64 0, .int .i64 0, .float .f32 0, .float .f32 0, .slice none 0 0, .slice none 0 0, .int .i64 0, .int .i64 0, .slice none 0 0, .float .f32 0] ∧ Nw w wx
set_option maxHeartbeats 6400000 in
set_option maxRecDepth 100000 in
theorem stream_ok {w0 W1 : World} {q base L V C R : Nat} {bs : List (List M4)} {es : List Ev6} {sv ev eo : Value} {i d b env : Nat} {pv : Value} {zs : List (Prt × Loc)} {w : World} (hF : PlF w0 W1 q base L V C R bs es sv ev eo) (h : PlS W1 q L V C R sv ev eo i d b pv env zs w) (hz : zs.length ≤ 1000) :
    Calls Tryz.prog 17 #[.pointer (some ⟨q, 0, none⟩)] w (StreamP W1 L V C R bs es i d env zs w) := by
  obtain ⟨nb, hnb⟩ : ∃ nb, nb = bs.length := ⟨_, rfl⟩
  obtain ⟨ne, hne⟩ : ∃ ne, ne = es.length := ⟨_, rfl⟩
  obtain ⟨⟨sa, sc, rfl⟩, ea, ec, rfl⟩ := hF.sco.shape
  rw [← hnb, ← hne] at hF h
  obtain ⟨w1, hw1⟩ : ∃ w1, w1 = w.alloc (.cells #[.int .i64 0, .int .i64 0, .float .f32 0, .float .f32 0, .slice none 0 0, .slice none 0 0, .int .i64 0, .int .i64 0, .slice none 0 0, .float .f32 0] 31 (0, 0)) := ⟨_, rfl⟩
  have N1 := Lib.hid (show Nw w w1 from by rw [hw1]; exact (Nw.refl w).alloc _)
  have Z1 := Lib.hid (show HasC w1 w.heap.size [.int .i64 0, .int .i64 0, .float .f32 0, .float .f32 0, .slice none 0 0, .slice none 0 0, .int .i64 0, .int .i64 0, .slice none 0 0, .float .f32 0] from by rw [hw1]; exact HasC.newB w _ _)
  have hs1 : w.heap.size + 1 ≤ w1.heap.size := by rw [hw1]; simp
  have HF := Lib.hid hF
  have H0 := Lib.hid h
  have H := Lib.hid (h.nw N1.out)
  have Hn := Lib.hid (And.intro hnb hne)
  have Hw := Lib.hid hw1
  clear hF h hnb hne hw1
  go_enter Tryz.func17, Tryz.ntmps17
  go_upto_region 1 with fail
  rw [← Hw.out]
  clear Hw
  go_cut [3] (fun u wx => StreamS W1 q base L V C R bs es i d env w u wx)
  case first =>
    have KeepS := Lib.hid (show ∀ W', Nw w1 W' → W'.cell? ⟨q, 0, none⟩ = some (.int .i64 (L : Int)) ∧ W'.cell? ⟨q, 1, none⟩ = some (.int .i64 (V : Int)) ∧ W'.cell? ⟨q, 2, none⟩ = some (.float .f32 C) ∧ W'.cell? ⟨q, 3, none⟩ = some (.float .f32 R) ∧ W'.cell? ⟨q, 4, none⟩ = some (.slice sa nb sc) ∧ W'.cell? ⟨q, 5, none⟩ = some (.slice ea ne ec) ∧ W'.cell? ⟨q, 7, none⟩ = some (.int .i64 (i : Int)) ∧ W'.cell? ⟨q, 8, none⟩ = some (.int .i64 (d : Int)) ∧ W'.cell? ⟨q, 11, none⟩ = some (.float .f32 env) from fun W' hW => by
      have x := (H.out.nw hW).box
      exact ⟨(x.2 0 _ rfl).1, (x.2 1 _ rfl).1, (x.2 2 _ rfl).1, (x.2 3 _ rfl).1, (x.2 4 _ rfl).1, (x.2 5 _ rfl).1, (x.2 7 _ rfl).1, (x.2 8 _ rfl).1, (x.2 11 _ rfl).1⟩)
    refine wp_region_held_drew (S := fun W' => W'.cell? ⟨q, 0, none⟩ = some (.int .i64 (L : Int)) ∧ W'.cell? ⟨q, 1, none⟩ = some (.int .i64 (V : Int)) ∧ W'.cell? ⟨q, 2, none⟩ = some (.float .f32 C) ∧ W'.cell? ⟨q, 3, none⟩ = some (.float .f32 R) ∧ W'.cell? ⟨q, 4, none⟩ = some (.slice sa nb sc) ∧ W'.cell? ⟨q, 5, none⟩ = some (.slice ea ne ec) ∧ W'.cell? ⟨q, 7, none⟩ = some (.int .i64 (i : Int)) ∧ W'.cell? ⟨q, 8, none⟩ = some (.int .i64 (d : Int)) ∧ W'.cell? ⟨q, 11, none⟩ = some (.float .f32 env)) (by kernel_rfl) (KeepS.out _ ((Nw.refl w1).draw 1)) (fun hHeld => ?_)
    refine wpAnyH_take (i := 0) (oi := _) (v := ?_) rfl (by kernel_rfl) (by kernel_rfl) (by kernel_rfl) (fun _ _ _ h => h) (_root_.Or.inl ⟨by rfl, ?_⟩) (by assumption) ?_
    rotate_left
    · intro w hSw
      (try dsimp only at hSw)
      go_simp
      all_goals with_reducible rfl
    try simp only [List.getElem_toArray, List.getElem_cons_succ, List.getElem_cons_zero, Act.put, List.setIfInBounds_toArray, List.set_cons_zero, List.set_cons_succ]
    refine wpAnyH_take (i := 1) (oi := _) (v := ?_) rfl (by kernel_rfl) (by kernel_rfl) (by kernel_rfl) (fun _ _ _ h => h) (_root_.Or.inl ⟨by rfl, ?_⟩) (by assumption) ?_
    rotate_left
    · intro w hSw
      (try dsimp only at hSw)
      go_simp
      all_goals with_reducible rfl
    try simp only [List.getElem_toArray, List.getElem_cons_succ, List.getElem_cons_zero, Act.put, List.setIfInBounds_toArray, List.set_cons_zero, List.set_cons_succ]
    refine wpAnyH_take (i := 2) (oi := _) (v := ?_) rfl (by kernel_rfl) (by kernel_rfl) (by kernel_rfl) (fun _ _ _ h => h) (_root_.Or.inl ⟨by rfl, ?_⟩) (by assumption) ?_
    rotate_left
    · intro w hSw
      (try dsimp only at hSw)
      go_simp
      all_goals with_reducible rfl
    try simp only [List.getElem_toArray, List.getElem_cons_succ, List.getElem_cons_zero, Act.put, List.setIfInBounds_toArray, List.set_cons_zero, List.set_cons_succ]
    refine wpAnyH_take (i := 3) (oi := _) (v := ?_) rfl (by kernel_rfl) (by kernel_rfl) (by kernel_rfl) (fun _ _ _ h => h) (_root_.Or.inl ⟨by rfl, ?_⟩) (by assumption) ?_
    rotate_left
    · intro w hSw
      (try dsimp only at hSw)
      go_simp
      all_goals with_reducible rfl
    try simp only [List.getElem_toArray, List.getElem_cons_succ, List.getElem_cons_zero, Act.put, List.setIfInBounds_toArray, List.set_cons_zero, List.set_cons_succ]
    refine wpAnyH_take (i := 5) (oi := _) (v := ?_) rfl (by kernel_rfl) (by kernel_rfl) (by kernel_rfl) (fun _ _ _ h => h) (_root_.Or.inl ⟨by rfl, ?_⟩) (by assumption) ?_
    rotate_left
    · intro w hSw
      (try dsimp only at hSw)
      go_simp
      all_goals with_reducible rfl
    try simp only [List.getElem_toArray, List.getElem_cons_succ, List.getElem_cons_zero, Act.put, List.setIfInBounds_toArray, List.set_cons_zero, List.set_cons_succ]
    refine wpAnyH_take (i := 6) (oi := _) (v := ?_) rfl (by kernel_rfl) (by kernel_rfl) (by kernel_rfl) (fun _ _ _ h => h) (_root_.Or.inl ⟨by rfl, ?_⟩) (by assumption) ?_
    rotate_left
    · intro w hSw
      (try dsimp only at hSw)
      go_simp
      all_goals with_reducible rfl
    try simp only [List.getElem_toArray, List.getElem_cons_succ, List.getElem_cons_zero, Act.put, List.setIfInBounds_toArray, List.set_cons_zero, List.set_cons_succ]
    refine wpAnyH_take (i := 7) (oi := _) (v := ?_) rfl (by kernel_rfl) (by kernel_rfl) (by kernel_rfl) (fun _ _ _ h => h) (_root_.Or.inl ⟨by rfl, ?_⟩) (by assumption) ?_
    rotate_left
    · intro w hSw
      (try dsimp only at hSw)
      go_simp
      all_goals with_reducible rfl
    try simp only [List.getElem_toArray, List.getElem_cons_succ, List.getElem_cons_zero, Act.put, List.setIfInBounds_toArray, List.set_cons_zero, List.set_cons_succ]
    refine wpAnyH_take (i := 8) (oi := _) (v := ?_) rfl (by kernel_rfl) (by kernel_rfl) (by kernel_rfl) (fun _ _ _ h => h) (_root_.Or.inl ⟨by rfl, ?_⟩) (by assumption) ?_
    rotate_left
    · intro w hSw
      (try dsimp only at hSw)
      go_simp
      all_goals with_reducible rfl
    try simp only [List.getElem_toArray, List.getElem_cons_succ, List.getElem_cons_zero, Act.put, List.setIfInBounds_toArray, List.set_cons_zero, List.set_cons_succ]
    refine wpAnyH_take (i := 9) (oi := _) (v := ?_) rfl (by kernel_rfl) (by kernel_rfl) (by kernel_rfl) (fun _ _ _ h => h) (_root_.Or.inl ⟨by rfl, ?_⟩) (by assumption) ?_
    rotate_left
    · intro w hSw
      (try dsimp only at hSw)
      go_simp
      all_goals with_reducible rfl
    try simp only [List.getElem_toArray, List.getElem_cons_succ, List.getElem_cons_zero, Act.put, List.setIfInBounds_toArray, List.set_cons_zero, List.set_cons_succ]
    refine wpAnyH_take (i := 10) (oi := _) (v := ?_) rfl (by kernel_rfl) (by kernel_rfl) (by kernel_rfl) (fun _ _ _ h => h) (_root_.Or.inl ⟨by rfl, ?_⟩) (by assumption) ?_
    rotate_left
    · intro w hSw
      (try dsimp only at hSw)
      go_simp
      all_goals with_reducible rfl
    try simp only [List.getElem_toArray, List.getElem_cons_succ, List.getElem_cons_zero, Act.put, List.setIfInBounds_toArray, List.set_cons_zero, List.set_cons_succ]
    refine wpAnyH_take (i := 11) (oi := _) (v := ?_) rfl (by kernel_rfl) (by kernel_rfl) (by kernel_rfl) (fun _ _ _ h => h) (_root_.Or.inl ⟨by rfl, ?_⟩) (by assumption) ?_
    rotate_left
    · intro w hSw
      (try dsimp only at hSw)
      go_simp
      all_goals with_reducible rfl
    try simp only [List.getElem_toArray, List.getElem_cons_succ, List.getElem_cons_zero, Act.put, List.setIfInBounds_toArray, List.set_cons_zero, List.set_cons_succ]
    refine wpAnyH_take (i := 12) (oi := _) (v := ?_) rfl (by kernel_rfl) (by kernel_rfl) (by kernel_rfl) (fun _ _ _ h => h) (_root_.Or.inl ⟨by rfl, ?_⟩) (by assumption) ?_
    rotate_left
    · intro w hSw
      (try dsimp only at hSw)
      go_simp
      all_goals with_reducible rfl
    try simp only [List.getElem_toArray, List.getElem_cons_succ, List.getElem_cons_zero, Act.put, List.setIfInBounds_toArray, List.set_cons_zero, List.set_cons_succ]
    refine wpAnyH_take (i := 13) (oi := _) (v := ?_) rfl (by kernel_rfl) (by kernel_rfl) (by kernel_rfl) (fun _ _ _ h => h) (_root_.Or.inl ⟨by rfl, ?_⟩) (by assumption) ?_
    rotate_left
    · intro w hSw
      (try dsimp only at hSw)
      go_simp
      all_goals with_reducible rfl
    try simp only [List.getElem_toArray, List.getElem_cons_succ, List.getElem_cons_zero, Act.put, List.setIfInBounds_toArray, List.set_cons_zero, List.set_cons_succ]
    refine wpAnyH_take (i := 14) (oi := _) (v := ?_) rfl (by kernel_rfl) (by kernel_rfl) (by kernel_rfl) (fun _ _ _ h => h) (_root_.Or.inl ⟨by rfl, ?_⟩) (by assumption) ?_
    rotate_left
    · intro w hSw
      (try dsimp only at hSw)
      go_simp
      all_goals with_reducible rfl
    try simp only [List.getElem_toArray, List.getElem_cons_succ, List.getElem_cons_zero, Act.put, List.setIfInBounds_toArray, List.set_cons_zero, List.set_cons_succ]
    refine wpAnyH_take (i := 15) (oi := _) (v := ?_) rfl (by kernel_rfl) (by kernel_rfl) (by kernel_rfl) (fun _ _ _ h => h) (_root_.Or.inl ⟨by rfl, ?_⟩) (by assumption) ?_
    rotate_left
    · intro w hSw
      (try dsimp only at hSw)
      go_simp
      all_goals with_reducible rfl
    try simp only [List.getElem_toArray, List.getElem_cons_succ, List.getElem_cons_zero, Act.put, List.setIfInBounds_toArray, List.set_cons_zero, List.set_cons_succ]
    refine wpAnyH_take (i := 16) (oi := _) (v := ?_) rfl (by kernel_rfl) (by kernel_rfl) (by kernel_rfl) (fun _ _ _ h => h) (_root_.Or.inl ⟨by rfl, ?_⟩) (by assumption) ?_
    rotate_left
    · intro w hSw
      (try dsimp only at hSw)
      go_simp
      all_goals with_reducible rfl
    try simp only [List.getElem_toArray, List.getElem_cons_succ, List.getElem_cons_zero, Act.put, List.setIfInBounds_toArray, List.set_cons_zero, List.set_cons_succ]
    refine wpAnyH_ready (rs := [4, 18]) (by kernel_rfl) (by simp) ?_
    refine AllReadyH.cons (o := _) rfl (fun K hK => ?_) ?_
    · go_simp
      go_at_call 37
      refine (copyScore_ok base L V C R bs es _ _ _ (HF.out.sc ((H.out.nw ((Nw.refl w1).draw 1)).kp))).mono ?_
      rintro e w3 ⟨sv4, ev4, rfl, hb4, he4, n4⟩
      obtain ⟨ba, bc, hsv4⟩ := hb4.shape
      rw [← Hn.out.1] at hsv4
      subst hsv4
      rw [← Hn.out.2] at he4
      obtain ⟨va, vc, rfl⟩ := own_shape' he4
      have N3 := Lib.hid (show Nw w1 w3 from Nw.trans ((Nw.refl w1).draw 1) n4)
      have Bd3 := Lib.hid (hb4.base (show w.heap.size + 1 ≤ _ from hs1))
      have Ev3 := Lib.hid (own_base he4 (show w.heap.size + 1 ≤ _ from hs1))
      clear hb4 he4 n4 hHeld
      go_wp2_with fail
      refine hK.out _ _ ?_ (fun hHeld => ?_)
      · exact KeepS.out _ N3.out
      clear hK K
      try simp only [List.getElem_toArray, List.getElem_cons_succ, List.getElem_cons_zero, Act.put, List.setIfInBounds_toArray, List.set_cons_zero, List.set_cons_succ]
      refine wpAnyH_take (i := 17) (oi := _) (v := ?_) rfl (by kernel_rfl) (by kernel_rfl) (by kernel_rfl) (fun _ _ _ h => h) (_root_.Or.inl ⟨by rfl, ?_⟩) (by assumption) ?_
      rotate_left
      · intro w hSw
        (try dsimp only at hSw)
        go_simp
        all_goals with_reducible rfl
      try simp only [List.getElem_toArray, List.getElem_cons_succ, List.getElem_cons_zero, Act.put, List.setIfInBounds_toArray, List.set_cons_zero, List.set_cons_succ]
      refine wpAnyH_ready (rs := [18]) (by kernel_rfl) (by simp) ?_
      refine AllReadyH.cons (o := _) rfl (fun K hK => ?_) AllReadyH.nil
      have Na := (Nw.refl w3).alloc (.cells #[.int .i64 0, .int .i64 0, .float .f32 0, .float .f32 0, .slice none 0 0, .slice none 0 0, .int .i64 0, .int .i64 0, .slice none 0 0, .float .f32 0] 31 (0, 0))
      have N4 := Lib.hid (N3.out.trans Na)
      have Bx := Lib.hid (show HasC _ w3.heap.size [.int .i64 0, .int .i64 0, .float .f32 0, .float .f32 0, .slice none 0 0, .slice none 0 0, .int .i64 0, .int .i64 0, .slice none 0 0, .float .f32 0] from HasC.newB w3 #[.int .i64 0, .int .i64 0, .float .f32 0, .float .f32 0, .slice none 0 0, .slice none 0 0, .int .i64 0, .int .i64 0, .slice none 0 0, .float .f32 0] 31)
      clear hHeld
      go_simp
      refine hK.out _ _ ?_ (fun hHeld => ?_)
      · exact KeepS.out _ N4.out
      clear hK K
      try simp only [List.getElem_toArray, List.getElem_cons_succ, List.getElem_cons_zero, Act.put, List.setIfInBounds_toArray, List.set_cons_zero, List.set_cons_succ]
      refine wpAnyH_ready (rs := [19]) (by kernel_rfl) (by simp) ?_
      refine AllReadyH.cons (o := _) rfl (fun K hK => ?_) AllReadyH.nil
      obtain ⟨y0, y1, y2, y3, y4, y5, y6, y7, y8, y9⟩ := ten_at Bx.out
      have fz := ten_fz Bx.out
      obtain ⟨z0, z1, z2, z3, z4, z5, z6, z7, z8, z9⟩ := fz
      go_simp
      clear y0 y1 y2 y3 y4 y5 y6 y7 y8 y9 z0 z1 z2 z3 z4 z5 z6 z7 z8 z9
      have Na := (Nw.refl w3).alloc (.cells #[.int .i64 (L : Int), .int .i64 (V : Int), .float .f32 C, .float .f32 R, .slice ba nb bc, .slice va ne vc, .int .i64 (i : Int), .int .i64 (d : Int), .slice none 0 0, .float .f32 env] 31 (0, 0))
      have N5 := Lib.hid (N3.out.trans Na)
      have Fx := Lib.hid (show HasC _ w3.heap.size (strC L V C R (.slice ba nb bc) (.slice va ne vc) i d (.slice none 0 0) env) from HasC.newB w3 #[.int .i64 (L : Int), .int .i64 (V : Int), .float .f32 C, .float .f32 R, .slice ba nb bc, .slice va ne vc, .int .i64 (i : Int), .int .i64 (d : Int), .slice none 0 0, .float .f32 env] 31)
      have Sx := Lib.hid (SmX.new w3 #[.int .i64 (L : Int), .int .i64 (V : Int), .float .f32 C, .float .f32 R, .slice ba nb bc, .slice va ne vc, .int .i64 (i : Int), .int .i64 (d : Int), .slice none 0 0, .float .f32 env])
      have Bd4 := Lib.hid (Bd3.out.nw Na)
      have Ev4 := Lib.hid (own_nw Ev3.out Na)
      have Z4 := Lib.hid ((Z1.out.nw N3.out).nw Na)
      have hw3 : w.heap.size < w3.heap.size := by have := N3.out.size; omega
      clear Na hHeld
      refine hK.out _ _ ?_ (fun hHeld => ?_)
      · exact KeepS.out _ N5.out
      clear hK K hHeld
      try simp only [List.getElem_toArray, List.getElem_cons_succ, List.getElem_cons_zero, Act.put, List.setIfInBounds_toArray, List.set_cons_zero, List.set_cons_succ]
      refine wpAnyH_done (by kernel_rfl) ?_ _
      go_wp2_with fail
      go_meet
      exact ⟨w3.heap.size, _, _, rfl, hw3, Fx.out, Sx.out, Bd4.out, by rw [← Hn.out.2]; exact Ev4.out, Z4.out, N1.out.trans N5.out⟩
    refine AllReadyH.cons (o := _) rfl (fun K hK => ?_) AllReadyH.nil
    have Na := ((Nw.refl w1).draw 1).alloc (.cells #[.int .i64 0, .int .i64 0, .float .f32 0, .float .f32 0, .slice none 0 0, .slice none 0 0, .int .i64 0, .int .i64 0, .slice none 0 0, .float .f32 0] 31 (0, 0))
    have B2 := Lib.hid (show HasC _ w1.heap.size [.int .i64 0, .int .i64 0, .float .f32 0, .float .f32 0, .slice none 0 0, .slice none 0 0, .int .i64 0, .int .i64 0, .slice none 0 0, .float .f32 0] from HasC.newB (w1.drewN 1) #[.int .i64 0, .int .i64 0, .float .f32 0, .float .f32 0, .slice none 0 0, .slice none 0 0, .int .i64 0, .int .i64 0, .slice none 0 0, .float .f32 0] 31)
    have S2 := Lib.hid (show SmX _ w1.heap.size from SmX.new (w1.drewN 1) #[.int .i64 0, .int .i64 0, .float .f32 0, .float .f32 0, .slice none 0 0, .slice none 0 0, .int .i64 0, .int .i64 0, .slice none 0 0, .float .f32 0])
    clear hHeld
    go_simp
    refine hK.out _ _ ?_ (fun hHeld => ?_)
    · exact KeepS.out _ Na
    clear hK K
    try simp only [List.getElem_toArray, List.getElem_cons_succ, List.getElem_cons_zero, Act.put, List.setIfInBounds_toArray, List.set_cons_zero, List.set_cons_succ]
    refine wpAnyH_ready (rs := [4]) (by kernel_rfl) (by simp) ?_
    refine AllReadyH.cons (o := _) rfl (fun K hK => ?_) AllReadyH.nil
    go_simp
    go_at_call 37
    refine (copyScore_ok base L V C R bs es _ _ _ (HF.out.sc ((H.out.nw Na).kp))).mono ?_
    rintro e w3 ⟨sv4, ev4, rfl, hb4, he4, n4⟩
    obtain ⟨ba, bc, hsv4⟩ := hb4.shape
    rw [← Hn.out.1] at hsv4
    subst hsv4
    rw [← Hn.out.2] at he4
    obtain ⟨va, vc, rfl⟩ := own_shape' he4
    have N23 := Lib.hid n4
    have N3 := Lib.hid (show Nw w1 w3 from Nw.trans (Na) n4)
    have Bd3 := Lib.hid (hb4.base (show w.heap.size + 1 ≤ _ from (Nat.le_trans hs1 Na.size)))
    have Ev3 := Lib.hid (own_base he4 (show w.heap.size + 1 ≤ _ from (Nat.le_trans hs1 Na.size)))
    clear hb4 he4 n4 hHeld
    go_wp2_with fail
    refine hK.out _ _ ?_ (fun hHeld => ?_)
    · exact KeepS.out _ N3.out
    clear hK K
    try simp only [List.getElem_toArray, List.getElem_cons_succ, List.getElem_cons_zero, Act.put, List.setIfInBounds_toArray, List.set_cons_zero, List.set_cons_succ]
    refine wpAnyH_take (i := 17) (oi := _) (v := ?_) rfl (by kernel_rfl) (by kernel_rfl) (by kernel_rfl) (fun _ _ _ h => h) (_root_.Or.inl ⟨by rfl, ?_⟩) (by assumption) ?_
    rotate_left
    · intro w hSw
      (try dsimp only at hSw)
      go_simp
      all_goals with_reducible rfl
    try simp only [List.getElem_toArray, List.getElem_cons_succ, List.getElem_cons_zero, Act.put, List.setIfInBounds_toArray, List.set_cons_zero, List.set_cons_succ]
    refine wpAnyH_ready (rs := [19]) (by kernel_rfl) (by simp) ?_
    refine AllReadyH.cons (o := _) rfl (fun K hK => ?_) AllReadyH.nil
    have Bx := Lib.hid (B2.out.nw N23.out)
    have Sx := Lib.hid (S2.out.nw N23.out)
    obtain ⟨y0, y1, y2, y3, y4, y5, y6, y7, y8, y9⟩ := ten_at Bx.out
    have fz := ten_fz Bx.out
    obtain ⟨z0, z1, z2, z3, z4, z5, z6, z7, z8, z9⟩ := fz
    have T := Lib.hid (ten_store Bx.out Sx.out (.int .i64 (L : Int)) (.int .i64 (V : Int)) (.float .f32 C) (.float .f32 R) (.slice ba nb bc) (.slice va ne vc) (.int .i64 (i : Int)) (.int .i64 (d : Int)) (.slice none 0 0) (.float .f32 env))
    go_simp
    clear y0 y1 y2 y3 y4 y5 y6 y7 y8 y9 z0 z1 z2 z3 z4 z5 z6 z7 z8 z9 hHeld
    refine hK.out _ _ ?_ (fun hHeld => ?_)
    · exact KeepS.out _ (T.out.2.2.2.2 w1 N3.out (Nat.le_refl _))
    clear hK K hHeld
    try simp only [List.getElem_toArray, List.getElem_cons_succ, List.getElem_cons_zero, Act.put, List.setIfInBounds_toArray, List.set_cons_zero, List.set_cons_succ]
    refine wpAnyH_done (by kernel_rfl) ?_ _
    go_wp2_with fail
    go_meet
    exact ⟨w1.heap.size, _, _, rfl, by omega, T.out.1, T.out.2.1, bods_ten T.out.2.2.1 Bd3.out, by rw [← Hn.out.2]; exact T.out.2.2.1 _ _ _ _ _ _ (by decide) Ev3.out, T.out.2.2.2.1 _ _ (by omega) (Z1.out.nw N3.out), N1.out.trans (T.out.2.2.2.2 w1 N3.out (Nat.le_refl _))⟩
  case rest =>
    obtain ⟨b3, sv4, ev4, hu, hb3, hbx, hsx, hbd, hev, hz4, hn⟩ := hcut
    subst hu
    obtain ⟨ba, bc, rfl⟩ := hbd.shape
    obtain ⟨va, vc, rfl⟩ := own_shape' hev
    obtain ⟨i0, hi0, hy0, hy1, hy2⟩ := info_parts info_voice
    obtain ⟨pa, pc, rfl⟩ := own_shape' H0.out.par.row
    obtain ⟨n, hnz⟩ : ∃ n, n = zs.length := ⟨_, rfl⟩
    rw [← hnz] at H0 hz
    have Bx := Lib.hid hbx
    have Sx := Lib.hid hsx
    have Bd := Lib.hid hbd
    have Ev := Lib.hid hev
    have Zx := Lib.hid hz4
    have Nx := Lib.hid hn
    have Px := Lib.hid (H0.out.nw hn)
    have Hnz := Lib.hid hnz
    clear hbx hsx hbd hev hz4 hn H N1 Z1 hs1 hnz
    have c10 := (Px.out.box.2 10 _ rfl).1
    have hqs := Px.out.box.1
    go_wp2_with fail
    clear c10 hqs
    go_loopw [29] (fun c wr => ∃ (k : Nat) (vv : Value), k ≤ n ∧ c = .int .i64 (k : Int) ∧ HasC wr b3 (strC L V C R (.slice ba bs.length bc) (.slice va es.length vc) i d vv env) ∧ SmX wr b3 ∧ BodsR wr (w.heap.size + 1) (.slice ba bs.length bc) bs ∧
      wr.ownsRow (w.heap.size + 1) 68 6 (.slice va es.length vc) es.length (cellsE es) ∧ HasC wr w.heap.size [.int .i64 0, .int .i64 0, .float .f32 0, .float .f32 0, .slice none 0 0, .slice none 0 0, .int .i64 0, .int .i64 0, .slice none 0 0, .float .f32 0] ∧ Nw w wr ∧ wr.ownsRow (w.heap.size + 1) 59 4 vv k (cellsVo (zs.take k))) (fun c _ => n - (intOf c).toNat)
    case atStart => exact ⟨0, _, by omega, rfl, Bx.out, Sx.out, Bd.out, Ev.out, Zx.out, Nx.out, World.ownsRow_nil _ _ _ _⟩
    case round =>
      obtain ⟨k, vv, hk, rfl, hbx, hsx, hbd, hev, hz4, hn, hvr⟩ := hrel
      obtain ⟨ra, rc, rfl⟩ := own_shape' hvr
      have Br := Lib.hid hbx
      have Sr := Lib.hid hsx
      have Bdr := Lib.hid hbd
      have Er := Lib.hid hev
      have Zr := Lib.hid hz4
      have Nr := Lib.hid hn
      have Vr := Lib.hid hvr
      have Pr := Lib.hid (H0.out.nw hn)
      clear hbx hsx hbd hev hz4 hn hvr Bx Sx Bd Ev Zx Nx Px
      have hbr := Br.out.1
      by_cases hlt : k < n
      · obtain ⟨z, hzk⟩ : ∃ z, zs[k]? = some z := ⟨zs[k]'(by rw [← Hnz.out]; exact hlt), List.getElem?_eq_getElem _⟩
        obtain ⟨g, rfl, hpc, hpm⟩ : ∃ g, pa = some ⟨g, 0, none⟩ ∧ n ≤ pc ∧ pc ≤ maxLen := by
          rcases Pr.out.par.row.2 with ⟨h1, h2⟩ | ⟨g, cap, cur, h1, hb, hg, hc, hmx, hs, ht⟩
          · rw [← Hnz.out] at h2; omega
          · cases h1; exact ⟨g, rfl, by rw [Hnz.out]; exact hc, hmx⟩
        have hgr : g < wr.heap.size := (Pr.out.par.row.lt g rfl).2
        obtain ⟨⟨ma, mn, mc, hvm⟩, ia, xn, ic, hvi⟩ := Pr.out.par.shapes z (List.mem_of_getElem? hzk)
        obtain ⟨e0, e1, e2, e3, e4⟩ := part_at (by have o := Pr.out.par.row; rw [← Hnz.out] at o; exact o) Hnz.out hzk
        rw [hvm] at e1
        rw [hvi] at e3
        have Hzk := Lib.hid hzk
        have Hv := Lib.hid (And.intro hvm hvi)
        obtain ⟨wd, hwd⟩ : ∃ wd, wd = wr.alloc (.cells #[.int .i64 z.1.b, .slice ma mn mc, .slice (some ⟨z.2.g, 0, none⟩) z.1.ms.length z.1.ms.length, .slice ia xn ic, .int .i64 z.2.tr] 84 (0, 0)) := ⟨_, rfl⟩
        have Na := Lib.hid (show Nw wr wd from by rw [hwd]; exact (Nw.refl wr).alloc _)
        have Px := Lib.hid (show HasC wd wr.heap.size [.int .i64 z.1.b, .slice ma mn mc, .slice (some ⟨z.2.g, 0, none⟩) z.1.ms.length z.1.ms.length, .slice ia xn ic, .int .i64 z.2.tr] from by rw [hwd]; exact HasC.newB wr _ _)
        have Hwd := Lib.hid hwd
        unfold maxLen at hpm
        clear hzk hvm hvi hwd
        go_upto_region 5 with fail
        rw [← Hwd.out]
        clear Hwd e0 e1 e2 e3 e4
        obtain ⟨⟨f0, -⟩, ⟨f1, -⟩, ⟨f2, -⟩, ⟨f3, -⟩, f4, -⟩ := five_at Px.out
        have y8 := ((Br.out.nw Na.out).2 8 _ rfl).1
        have z8 := ((Br.out.nw Na.out).2 8 _ rfl).2
        have hbd3 : b3 < wd.heap.size := Nat.lt_of_lt_of_le hbr Na.out.size
        have Vd := Lib.hid (own_nw Vr.out Na.out)
        have Vb := Lib.hid (HasC.newB wd #[.int .i64 z.1.b, .slice ma mn mc, .slice (some ⟨z.2.g, 0, none⟩) z.1.ms.length z.1.ms.length, .slice ia xn ic] 59)
        go_wp2_with (at_builtin; refine wpList_append_own _ rfl _ _ 29 rfl (w.heap.size + 1) 59 i0 (.agg #[.int .i64 0, .slice none 0 0, .slice none 0 0, .slice none 0 0]) 4 80 Tryz.underlying29 hi0 hy0 hy1 hy2 rfl (by decide) _ _ _ rfl (Vd.out.alloc _) ⟨wd.heap.size, 0, none⟩ 1 1 [.int .i64 z.1.b, .slice ma mn mc, .slice (some ⟨z.2.g, 0, none⟩) z.1.ms.length z.1.ms.length, .slice ia xn ic] rfl rfl ?c1 ?c2 ?c3 ?c4 ?c5 ?_)
        case c2 => exact ⟨rfl, rfl, rfl, rfl⟩
        case c3 => unfold maxLen; omega
        case c4 => omega
        case c5 => have := Na.out.size; have := Zr.out.1; simp; omega
        · intro v6 w6 hown6 hgrow _
          have Ma := (Nw.refl wd).alloc (.cells #[.int .i64 z.1.b, .slice ma mn mc, .slice (some ⟨z.2.g, 0, none⟩) z.1.ms.length z.1.ms.length, .slice ia xn ic] 59 (0, 0))
          have Nd := Na.out.trans Ma
          have Vold := own_nw Vr.out Nd
          have ap := own_smx Vold (Sr.out.nw Nd) (by decide)
          have hrow : ∀ q, (Value.slice ra k rc).ownBlock = some q → w.heap.size + 1 ≤ q := fun q hq => (Vold.lt q hq).1
          have hnb : (Value.slice ra k rc).ownBlock ≠ some b3 := by
            rcases ap with h | h
            · rw [h]; simp
            · exact h
          have B6 := Lib.hid ((Br.out.nw Nd).grown hgrow hnb)
          have S6 := Lib.hid ((Sr.out.nw Nd).grown Vold (by decide) hgrow)
          have Bd6 := Lib.hid ((Bdr.out.nw Nd).grown Vold (by decide) (by decide) hgrow)
          have E6 := Lib.hid ((own_nw Er.out Nd).kept hgrow (rows_apart (own_nw Er.out Nd) Vold (by decide)))
          have Z6 := Lib.hid ((Zr.out.nw Nd).grown hgrow (fun e => by have := hrow _ e; omega))
          have N6 := Lib.hid ((Nr.out.trans Nd).grown hgrow (fun q hq => by have := hrow q hq; omega))
          have V6 := Lib.hid (show w6.ownsRow (w.heap.size + 1) 59 4 v6 (k + 1) (cellsVo (zs.take (k + 1))) from by
            rw [cellsVo_snoc zs k z Hzk.out, show cellV z = [.int .i64 z.1.b, .slice ma mn mc, .slice (some ⟨z.2.g, 0, none⟩) z.1.ms.length z.1.ms.length, .slice ia xn ic] from by unfold cellV; rw [Hv.out.1, Hv.out.2]]
            exact hown6)
          obtain ⟨ta, tc, rfl⟩ := own_shape' V6.out
          clear hown6 hgrow Ma Nd Vold ap hrow hnb y8 z8 f0 f1 f2 f3 f4
          have y8 := (B6.out.2 8 _ rfl).1
          have z8 := (B6.out.2 8 _ rfl).2
          have B7 := Lib.hid (B6.out.set 8 (.slice ta (k + 1) tc))
          have S7 := Lib.hid (S6.out.set b3 8 (.slice ta (k + 1) tc))
          have Bd7 := Lib.hid (bods_setm (o := 8) (u := .slice ta (k + 1) tc) Bd6.out S6.out)
          have E7 := Lib.hid (own_setm E6.out S6.out (by decide) 8 (.slice ta (k + 1) tc))
          have V7 := Lib.hid (own_setm V6.out S6.out (by decide) 8 (.slice ta (k + 1) tc))
          have Z7 := Lib.hid (Z6.out.sete (p := ⟨b3, 8, none⟩) (by show b3 ≠ w.heap.size; omega) (.slice ta (k + 1) tc))
          have N7 := Lib.hid (N6.out.set (p := ⟨b3, 8, none⟩) (by show w.heap.size ≤ b3; omega) (.slice ta (k + 1) tc))
          go_wp2_with fail
          go_roundw
          case rel => exact ⟨k + 1, .slice ta (k + 1) tc, by omega, by rw [show ((k + 1 : Nat) : Int) = (k : Int) + 1 from by omega], B7.out, S7.out, Bd7.out, E7.out, Z7.out, N7.out, V7.out⟩
          case measure => simp only [intOf]; omega
      · obtain rfl : k = n := by omega
        have hzt : zs.take k = zs := by rw [Hnz.out, List.take_length]
        have V8 := Lib.hid (show wr.ownsRow (w.heap.size + 1) 59 4 (.slice ra k rc) k (cellsVo zs) from by have v := Vr.out; rw [hzt] at v; exact v)
        clear hzt
        go_upto_region 7 with fail
        obtain ⟨y0, y1, y2, y3, y4, y5, y6, y7, y8, y9⟩ := ten_at Br.out
        obtain ⟨r0, r1, r2, r3, r4, r5, r6, r7, r8, r9⟩ := ten_at Zr.out
        obtain ⟨f0, f1, f2, f3, f4, f5, f6, f7, f8, f9⟩ := ten_fz Zr.out
        have hw1 : W1.heap.size ≤ w.heap.size := H0.out.kp.size
        have hz1 := Zr.out.1
        have T := Lib.hid (ten_low (w := wr) (b := w.heap.size) (.int .i64 (L : Int)) (.int .i64 (V : Int)) (.float .f32 C) (.float .f32 R) (.slice ba bs.length bc) (.slice va es.length vc) (.int .i64 (i : Int)) (.int .i64 (d : Int)) (.slice ra k rc) (.float .f32 env))
        have Nf := Lib.hid (T.out.2 w Nr.out (Nat.le_refl _))
        have Scf := Lib.hid (show ScoV _ W1.heap.size L V C R bs es (.slice ba bs.length bc) (.slice va es.length vc) from
          ⟨HF.out.sco.hL, HF.out.sco.hV, HF.out.sco.hC, HF.out.sco.hR, HF.out.sco.hb, HF.out.sco.he, HF.out.sco.bok, HF.out.sco.eok, by
            obtain ⟨vs, k1, k2⟩ := Bdr.out
            exact ⟨vs, own_base (T.out.1 _ _ _ _ _ _ (by omega) k1) (by omega), fun p r hp => by obtain ⟨v, a, c⟩ := k2 p r hp; exact ⟨v, a, own_base (T.out.1 _ _ _ _ _ _ (by omega) c) (by omega)⟩⟩,
            own_base (T.out.1 _ _ _ _ _ _ (by omega) Er.out) (by omega)⟩)
        have Vof := Lib.hid (show VoicesR _ W1.heap.size (.slice ra k rc) zs from ⟨by rw [← Hnz.out]; exact own_base (T.out.1 _ _ _ _ _ _ (by omega) V8.out) (by omega), fun z hz => (H0.out.par.ins z hz).nw Nf.out⟩)
        go_wp2_with fail
        exact bodyPost_ret (v := strA L V C R (.slice ba bs.length bc) (.slice va es.length vc) i d (.slice ra k rc) env) (by simp [strA, results, Tryz.results17, go_sem, r0, r1, r2, r3, r4, r5, r6, r7, r8, r9, f0]) rfl ⟨_, _, _, rfl, Scf.out, Vof.out, Nf.out⟩
end Go.Proofs.YtiakcibeobbonaaGreat

/- A stream is advanced: Advance (FnCut).
   Conditions: those that each statement names. -/
namespace Go.Proofs.YtiakcibeobbonaaGreat
set_option linter.unusedSimpArgs false
set_option linter.unusedVariables false
open Go Go.RowKit

theorem ScoV.set {w : World} {base L V C R : Nat} {bs : List (List M4)} {es : List Ev6} {sv ev : Value} (h : ScoV w base L V C R bs es sv ev) {p : Addr} (hp : p.block < base) (u : Value) : ScoV (w.setCell p u) base L V C R bs es sv ev :=
  ⟨h.hL, h.hV, h.hC, h.hR, h.hb, h.he, h.bok, h.eok, h.bods.set hp u, own_set h.evs hp u⟩
theorem VoicesR.set {w : World} {base : Nat} {vv : Value} {zs : List (Prt × Loc)} (h : VoicesR w base vv zs) {p : Addr} (hp : p.block < base) (u : Value) : VoicesR (w.setCell p u) base vv zs :=
  ⟨own_set h.row hp u, fun z hz => (h.ins z hz).set hp u⟩
theorem ScoV.base {w : World} {base b2 L V C R : Nat} {bs : List (List M4)} {es : List Ev6} {sv ev : Value} (h : ScoV w base L V C R bs es sv ev) (hb : b2 ≤ base) : ScoV w b2 L V C R bs es sv ev :=
  ⟨h.hL, h.hV, h.hC, h.hR, h.hb, h.he, h.bok, h.eok, h.bods.base hb, own_base h.evs hb⟩
theorem ten_str {w : World} {b : Nat} (x0 x1 x2 x3 x4 x5 x6 x7 x8 x9 : Value) {base L V C R : Nat} {bs : List (List M4)} {es : List Ev6} {sv ev vv : Value} {zs : List (Prt × Loc)} (h : ScoV w base L V C R bs es sv ev) (hv : VoicesR w base vv zs) (hb : b < base) :
    ScoV (World.setCell (World.setCell (World.setCell (World.setCell (World.setCell (World.setCell (World.setCell (World.setCell (World.setCell (World.setCell w ⟨b, 0, none⟩ x0) ⟨b, 1, none⟩ x1) ⟨b, 2, none⟩ x2) ⟨b, 3, none⟩ x3) ⟨b, 4, none⟩ x4) ⟨b, 5, none⟩ x5) ⟨b, 6, none⟩ x6) ⟨b, 7, none⟩ x7) ⟨b, 8, none⟩ x8) ⟨b, 9, none⟩ x9) base L V C R bs es sv ev ∧ VoicesR (World.setCell (World.setCell (World.setCell (World.setCell (World.setCell (World.setCell (World.setCell (World.setCell (World.setCell (World.setCell w ⟨b, 0, none⟩ x0) ⟨b, 1, none⟩ x1) ⟨b, 2, none⟩ x2) ⟨b, 3, none⟩ x3) ⟨b, 4, none⟩ x4) ⟨b, 5, none⟩ x5) ⟨b, 6, none⟩ x6) ⟨b, 7, none⟩ x7) ⟨b, 8, none⟩ x8) ⟨b, 9, none⟩ x9) base vv zs := by
  refine ⟨?_, ?_⟩
  · exact (((((((((h.set (p := ⟨b, 0, none⟩) hb x0).set (p := ⟨b, 1, none⟩) hb x1).set (p := ⟨b, 2, none⟩) hb x2).set (p := ⟨b, 3, none⟩) hb x3).set (p := ⟨b, 4, none⟩) hb x4).set (p := ⟨b, 5, none⟩) hb x5).set (p := ⟨b, 6, none⟩) hb x6).set (p := ⟨b, 7, none⟩) hb x7).set (p := ⟨b, 8, none⟩) hb x8).set (p := ⟨b, 9, none⟩) hb x9
  · exact (((((((((hv.set (p := ⟨b, 0, none⟩) hb x0).set (p := ⟨b, 1, none⟩) hb x1).set (p := ⟨b, 2, none⟩) hb x2).set (p := ⟨b, 3, none⟩) hb x3).set (p := ⟨b, 4, none⟩) hb x4).set (p := ⟨b, 5, none⟩) hb x5).set (p := ⟨b, 6, none⟩) hb x6).set (p := ⟨b, 7, none⟩) hb x7).set (p := ⟨b, 8, none⟩) hb x8).set (p := ⟨b, 9, none⟩) hb x9
theorem eAt_add (bs : List (List M4)) (V : Nat) (es : List Ev6) (R i : Nat) (e : Option Nat) : ∀ n, eAt bs V es R 0 e (i + n) = eAt bs V es R i (eAt bs V es R 0 e i) n
  | 0 => rfl
  | n + 1 => by
    show limE (eAt bs V es R 0 e (i + n)) (sumAt bs V es (0 + (i + n))) R = limE (eAt bs V es R i (eAt bs V es R 0 e i) n) (sumAt bs V es (i + n)) R
    rw [eAt_add bs V es R i e n, Nat.zero_add]
theorem yAt_add (bs : List (List M4)) (V : Nat) (es : List Ev6) (C R i : Nat) (e : Option Nat) (n : Nat) : yAt bs V es C R 0 e (i + n) = yAt bs V es C R i (eAt bs V es R 0 e i) n := by
  unfold yAt
  rw [eAt_add, Nat.zero_add]
/-- a stream, advanced; the samples are those of the whole score from i on -/
def AdvP (L V C R : Nat) (bs : List (List M4)) (es : List Ev6) (i n : Nat) (w : World) (e : Ending) (w' : World) : Prop :=
  ∃ (sv ev vv : Value) (env : Nat) (zs : List (Prt × Loc)) (g : Nat) (ys : List Nat), e = .returned (.tuple #[strA L V C R sv ev (i + n) (dAt (ordE es) (i + n)) vv env, .slice (some ⟨g, 0, none⟩) n n, .bool true]) ∧
    StrV w' w.heap.size L V C R bs es (i + n) sv ev vv env zs ∧ w'.ownsRow w.heap.size 23 1 (.slice (some ⟨g, 0, none⟩) n n) n (cellsS ys) ∧ GoodA (fun k => yAt bs V es C R 0 (fab .f32 0) (i + k)) n ys ∧ Nw w w'
set_option maxHeartbeats 6400000 in
set_option maxRecDepth 100000 in
theorem advance_ok {base L V C R : Nat} {bs : List (List M4)} {es : List Ev6} {i n : Nat} {sv ev vv : Value} {env : Nat} {zs : List (Prt × Loc)} {w : World} (h : StrV w base L V C R bs es i sv ev vv env zs) (hin : i + n ≤ L) :
    Calls Tryz.prog 7 #[strA L V C R sv ev i (dAt (ordE es) i) vv env, .int .i64 (n : Int)] w (AdvP L V C R bs es i n w) := by
  obtain ⟨⟨sa, sc, rfl⟩, ea, ec, rfl⟩ := h.sco.shape
  obtain ⟨va, vc, rfl⟩ := own_shape' h.voi.row
  obtain ⟨d, hd⟩ : ∃ d, d = dAt (ordE es) i := ⟨_, rfl⟩
  obtain ⟨w1, hw1⟩ : ∃ w1, w1 = w.alloc (.cells #[.int .i64 (L : Int), .int .i64 (V : Int), .float .f32 C, .float .f32 R, .slice sa bs.length sc, .slice ea es.length ec, .int .i64 (i : Int), .int .i64 (d : Int), .slice va zs.length vc, .float .f32 env] 31 (0, 0)) := ⟨_, rfl⟩
  obtain ⟨w2, hw2⟩ : ∃ w2, w2 = w1.alloc (.cells #[.int .i64 0, .int .i64 0, .float .f32 0, .float .f32 0, .slice none 0 0, .slice none 0 0, .int .i64 0, .int .i64 0, .slice none 0 0, .float .f32 0] 31 (0, 0)) := ⟨_, rfl⟩
  have s1 : w1.heap.size = w.heap.size + 1 := by rw [hw1]; simp
  have s2 : w2.heap.size = w.heap.size + 2 := by rw [hw2]; simp [s1]
  have N2 := Lib.hid (show Nw w w2 from by rw [hw2, hw1]; exact ((Nw.refl w).alloc _).alloc _)
  have X2 := Lib.hid (show HasC w2 w.heap.size (strC L V C R (.slice sa bs.length sc) (.slice ea es.length ec) i d (.slice va zs.length vc) env) from by rw [hw2, hw1]; exact (HasC.newB w _ _).alloc _)
  have Z2 := Lib.hid (show HasC w2 (w.heap.size + 1) [.int .i64 0, .int .i64 0, .float .f32 0, .float .f32 0, .slice none 0 0, .slice none 0 0, .int .i64 0, .int .i64 0, .slice none 0 0, .float .f32 0] from by rw [hw2, ← s1]; exact HasC.newB w1 _ _)
  have Hp := Lib.hid (playerOf_ok (h.nw N2.out))
  have hL70 := h.hL
  have hV4 := h.sco.hV.2
  have Hsco := Lib.hid h.sco
  have He := Lib.hid h.he
  have Hs := Lib.hid s2
  unfold strA at Hp ⊢
  rw [← hd] at Hp ⊢
  have Hw := Lib.hid (And.intro hw1 (And.intro hw2 s1))
  clear h hd hw1 hw2 s1 s2
  go_enter Tryz.func7, Tryz.ntmps7
  go_upto_region 1 with fail
  rw [← Hw.out.1, ← Hw.out.2.1]
  clear Hw
  obtain ⟨e0, e1, e2, e3, e4, e5, e6, e7, e8, e9⟩ := ten_at X2.out
  go_wp2_with fail
  refine Hp.out.mono ?_
  rintro e w3 ⟨q, W0, W1, eo, b, pv, env2, zs2, rfl, n0, hF, hP, hbd, he2, hz2⟩
  have HF := Lib.hid hF
  have P3 := Lib.hid hP
  have Q3 := Lib.hid (And.intro hbd (And.intro he2 hz2))
  have N23 := Lib.hid (n0.trans (hF.nw hP.kp))
  have N0 := Lib.hid n0
  have X3 := Lib.hid (X2.out.nw N23.out)
  have Z3 := Lib.hid (Z2.out.nw N23.out)
  have hW1 : w.heap.size + 2 ≤ W1.heap.size := by have h1 := n0.size; have h2 := hF.n01.size; have h3 := Hs.out; omega
  clear n0 hF hP hbd he2 hz2 e0 e1 e2 e3 e4 e5 e6 e7 e8 e9
  obtain ⟨e0, e1, e2, e3, e4, e5, e6, e7, e8, e9⟩ := ten_at X3.out
  have hn0 : ¬ ((n : Int) < 0) := by omega
  have hn1 : ¬ ((L : Int) - (i : Int) < (n : Int)) := by omega
  go_wp2_with fail
  refine (play_ok HF.out P3.out n (by omega) Q3.out.1 Q3.out.2.2).mono ?_
  rintro e w4 ⟨g, ys, rfl, hown, hgood, b', pv', env', zs', hb', hP, he', hz', hfr⟩
  have P4 := Lib.hid hP
  have Q4 := Lib.hid (And.intro hb' (And.intro he' hz'))
  have O4 := Lib.hid hown
  have G4 := Lib.hid hgood
  have hs3 : W1.heap.size ≤ w3.heap.size := P3.out.kp.size
  clear hP hb' he' hz' hfr hown hgood e0 e1 e2 e3 e4 e5 e6 e7 e8 e9
  go_wp2_with fail
  have hzl : zs'.length ≤ 1000 := by
    have hp := pre_ok bs Hsco.out.bok L V Hsco.out.hV.1 es Hsco.out.eok (i + n) (by omega)
    have := hp.1
    rw [← Q4.out.2.2, List.length_map] at this
    omega
  have St := Lib.hid (stream_ok HF.out P4.out hzl)
  refine St.out.mono ?_
  rintro e w5 ⟨sv5, ev5, vv5, rfl, hsc, hvo, n5⟩
  obtain ⟨⟨ba, bc, rfl⟩, ca, cc, rfl⟩ := hsc.shape
  obtain ⟨ra, rc, rfl⟩ := own_shape' hvo.row
  have N5 := Lib.hid ((N0.out.trans (HF.out.nw P4.out.kp)).trans n5)
  have Z5 := Lib.hid (Z2.out.nw N5.out)
  have O5 := Lib.hid (own_nw O4.out n5)
  obtain ⟨dn, hdn⟩ : ∃ dn, dn = dAt (ordE es) (i + n) := ⟨_, rfl⟩
  obtain ⟨j, hj⟩ : ∃ j, j = i + n := ⟨_, rfl⟩
  have T1 := Lib.hid (ten_str (b := w.heap.size + 1) (.int .i64 (L : Int)) (.int .i64 (V : Int)) (.float .f32 C) (.float .f32 R) (.slice ba bs.length bc) (.slice ca es.length cc) (.int .i64 (j : Int)) (.int .i64 (dn : Int)) (.slice ra zs'.length rc) (.float .f32 env') hsc hvo (by omega))
  have T2 := Lib.hid (ten_low (w := w5) (b := w.heap.size + 1) (.int .i64 (L : Int)) (.int .i64 (V : Int)) (.float .f32 C) (.float .f32 R) (.slice ba bs.length bc) (.slice ca es.length cc) (.int .i64 (j : Int)) (.int .i64 (dn : Int)) (.slice ra zs'.length rc) (.float .f32 env'))
  have Nf := Lib.hid (T2.out.2 w (N2.out.trans N5.out) (by omega))
  have Of := Lib.hid (T2.out.1 _ _ _ _ _ _ (by omega) O5.out)
  have Fin := Lib.hid (show AdvP L V C R bs es i n w (.returned (.tuple #[strA L V C R (.slice ba bs.length bc) (.slice ca es.length cc) (i + n) (dAt (ordE es) (i + n)) (.slice ra zs'.length rc) env', .slice (some ⟨g, 0, none⟩) n n, .bool true])) _ from
    ⟨_, _, _, env', zs', g, ys, rfl, ⟨T1.out.1.base (by omega), T1.out.2.base (by omega), Q4.out.2.2, by rw [Q4.out.2.1, Q3.out.2.1, ← eAt_add], hin, hL70⟩, own_base Of.out (by omega), ⟨G4.out.1, fun k y hk => by
      have g4 := G4.out.2 k y hk
      rw [Q3.out.2.1] at g4
      exact ⟨by rw [g4.1, ← yAt_add], g4.2⟩⟩, Nf.out⟩)
  unfold strA at Fin ⊢
  rw [← hdn, ← hj] at Fin ⊢
  obtain ⟨r0, r1, r2, r3, r4, r5, r6, r7, r8, r9⟩ := ten_at Z5.out
  obtain ⟨f0, f1, f2, f3, f4, f5, f6, f7, f8, f9⟩ := ten_fz Z5.out
  have hz5 := Z5.out.1
  clear hsc hvo n5 hdn hj St hzl
  go_wp2_with fail
  exact bodyPost_ret (v := .tuple #[.agg #[.int .i64 (L : Int), .int .i64 (V : Int), .float .f32 C, .float .f32 R, .slice ba bs.length bc, .slice ca es.length cc, .int .i64 (j : Int), .int .i64 (dn : Int), .slice ra zs'.length rc, .float .f32 env'], .slice (some ⟨g, 0, none⟩) n n, .bool true]) (by simp [results, Tryz.results7, go_sem, r0, r1, r2, r3, r4, r5, r6, r7, r8, r9, f0]) rfl Fin.out
end Go.Proofs.YtiakcibeobbonaaGreat

/- The model's copy of a body: l7Body (FnCut).
   Conditions: those that each statement names. -/
namespace Go.Proofs.YtiakcibeobbonaaGreat
set_option linter.unusedSimpArgs false
set_option linter.unusedVariables false
open Go Go.RowKit

def CBodyP (ms : List M4) (w : World) (e : Ending) (w' : World) : Prop :=
  ∃ v : Value, e = .returned (.agg #[v]) ∧ w'.ownsRow w.heap.size 93 2 v ms.length (cellsM ms) ∧ Nw w w'
set_option maxHeartbeats 1600000 in
set_option maxRecDepth 100000 in
theorem l7Body_c (ms : List M4) (n bm : Nat) (v : Value) (hn : ms.length = n) (hn64 : n ≤ 64) (w : World) (hm : w.ownsRow bm 93 2 v n (cellsM ms)) :
    Calls Tryz.prog 30 #[.agg #[v]] w (CBodyP ms w) := by
  obtain ⟨va, vc, rfl⟩ := own_shape' hm
  obtain ⟨i0, hi, hz0, hz1, hz2⟩ := info_parts info_mode
  obtain ⟨w1, hw1⟩ : ∃ w1, w1 = w.alloc (.cells #[.slice va n vc] 65 (0, 0)) := ⟨_, rfl⟩
  obtain ⟨w2, hw2⟩ : ∃ w2, w2 = w1.alloc (.cells #[.slice none 0 0] 65 (0, 0)) := ⟨_, rfl⟩
  have s1 : w1.heap.size = w.heap.size + 1 := by rw [hw1]; simp
  have s2 : w2.heap.size = w.heap.size + 2 := by rw [hw2]; simp [s1]
  have n2 : Nw w w2 := by rw [hw2, hw1]; exact ((Nw.refl w).alloc _).alloc _
  have x1 : Has1 w2 w.heap.size (.slice va n vc) := by rw [hw2, hw1]; exact (Has1.new w _ _).alloc _
  have x2 : Has1 w2 (w.heap.size + 1) (.slice none 0 0) := by rw [hw2, ← s1]; exact Has1.new w1 _ _
  have Hm := Lib.hid (own_nw hm n2)
  have Hn := Lib.hid hn
  have N2 := Lib.hid n2
  have X1 := Lib.hid x1
  have X2 := Lib.hid x2
  have Hw := Lib.hid (And.intro hw1 hw2)
  have S2 := Lib.hid s2
  clear hm hn hw1 hw2 s1 s2 n2 x1 x2
  go_enter Tryz.func30, Tryz.ntmps30
  go_upto_region 1 with fail
  rw [← Hw.out.1, ← Hw.out.2]
  clear Hw
  have e1 := (X1.out.alloc (.cells #[] 93 (0, 0))).2.1
  have e2 := (X2.out.alloc (.cells #[] 93 (0, 0))).2.1
  have f2 := (X2.out.alloc (.cells #[] 93 (0, 0))).2.2
  rcases Hm.out.2 with ⟨h1, h2⟩ | ⟨g, cap, cur, h1, hb, hg, hc, hmx, hs, ht⟩
  · cases h1
    have hms : ms = [] := List.eq_nil_of_length_eq_zero (by rw [Hn.out])
    subst hms
    have O0 := Lib.hid (show (w2.alloc (.cells #[] 93 (0, 0))).ownsRow w2.heap.size 93 2 (.slice (some ⟨w2.heap.size, 0, none⟩) 0 0) 0 (cellsM []) from World.ownsRow_made w2 #[] 0 (Nat.le_refl _) (Nat.zero_le _) rfl)
    go_wp2_with (at_builtin; refine wpList_append_own_none rfl _ _ 56 rfl _ 93 i0 2 Tryz.underlying56 hi _ _ _ rfl O0.out rfl ?_)
    have O1 := Lib.hid (own_base (own_set (p := ⟨w.heap.size + 1, 0, none⟩) O0.out (by rw [S2.out]; show w.heap.size + 1 < _; omega) (.slice (some ⟨w2.heap.size, 0, none⟩) 0 0)) (show w.heap.size ≤ w2.heap.size from N2.out.size))
    have R1 := Lib.hid ((X2.out.alloc (.cells #[] 93 (0, 0))).put (.slice (some ⟨w2.heap.size, 0, none⟩) 0 0))
    have N3 := Lib.hid ((N2.out.alloc (.cells #[] 93 (0, 0))).set (p := ⟨w.heap.size + 1, 0, none⟩) (by show w.heap.size ≤ w.heap.size + 1; omega) (.slice (some ⟨w2.heap.size, 0, none⟩) 0 0))
    have r1 := R1.out.2.1
    go_wp2_with fail
    exact bodyPost_ret (v := .agg #[.slice (some ⟨w2.heap.size, 0, none⟩) 0 0]) (by simp [results, Tryz.results30, go_sem, r1]) rfl ⟨_, rfl, O1.out, N3.out⟩
  · cases h1
    have Hbel := Lib.hid ((Nw.refl w2).alloc (.cells #[] 93 (0, 0)))
    clear hb hg hc hmx hs ht
    go_wp2_with (at_builtin; refine wpList_append_own _ rfl _ _ 56 rfl w2.heap.size 93 i0 (.agg #[.complex .f32 0 0, .complex .f32 0 0]) 2 16 Tryz.underlying56 hi hz0 hz1 hz2 rfl (by decide) _ _ _ rfl (World.ownsRow_made w2 #[] 0 (Nat.le_refl _) (Nat.zero_le _) rfl) ⟨g, 0, none⟩ n vc (cellsM ms) rfl ?qc1 ?qc2 ?qc3 ?qc4 ?qc5 ?qc6 ?_)
    case qc1 => rw [cellsM_len, Hn.out]
    case qc2 =>
      intro j u hj
      have hj' : j < n * 2 := by
        have := (List.getElem?_eq_some_iff.1 hj).1
        rw [cellsM_len, Hn.out] at this
        exact this
      have c1 := Hm.out.cellAt j hj'
      rw [hj] at c1
      rw [show (⟨g, 0, none⟩ : Addr).add j = ⟨g, j, none⟩ from by simp [Addr.add]; first | done | (intro h; omega)]
      exact Lib.cell?_alloc_some _ c1
    case qc3 =>
      intro u hu
      obtain ⟨m, _, hu⟩ := List.mem_flatMap.1 hu
      simp [M4.cells] at hu
      rcases hu with rfl | rfl <;> rfl
    case qc4 => unfold maxLen; omega
    case qc5 => omega
    case qc6 => simp
    · intro v' w3 hown hgrow hnil
      obtain ⟨ua, un, uc, rfl⟩ := own_shape hown
      have Gr := Lib.hid (Hbel.out.grown hgrow (fun q hq => by simp [Value.ownBlock] at hq; omega))
      have O1 := Lib.hid (own_base (own_set (p := ⟨w.heap.size + 1, 0, none⟩) hown (by rw [S2.out]; show w.heap.size + 1 < _; omega) (.slice ua un uc)) (show w.heap.size ≤ w2.heap.size from N2.out.size))
      have r0 := (X2.out.nw Gr.out).2.1
      have f0 := (X2.out.nw Gr.out).2.2
      have R1 := Lib.hid ((X2.out.nw Gr.out).put (.slice ua un uc))
      have N3 := Lib.hid ((N2.out.trans Gr.out).set (p := ⟨w.heap.size + 1, 0, none⟩) (by show w.heap.size ≤ w.heap.size + 1; omega) (.slice ua un uc))
      have r1 := R1.out.2.1
      clear e1 e2 f2 hown hgrow hnil
      go_wp2_with fail
      exact bodyPost_ret (v := .agg #[.slice ua un uc]) (by simp [results, Tryz.results30, go_sem, r1]) rfl ⟨_, rfl, by have h := O1.out; simpa [Hn.out] using h, N3.out⟩
end Go.Proofs.YtiakcibeobbonaaGreat

/- The model's copy of a score: l7Copy (FnCut).
   Conditions: those that each statement names. -/
namespace Go.Proofs.YtiakcibeobbonaaGreat
set_option linter.unusedSimpArgs false
set_option linter.unusedVariables false
open Go Go.RowKit

set_option maxHeartbeats 6400000 in
set_option maxRecDepth 100000 in
theorem l7Copy_c (base L V C R : Nat) (bs : List (List M4)) (es : List Ev6) (sv ev : Value) (w : World) (h : ScoV w base L V C R bs es sv ev) :
    Calls Tryz.prog 14 #[.agg #[.int .i64 (L : Int), .int .i64 (V : Int), .float .f32 C, .float .f32 R, sv, ev]] w (CpsP L V C R bs es w) := by
  obtain ⟨nb, hnb⟩ : ∃ nb, nb = bs.length := ⟨_, rfl⟩
  obtain ⟨ne, hne⟩ : ∃ ne, ne = es.length := ⟨_, rfl⟩
  obtain ⟨⟨sa, sc, rfl⟩, ea, ec, rfl⟩ := h.shape
  obtain ⟨j0, hj, hjz0, hjz1, hjz2⟩ := info_parts info_event
  have hb3 := h.hb
  have he13 := h.he
  rw [← hnb] at hb3
  rw [← hne] at he13
  rw [← hnb, ← hne] at h ⊢
  have H := Lib.hid h
  have Hn := Lib.hid (And.intro hnb hne)
  have hA : ∀ (w : World) o, (w.alloc o).heap.size = w.heap.size + 1 := fun w o => by simp
  obtain ⟨w1, hw1⟩ : ∃ w1, w1 = w.alloc (.cells #[.int .i64 (L : Int), .int .i64 (V : Int), .float .f32 C, .float .f32 R, .slice sa nb sc, .slice ea ne ec] 27 (0, 0)) := ⟨_, rfl⟩
  obtain ⟨w2, hw2⟩ : ∃ w2, w2 = w1.alloc (.cells #[.int .i64 0, .int .i64 0, .float .f32 0, .float .f32 0, .slice none 0 0, .slice none 0 0] 27 (0, 0)) := ⟨_, rfl⟩
  obtain ⟨w3, hw3⟩ : ∃ w3, w3 = w2.alloc (.cells #[.int .i64 (L : Int), .int .i64 (V : Int), .float .f32 C, .float .f32 R, .slice none 0 0, .slice none 0 0] 27 (0, 0)) := ⟨_, rfl⟩
  have s1 : w1.heap.size = w.heap.size + 1 := by rw [hw1, hA]
  have s2 : w2.heap.size = w.heap.size + 2 := by rw [hw2, hA, s1]
  have s3 : w3.heap.size = w.heap.size + 3 := by rw [hw3, hA, s2]
  have n3 : Nw w w3 := by rw [hw3, hw2, hw1]; exact (((Nw.refl w).alloc _).alloc _).alloc _
  have x1 : HasC w3 w.heap.size [.int .i64 (L : Int), .int .i64 (V : Int), .float .f32 C, .float .f32 R, .slice sa nb sc, .slice ea ne ec] := by
    rw [hw3, hw2, hw1]; exact ((HasC.new w _ _ _ _ _ _ _).alloc _).alloc _
  have x2 : HasC w3 (w.heap.size + 1) [.int .i64 0, .int .i64 0, .float .f32 0, .float .f32 0, .slice none 0 0, .slice none 0 0] := by
    rw [hw3, hw2, ← s1]; exact (HasC.new w1 _ _ _ _ _ _ _).alloc _
  have x3 : HasC w3 (w.heap.size + 2) [.int .i64 (L : Int), .int .i64 (V : Int), .float .f32 C, .float .f32 R, .slice none 0 0, .slice none 0 0] := by
    rw [hw3, ← s2]; exact HasC.new w2 _ _ _ _ _ _ _
  have X12 := Lib.hid (show HasC w2 w.heap.size [.int .i64 (L : Int), .int .i64 (V : Int), .float .f32 C, .float .f32 R, .slice sa nb sc, .slice ea ne ec] from by rw [hw2, hw1]; exact (HasC.new w _ _ _ _ _ _ _).alloc _)
  have N3 := Lib.hid n3
  have X1 := Lib.hid x1
  have X2 := Lib.hid x2
  have X3 := Lib.hid x3
  have Hw := Lib.hid (And.intro hw1 (And.intro hw2 hw3))
  have S3 := Lib.hid (And.intro s1 (And.intro s2 s3))
  clear h hnb hne hw1 hw2 hw3 s1 s2 s3 n3 x1 x2 x3 hA
  go_enter Tryz.func14, Tryz.ntmps14
  go_upto_region 1 with fail
  rw [← Hw.out.1, ← Hw.out.2.1]
  obtain ⟨⟨e0, g0⟩, ⟨e1, g1⟩, ⟨e2, g2⟩, ⟨e3, g3⟩, ⟨e4, g4⟩, ⟨e5, g5⟩⟩ := six_at X12.out
  go_upto_region 2 with fail
  rw [← Hw.out.2.2, S3.out.2.1]
  clear Hw e0 g0 e1 g1 e2 g2 e3 g3 e4 g4 e5 g5
  obtain ⟨⟨e0, g0⟩, ⟨e1, g1⟩, ⟨e2, g2⟩, ⟨e3, g3⟩, ⟨e4, g4⟩, ⟨e5, g5⟩⟩ := six_at X1.out
  have hs3 := S3.out.2.2
  go_wp2_with fail
  clear e0 g0 e1 g1 e2 g2 e3 g3 e4 g4 e5 g5
  go_loopw [18] (fun c wr => ∃ (k : Nat) (sv : Value), k ≤ nb ∧ c = .int .i64 (k : Int) ∧ HasC wr (w.heap.size + 2) [.int .i64 (L : Int), .int .i64 (V : Int), .float .f32 C, .float .f32 R, sv, .slice none 0 0] ∧ HasC wr w.heap.size [.int .i64 (L : Int), .int .i64 (V : Int), .float .f32 C, .float .f32 R, .slice sa nb sc, .slice ea ne ec] ∧ HasC wr (w.heap.size + 1) [.int .i64 0, .int .i64 0, .float .f32 0, .float .f32 0, .slice none 0 0, .slice none 0 0] ∧ BodsR wr (w.heap.size + 3) sv (bs.take k) ∧ Nw w wr) (fun c _ => nb - (intOf c).toNat)
  case atStart => exact ⟨0, _, by omega, rfl, X3.out, X1.out, X2.out, BodsR.nil _ _, N3.out⟩
  case round =>
    obtain ⟨k, sv, hk, rfl, hK, hX, hZ, hB, hN⟩ := hrel
    have Kr := Lib.hid hK
    have Xr := Lib.hid hX
    have Zr := Lib.hid hZ
    have Nr := Lib.hid hN
    have hlen : (bs.take k).length = k := by rw [List.length_take, ← Hn.out.1]; omega
    obtain ⟨vs, ho, hin⟩ := hB
    rw [hlen] at ho
    obtain ⟨ta, tc, rfl⟩ := own_shape' ho
    have hsr : w.heap.size + 2 < wr.heap.size := Kr.out.1
    by_cases hlt : k < nb
    · obtain ⟨ms, hms⟩ : ∃ ms, bs[k]? = some ms := ⟨bs[k]'(by rw [← Hn.out.1]; exact hlt), List.getElem?_eq_getElem _⟩
      have hml : ms.length ≤ 4 := (H.out.bok ms (List.mem_of_getElem? hms)).1
      obtain ⟨sg, scap, ma, mc, hsv, hs1, hs2, hs3', hsc, hso⟩ := (H.out.bods.nw Nr.out).at Hn.out.1 hms
      cases hsv
      have Ho := Lib.hid (And.intro ho hin)
      have Hms := Lib.hid hms
      obtain ⟨wd, hwd⟩ : ∃ wd, wd = wr.alloc (.cells #[.slice ma ms.length mc] 65 (0, 0)) := ⟨_, rfl⟩
      have Na := Lib.hid (show Nw wr wd from by rw [hwd]; exact (Nw.refl wr).alloc _)
      have B4 := Lib.hid (show Has1 wd wr.heap.size (.slice ma ms.length mc) from by rw [hwd]; exact Has1.new wr _ _)
      have Mo := Lib.hid (own_nw hso Na.out)
      have Hwd := Lib.hid hwd
      have hszd : wd.heap.size = wr.heap.size + 1 := by rw [hwd]; simp
      unfold maxLen at hs2
      clear hso hms hwd ho hin hK hX hZ hN
      go_upto_region 5 with fail
      rw [← Hwd.out]
      clear hsc Hwd
      have D := Lib.hid (Na.out.trans ((Nw.refl wd).draw 1))
      obtain ⟨⟨m0, n0⟩, ⟨m1, n1⟩, ⟨m2, n2⟩, ⟨m3, n3⟩, ⟨m4, n4⟩, ⟨m5, n5⟩⟩ := six_at (Kr.out.nw Na.out)
      have b0 := B4.out.2.1
      have K1 := Lib.hid (l7Body_c ms ms.length base _ rfl (by omega) wd.drew (own_nw Mo.out ((Nw.refl wd).draw 1)))
      have hsd : wd.drew.heap.size = wr.heap.size + 1 := hszd
      go_region_law (first
        | (go_simp
           go_at_call 30
           with_reducible refine K1.out.mono ?_
           rintro e w6 ⟨mv, rfl, hown, n6⟩
           obtain ⟨pa, pc, rfl⟩ := own_shape' hown
           have D6 := Lib.hid (D.out.trans n6)
           have O6 := Lib.hid hown
           have Kx6 := Lib.hid (Kr.out.nw D6.out)
           have Ho6 := Lib.hid (own_nw Ho.out.1 D6.out)
           have hS6 : w.heap.size + 2 < w6.heap.size := Kx6.out.1
           obtain ⟨⟨q0, r0⟩, ⟨q1, r1⟩, ⟨q2, r2⟩, ⟨q3, r3⟩, ⟨q4, r4⟩, ⟨q5, r5⟩⟩ := six_at Kx6.out
           have c0 := (B4.out.nw (((Nw.refl wd).draw 1).trans n6)).2.1
           clear hown n6)
        | (refine step_append_body rfl (.tmp 23) (.tmp 26) rfl (w.heap.size + 3) k w6.heap.size (.slice ta k tc) (.slice pa ms.length pc) vs rfl rfl (Ho6.out.alloc _) (by go_simp) rfl (by omega) (by simp; omega) ?_
           intro v7 w7 own7 gr7
           have A7 := Lib.hid (D6.out.trans ((Nw.refl w6).alloc (.cells #[.slice pa ms.length pc] 65 (0, 0))))
           have hnb : ∀ g, (Value.slice ta k tc).ownBlock = some g → w.heap.size + 3 ≤ g := fun g hg => own_ge Ho6.out g hg
           have G7 := Lib.hid (BodsR.snoc (ms := ms) (bs := bs.take k) (by rw [hlen]; exact own_nw Ho.out.1 A7.out) (fun p r hp => by obtain ⟨v, a, b⟩ := Ho.out.2 p r hp; exact ⟨v, a, own_nw b A7.out⟩) (O6.out.alloc _) (by omega) (by rw [hlen]; exact own7) gr7)
           have K7 := Lib.hid ((Kr.out.nw A7.out).grown gr7 (fun e => by have := hnb _ e; omega))
           have X7 := Lib.hid ((Xr.out.nw A7.out).grown gr7 (fun e => by have := hnb _ e; omega))
           have Z7 := Lib.hid ((Zr.out.nw A7.out).grown gr7 (fun e => by have := hnb _ e; omega))
           have N7 := Lib.hid ((Nr.out.trans A7.out).grown gr7 (fun g hg => by have := hnb _ hg; omega))
           obtain ⟨⟨o0, h0⟩, ⟨o1, h1⟩, ⟨o2, h2⟩, ⟨o3, h3⟩, ⟨o4, h4⟩, ⟨o5, h5⟩⟩ := six_at K7.out
           obtain ⟨qa, qn, qc, rfl⟩ := own_shape own7
           clear own7 gr7 hnb))
      all_goals
        go_wp2_with fail
        go_roundw
        case rel =>
          exact ⟨k + 1, .slice qa qn qc, by omega, by rw [show ((k + 1 : Nat) : Int) = (k : Int) + 1 from by omega], K7.out.set 4 _, X7.out.sete (p := ⟨w.heap.size + 2, 4, none⟩) (by show w.heap.size + 2 ≠ w.heap.size; omega) _, Z7.out.sete (p := ⟨w.heap.size + 2, 4, none⟩) (by show w.heap.size + 2 ≠ w.heap.size + 1; omega) _,
            by rw [List.take_add_one, Hms.out]; exact G7.out.set (p := ⟨w.heap.size + 2, 4, none⟩) (by show w.heap.size + 2 < w.heap.size + 3; omega) _, N7.out.set (p := ⟨w.heap.size + 2, 4, none⟩) (by show w.heap.size ≤ w.heap.size + 2; omega) _⟩
        case measure => simp only [intOf]; omega
    · obtain rfl : k = nb := by omega
      have Bd := Lib.hid (show BodsR wr (w.heap.size + 3) (.slice ta k tc) bs from by
        have h : BodsR wr (w.heap.size + 3) (.slice ta k tc) (bs.take k) := ⟨vs, by rw [hlen]; exact ho, hin⟩
        rwa [List.take_of_length_le (by rw [← Hn.out.1]; omega)] at h)
      clear hK hX hZ hN ho hin
      obtain ⟨⟨e0, g0⟩, ⟨e1, g1⟩, ⟨e2, g2⟩, ⟨e3, g3⟩, ⟨e4, g4⟩, ⟨e5, g5⟩⟩ := six_at Xr.out
      obtain ⟨⟨m0, n0⟩, ⟨m1, n1⟩, ⟨m2, n2⟩, ⟨m3, n3⟩, ⟨m4, n4⟩, ⟨m5, n5⟩⟩ := six_at Kr.out
      have Ev := Lib.hid (show wr.ownsRow base 68 6 (.slice ea ne ec) ne (cellsE es) from by have o := own_nw H.out.evs Nr.out; rwa [← Hn.out.2] at o)
      have Fin : ∀ (w6 : World) (v6 : Value), Nw w w6 → HasC w6 (w.heap.size + 2) [.int .i64 (L : Int), .int .i64 (V : Int), .float .f32 C, .float .f32 R, .slice ta k tc, .slice none 0 0] → HasC w6 (w.heap.size + 1) [.int .i64 0, .int .i64 0, .float .f32 0, .float .f32 0, .slice none 0 0, .slice none 0 0] →
          BodsR w6 (w.heap.size + 3) (.slice ta k tc) bs → w6.ownsRow (w.heap.size + 3) 68 6 v6 es.length (cellsE es) →
          HasC (w6.setCell ⟨w.heap.size + 2, 5, none⟩ v6) (w.heap.size + 2) [.int .i64 (L : Int), .int .i64 (V : Int), .float .f32 C, .float .f32 R, .slice ta k tc, v6] ∧ HasC (w6.setCell ⟨w.heap.size + 2, 5, none⟩ v6) (w.heap.size + 1) [.int .i64 0, .int .i64 0, .float .f32 0, .float .f32 0, .slice none 0 0, .slice none 0 0] ∧
          BodsR (w6.setCell ⟨w.heap.size + 2, 5, none⟩ v6) (w.heap.size + 3) (.slice ta k tc) bs ∧ (w6.setCell ⟨w.heap.size + 2, 5, none⟩ v6).ownsRow (w.heap.size + 3) 68 6 v6 es.length (cellsE es) ∧ Nw w (w6.setCell ⟨w.heap.size + 2, 5, none⟩ v6) := fun w6 v6 n6 h1 h2 h3 h4 =>
        ⟨h1.set 5 v6, h2.sete (p := ⟨w.heap.size + 2, 5, none⟩) (by show w.heap.size + 2 ≠ w.heap.size + 1; omega) v6, h3.set (p := ⟨w.heap.size + 2, 5, none⟩) (by show w.heap.size + 2 < w.heap.size + 3; omega) v6,
         own_set (p := ⟨w.heap.size + 2, 5, none⟩) h4 (by show w.heap.size + 2 < w.heap.size + 3; omega) v6, n6.set (p := ⟨w.heap.size + 2, 5, none⟩) (by show w.heap.size ≤ w.heap.size + 2; omega) v6⟩
      have HFin := Lib.hid Fin
      clear Fin
      rcases Ev.out.2 with ⟨h1, h2⟩ | ⟨g, cap, cur, h1, hb, hg, hc, hmx, hs, ht⟩
      · cases h1
        have hes : es = [] := List.eq_nil_of_length_eq_zero (by rw [← Hn.out.2])
        subst hes
        have O6 := Lib.hid (World.ownsRow_nil wr (w.heap.size + 3) 68 6)
        go_upto_region 8 with (at_builtin; refine wpList_append_own_none rfl _ _ 25 rfl _ 68 j0 6 Tryz.underlying25 hj _ _ _ rfl O6.out rfl ?_)
        obtain ⟨f1, f2, f3, f4, f5⟩ := HFin.out wr (.slice none 0 0) Nr.out Kr.out Zr.out Bd.out (World.ownsRow_nil _ _ _ _)
        obtain ⟨w7, hw7⟩ : ∃ w7, w7 = wr.setCell ⟨w.heap.size + 2, 5, none⟩ (.slice none 0 0) := ⟨_, rfl⟩
        rw [← hw7] at f1 f2 f3 f4 f5 ⊢
        obtain ⟨⟨a0, -⟩, ⟨a1, -⟩, ⟨a2, -⟩, ⟨a3, -⟩, ⟨a4, -⟩, ⟨a5, -⟩⟩ := six_at f1
        obtain ⟨⟨r0, z0⟩, ⟨r1, z1⟩, ⟨r2, z2⟩, ⟨r3, z3⟩, ⟨r4, z4⟩, ⟨r5, z5⟩⟩ := six_at f2
        have Fz := Lib.hid (rows_six f3 f4 (b := w.heap.size + 1) (by omega) (.int .i64 (L : Int)) (.int .i64 (V : Int)) (.float .f32 C) (.float .f32 R) (.slice ta k tc) (.slice none 0 0))
        have Nz := Lib.hid (nw_six f5 (b := w.heap.size + 1) (by omega) (.int .i64 (L : Int)) (.int .i64 (V : Int)) (.float .f32 C) (.float .f32 R) (.slice ta k tc) (.slice none 0 0))
        clear hw7 f1 f2 f3 f4 f5 e0 g0 e1 g1 e2 g2 e3 g3 e4 g4 e5 g5 m0 n0 m1 n1 m2 n2 m3 n3 m4 n4 m5 n5
        go_wp2_with fail
        exact bodyPost_ret (v := .agg #[.int .i64 (L : Int), .int .i64 (V : Int), .float .f32 C, .float .f32 R, .slice ta k tc, .slice none 0 0]) (by simp [results, Tryz.results14, go_sem, r0, r1, r2, r3, r4, r5, z0]) rfl
          ⟨_, _, rfl, Fz.out.1.base (by omega), own_base Fz.out.2 (by omega), Nz.out⟩
      · cases h1
        clear hb hg hc hmx hs ht
        have O6 := Lib.hid (World.ownsRow_nil wr (w.heap.size + 3) 68 6)
        go_upto_region 8 with (at_builtin; refine wpList_append_own _ rfl _ _ 25 rfl (w.heap.size + 3) 68 j0 (.agg #[.int .i64 0, .int .i64 0, .int .i64 0, .int .i64 0, .int .i64 0, .float .f32 0]) 6 48 Tryz.underlying25 hj hjz0 hjz1 hjz2 rfl (by decide) _ _ _ rfl O6.out ⟨g, 0, none⟩ ne ec (cellsE es) rfl ?qc1 ?qc2 ?qc3 ?qc4 ?qc5 ?qc6 ?_)
        case qc1 => rw [cellsE_len, ← Hn.out.2]
        case qc2 =>
          intro j u hj
          have hj' : j < ne * 6 := by
            have := (List.getElem?_eq_some_iff.1 hj).1
            rw [cellsE_len, ← Hn.out.2] at this
            exact this
          have c1 := Ev.out.cellAt j hj'
          rw [hj] at c1
          rw [show (⟨g, 0, none⟩ : Addr).add j = ⟨g, j, none⟩ from by simp [Addr.add]; first | done | (intro h; omega)]
          exact c1
        case qc3 => exact cellsE_one es
        case qc4 => unfold maxLen; omega
        case qc5 => omega
        case qc6 => omega
        intro v6 w6 hown hgrow hnil
        obtain ⟨va, vn, vc, rfl⟩ := own_shape hown
        have n6 : Nw wr w6 := (Nw.refl wr).grown hgrow (fun q hq => by simp [Value.ownBlock] at hq)
        obtain ⟨f1, f2, f3, f4, f5⟩ := HFin.out w6 (.slice va vn vc) (Nr.out.trans n6) (Kr.out.nw n6) (Zr.out.nw n6) (Bd.out.nw n6) (by rw [← Hn.out.2]; simpa using hown)
        clear e0 g0 e1 g1 e2 g2 e3 g3 e4 g4 e5 g5 m0 n0 m1 n1 m2 n2 m3 n3 m4 n4 m5 n5
        obtain ⟨⟨e0, g0⟩, ⟨e1, g1⟩, ⟨e2, g2⟩, ⟨e3, g3⟩, ⟨e4, g4⟩, ⟨e5, g5⟩⟩ := six_at (Xr.out.nw n6)
        obtain ⟨⟨m0, n0⟩, ⟨m1, n1⟩, ⟨m2, n2⟩, ⟨m3, n3⟩, ⟨m4, n4⟩, ⟨m5, n5⟩⟩ := six_at (Kr.out.nw n6)
        clear hown hgrow hnil
        go_upto_region 8 with fail
        obtain ⟨w7, hw7⟩ : ∃ w7, w7 = w6.setCell ⟨w.heap.size + 2, 5, none⟩ (.slice va vn vc) := ⟨_, rfl⟩
        rw [← hw7] at f1 f2 f3 f4 f5 ⊢
        obtain ⟨⟨a0, -⟩, ⟨a1, -⟩, ⟨a2, -⟩, ⟨a3, -⟩, ⟨a4, -⟩, ⟨a5, -⟩⟩ := six_at f1
        obtain ⟨⟨r0, z0⟩, ⟨r1, z1⟩, ⟨r2, z2⟩, ⟨r3, z3⟩, ⟨r4, z4⟩, ⟨r5, z5⟩⟩ := six_at f2
        have Fz := Lib.hid (rows_six f3 f4 (b := w.heap.size + 1) (by omega) (.int .i64 (L : Int)) (.int .i64 (V : Int)) (.float .f32 C) (.float .f32 R) (.slice ta k tc) (.slice va vn vc))
        have Nz := Lib.hid (nw_six f5 (b := w.heap.size + 1) (by omega) (.int .i64 (L : Int)) (.int .i64 (V : Int)) (.float .f32 C) (.float .f32 R) (.slice ta k tc) (.slice va vn vc))
        clear hw7 f1 f2 f3 f4 f5 e0 g0 e1 g1 e2 g2 e3 g3 e4 g4 e5 g5 m0 n0 m1 n1 m2 n2 m3 n3 m4 n4 m5 n5
        go_wp2_with fail
        exact bodyPost_ret (v := .agg #[.int .i64 (L : Int), .int .i64 (V : Int), .float .f32 C, .float .f32 R, .slice ta k tc, .slice va vn vc]) (by simp [results, Tryz.results14, go_sem, r0, r1, r2, r3, r4, r5, z0]) rfl
          ⟨_, _, rfl, Fz.out.1.base (by omega), own_base Fz.out.2 (by omega), Nz.out⟩
end Go.Proofs.YtiakcibeobbonaaGreat

/- The model's OpenStream (FnCut).
   Conditions: those that each statement names. -/
namespace Go.Proofs.YtiakcibeobbonaaGreat
set_option linter.unusedSimpArgs false
set_option linter.unusedVariables false
open Go Go.RowKit

theorem mem_of_ordE {es : List Ev6} {e : Ev6} (h : e ∈ ordE es) : e ∈ es := by
  have k := ordE_filter es e.t
  have h1 : e ∈ (ordE es).filter (fun x => x.t == e.t) := List.mem_filter.2 ⟨h, by simp⟩
  rw [k] at h1
  exact (List.mem_filter.1 h1).1
def OpnP (L V C R : Nat) (bs : List (List M4)) (es : List Ev6) (w : World) (e : Ending) (w' : World) : Prop :=
  ∃ (sv ev : Value), e = .returned (.tuple #[strA L V C R sv ev 0 (dAt (ordE es) 0) (.slice none 0 0) 0, .bool true]) ∧ StrV w' w.heap.size L V C R bs es 0 sv ev (.slice none 0 0) 0 [] ∧ Nw w w'
set_option maxHeartbeats 6400000 in
set_option maxRecDepth 100000 in
theorem openStream_c (base L V C R : Nat) (bs : List (List M4)) (es : List Ev6) (sv ev : Value) (w : World) (h : ScoV w base L V C R bs es sv ev) (hL70 : L ≤ 70) :
    Calls Tryz.prog 5 #[.agg #[.int .i64 (L : Int), .int .i64 (V : Int), .float .f32 C, .float .f32 R, sv, ev]] w (OpnP L V C R bs es w) := by
  obtain ⟨⟨sa, sc, rfl⟩, ea, ec, rfl⟩ := h.shape
  obtain ⟨w1, hw1⟩ : ∃ w1, w1 = w.alloc (.cells #[.int .i64 (L : Int), .int .i64 (V : Int), .float .f32 C, .float .f32 R, .slice sa bs.length sc, .slice ea es.length ec] 27 (0, 0)) := ⟨_, rfl⟩
  obtain ⟨w2, hw2⟩ : ∃ w2, w2 = w1.alloc (.cells #[.int .i64 0, .int .i64 0, .float .f32 0, .float .f32 0, .slice none 0 0, .slice none 0 0, .int .i64 0, .int .i64 0, .slice none 0 0, .float .f32 0] 31 (0, 0)) := ⟨_, rfl⟩
  have s1 : w1.heap.size = w.heap.size + 1 := by rw [hw1]; simp
  have s2 : w2.heap.size = w.heap.size + 2 := by rw [hw2]; simp [s1]
  have N2 := Lib.hid (show Nw w w2 from by rw [hw2, hw1]; exact ((Nw.refl w).alloc _).alloc _)
  have X2 := Lib.hid (show HasC w2 w.heap.size [.int .i64 (L : Int), .int .i64 (V : Int), .float .f32 C, .float .f32 R, .slice sa bs.length sc, .slice ea es.length ec] from by rw [hw2, hw1]; exact (HasC.new w _ _ _ _ _ _ _).alloc _)
  have Z2 := Lib.hid (show HasC w2 (w.heap.size + 1) [.int .i64 0, .int .i64 0, .float .f32 0, .float .f32 0, .slice none 0 0, .slice none 0 0, .int .i64 0, .int .i64 0, .slice none 0 0, .float .f32 0] from by rw [hw2, ← s1]; exact HasC.newB w1 _ _)
  have H := Lib.hid h
  have Hw := Lib.hid (And.intro hw1 hw2)
  have d0 : dAt (ordE es) 0 = 0 := dAt_zero _ (fun e he => (h.eok e (mem_of_ordE he)).1)
  have D0 := Lib.hid d0
  clear h hw1 hw2 s1 d0
  go_enter Tryz.func5, Tryz.ntmps5
  go_upto_region 1 with fail
  rw [← Hw.out.1, ← Hw.out.2]
  clear Hw
  obtain ⟨⟨e0, g0⟩, ⟨e1, g1⟩, ⟨e2, g2⟩, ⟨e3, g3⟩, ⟨e4, g4⟩, ⟨e5, g5⟩⟩ := six_at X2.out
  go_wp2_with fail
  refine (specScore_v base L V C R bs es _ _ _ (H.out.nw N2.out)).mono ?_
  rintro e w3 ⟨rfl, n3⟩
  have N3 := Lib.hid (N2.out.trans n3)
  have X3 := Lib.hid (X2.out.nw n3)
  have Z3 := Lib.hid (Z2.out.nw n3)
  clear n3 e0 g0 e1 g1 e2 g2 e3 g3 e4 g4 e5 g5
  obtain ⟨⟨e0, g0⟩, ⟨e1, g1⟩, ⟨e2, g2⟩, ⟨e3, g3⟩, ⟨e4, g4⟩, ⟨e5, g5⟩⟩ := six_at X3.out
  have hz3 := Z3.out.1
  go_wp2_with fail
  refine (l7Copy_c base L V C R bs es _ _ _ (H.out.nw N3.out)).mono ?_
  rintro e w5 ⟨sv5, ev5, rfl, hb5, he5, n5⟩
  have hsc : ScoV w5 w3.heap.size L V C R bs es sv5 ev5 := ⟨H.out.hL, H.out.hV, H.out.hC, H.out.hR, H.out.hb, H.out.he, H.out.bok, H.out.eok, hb5, he5⟩
  have hvo : VoicesR w5 w3.heap.size (.slice none 0 0) [] := VoicesR.nil _ _
  obtain ⟨⟨ba, bc, rfl⟩, ca, cc, rfl⟩ := hsc.shape
  have N5 := Lib.hid (N3.out.trans n5)
  have Z5 := Lib.hid (Z3.out.nw n5)
  have T1 := Lib.hid (ten_str (b := w.heap.size + 1) (.int .i64 (L : Int)) (.int .i64 (V : Int)) (.float .f32 C) (.float .f32 R) (.slice ba bs.length bc) (.slice ca es.length cc) (.int .i64 0) (.int .i64 0) (.slice none 0 0) (.float .f32 0) hsc hvo (by omega))
  have T2 := Lib.hid (ten_low (w := w5) (b := w.heap.size + 1) (.int .i64 (L : Int)) (.int .i64 (V : Int)) (.float .f32 C) (.float .f32 R) (.slice ba bs.length bc) (.slice ca es.length cc) (.int .i64 0) (.int .i64 0) (.slice none 0 0) (.float .f32 0))
  have Nf := Lib.hid (T2.out.2 w N5.out (by omega))
  have Fin := Lib.hid (show OpnP L V C R bs es w (.returned (.tuple #[strA L V C R (.slice ba bs.length bc) (.slice ca es.length cc) 0 (dAt (ordE es) 0) (.slice none 0 0) 0, .bool true])) _ from
    ⟨_, _, rfl, ⟨T1.out.1.base (by omega), T1.out.2.base (by omega), rfl, rfl, by omega, hL70⟩, Nf.out⟩)
  rw [D0.out] at Fin
  unfold strA at Fin
  obtain ⟨r0, r1, r2, r3, r4, r5, r6, r7, r8, r9⟩ := ten_at Z5.out
  obtain ⟨f0, f1, f2, f3, f4, f5, f6, f7, f8, f9⟩ := ten_fz Z5.out
  have hz5 := Z5.out.1
  clear hsc hvo n5 hb5 he5 e0 g0 e1 g1 e2 g2 e3 g3 e4 g4 e5 g5
  go_wp2_with fail
  exact bodyPost_ret (v := .tuple #[.agg #[.int .i64 (L : Int), .int .i64 (V : Int), .float .f32 C, .float .f32 R, .slice ba bs.length bc, .slice ca es.length cc, .int .i64 0, .int .i64 0, .slice none 0 0, .float .f32 0], .bool true]) (by simp [results, Tryz.results5, go_sem, r0, r1, r2, r3, r4, r5, r6, r7, r8, r9, f0]) rfl Fin.out
end Go.Proofs.YtiakcibeobbonaaGreat
