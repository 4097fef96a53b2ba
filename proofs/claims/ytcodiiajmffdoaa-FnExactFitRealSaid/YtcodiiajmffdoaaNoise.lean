/- A region that draws its order and holds conversions whose bits are not fixed (those of NaN): one walk of the lexical order serves every order, if at each conversion what follows is shown for every value that it may yield.
   Conditions: no conversion stands apart from a call (each call waits for each conversion). No program stands in it. -/
import Derived.Deep.QuietTactic
namespace Go.Proofs.Ytcodiiajmffdoaa
open Go

namespace Noise
section
variable {P : Program} {ops : Array Oper} {md : Region.Mode} {C : World → Prop}

/-- 0: a conversion; 2: a call of a function; 1: all else -/
def kind (o : Oper) : Nat :=
  match o.op with
  | .convert .. => 0
  | .call c => (match c.callee with | .builtin _ => 1 | _ => 2)
  | _ => 1

@[go_sem] def noisyUpon (C : World → Prop) (S : Value → Prop) : Result Next → Prop
  | .ok (.value u) w' => C w' ∧ S u
  | _ => False
@[go_sem] def plainUpon (w : World) (v : Value) : Result Next → Prop
  | .ok (.value u) w' => w' = w ∧ u = v
  | .ok .skip w' => w' = w ∧ v = undef
  | _ => False

def Yields (P : Program) (ops : Array Oper) (C : World → Prop) (o : Oper) (S : Value → Prop) (a : Act) : Prop :=
  (Region.wanted o (yielded ops a.tmps) = true ∧ kind o = 0 ∧ (∃ v, S v) ∧ ∀ w, C w → noisyUpon C S ((execOp a.eval o).run P w)) ∨
  (Region.wanted o (yielded ops a.tmps) = true ∧ kind o = 1 ∧ ∃ v, (∀ u, S u ↔ u = v) ∧ ∀ w, C w → plainUpon w v ((execOp a.eval o).run P w)) ∨
  (Region.wanted o (yielded ops a.tmps) = true ∧ kind o = 2 ∧ ∃ v, (∀ u, S u ↔ u = v) ∧ ∀ w, C w → o.quietAt P a C w v) ∨
  (Region.wanted o (yielded ops a.tmps) = false ∧ ∀ u, S u ↔ u = undef)

theorem Yields.some {o : Oper} {S : Value → Prop} {a : Act} (h : Yields P ops C o S a) : ∃ v, S v := by
  rcases h with ⟨-, -, h, -⟩ | ⟨-, -, v, h, -⟩ | ⟨-, -, v, h, -⟩ | ⟨-, h⟩
  · exact h
  · exact ⟨v, (h v).2 rfl⟩
  · exact ⟨v, (h v).2 rfl⟩
  · exact ⟨undef, (h _).2 rfl⟩
theorem Yields.of_same {o : Oper} {S : Value → Prop} {a a' : Act} (hy : Yields P ops C o S a) (he : execOp a'.eval o = execOp a.eval o)
    (hw : Region.wanted o (yielded ops a'.tmps) = Region.wanted o (yielded ops a.tmps)) : Yields P ops C o S a' := by
  unfold Yields Oper.quietAt at *
  rw [he, hw]
  exact hy

/-- THE LEXICAL WALK -/
def wpNoise (P : Program) (ops : Array Oper) (C : World → Prop) (Q : Act → Prop) : List Oper → Act → Prop
  | [], a => Q a
  | o :: rest, a => ∃ S, Yields P ops C o S a ∧ ∀ v, S v → wpNoise P ops C Q rest (a.put o.dst v)

def nOp (P : Program) (ops : Array Oper) (C : World → Prop) (i : Nat) (K : Act → Prop) (a : Act) : Prop :=
  match ops[i]? with
  | none => K a
  | some o => ∃ S, Yields P ops C o S a ∧ ∀ v, S v → K (a.put o.dst v)

theorem nOp_mono {i : Nat} {a : Act} {K K' : Act → Prop} (h : ∀ a, K a → K' a) (hh : nOp P ops C i K a) : nOp P ops C i K' a := by
  unfold nOp at *
  split
  · exact h _ (by simpa [*] using hh)
  · rename_i o ho
    simp only [ho] at hh
    obtain ⟨S, h1, h2⟩ := hh
    exact ⟨S, h1, fun v hv => h _ (h2 v hv)⟩

/-- Whatever order is picked from here on. -/
def wpAnyN (P : Program) (md : Region.Mode) (ops : Array Oper) (C : World → Prop) (Q : Act → Prop) : Nat → Array Bool → Act → Prop
  | 0, listed, a => Region.ready md ops listed = [] ∧ Q a
  | fuel + 1, listed, a =>
    (Region.ready md ops listed = [] → Q a) ∧
    ∀ i ∈ Region.ready md ops listed, nOp P ops C i (wpAnyN P md ops C Q fuel (listed.setIfInBounds i true)) a

theorem wp_of {o : Oper} {a : Act} {S : Value → Prop} {K' : Act → World → Prop} {Q' : Exit → Act → World → Prop} {w : World} (hwt : Region.wanted o (yielded ops a.tmps) = true) (hw : C w)
    (h : ∀ v w', C w' → S v → K' (a.put o.dst v) w') (hy : Yields P ops C o S a) : o.wp P a w K' Q' := by
  rcases hy with ⟨-, -, -, h1⟩ | ⟨-, -, v, hv, h1⟩ | ⟨-, -, v, hv, h1⟩ | ⟨h0, -⟩
  · have h3 := h1 w hw
    unfold Oper.wp
    generalize (execOp a.eval o).run P w = r at *
    cases r with
    | ok n w' =>
      cases n <;> simp only [noisyUpon] at h3 <;> simp only [Oper.upon]
      exact h _ _ h3.1 h3.2
    | halt x w' => simp only [noisyUpon] at h3
  · have h3 := h1 w hw
    unfold Oper.wp
    generalize (execOp a.eval o).run P w = r at *
    cases r with
    | ok n w' =>
      cases n <;> simp only [plainUpon] at h3 <;> simp only [Oper.upon]
      case value u =>
        obtain ⟨e1, e2⟩ := h3
        rw [e1, e2]
        exact h _ _ hw ((hv v).2 rfl)
      case skip =>
        obtain ⟨e1, e2⟩ := h3
        rw [e1, ← e2]
        exact h _ _ hw ((hv v).2 rfl)
    | halt x w' => simp only [plainUpon] at h3
  · have h3 := h1 w hw
    unfold Oper.quietAt at h3
    unfold Oper.wp
    generalize (execOp a.eval o).run P w = r at *
    cases r with
    | ok n w' =>
      cases n <;> simp only [Oper.quietUpon] at h3 <;> simp only [Oper.upon]
      case value u =>
        obtain ⟨e1, e2⟩ := h3
        rw [e1, e2]
        exact h _ _ hw ((hv v).2 rfl)
      case skip =>
        obtain ⟨e1, e2⟩ := h3
        rw [e1, ← e2]
        exact h _ _ hw ((hv v).2 rfl)
      case enter f args =>
        obtain ⟨e1, hc⟩ := h3
        rw [e1]
        exact hc.mono fun e w'' ⟨he, hw''⟩ => by subst he; exact h _ _ hw'' ((hv v).2 rfl)
    | halt x w' => simp only [Oper.quietUpon] at h3
  · rw [h0] at hwt; cases hwt

theorem wpOp_of_nOp {i : Nat} {a : Act} {K : Act → Prop} {K' : Act → World → Prop} {Q' : Exit → Act → World → Prop} {w : World} (hC : C w) (h : ∀ a w', C w' → K a → K' a w') (hh : nOp P ops C i K a) : wpOp P ops Q' i K' a w := by
  unfold nOp at hh
  unfold wpOp
  split
  · rename_i ho; simp only [ho] at hh; exact h _ _ hC hh
  · rename_i o ho
    simp only [ho] at hh
    obtain ⟨S, hy, hk⟩ := hh
    split
    · rename_i hw; exact .inl (wp_of hw hC (fun v w' hw' hv => h _ _ hw' (hk v hv)) hy)
    · rename_i hw
      rcases hy with ⟨h0, -⟩ | ⟨h0, -⟩ | ⟨h0, -⟩ | ⟨-, h0⟩
      · exact absurd h0 hw
      · exact absurd h0 hw
      · exact absurd h0 hw
      · exact h _ _ hC (hk _ ((h0 _).2 rfl))

theorem wpAny_of_noise {Q : Act → Prop} {Q' : Exit → Act → World → Prop} (hQ : ∀ a w, C w → Q a → Q' .normal a w) : ∀ (fuel : Nat) (listed : Array Bool) (a : Act) (w : World), C w →
    wpAnyN P md ops C Q fuel listed a → wpAny P md ops Q' fuel listed a w
  | 0, _, _, _, hw, h => ⟨h.1, hQ _ _ hw h.2⟩
  | fuel + 1, _, _, _, hw, h => ⟨fun h0 => hQ _ _ hw (h.1 h0), fun i hi => wpOp_of_nOp hw (fun a' w' hw' => wpAny_of_noise hQ fuel _ a' w' hw') (h.2 i hi)⟩

/-- one operation 'oj', apart from 'oi': the two may change places -/
theorem nOp_put {j : Nat} {oi oj : Oper} {S : Value → Prop} (hj : ops[j]? = some oj) (hap : oi.apart ops oj = true)
    (hsi : ∀ cs b, oi.op ≠ .select cs b) (hsj : ∀ cs b, oj.op ≠ .select cs b) (h0 : ∃ w, C w) (hcall : kind oi = 0 → kind oj ≠ 2) {K : Act → Prop} {a : Act}
    (hy : Yields P ops C oi S a) (h : ∀ v, S v → nOp P ops C j K (a.put oi.dst v)) :
    nOp P ops C j (fun a' => Yields P ops C oi S a' ∧ ∀ v, S v → K (a'.put oi.dst v)) a := by
  obtain ⟨h1, h2, h3⟩ := Oper.apart_spec hap
  have keep : ∀ (a : Act), Yields P ops C oi S a → ∀ u, Yields P ops C oi S (a.put oj.dst u) := fun a hy u =>
    hy.of_same (execOp_put oi hsi a oj.dst u h3) (wanted_put oi a oj.dst u h3)
  have back : ∀ v T, Yields P ops C oj T (a.put oi.dst v) → Yields P ops C oj T a := fun v T hT =>
    hT.of_same (execOp_put oj hsj a oi.dst v h1).symm (wanted_put oj a oi.dst v h1).symm
  unfold nOp at *
  simp only [hj] at *
  have h' : ∀ v, S v → ∃ T, Yields P ops C oj T a ∧ ∀ u, T u → K ((a.put oj.dst u).put oi.dst v) := by
    intro v hv
    obtain ⟨T, hT, hK⟩ := h v hv
    exact ⟨T, back v T hT, fun u hu => by rw [← Act.put_comm a v u h2]; exact hK u hu⟩
  obtain ⟨v0, hv0⟩ := hy.some
  obtain ⟨T0, hT0, hK0⟩ := h' v0 hv0
  have one : (∀ v, S v → v = v0) → ∃ T, Yields P ops C oj T a ∧ ∀ u, T u → Yields P ops C oi S (a.put oj.dst u) ∧ ∀ v, S v → K ((a.put oj.dst u).put oi.dst v) :=
    fun hone => ⟨T0, hT0, fun u hu => ⟨keep a hy u, fun v hv => by rw [hone v hv]; exact hK0 u hu⟩⟩
  rcases id hy with ⟨-, k0, -, -⟩ | ⟨-, -, x, hx, -⟩ | ⟨-, -, x, hx, -⟩ | ⟨-, hx⟩
  · obtain ⟨w0, hw0⟩ := h0
    rcases id hT0 with ⟨g0, g1, g2, g3⟩ | ⟨g0, g1, x, g2, g3⟩ | ⟨g0, g1, -⟩ | ⟨g0, g2⟩
    · refine ⟨fun u => ∃ w, C w ∧ ∃ w', (execOp a.eval oj).run P w = .ok (.value u) w', .inl ⟨g0, g1, ?_, fun w hw => ?_⟩, fun u hu => ⟨keep a hy u, fun v hv => ?_⟩⟩
      · have := g3 w0 hw0
        generalize hr : (execOp a.eval oj).run P w0 = r at this
        cases r with
        | ok n w' =>
          cases n <;> simp only [noisyUpon] at this
          exact ⟨_, w0, hw0, _, hr⟩
        | halt x w' => simp only [noisyUpon] at this
      · have := g3 w hw
        generalize hr : (execOp a.eval oj).run P w = r at this
        cases r with
        | ok n w' =>
          cases n <;> simp only [noisyUpon] at this ⊢
          exact ⟨this.1, w, hw, _, hr⟩
        | halt x w' => simp only [noisyUpon] at this
      · obtain ⟨w, hw, w', hr⟩ := hu
        obtain ⟨T, hT, hK⟩ := h' v hv
        refine hK u ?_
        rcases hT with ⟨-, -, -, t3⟩ | ⟨-, t1, -⟩ | ⟨-, t1, -⟩ | ⟨t0, -⟩
        · have := t3 w hw
          rw [hr] at this
          exact this.2
        · rw [g1] at t1; cases t1
        · rw [g1] at t1; cases t1
        · rw [g0] at t0; cases t0
    · refine ⟨T0, hT0, fun u hu => ⟨keep a hy u, fun v hv => ?_⟩⟩
      obtain ⟨T, hT, hK⟩ := h' v hv
      refine hK u ?_
      rcases hT with ⟨-, t1, -⟩ | ⟨-, t1, y, t2, t3⟩ | ⟨-, t1, -⟩ | ⟨t0, -⟩
      · rw [g1] at t1; cases t1
      · have e : x = y := by
          have a1 := g3 w0 hw0
          have a2 := t3 w0 hw0
          generalize (execOp a.eval oj).run P w0 = r at a1 a2
          cases r with
          | ok n w' =>
            cases n <;> simp only [plainUpon] at a1 a2
            · exact a1.2.symm.trans a2.2
            · exact a1.2.trans a2.2.symm
          | halt x w' => simp only [plainUpon] at a1
        exact (t2 u).2 (((g2 u).1 hu).trans e)
      · rw [g1] at t1; cases t1
      · rw [g0] at t0; cases t0
    · exact absurd g1 (hcall k0)
    · refine ⟨T0, hT0, fun u hu => ⟨keep a hy u, fun v hv => ?_⟩⟩
      obtain ⟨T, hT, hK⟩ := h' v hv
      refine hK u ?_
      rcases hT with ⟨t0, -⟩ | ⟨t0, -⟩ | ⟨t0, -⟩ | ⟨-, t2⟩
      · rw [g0] at t0; cases t0
      · rw [g0] at t0; cases t0
      · rw [g0] at t0; cases t0
      · exact (t2 u).2 ((g2 u).1 hu)
  · exact one fun v hv => by rw [(hx v).1 hv, (hx v0).1 hv0]
  · exact one fun v hv => by rw [(hx v).1 hv, (hx v0).1 hv0]
  · exact one fun v hv => by rw [(hx v).1 hv, (hx v0).1 hv0]

/-- each call waits for each conversion -/
def callsWait (md : Region.Mode) (ops : Array Oper) : Bool :=
  (List.range ops.size).all fun i => (List.range ops.size).all fun j =>
    match ops[i]?, ops[j]? with
    | some oi, some oj => !(kind oi == 0 && kind oj == 2) || oj.after.toList.any fun e => Region.binds md e && e.on == i
    | _, _ => true
theorem callsWait_spec (h : callsWait md ops = true) {i j : Nat} {oi oj : Oper} (hi : ops[i]? = some oi) (hj : ops[j]? = some oj) (k0 : kind oi = 0) (k2 : kind oj = 2) : ∃ e ∈ oj.after, Region.binds md e = true ∧ e.on = i := by
  unfold callsWait at h
  have li : i < ops.size := by
    rcases Nat.lt_or_ge i ops.size with h' | h'
    · exact h'
    · rw [Array.getElem?_eq_none h'] at hi; cases hi
  have lj : j < ops.size := by
    rcases Nat.lt_or_ge j ops.size with h' | h'
    · exact h'
    · rw [Array.getElem?_eq_none h'] at hj; cases hj
  have h1 := List.all_eq_true.1 (List.all_eq_true.1 h i (List.mem_range.2 li)) j (List.mem_range.2 lj)
  simp only [hi, hj, k0, k2] at h1
  have h2 : (oj.after.toList.any fun e => Region.binds md e && e.on == i) = true := by simpa using h1
  obtain ⟨e, he, hp⟩ := List.any_eq_true.1 h2
  simp only [Bool.and_eq_true, beq_iff_eq] at hp
  exact ⟨e, Array.mem_toList_iff.1 he, hp.1, hp.2⟩

theorem wpAnyN_first {Q : Act → Prop} {i : Nat} {oi : Oper} {S : Value → Prop} (hi : ops[i]? = some oi) (hsel : ∀ (j : Nat) (o : Oper) cs b, ops[j]? = some o → o.op ≠ .select cs b) (h0 : ∃ w, C w) (hwait : callsWait md ops = true) :
    ∀ (fuel : Nat) (listed : Array Bool) (a : Act),
      (∀ j oj, ops[j]? = some oj → j ≠ i → listed.getD j true = false → (∀ e ∈ oj.after, Region.binds md e = true → e.on ≠ i) → oi.apart ops oj = true) →
      i ∈ Region.ready md ops listed → Yields P ops C oi S a →
      (∀ v, S v → wpAnyN P md ops C Q fuel (listed.setIfInBounds i true) (a.put oi.dst v)) → wpAnyN P md ops C Q (fuel + 1) listed a := by
  intro fuel
  induction fuel with
  | zero =>
    intro listed a _ hr hy H
    refine ⟨fun h => (by rw [h] at hr; cases hr), fun j hj => ?_⟩
    by_cases hji : j = i
    · subst hji
      unfold nOp
      simp only [hi]
      exact ⟨S, hy, H⟩
    · obtain ⟨v, hv⟩ := hy.some
      have := ready_mono hj hji
      rw [(H v hv).1] at this
      cases this
  | succ fuel ih =>
    intro listed a hfree hr hy H
    refine ⟨fun h => (by rw [h] at hr; cases hr), fun j hj => ?_⟩
    by_cases hji : j = i
    · subst hji
      unfold nOp
      simp only [hi]
      exact ⟨S, hy, H⟩
    · have h1 : ∀ v, S v → _ := fun v hv => (H v hv).2 j (ready_mono hj hji)
      obtain ⟨hjun, oj, hoj, hall⟩ := mem_ready.1 hj
      have hnot : ∀ e ∈ oj.after, Region.binds md e = true → e.on ≠ i := fun e he hb heq => by
        have h1 := hall e he hb
        have h0 := (mem_ready.1 hr).1
        rw [heq] at h1
        rcases Nat.lt_or_ge i listed.size with h' | h'
        · simp [h'] at h0 h1; rw [h0] at h1; cases h1
        · simp [Array.getElem?_eq_none h'] at h1
      have hcall : kind oi = 0 → kind oj ≠ 2 := fun k0 k2 => by
        obtain ⟨e, he, hb, ho⟩ := callsWait_spec hwait hi hoj k0 k2
        exact hnot e he hb ho
      have h2 := nOp_put hoj (hfree j oj hoj hji hjun hnot) (fun cs b => hsel i oi cs b hi) (fun cs b => hsel j oj cs b hoj) h0 hcall hy h1
      have hfree' : ∀ k ok, ops[k]? = some ok → k ≠ i → (listed.setIfInBounds j true).getD k true = false →
          (∀ e ∈ ok.after, Region.binds md e = true → e.on ≠ i) → oi.apart ops ok = true := fun k ok hk hki hun hno => by
        refine hfree k ok hk hki ?_ hno
        by_cases hjk : j = k
        · subst hjk; exact hjun
        · rw [getD_set_ne true hjk] at hun; exact hun
      refine nOp_mono (fun a' h3 => ih (listed.setIfInBounds j true) a' hfree' (ready_mono hr (Ne.symm hji)) h3.1 (fun v hv => ?_)) h2
      rw [Array.setIfInBounds_comm _ _ hji]
      exact h3.2 v hv

theorem wpAnyN_lex {Q : Act → Prop} (hs : Region.noSelect ops = true) (h0 : ∃ w, C w) (hwait : callsWait md ops = true) : ∀ (l : List Oper) (k : Nat) (listed : Array Bool) (a : Act), (∀ j, l[j]? = ops[k + j]?) →
    Region.lexFrom md ops l.length k listed = true → wpNoise P ops C Q l a → wpAnyN P md ops C Q l.length listed a
  | [], _, _, _, _, hB, h => ⟨by simpa [Region.lexFrom] using hB, h⟩
  | o :: l, k, listed, a, hl, hB, h => by
    have hk : ops[k]? = some o := by simpa using (hl 0).symm
    simp only [List.length_cons, Region.lexFrom, Bool.and_eq_true] at hB
    obtain ⟨⟨hr, hf⟩, hB'⟩ := hB
    obtain ⟨S, hy, hK⟩ := h
    exact wpAnyN_first hk (Region.noSelect_spec hs) h0 hwait l.length listed a (Region.free_spec hk hf) (by simpa using hr) hy
      (fun v hv => wpAnyN_lex hs h0 hwait l (k + 1) _ _ (fun j => by have := hl (j + 1); simpa [Nat.add_assoc, Nat.add_comm 1 j] using this) hB' (hK v hv))

/-- ONE WALK OF THE LEXICAL ORDER SERVES EVERY ORDER -/
theorem wp_region_noise {id : Nat} {Q : Exit → Act → World → Prop} {a : Act} {w : World} {l : List Oper} (hm : P.follows .mixedOrders = true) (hB : Region.lexB .any l.toArray = true) (hwait : callsWait .any l.toArray = true)
    (h : wpNoise P l.toArray (fun w' => ∃ n, w' = w.drewN n) (fun a' => ∀ w', (∃ n, w' = w.drewN n) → Q .normal a' w') l a) : (Code.region id l.toArray true).wp P Q a w := by
  simp only [Region.lexB, Bool.and_eq_true] at hB
  refine wp_region_any hm (wpAny_of_noise (Q := fun a' => ∀ w', (∃ n, w' = w.drewN n) → Q .normal a' w') (fun _ w' hw' h => h w' hw') _ _ _ _ ⟨1, rfl⟩ ?_)
  have := wpAnyN_lex (C := fun w' => ∃ n, w' = w.drewN n) (md := .any) hB.1 ⟨w.drewN 1, 1, rfl⟩ hwait l 0 (Array.replicate l.toArray.size false) a (by simp) (by simpa using hB.2) h
  simpa using this

/-! ### the steps of the walk -/
theorem noise_nil {Q : Act → Prop} {a : Act} (h : Q a) : wpNoise P ops C Q [] a := h
theorem noise_plain {Q : Act → Prop} {a : Act} {o : Oper} {rest : List Oper} (hw : Region.wanted o (yielded ops a.tmps) = true) (hk : kind o = 1) (v : Value) (hv : ∀ w, C w → (execOp a.eval o).run P w = .ok (.value v) w)
    (h : wpNoise P ops C Q rest (a.put o.dst v)) : wpNoise P ops C Q (o :: rest) a :=
  ⟨fun u => u = v, .inr (.inl ⟨hw, hk, v, fun _ => Iff.rfl, fun w hw => by rw [hv w hw]; exact ⟨rfl, rfl⟩⟩), fun u hu => by rw [hu]; exact h⟩
theorem noise_skip {Q : Act → Prop} {a : Act} {o : Oper} {rest : List Oper} (hw : Region.wanted o (yielded ops a.tmps) = false) (h : wpNoise P ops C Q rest (a.put o.dst undef)) : wpNoise P ops C Q (o :: rest) a :=
  ⟨fun u => u = undef, .inr (.inr (.inr ⟨hw, fun _ => Iff.rfl⟩)), fun u hu => by rw [hu]; exact h⟩
theorem noise_conv {Q : Act → Prop} {a : Act} {o : Oper} {rest : List Oper} (hw : Region.wanted o (yielded ops a.tmps) = true) (hk : kind o = 0) (S : Value → Prop) (hs : ∃ v, S v)
    (hv : ∀ w, C w → ∃ v w', (execOp a.eval o).run P w = .ok (.value v) w' ∧ C w' ∧ S v) (h : ∀ v, S v → wpNoise P ops C Q rest (a.put o.dst v)) : wpNoise P ops C Q (o :: rest) a :=
  ⟨S, .inl ⟨hw, hk, hs, fun w hw => by obtain ⟨v, w', e, c, s⟩ := hv w hw; rw [e]; exact ⟨c, s⟩⟩, h⟩
theorem noise_call {Q : Act → Prop} {a : Act} {o : Oper} {rest : List Oper} (hw : Region.wanted o (yielded ops a.tmps) = true) (hk : kind o = 2) (v : Value) (hv : ∀ w, C w → o.quietAt P a C w v)
    (h : wpNoise P ops C Q rest (a.put o.dst v)) : wpNoise P ops C Q (o :: rest) a :=
  ⟨fun u => u = v, .inr (.inr (.inl ⟨hw, hk, v, fun _ => Iff.rfl, hv⟩)), fun u hu => by rw [hu]; exact h⟩
/-- a step of each kind, what follows behind a variable -/
@[go_sem] def plain (P : Program) (o : Oper) (a : Act) (C : World → Prop) (K : Act → Prop) : Prop := ∃ v, (∀ w, C w → plainUpon w v ((execOp a.eval o).run P w)) ∧ K (a.put o.dst v)
theorem noise_step1 {Q : Act → Prop} {a : Act} {o : Oper} {rest : List Oper} (hk : kind o = 1)
    (h : ∀ K : Act → Prop, (∀ a, wpNoise P ops C Q rest a → K a) → if Region.wanted o (yielded ops a.tmps) then plain P o a C K else K (a.put o.dst undef)) : wpNoise P ops C Q (o :: rest) a := by
  have h1 := h _ (fun _ h => h)
  split at h1
  · rename_i hw
    obtain ⟨v, hv, hK⟩ := h1
    exact ⟨fun u => u = v, .inr (.inl ⟨hw, hk, v, fun _ => Iff.rfl, hv⟩), fun u hu => by rw [hu]; exact hK⟩
  · rename_i hw
    exact noise_skip (by simpa using hw) h1
theorem noise_step2 {Q : Act → Prop} {a : Act} {o : Oper} {rest : List Oper} (hk : kind o = 2)
    (h : ∀ K : Act → Prop, (∀ a, wpNoise P ops C Q rest a → K a) → if Region.wanted o (yielded ops a.tmps) then o.quiet P a C K else K (a.put o.dst undef)) : wpNoise P ops C Q (o :: rest) a := by
  have h1 := h _ (fun _ h => h)
  split at h1
  · rename_i hw
    obtain ⟨v, hv, hK⟩ := h1
    exact noise_call hw hk v hv hK
  · rename_i hw
    exact noise_skip (by simpa using hw) h1
theorem noise_step0 {Q : Act → Prop} {a : Act} {o : Oper} {rest : List Oper} (hk : kind o = 0)
    (h : ∀ K : Act → Prop, (∀ a, wpNoise P ops C Q rest a → K a) → if Region.wanted o (yielded ops a.tmps) then (∃ S : Value → Prop, (∃ v, S v) ∧ (∀ w, C w → noisyUpon C S ((execOp a.eval o).run P w)) ∧ ∀ v, S v → K (a.put o.dst v)) else K (a.put o.dst undef)) : wpNoise P ops C Q (o :: rest) a := by
  have h1 := h _ (fun _ h => h)
  split at h1
  · rename_i hw
    obtain ⟨S, hs, hv, hK⟩ := h1
    exact ⟨S, .inl ⟨hw, hk, hs, hv⟩, hK⟩
  · rename_i hw
    exact noise_skip (by simpa using hw) h1
end
end Noise
end Go.Proofs.Ytcodiiajmffdoaa
