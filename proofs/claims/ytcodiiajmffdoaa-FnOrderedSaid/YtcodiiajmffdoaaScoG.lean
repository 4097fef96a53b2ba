/- What draws scores, third part: bodies and events in memory; the append of one of them.
   Conditions: those that each statement names. -/
import Derived.Test.YtcodiiajmffdoaaScoE
import Derived.Test.YtcodiiajmffdoaaBody
import Derived.Test.YtcodiiajmffdoaaRing
import Derived.Deep.RegionLawGrows
namespace Go.Proofs.Ytcodiiajmffdoaa
open Go Go.RowKit

theorem info_body : (Try.prog.info? 118).map (fun i => (i.zero, i.size, i.bytes)) = some (some (.agg #[.slice none 0 0]), 1, 24) := by kernel_rfl
theorem info_event : (Try.prog.info? 57).map (fun i => (i.zero, i.size, i.bytes)) = some (some (.agg #[.int .i64 0, .int .i64 0, .int .i64 0, .int .i64 0, .int .i64 0, .float .f32 0]), 6, 48) := by kernel_rfl

/-- rows in memory of different types lie in different blocks -/
theorem rows_apart {w : World} {b b' : Nat} {E E' : TypeId} {size size' n n' : Nat} {v v' : Value} {xs xs' : List Value} (h : w.ownsRow b E size v n xs) (k : w.ownsRow b' E' size' v' n' xs') (hE : E ≠ E') : v.ownBlock = none ∨ v.ownBlock ≠ v'.ownBlock := by
  rcases h.2 with ⟨rfl, _⟩ | ⟨g, cap, cur, rfl, hb, hg, _⟩
  · exact .inl rfl
  · rcases k.2 with ⟨rfl, _⟩ | ⟨g', cap', cur', rfl, hb', hg', _⟩
    · right; simp [Value.ownBlock]
    · right
      intro e
      simp [Value.ownBlock] at e
      subst e
      rw [hg] at hg'
      injection hg' with hg'
      injection hg' with h1 h2 h3
      exact hE h2

/-! ### bodies -/
def BodsR (w : World) (base : Nat) (sv : Value) (bs : List (List M4)) : Prop :=
  ∃ vs : List Value, w.ownsRow base 118 1 sv bs.length vs ∧ ∀ (p : Nat) ms, bs[p]? = some ms → ∃ v, vs[p]? = some v ∧ w.ownsRow base 42 2 v ms.length (cellsM ms)
theorem BodsR.nil (w : World) (base : Nat) : BodsR w base (.slice none 0 0) [] := ⟨[], World.ownsRow_nil _ _ _ _, fun p r h => by simp at h⟩
theorem BodsR.nw {w w' : World} {base : Nat} {sv : Value} {bs : List (List M4)} (h : BodsR w base sv bs) (hk : Nw w w') : BodsR w' base sv bs := by
  obtain ⟨vs, h1, h2⟩ := h
  exact ⟨vs, own_nw h1 hk, fun p r hp => by obtain ⟨v, a, b⟩ := h2 p r hp; exact ⟨v, a, own_nw b hk⟩⟩
theorem BodsR.kp {c : Nat} {w w' : World} {base : Nat} {sv : Value} {bs : List (List M4)} (h : BodsR w base sv bs) (hk : Kp c w w') (hc : c < base) : BodsR w' base sv bs := by
  obtain ⟨vs, h1, h2⟩ := h
  exact ⟨vs, own_kp h1 hk hc, fun p r hp => by obtain ⟨v, a, b⟩ := h2 p r hp; exact ⟨v, a, own_kp b hk hc⟩⟩
theorem BodsR.base {w : World} {base b' : Nat} {sv : Value} {bs : List (List M4)} (h : BodsR w base sv bs) (hb : b' ≤ base) : BodsR w b' sv bs := by
  obtain ⟨vs, h1, h2⟩ := h
  exact ⟨vs, own_base h1 hb, fun p r hp => by obtain ⟨v, a, b⟩ := h2 p r hp; exact ⟨v, a, own_base b hb⟩⟩
theorem BodsR.set {w : World} {base : Nat} {sv : Value} {bs : List (List M4)} (h : BodsR w base sv bs) {p : Addr} (hp : p.block < base) (u : Value) : BodsR (w.setCell p u) base sv bs := by
  obtain ⟨vs, h1, h2⟩ := h
  exact ⟨vs, own_set h1 hp u, fun p r hp' => by obtain ⟨v, a, b⟩ := h2 p r hp'; exact ⟨v, a, own_set b hp u⟩⟩
theorem BodsR.shape {w : World} {base : Nat} {sv : Value} {bs : List (List M4)} (h : BodsR w base sv bs) : ∃ a c, sv = .slice a bs.length c := by
  obtain ⟨vs, h1, h2⟩ := h
  exact own_shape' h1
/-- a row of another type grows: the bodies stay -/
theorem BodsR.grown {w w' : World} {base b2 : Nat} {E : TypeId} {size n : Nat} {v sv : Value} {xs : List Value} {bs : List (List M4)} (h : BodsR w base sv bs) (hr : w.ownsRow b2 E size v n xs) (h1 : 118 ≠ E) (h2 : 42 ≠ E) (hg : w.grownBy w' v.ownBlock) : BodsR w' base sv bs := by
  obtain ⟨vs, k1, k2⟩ := h
  exact ⟨vs, k1.kept hg (rows_apart k1 hr h1), fun p r hp => by obtain ⟨v, a, b⟩ := k2 p r hp; exact ⟨v, a, b.kept hg (rows_apart b hr h2)⟩⟩
/-- a body behind the others -/
theorem BodsR.snoc {w w' : World} {base b2 : Nat} {sv sv' rv : Value} {bs : List (List M4)} {vs : List Value} {ms : List M4} (ho : w.ownsRow base 118 1 sv bs.length vs)
    (hi : ∀ (p : Nat) r, bs[p]? = some r → ∃ v, vs[p]? = some v ∧ w.ownsRow base 42 2 v r.length (cellsM r)) (hr : w.ownsRow b2 42 2 rv ms.length (cellsM ms)) (hb : base ≤ b2)
    (hn : w'.ownsRow base 118 1 sv' (bs.length + 1) (vs ++ [rv])) (hg : w.grownBy w' sv.ownBlock) : BodsR w' base sv' (bs ++ [ms]) := by
  refine ⟨vs ++ [rv], by rw [List.length_append]; exact hn, fun p r' hp => ?_⟩
  have hv : vs.length = bs.length := by have := ho.1; omega
  by_cases h : p < bs.length
  · rw [List.getElem?_append_left h] at hp
    obtain ⟨v, b, c⟩ := hi p r' hp
    exact ⟨v, by rw [List.getElem?_append_left (by omega)]; exact b, c.kept hg (rows_apart c ho (by decide))⟩
  · have h2 := (List.getElem?_eq_some_iff.1 hp).1
    rw [List.length_append] at h2
    obtain rfl : p = bs.length := by simp at h2; omega
    rw [List.getElem?_append_right (Nat.le_refl _), Nat.sub_self] at hp
    simp at hp
    subst hp
    exact ⟨rv, by rw [← hv, List.getElem?_append_right (Nat.le_refl _), Nat.sub_self]; rfl, own_base (hr.kept hg (rows_apart hr ho (by decide))) hb⟩
/-- one body, read -/
theorem BodsR.at {w : World} {base n : Nat} {sv : Value} {bs : List (List M4)} (h : BodsR w base sv bs) (hn : n = bs.length) {p : Nat} {ms : List M4} (hp : bs[p]? = some ms) :
    ∃ g cap a c, sv = .slice (some ⟨g, 0, none⟩) n cap ∧ n ≤ cap ∧ cap ≤ maxLen ∧ g < w.heap.size ∧ w.cell? ⟨g, p, none⟩ = some (.slice a ms.length c) ∧ w.ownsRow base 42 2 (.slice a ms.length c) ms.length (cellsM ms) := by
  obtain ⟨vs, ho, hi⟩ := h
  obtain ⟨v, h2, h3⟩ := hi p ms hp
  have hk := (List.getElem?_eq_some_iff.1 hp).1
  obtain ⟨a, c, rfl⟩ := own_shape' h3
  rcases ho.2 with ⟨_, h0⟩ | ⟨g, cap, cur, hv, hb, hg, hc, hm, hs, ht⟩
  · omega
  · subst hv
    have c1 := ho.cellAt p (by omega)
    rw [h2] at c1
    exact ⟨g, cap, a, c, by rw [hn], by omega, hm, (ho.lt g rfl).2, c1, h3⟩

/-! ### events -/
structure Ev6 where
  t : Int
  k : Int
  b : Int
  s : Int
  m : Int
  f : Nat
def Ev6.cells (e : Ev6) : List Value := [.int .i64 e.t, .int .i64 e.k, .int .i64 e.b, .int .i64 e.s, .int .i64 e.m, .float .f32 e.f]
def Ev6.ok (L nb : Nat) (e : Ev6) : Prop := EvOk L nb e.t e.k e.b e.s e.m e.f
def cellsE (es : List Ev6) : List Value := es.flatMap Ev6.cells
theorem cellsE_len (es : List Ev6) : (cellsE es).length = es.length * 6 := by
  induction es with
  | nil => rfl
  | cons m ms ih => simp only [cellsE, List.flatMap_cons, List.length_append, List.length_cons] at *; simp [Ev6.cells] at *; omega
theorem cellsE_snoc (es : List Ev6) (e : Ev6) : cellsE (es ++ [e]) = cellsE es ++ e.cells := by simp [cellsE]
theorem cellsE_one (es : List Ev6) : ∀ u ∈ cellsE es, u.oneCell' = true := by
  intro u hu
  obtain ⟨e, _, h⟩ := List.mem_flatMap.1 hu
  simp [Ev6.cells] at h
  rcases h with rfl | rfl | rfl | rfl | rfl | rfl <;> rfl
theorem cellsE_at (es : List Ev6) (k j : Nat) (e : Ev6) (h : es[k]? = some e) (hj : j < 6) : (cellsE es)[6 * k + j]? = e.cells[j]? := by
  induction es generalizing k with
  | nil => simp at h
  | cons a es ih =>
    have hl : a.cells.length = 6 := rfl
    cases k with
    | zero =>
      simp at h; subst h
      simp only [cellsE, List.flatMap_cons, Nat.mul_zero, Nat.zero_add]
      rw [List.getElem?_append_left (by rw [hl]; exact hj)]
    | succ k =>
      have := ih k (by simpa using h)
      simp only [cellsE, List.flatMap_cons] at this ⊢
      rw [List.getElem?_append_right (by rw [hl]; omega), hl, show 6 * (k + 1) + j - 6 = 6 * k + j from by omega]
      exact this

/-- append of one body -/
theorem step_append_body {ops : Array Oper} {o : Oper} {a : Act} {w : World} {K : Act → World → Prop} {Q : Exit → Act → World → Prop} {E : Prop} (hg : o.guard = none) (s x : Operand)
    (hop : o.op = Op.call { callee := Callee.builtin Builtin.append, args := #[s, x], argTypes := #[50, 50] }) (base n h : Nat) (v rv : Value) (vs : List Value) (hs : a.eval s = v) (hx : a.eval x = .slice (some ⟨h, 0, none⟩) 1 1)
    (hv : w.ownsRow base 118 1 v n vs) (hc : w.cell? ⟨h, 0, none⟩ = some rv) (h1 : rv.oneCell' = true) (hn : n ≤ 1048576) (hb : base ≤ w.heap.size)
    (hK : ∀ v' w', w'.ownsRow base 118 1 v' (n + 1) (vs ++ [rv]) → w.grownBy w' v.ownBlock → K (a.put o.dst v') w') :
    if Region.wanted o (yielded ops a.tmps) = true then Oper.wp Try.prog o a w K Q else E := by
  have hw : Region.wanted o (yielded ops a.tmps) = true := by simp [Region.wanted, hg]
  rw [if_pos hw]
  obtain ⟨j0, hj, hy0, hy1, hy2⟩ := info_parts info_body
  refine wp_append_own w s x 50 hop base 118 j0 (.agg #[.slice none 0 0]) 1 24 Try.underlying50 hj hy0 hy1 hy2 rfl (by decide) v n vs hs hv ⟨h, 0, none⟩ 1 1 [rv] hx (by simp) ?_ ?_ (by unfold maxLen; omega) (by omega) hb ?_
  · intro j z hj
    match j, hj with
    | 0, hj => simp at hj; subst hj; simpa [Addr.add] using hc
  · intro u hu; simp at hu; subst hu; exact h1
  · intro v' w' h1 h2 _
    exact hK v' w' h1 h2

/-- append of one event -/
theorem step_append_event {ops : Array Oper} {o : Oper} {a : Act} {w : World} {K : Act → World → Prop} {Q : Exit → Act → World → Prop} {E : Prop} (hg : o.guard = none) (s x : Operand)
    (hop : o.op = Op.call { callee := Callee.builtin Builtin.append, args := #[s, x], argTypes := #[51, 51] }) (base n h : Nat) (v : Value) (ev : Ev6) (es : List Ev6) (hs : a.eval s = v) (hx : a.eval x = .slice (some ⟨h, 0, none⟩) 1 1)
    (hv : w.ownsRow base 57 6 v n (cellsE es)) (hc : ∀ (j : Nat) u, ev.cells[j]? = some u → w.cell? ⟨h, j, none⟩ = some u) (hn : n ≤ 1048576) (hb : base ≤ w.heap.size)
    (hK : ∀ v' w', w'.ownsRow base 57 6 v' (n + 1) (cellsE (es ++ [ev])) → w.grownBy w' v.ownBlock → K (a.put o.dst v') w') :
    if Region.wanted o (yielded ops a.tmps) = true then Oper.wp Try.prog o a w K Q else E := by
  have hw : Region.wanted o (yielded ops a.tmps) = true := by simp [Region.wanted, hg]
  rw [if_pos hw]
  obtain ⟨j0, hj, hy0, hy1, hy2⟩ := info_parts info_event
  refine wp_append_own w s x 51 hop base 57 j0 (.agg #[.int .i64 0, .int .i64 0, .int .i64 0, .int .i64 0, .int .i64 0, .float .f32 0]) 6 48 Try.underlying51 hj hy0 hy1 hy2 rfl (by decide) v n (cellsE es) hs hv ⟨h, 0, none⟩ 1 1 ev.cells hx (by simp [Ev6.cells]) ?_ ?_ (by unfold maxLen; omega) (by omega) hb ?_
  · intro j z hj
    rw [show (⟨h, 0, none⟩ : Addr).add j = ⟨h, j, none⟩ from by simp [Addr.add]; first | done | (intro e; omega)]
    exact hc j z hj
  · intro u hu
    simp [Ev6.cells] at hu
    rcases hu with rfl | rfl | rfl | rfl | rfl | rfl <;> rfl
  · intro v' w' h1 h2 _
    exact hK v' w' (by rw [cellsE_snoc]; exact h1) h2

/-! ### the score, in memory -/
structure ScoI (B : Nat) (w0 : World) (a : Option Addr) (len cap c bS bR base L : Nat) (V : Int) (C R : Nat) (bs : List (List M4)) (es : List Ev6) (sv ev : Value) (wr : World) : Prop where
  at' : At B w0 a len cap c wr
  hs : HasC wr bS [.int .i64 (L : Int), .int .i64 V, .float .f32 C, .float .f32 R, sv, ev]
  hr : HasC wr bR [.int .i64 0, .int .i64 0, .float .f32 0, .float .f32 0, .slice none 0 0, .slice none 0 0]
  bods : BodsR wr base sv bs
  evs : wr.ownsRow base 57 6 ev es.length (cellsE es)
  bok : ∀ ms ∈ bs, ms.length ≤ 4 ∧ ∀ m ∈ ms, m.ok
  eok : ∀ e ∈ es, e.ok L bs.length
  sz : base ≤ wr.heap.size
theorem HasC.grown {w w' : World} {b : Nat} {cs : List Value} {row : Option Nat} (h : HasC w b cs) (hk : w.grownBy w' row) (hr : row ≠ some b) : HasC w' b cs := h.of hk.size (hk.block b h.1 (fun e => hr e.symm))
theorem ScoI.kp {B : Nat} {w0 : World} {a : Option Addr} {len cap c bS bR base L : Nat} {V : Int} {C R : Nat} {bs : List (List M4)} {es : List Ev6} {sv ev : Value} {w w' : World} (h : ScoI B w0 a len cap c bS bR base L V C R bs es sv ev w)
    (ha : At B w0 a len cap c w') (hk : Kp c w w') (h1 : bS ≠ c) (h2 : bR ≠ c) (h3 : c < base) : ScoI B w0 a len cap c bS bR base L V C R bs es sv ev w' :=
  ⟨ha, h.hs.kp hk h1, h.hr.kp hk h2, h.bods.kp hk h3, own_kp h.evs hk h3, h.bok, h.eok, Nat.le_trans h.sz hk.size⟩
theorem ScoI.nw {B : Nat} {w0 : World} {a : Option Addr} {len cap c bS bR base L : Nat} {V : Int} {C R : Nat} {bs : List (List M4)} {es : List Ev6} {sv ev : Value} {w w' : World} (h : ScoI B w0 a len cap c bS bR base L V C R bs es sv ev w)
    (hk : Nw w w') : ScoI B w0 a len cap c bS bR base L V C R bs es sv ev w' :=
  ⟨h.at'.nw hk, h.hs.nw hk, h.hr.nw hk, h.bods.nw hk, own_nw h.evs hk, h.bok, h.eok, Nat.le_trans h.sz hk.size⟩

/-- a body more -/
theorem ScoI.body {B : Nat} {w0 : World} {a : Option Addr} {len cap c bS bR base L b2 : Nat} {V : Int} {C R : Nat} {bs : List (List M4)} {sv sv' rv : Value} {vs : List Value} {ms : List M4} {w w' : World} (h : ScoI B w0 a len cap c bS bR base L V C R bs [] sv (.slice none 0 0) w)
    (ho : w.ownsRow base 118 1 sv bs.length vs) (hi : ∀ (p : Nat) r, bs[p]? = some r → ∃ v, vs[p]? = some v ∧ w.ownsRow base 42 2 v r.length (cellsM r))
    (hr : w.ownsRow b2 42 2 rv ms.length (cellsM ms)) (hb : base ≤ b2) (hm : ms.length ≤ 4 ∧ ∀ m ∈ ms, m.ok)
    (hn : w'.ownsRow base 118 1 sv' (bs.length + 1) (vs ++ [rv])) (hg : w.grownBy w' sv.ownBlock) (hc : c < base) (hB : B ≤ base) (hw : w0.heap.size ≤ base) (h1 : bS < base) (h2 : bR < base) (h3 : bS ≠ c) (h4 : B ≤ bS) (h5 : w0.heap.size ≤ bS) (h6 : bS ≠ bR) :
    HasC w' bS [.int .i64 (L : Int), .int .i64 V, .float .f32 C, .float .f32 R, sv, .slice none 0 0] ∧
    ScoI B w0 a len cap c bS bR base L V C R (bs ++ [ms]) [] sv' (.slice none 0 0) (w'.setCell ⟨bS, 4, none⟩ sv') := by
  have hrow : ∀ g, sv.ownBlock = some g → base ≤ g := fun g hg => own_ge ho g hg
  have a' := h.at'.grown hg hrow hc hB hw
  have s' := h.hs.grown hg (fun e => by have := hrow _ e; omega)
  have r' := h.hr.grown hg (fun e => by have := hrow _ e; omega)
  have b' := BodsR.snoc ho hi hr hb hn hg
  have z' := hg.size
  refine ⟨s', a'.set (p := ⟨bS, 4, none⟩) h3 h4 h5 _, ?_, r'.sete (p := ⟨bS, 4, none⟩) h6 _, b'.set h1 _, World.ownsRow_nil _ _ _ _, ?_, by simp, by have := h.sz; simp; omega⟩
  · have := s'.set 4 sv'
    simpa using this
  · intro x hx
    rcases List.mem_append.1 hx with hx | hx
    · exact h.bok x hx
    · simp at hx; subst hx; exact hm

/-- an event more -/
theorem ScoI.event {B : Nat} {w0 : World} {a : Option Addr} {len cap c bS bR base L : Nat} {V : Int} {C R : Nat} {bs : List (List M4)} {es : List Ev6} {sv ev ev' : Value} {e : Ev6} {w w' : World} (h : ScoI B w0 a len cap c bS bR base L V C R bs es sv ev w)
    (he : e.ok L bs.length) (hn : w'.ownsRow base 57 6 ev' (es.length + 1) (cellsE (es ++ [e]))) (hg : w.grownBy w' ev.ownBlock) (hc : c < base) (hB : B ≤ base) (hw : w0.heap.size ≤ base) (h1 : bS < base) (h2 : bR < base) (h3 : bS ≠ c) (h4 : B ≤ bS) (h5 : w0.heap.size ≤ bS) (h6 : bS ≠ bR) :
    HasC w' bS [.int .i64 (L : Int), .int .i64 V, .float .f32 C, .float .f32 R, sv, ev] ∧
    ScoI B w0 a len cap c bS bR base L V C R bs (es ++ [e]) sv ev' (w'.setCell ⟨bS, 5, none⟩ ev') := by
  have hrow : ∀ g, ev.ownBlock = some g → base ≤ g := fun g hg => own_ge h.evs g hg
  have a' := h.at'.grown hg hrow hc hB hw
  have s' := h.hs.grown hg (fun e => by have := hrow _ e; omega)
  have r' := h.hr.grown hg (fun e => by have := hrow _ e; omega)
  have b' := h.bods.grown h.evs (by decide) (by decide) hg
  have z' := hg.size
  refine ⟨s', a'.set (p := ⟨bS, 5, none⟩) h3 h4 h5 _, ?_, r'.sete (p := ⟨bS, 5, none⟩) h6 _, b'.set h1 _, by rw [List.length_append]; exact own_set hn h1 _, h.bok, ?_, by have := h.sz; simp; omega⟩
  · have := s'.set 5 ev'
    simpa using this
  · intro x hx
    rcases List.mem_append.1 hx with hx | hx
    · exact h.eok x hx
    · simp at hx; subst hx; exact he

/-- the result is stored -/
theorem ScoI.ret {B : Nat} {w0 : World} {a : Option Addr} {len cap c bS bR base L : Nat} {V : Int} {C R : Nat} {bs : List (List M4)} {es : List Ev6} {sv ev : Value} {w : World} (h : ScoI B w0 a len cap c bS bR base L V C R bs es sv ev w)
    (hb : bR < base) (h1 : bR ≠ c) (h2 : B ≤ bR) (h3 : w0.heap.size ≤ bR) (v0 v1 v2 v3 v4 v5 : Value) :
    BodsR ((((((w.setCell ⟨bR, 0, none⟩ v0).setCell ⟨bR, 1, none⟩ v1).setCell ⟨bR, 2, none⟩ v2).setCell ⟨bR, 3, none⟩ v3).setCell ⟨bR, 4, none⟩ v4).setCell ⟨bR, 5, none⟩ v5) bR sv bs ∧
    ((((((w.setCell ⟨bR, 0, none⟩ v0).setCell ⟨bR, 1, none⟩ v1).setCell ⟨bR, 2, none⟩ v2).setCell ⟨bR, 3, none⟩ v3).setCell ⟨bR, 4, none⟩ v4).setCell ⟨bR, 5, none⟩ v5).ownsRow bR 57 6 ev es.length (cellsE es) ∧
    At B w0 a len cap c ((((((w.setCell ⟨bR, 0, none⟩ v0).setCell ⟨bR, 1, none⟩ v1).setCell ⟨bR, 2, none⟩ v2).setCell ⟨bR, 3, none⟩ v3).setCell ⟨bR, 4, none⟩ v4).setCell ⟨bR, 5, none⟩ v5) :=
  ⟨BodsR.base ((((((h.bods.set (p := ⟨bR, 0, none⟩) hb _).set (p := ⟨bR, 1, none⟩) hb _).set (p := ⟨bR, 2, none⟩) hb _).set (p := ⟨bR, 3, none⟩) hb _).set (p := ⟨bR, 4, none⟩) hb _).set (p := ⟨bR, 5, none⟩) hb _) (by omega),
   own_base (own_set (p := ⟨bR, 5, none⟩) (own_set (p := ⟨bR, 4, none⟩) (own_set (p := ⟨bR, 3, none⟩) (own_set (p := ⟨bR, 2, none⟩) (own_set (p := ⟨bR, 1, none⟩) (own_set (p := ⟨bR, 0, none⟩) h.evs hb _) hb _) hb _) hb _) hb _) hb _) (by omega),
   (((((h.at'.set (p := ⟨bR, 0, none⟩) h1 h2 h3 _).set (p := ⟨bR, 1, none⟩) h1 h2 h3 _).set (p := ⟨bR, 2, none⟩) h1 h2 h3 _).set (p := ⟨bR, 3, none⟩) h1 h2 h3 _).set (p := ⟨bR, 4, none⟩) h1 h2 h3 _).set (p := ⟨bR, 5, none⟩) h1 h2 h3 _⟩

end Go.Proofs.Ytcodiiajmffdoaa
