/- Plain: insertion sort of events by their time keeps those of one time in their order.
   Conditions: those that each statement names. -/
import Derived.Test.YtcodiiajmffdoaaScoG
import Derived.Shelf.SlSortCmp.InsertionK
namespace Go.Proofs.Ytcodiiajmffdoaa
open Go Go.RowKit Go.Sort

instance : Inhabited Ev6 := ⟨⟨0, 0, 0, 0, 0, 0⟩⟩
/-- the order of two events -/
def cfE (x y : Ev6) : Int := Lib.compareInt x.t y.t
theorem ltE (x y : Ev6) : ltOf cfE x y = decide (x.t < y.t) := by
  unfold ltOf cfE Lib.compareInt
  by_cases h1 : x.t < y.t
  · simp [h1]
  · by_cases h2 : y.t < x.t <;> simp [h1, h2]
theorem swoE : SWO (ltOf cfE) where
  irrefl x := by rw [ltE]; simp
  trans x y z h1 h2 := by rw [ltE] at *; simp at *; omega
  ntrans x y z h1 h2 := by rw [ltE] at *; simp at *; omega

theorem filter_swap (P : Ev6 → Bool) : ∀ (L : List Ev6) (j : Nat) (p q : Ev6), L[j]? = some p → L[j + 1]? = some q → ¬ (P p = true ∧ P q = true) → ((L.set (j + 1) p).set j q).filter P = L.filter P
  | [], _, _, _, h, _, _ => by simp at h
  | [_], 0, _, _, _, h, _ => by simp at h
  | a :: b :: L, 0, p, q, h1, h2, h3 => by
    simp at h1 h2
    subst h1; subst h2
    simp only [List.set_cons_succ, List.set_cons_zero]
    cases hp : P a <;> cases hq : P b <;> simp [hp, hq] at h3 ⊢
  | a :: L, j + 1, p, q, h1, h2, h3 => by
    have ih := filter_swap P L j p q (by simpa using h1) (by simpa using h2) h3
    simp only [List.set_cons_succ, List.filter_cons]
    rw [ih]

/-- what sorting leaves as it was: how many there are, and those of one time in their order -/
def Kept (d d' : Array Ev6) : Prop := d'.size = d.size ∧ ∀ x : Int, d'.toList.filter (fun e => e.t == x) = d.toList.filter (fun e => e.t == x)
theorem Kept.refl (d : Array Ev6) : Kept d d := ⟨rfl, fun _ => rfl⟩
theorem Kept.trans {a b c : Array Ev6} (h : Kept a b) (k : Kept b c) : Kept a c := ⟨k.1.trans h.1, fun x => (k.2 x).trans (h.2 x)⟩
theorem Kept.swp (d : Array Ev6) (j : Nat) (hj : j + 1 < d.size) (h : ltOf cfE d[j + 1]! d[j]! = true) : Kept d (Sort.swp d (j + 1) j) := by
  refine ⟨by simp [Sort.swp], fun x => ?_⟩
  rw [ltE] at h
  have h' : d[j + 1]!.t < d[j]!.t := by simpa using h
  unfold Sort.swp
  simp only [Array.toList_setIfInBounds]
  have e1 : d.toList[j]? = some d[j]! := by
    rw [Array.getElem?_toList, getElem!_pos d j (by omega)]; simp
  have e2 : d.toList[j + 1]? = some d[j + 1]! := by
    rw [Array.getElem?_toList, getElem!_pos d (j + 1) (by omega)]; simp
  refine filter_swap _ _ j d[j]! d[j + 1]! e1 e2 ?_
  simp
  intro h1 h2
  omega
theorem kept_inner (a : Nat) : ∀ (j : Nat) (d : Array Ev6), j < d.size → Kept d (insInner (ltOf cfE) a j d)
  | 0, d, _ => Kept.refl d
  | j + 1, d, hj => by
    unfold insInner
    split
    · rename_i h
      have h2 : ltOf cfE d[j + 1]! d[j]! = true := by
        simp only [Bool.and_eq_true] at h; exact h.2
      have k := Kept.swp d j hj h2
      exact k.trans (kept_inner a j _ (by rw [k.1]; omega))
    · exact Kept.refl d
theorem kept_outer (a b : Nat) : ∀ (n i : Nat) (d : Array Ev6), b - i ≤ n → b ≤ d.size → Kept d (insOuter (ltOf cfE) a b i d)
  | 0, i, d, hn, hb => by
    unfold insOuter
    rw [if_neg (by omega)]
    exact Kept.refl d
  | n + 1, i, d, hn, hb => by
    unfold insOuter
    by_cases h : i < b
    · rw [if_pos h]
      have k := kept_inner a i d (by omega)
      exact k.trans (kept_outer a b n (i + 1) _ (by omega) (by rw [k.1]; exact hb))
    · rw [if_neg h]
      exact Kept.refl d
/-- the events in order -/
def ordE (es : List Ev6) : List Ev6 := (Sort.insertionSort (ltOf cfE) es.toArray 0 es.length).toList
theorem ordE_kept (es : List Ev6) : Kept es.toArray (Sort.insertionSort (ltOf cfE) es.toArray 0 es.length) := kept_outer 0 es.length es.length 1 _ (by omega) (by simp)
theorem ordE_len (es : List Ev6) : (ordE es).length = es.length := by
  have := (ordE_kept es).1
  simpa [ordE] using this
theorem ordE_filter (es : List Ev6) (x : Int) : (ordE es).filter (fun e => e.t == x) = es.filter (fun e => e.t == x) := (ordE_kept es).2 x
theorem ordE_sorted (es : List Ev6) (i : Nat) (p q : Ev6) (h1 : (ordE es)[i]? = some p) (h2 : (ordE es)[i + 1]? = some q) : p.t ≤ q.t := by
  have hs := (insertionSort_holds (lt := ltOf cfE) swoE es.toArray 0 es.length (Nat.zero_le _) (by simp)).2
  have hl := (List.getElem?_eq_some_iff.1 h2).1
  rw [ordE_len] at hl
  have := hs i (i + 1) (Nat.zero_le _) (by omega) hl
  have hz := (ordE_kept es).1
  simp at hz
  rw [ltE] at this
  have e1 : (Sort.insertionSort (ltOf cfE) es.toArray 0 es.length)[i]! = p := by
    unfold ordE at h1
    rw [Array.getElem?_toList] at h1
    rw [getElem!_pos _ i (by omega)]
    rw [Array.getElem?_eq_getElem (by omega)] at h1
    simpa using h1
  have e2 : (Sort.insertionSort (ltOf cfE) es.toArray 0 es.length)[i + 1]! = q := by
    unfold ordE at h2
    rw [Array.getElem?_toList] at h2
    rw [getElem!_pos _ (i + 1) (by omega)]
    rw [Array.getElem?_eq_getElem (by omega)] at h2
    simpa using h2
  rw [e1, e2] at this
  simp at this
  exact this

/-! ### finding the events of one time, one after the other -/
/-- how many of the first k are of time x -/
def cntE (l : List Ev6) (x : Int) (k : Nat) : Nat := ((l.take k).filter (fun e => e.t == x)).length
theorem cntE_succ (l : List Ev6) (x : Int) (k : Nat) (e : Ev6) (h : l[k]? = some e) : cntE l x (k + 1) = cntE l x k + (if e.t = x then 1 else 0) := by
  obtain ⟨hk, he⟩ := List.getElem?_eq_some_iff.1 h
  unfold cntE
  rw [List.take_succ_eq_append_getElem hk, he, List.filter_append, List.length_append]
  by_cases hx : e.t = x <;> simp [hx]
/-- the one at k, if it is of time x, is that of the filtered ones at the count -/
theorem cntE_at (l : List Ev6) (x : Int) (k : Nat) (e : Ev6) (h : l[k]? = some e) (hx : e.t = x) : (l.filter (fun e => e.t == x))[cntE l x k]? = some e := by
  obtain ⟨hk, he⟩ := List.getElem?_eq_some_iff.1 h
  have hl : l = l.take k ++ e :: l.drop (k + 1) := by
    conv => lhs; rw [← List.take_append_drop k l]
    rw [List.drop_eq_getElem_cons hk, he]
  have hf : l.filter (fun e => e.t == x) = (l.take k).filter (fun e => e.t == x) ++ e :: (l.drop (k + 1)).filter (fun e => e.t == x) := by
    conv => lhs; rw [hl]
    rw [List.filter_append, List.filter_cons]
    simp [hx]
  rw [hf]
  unfold cntE
  rw [List.getElem?_append_right (Nat.le_refl _), Nat.sub_self]
  rfl
theorem cntE_all (l : List Ev6) (x : Int) : cntE l x l.length = (l.filter (fun e => e.t == x)).length := by
  unfold cntE; rw [List.take_length]

end Go.Proofs.Ytcodiiajmffdoaa
