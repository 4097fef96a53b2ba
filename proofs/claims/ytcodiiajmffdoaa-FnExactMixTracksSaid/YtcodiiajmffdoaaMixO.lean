/- An argument that is a slice of rows of samples, opened; what lies beside the rows that are marked.
   Conditions: those that each statement names. -/
import Derived.Test.YtcodiiajmffdoaaMixT
namespace Go.Proofs.Ytcodiiajmffdoaa
open Go Go.ChangeShapes Go.WideShapes Go.ChangeAt Go.RowKit

theorem flss_of {w : World} {a : Addr} {len : Nat} (hm : len ≤ maxLen) (h : ∀ i, i < len → ∃ (p : Sl) (r : List Nat), w.cell? (a.add i) = some p.v ∧ Fls w.heap.size p.1 p.2.1 r w ∧ p.2.1 ≤ maxLen) :
    ∃ ps rows, Flss w.heap.size (some a) len ps rows w := by
  have hz : ∀ n, n ≤ len → ∃ (ps : List Sl) (rows : List (List Nat)), ps.length = n ∧ rows.length = n ∧
      (∀ (k : Nat) p r, ps[k]? = some p → rows[k]? = some r → Fls w.heap.size p.1 p.2.1 r w ∧ p.2.1 ≤ maxLen) ∧ ∀ (k : Nat) p, ps[k]? = some p → w.cell? (a.add k) = some p.v := by
    intro n
    induction n with
    | zero => intro _; exact ⟨[], [], rfl, rfl, fun k p r hk => by simp at hk, fun k p hk => by simp at hk⟩
    | succ n ih =>
      intro hn
      obtain ⟨ps, rows, h1, h2, h3, h4⟩ := ih (by omega)
      obtain ⟨p, r, c1, c2, c3⟩ := h n (by omega)
      refine ⟨ps ++ [p], rows ++ [r], by simp [h1], by simp [h2], fun k p' r' hp hr => ?_, fun k p' hp => ?_⟩
      · by_cases hk : k < n
        · rw [List.getElem?_append_left (by omega)] at hp hr
          exact h3 k p' r' hp hr
        · have hb := (List.getElem?_eq_some_iff.1 hp).1
          simp at hb
          have e : k = n := by omega
          subst e
          rw [List.getElem?_append_right (by omega), h1, Nat.sub_self] at hp
          rw [List.getElem?_append_right (by omega), h2, Nat.sub_self] at hr
          simp at hp hr
          subst hp; subst hr
          exact ⟨c2, c3⟩
      · by_cases hk : k < n
        · rw [List.getElem?_append_left (by omega)] at hp
          exact h4 k p' hp
        · have hb := (List.getElem?_eq_some_iff.1 hp).1
          simp at hb
          have e : k = n := by omega
          subst e
          rw [List.getElem?_append_right (by omega), h1, Nat.sub_self] at hp
          simp at hp
          subst hp
          exact c1
  obtain ⟨ps, rows, h1, h2, h3, h4⟩ := hz len (Nat.le_refl _)
  refine ⟨ps, rows, h1, h2, hm, h3, ?_⟩
  by_cases h0 : len = 0
  · exact .inl h0
  · right
    obtain ⟨p, r, hb, -⟩ := h 0 (by omega)
    have e0 : a.add 0 = a := by unfold Addr.add; rw [if_pos rfl]
    rw [e0] at hb
    obtain ⟨g1, g2⟩ := cell_lt hb
    refine ⟨a.block, a.off, by cases a; simp at g2; subst g2; rfl, g1, fun k x hx => ?_⟩
    have := h4 k x hx
    have hadd : a.add k = ⟨a.block, a.off + k, none⟩ := by
      unfold Addr.add; split
      · rename_i h0; subst h0; cases a; simp at g2; subst g2; rfl
      · rfl
    rwa [hadd] at this

theorem open_rows {H : Type} {enc : TypeId × Value → H} {P : Program} {w : World} {base : Nat} {spare : Nat → Bool} {held : Bool} {fuel : Nat} {t e f : TypeId} {a : Option Addr} {n c : Nat} {x : DataW H × List MemPlace}
    (ht : P.underlying t = some (.slice e)) (he : P.underlying e = some (.slice f)) (hf : P.underlying f = some (.float .f32)) (hc : P.cellsOf e = 1) (hc' : P.cellsOf f = 1)
    (h : DataW.trod enc P w base spare held fuel t [.slice a n c] = some x) : ∃ ps rows, Flss w.heap.size a n ps rows w := by
  rcases DataW.trod_slice ht h with ⟨h0, _⟩ | ⟨a', len, cap, elems, rest, m, _, h1, rfl, hb, hl, hm, hlen, hel, hsp, hns⟩
  · simp at h0
    obtain ⟨rfl, rfl, rfl⟩ := h0
    exact ⟨[], [], rfl, rfl, by decide, fun k p r hk => by simp at hk, .inl rfl⟩
  · simp at h1
    obtain ⟨rfl, rfl, rfl⟩ := h1
    refine flss_of (by omega) fun i hi => ?_
    have h1 := hel i hi
    rw [List.getElem?_eq_getElem (by omega), hc, Nat.mul_one, Option.bind_eq_some_iff] at h1
    obtain ⟨cs', hcs, hy'⟩ := h1
    rcases open_floats he hf hc' hy' with rfl | ⟨ia, il, ic, rfl, hil, him, hcell⟩
    · exact ⟨(none, 0, 0), [], cell_of_cells?_one hcs, ⟨rfl, fun z hz => by simp at hz, .inl rfl⟩, by decide⟩
    · obtain ⟨zs, hz⟩ := fls_of hcell
      exact ⟨(some ia, il, ic), zs, cell_of_cells?_one hcs, hz, by show il ≤ maxLen; omega⟩

theorem SRows.lt {w : World} {base g n : Nat} {gs : List Nat} {rows : List (List Nat)} (h : SRows w base g n gs rows) : ∀ x ∈ gs, base ≤ x ∧ x < w.heap.size := by
  intro x hx
  obtain ⟨j, hj⟩ := List.getElem?_of_mem hx
  have hb := (List.getElem?_eq_some_iff.1 hj).1
  have e : rows[j]? = some (rows[j]'(by have := h.1; have := h.2.1; omega)) := List.getElem?_eq_getElem _
  exact (h.2.2.2.2 j x _ hj e).lt x rfl
theorem SRows.ne {w : World} {base g n : Nat} {gs : List Nat} {rows : List (List Nat)} (h : SRows w base g n gs rows) : ∀ x ∈ gs, x ≠ g := by
  intro x hx e
  obtain ⟨j, hj⟩ := List.getElem?_of_mem hx
  have hb := (List.getElem?_eq_some_iff.1 hj).1
  have er : rows[j]? = some (rows[j]'(by have := h.1; have := h.2.1; omega)) := List.getElem?_eq_getElem _
  have k1 := h.2.2.2.2 j x _ hj er
  have k2 := h.2.2.2.1
  rcases k1.2 with ⟨h0, _⟩ | ⟨g1, cap1, cur1, he1, hb1, hg1, _⟩
  · simp [rowV] at h0
  · rcases k2.2 with ⟨h0, _⟩ | ⟨g2, cap2, cur2, he2, hb2, hg2, _⟩
    · simp at h0
    · simp [rowV] at he1
      simp at he2
      have e12 : g1 = g2 := by omega
      rw [e12] at hg1
      rw [hg1] at hg2
      injection hg2 with hg2
      injection hg2 with i1 i2 i3
      exact absurd i2 (by decide)
theorem SRows.rl {B : Nat} {a : Option Addr} {n : Nat} {ps : List Sl} {rows : List (List Nat)} {w : World} (h : Flss B a n ps rows w) (hp : ∀ p ∈ ps, p.2.1 ≤ 1048576) : ∀ r ∈ rows, r.length ≤ 1048576 := by
  intro r hr
  obtain ⟨j, hj⟩ := List.getElem?_of_mem hr
  have hb := (List.getElem?_eq_some_iff.1 hj).1
  have e : ps[j]? = some (ps[j]'(by have := h.1; have := h.2.1; omega)) := List.getElem?_eq_getElem _
  have := (h.2.2.2.1 j _ r e hj).1.1
  rw [this]
  exact hp _ (List.mem_of_getElem? e)

end Go.Proofs.Ytcodiiajmffdoaa
