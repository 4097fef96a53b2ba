/- The sums of rows of samples but for the bits of NaN: plain; the walks of the program's sumTracks and MixTracks.
   Conditions: those that each statement names. -/
import Derived.Test.YtcodiiajmffdoaaSSm
import Derived.Test.YtcodiiajmffdoaaLimT
namespace Go.Proofs.Ytcodiiajmffdoaa
open Go Go.RowKit

/-- the sum at place j -/
def sumA (rows : List (List Nat)) (j : Nat) : Option Nat := rows.foldl (fun a r => fA .add .f32 a (fab .f32 (r.getD j 0))) (fab .f32 0)
theorem sumA_succ (rows : List (List Nat)) (k j : Nat) (r : List Nat) (h : rows[k]? = some r) : sumA (rows.take (k + 1)) j = fA .add .f32 (sumA (rows.take k) j) (fab .f32 (r.getD j 0)) := by
  obtain ⟨hk, he⟩ := List.getElem?_eq_some_iff.1 h
  unfold sumA
  rw [List.take_succ_eq_append_getElem hk, he, List.foldl_append]
  rfl
def SumG (rows : List (List Nat)) (n : Nat) (ys : List Nat) : Prop := ys.length = n ∧ ∀ (j : Nat) y, ys[j]? = some y → fab .f32 y = sumA rows j ∧ y < 2 ^ 32
/-- the row k is added up to the place i -/
def SumI (rows : List (List Nat)) (n k i : Nat) (ys : List Nat) : Prop := ys.length = n ∧ ∀ (j : Nat) y, ys[j]? = some y → fab .f32 y = sumA (rows.take (if j < i then k + 1 else k)) j ∧ y < 2 ^ 32
theorem SumI.start {rows : List (List Nat)} {n k : Nat} {ys : List Nat} (h : SumG (rows.take k) n ys) : SumI rows n k 0 ys := ⟨h.1, fun j y hy => by rw [if_neg (by omega)]; exact h.2 j y hy⟩
theorem SumI.done {rows : List (List Nat)} {n k : Nat} {ys : List Nat} (h : SumI rows n k n ys) : SumG (rows.take (k + 1)) n ys :=
  ⟨h.1, fun j y hy => by have := h.2 j y hy; rw [if_pos (by have := (List.getElem?_eq_some_iff.1 hy).1; have := h.1; omega)] at this; exact this⟩
theorem SumI.next {rows : List (List Nat)} {n k i : Nat} {ys r : List Nat} {s x : Nat} (h : SumI rows n k i ys) (hr : rows[k]? = some r) (hx : r[i]? = some x) (hs : ys[i]? = some s) (w : World) : SumI rows n k (i + 1) (ys.set i (fres w .add .f32 s x)) := by
  refine ⟨by rw [List.length_set]; exact h.1, fun j y hy => ?_⟩
  by_cases hj : j = i
  · subst hj
    rw [List.getElem?_set_self (List.getElem?_eq_some_iff.1 hs).1] at hy
    cases hy
    refine ⟨?_, fres_wf w .add .f32 s x⟩
    have := (h.2 j s hs).1
    rw [if_neg (by omega)] at this
    rw [if_pos (by omega), fab_fres, sumA_succ rows k j r hr, this, getD_at hx]
  · rw [List.getElem?_set_ne (fun e => hj e.symm)] at hy
    have := h.2 j y hy
    by_cases hji : j < i
    · rw [if_pos hji] at this; rw [if_pos (by omega)]; exact this
    · rw [if_neg hji] at this; rw [if_neg (by omega)]; exact this
theorem SumG.zero (n : Nat) : SumG [] n (List.replicate n 0) := ⟨by simp, fun j y hy => by
  rw [List.getElem?_replicate] at hy
  split at hy
  · cases hy; exact ⟨rfl, by decide⟩
  · cases hy⟩

/-! ### what LimitSamples answers depends on no bits of NaN -/
theorem abs_fab {x y : Nat} (h : fab .f32 x = fab .f32 y) : absA x = absA y := by
  unfold absA
  cases ha : nan32 x
  · cases hb : nan32 y
    · rw [fab_some ha, fab_some hb] at h; cases h; rfl
    · rw [fab_some ha, fab_none hb] at h; cases h
  · cases hb : nan32 y
    · rw [fab_none ha, fab_some hb] at h; cases h
    · rfl
theorem limE_fab {x y : Nat} (h : fab .f32 x = fab .f32 y) (e : Option Nat) (r : Nat) : limE e x r = limE e y r := by unfold limE; rw [abs_fab h]
theorem limY_fab {x y : Nat} (h : fab .f32 x = fab .f32 y) (e : Option Nat) (c r : Nat) : limY e x c r = limY e y c r := by unfold limY; rw [limE_fab h, h]
theorem alike_getD {xs ys : List Nat} (h : Alike xs ys) (k : Nat) : fab .f32 (xs.getD k 0) = fab .f32 (ys.getD k 0) := by
  by_cases hk : k < xs.length
  · have e1 : xs[k]? = some xs[k] := List.getElem?_eq_getElem hk
    have e2 : ys[k]? = some (ys[k]'(by have := h.1; omega)) := List.getElem?_eq_getElem _
    rw [getD_at e1, getD_at e2]
    exact h.2 k _ _ e1 e2
  · rw [List.getD_eq_getElem?_getD, List.getD_eq_getElem?_getD, List.getElem?_eq_none (by omega), List.getElem?_eq_none (by have := h.1; omega)]
theorem eA_alike {xs ys : List Nat} (h : Alike xs ys) (r k : Nat) : eA xs r k = eA ys r k := by
  induction k with
  | zero => rfl
  | succ k ih => unfold eA; rw [ih]; exact limE_fab (alike_getD h k) _ _
theorem yA_alike {xs ys : List Nat} (h : Alike xs ys) (c r k : Nat) : yA xs c r k = yA ys c r k := by
  unfold yA; rw [eA_alike h]; exact limY_fab (alike_getD h k) _ _ _
theorem limG_of_alike {xs ys zs : List Nat} {c r n : Nat} (h : Alike xs ys) (hg : LimG xs c r n zs) : LimG ys c r n zs := by
  unfold LimG at hg ⊢
  split
  · rw [if_pos (by assumption)] at hg
    exact ⟨hg.1, fun j y hy => by rw [← yA_alike h]; exact hg.2 j y hy⟩
  · rw [if_neg (by assumption)] at hg; exact hg
theorem sumG_alike {rows : List (List Nat)} {n : Nat} {xs ys : List Nat} (h1 : SumG rows n xs) (h2 : SumG rows n ys) : Alike xs ys :=
  ⟨h1.1.trans h2.1.symm, fun k x y hx hy => (h1.2 k x hx).1.trans (h2.2 k y hy).1.symm⟩

/-- the length of the first row -/
def len0 (rows : List (List Nat)) : Nat := (rows[0]?.map List.length).getD 0
def EqL (rows : List (List Nat)) : Prop := ∀ r ∈ rows, r.length = len0 rows
open Classical in
noncomputable def eql (rows : List (List Nat)) : Bool := decide (EqL rows)
def MixG (rows : List (List Nat)) (c r : Nat) (ys : List Nat) (b : Bool) : Prop :=
  (EqL rows → ∃ zs, SumG rows (len0 rows) zs ∧ LimG zs c r (len0 rows) ys ∧ b = lim c r) ∧ (¬ EqL rows → ys = [] ∧ b = false)
theorem mixG_alike {rows : List (List Nat)} {c r : Nat} {xs ys : List Nat} {b1 b2 : Bool} (h1 : MixG rows c r xs b1) (h2 : MixG rows c r ys b2) : Alike xs ys ∧ b1 = b2 := by
  by_cases he : EqL rows
  · obtain ⟨zs1, a1, a2, a3⟩ := h1.1 he
    obtain ⟨zs2, a4, a5, a6⟩ := h2.1 he
    exact ⟨limG_alike (limG_of_alike (sumG_alike a1 a4) a2) a5, by rw [a3, a6]⟩
  · obtain ⟨rfl, rfl⟩ := h1.2 he
    obtain ⟨rfl, rfl⟩ := h2.2 he
    exact ⟨⟨rfl, fun k x y hx _ => by simp at hx⟩, rfl⟩
theorem mixG_len {rows : List (List Nat)} {c r : Nat} {ys : List Nat} {b : Bool} (h : MixG rows c r ys b) (hr : ∀ x ∈ rows, x.length ≤ 1048576) : ys.length ≤ 1048576 := by
  by_cases he : EqL rows
  · obtain ⟨zs, a1, a2, -⟩ := h.1 he
    have h0 : len0 rows ≤ 1048576 := by
      unfold len0
      cases hx : rows[0]? with
      | none => simp
      | some x => simpa using hr x (List.mem_of_getElem? hx)
    unfold LimG at a2
    split at a2
    · rw [a2.1]; exact h0
    · rw [a2]; simp
  · rw [(h.2 he).1]; simp
def MixP (rows : List (List Nat)) (c r : Nat) (w : World) (e : Ending) (w' : World) : Prop :=
  ∃ v ys b, e = .returned (.tuple #[v, .bool b]) ∧ w'.ownsRow w.heap.size 25 1 v ys.length (cellsS ys) ∧ MixG rows c r ys b ∧ Nw w w'

/-! ### the program's sums -/
def OutSI (rows : List (List Nat)) (L B g : Nat) (w : World) (i : Value) (wr : World) : Prop :=
  ∃ (k : Nat) (ys : List Nat), k ≤ rows.length ∧ i = .int .i64 (k : Int) ∧ SumG (rows.take k) L ys ∧ wr.ownsRow B 25 1 (.slice (some ⟨g, 0, none⟩) L L) L (cellsS ys) ∧ Nw w wr
def InSI (rows : List (List Nat)) (L B g k : Nat) (w : World) (i : Value) (wr : World) : Prop :=
  ∃ (j : Nat) (ys : List Nat), j ≤ L ∧ i = .int .i64 (j : Int) ∧ SumI rows L k j ys ∧ wr.ownsRow B 25 1 (.slice (some ⟨g, 0, none⟩) L L) L (cellsS ys) ∧ Nw w wr
def SumP (rows : List (List Nat)) (L : Nat) (w : World) (e : Ending) (w' : World) : Prop :=
  ∃ (g : Nat) (ys : List Nat), e = .returned (.slice (some ⟨g, 0, none⟩) L L) ∧ w'.ownsRow w.heap.size 25 1 (.slice (some ⟨g, 0, none⟩) L L) L (cellsS ys) ∧ SumG rows L ys ∧ Nw w w'

set_option maxRecDepth 100000 in
theorem sumTracks_ok (rows : List (List Nat)) (n b g L : Nat) (gs : List Nat) (hn : n ≤ 1048576) (hL : L ≤ 1048576) (hr : ∀ r ∈ rows, r.length = L) (w : World) (h : SRows w b g n gs rows) :
    Calls Try.prog 83 #[.slice (some ⟨g, 0, none⟩) n n, .int .i64 (L : Int)] w (SumP rows L w) := by
  obtain ⟨f0, hf0, hfz0, hfz1, hfz2⟩ := info_parts info_f32
  have H := Lib.hid h
  have Hr := Lib.hid hr
  have hrn := h.2.1
  clear h hr
  go_enter Try.func83, Try.ntmps83
  go_wp2_with (first
    | (at_make; refine wpList_make_full _ rfl _ _ 23 rfl w.heap.size 25 f0 (.float .f32 0) 1 Try.underlying23 hf0 hfz0 hfz1 _ _ _ _ L rfl rfl rfl rfl (by rw [hfz2]; omega) (by unfold maxLen; omega) (Nat.le_refl _) ?_))
  intro w3 hown3 hgrow3
  have O3 := Lib.hid (show w3.ownsRow w.heap.size 25 1 (.slice (some ⟨w.heap.size, 0, none⟩) L L) L (cellsS (List.replicate L 0)) from by
    rw [toList_madeCells_one] at hown3
    simpa [cellsS] using hown3)
  have N3 := Lib.hid (show Nw w w3 from hgrow3)
  clear hown3 hgrow3
  go_wp2_with fail
  go_loopw [14] (fun i wr => OutSI rows L w.heap.size w.heap.size w i wr) (fun i _ => n - (intOf i).toNat)
  case atStart => exact ⟨0, List.replicate L 0, by omega, rfl, SumG.zero L, O3.out, N3.out⟩
  case round =>
    obtain ⟨k, ys, hk, rfl, hsum, how, hnw⟩ := hrel
    have Sm := Lib.hid hsum
    have Ow := Lib.hid how
    have Nr := Lib.hid hnw
    clear hsum how hnw
    rw [hrn] at hk
    by_cases hlt : k < n
    · obtain ⟨x, r, hx, hrk, e0, -⟩ := (H.out.nw Nr.out).at hlt
      have hrl := Hr.out r (List.mem_of_getElem? hrk)
      rw [hrl] at e0
      have Hx := Lib.hid hx
      have Hrk := Lib.hid hrk
      clear hx hrk
      go_wp2_with fail
      go_loopw [20] (fun i wr => InSI rows L w.heap.size w.heap.size k w i wr) (fun i _ => L - (intOf i).toNat)
      case atStart => exact ⟨0, ys, by omega, rfl, SumI.start Sm.out, Ow.out, Nr.out⟩
      case round =>
        obtain ⟨j, us, hj, rfl, hsum, how, hnw⟩ := hrel
        have Jm := Lib.hid hsum
        have Jw := Lib.hid how
        have Jn := Lib.hid hnw
        clear hsum how hnw e0
        by_cases hjt : j < L
        · obtain ⟨y, hy⟩ : ∃ y, r[j]? = some y := ⟨r[j]'(by rw [hrl]; exact hjt), List.getElem?_eq_getElem _⟩
          obtain ⟨s, hs⟩ : ∃ s, us[j]? = some s := ⟨us[j]'(by rw [Jm.out.1]; exact hjt), List.getElem?_eq_getElem _⟩
          have ho := (H.out.nw Jn.out).2.2.2.2 k x r Hx.out Hrk.out
          have e1 := ho.cellAt j (by omega)
          rw [show (cellsS r)[j]? = some (.float .f32 y) from by simp [cellsS, hy]] at e1
          have e2 := Jw.out.cellAt j (by omega)
          rw [show (cellsS us)[j]? = some (.float .f32 s) from by simp [cellsS, hs]] at e2
          have e3 := Jw.out.frozenAt j
          have hset := (own_nw Jw.out ((Nw.refl wr).draw (fdr .add .f32 s y))).stored j (.float .f32 (fres wr .add .f32 s y))
          rw [show (cellsS us).set j (.float .f32 (fres wr .add .f32 s y)) = cellsS (us.set j (fres wr .add .f32 s y)) from by simp [cellsS, List.map_set]] at hset
          have F := Lib.hid hset.1
          have N2 := Lib.hid ((Jn.out.draw (fdr .add .f32 s y)).set (p := ⟨w.heap.size, j, none⟩) (by show w.heap.size ≤ w.heap.size; omega) (.float .f32 (fres wr .add .f32 s y)))
          have S2 := Lib.hid (Jm.out.next Hrk.out hy hs wr)
          clear ho hset hy hs
          go_wp2_with fail
          go_roundw
          case rel => exact ⟨j + 1, _, by omega, by rw [show ((j + 1 : Nat) : Int) = (j : Int) + 1 from by omega], S2.out, F.out, N2.out⟩
          case measure => simp only [intOf]; omega
        · obtain rfl : j = L := by omega
          go_wp2_with fail
          go_roundw
          case rel => exact ⟨k + 1, us, by omega, by rw [show ((k + 1 : Nat) : Int) = (k : Int) + 1 from by omega], Jm.out.done, Jw.out, Jn.out⟩
          case measure => simp only [intOf]; omega
    · obtain rfl : k = n := by omega
      go_wp2_with fail
      go_ret
      exact ⟨_, ys, rfl, Ow.out, by have h := Sm.out; rw [List.take_of_length_le (by omega)] at h; exact h, Nr.out⟩

end Go.Proofs.Ytcodiiajmffdoaa
