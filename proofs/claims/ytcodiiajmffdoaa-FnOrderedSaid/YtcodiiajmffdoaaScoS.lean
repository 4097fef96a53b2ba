/- The walk of slices.SortStableFunc over events by their time, at fewer than 20 of them.
   Conditions: those that each statement names. -/
import Derived.Test.YtcodiiajmffdoaaScoP
import Derived.Test.YtcodiiajmffdoaaClone
namespace Go.Proofs.Ytcodiiajmffdoaa
open Go Go.RowKit Go.Sort

/-! ### the shelf's contract, laid at this program -/
def insRen : Go.Shelf.Ren := ⟨fun | 20 => 119 | n => n, fun | 0 => 0 | 3 => 3 | 4 => 4 | 22 => 51 | 24 => 57 | 25 => 96 | n => n, fun n => n⟩
theorem insLays : SlLaysF0.n20 Try.prog insRen :=
  { mixed := by kernel_rfl
    f20 := ⟨Try.f119.name, by decide, Try.func119.trans (congrArg some (by kernel_rfl))⟩
    t0 := Try.underlying0
    a0 := Try.isAgg0
    z0 := Try.sizeOf0
    v0 := Try.zeroValue0
    t3 := Try.underlying3
    a3 := Try.isAgg3
    z3 := Try.sizeOf3
    v3 := Try.zeroValue3
    t4 := Try.underlying4
    a4 := Try.isAgg4
    z4 := Try.sizeOf4
    v4 := Try.zeroValue4
    t22 := Try.underlying51
    a22 := Try.isAgg51
    z22 := Try.sizeOf51
    v22 := Try.zeroValue51
    t25 := Try.underlying96
    a25 := Try.isAgg96
    z25 := Try.sizeOf96
    v25 := Try.zeroValue96 }

/-! ### rows, flat -/
theorem flat_at (es : List Ev6) (j : Nat) (hj : j < es.length * 6) : (cellsE es)[j]? = some ((flatK Ev6.cells 6 es.toArray)[j]!) := by
  obtain ⟨e, he⟩ : ∃ e, es[j / 6]? = some e := ⟨es[j / 6]'(by omega), List.getElem?_eq_getElem _⟩
  have h := cellsE_at es (j / 6) (j % 6) e he (by omega)
  rw [show 6 * (j / 6) + j % 6 = j from by omega] at h
  rw [h, get_flatK _ _ _ _ (by simpa using hj)]
  obtain ⟨h1, h2⟩ := List.getElem?_eq_some_iff.1 he
  have h3 : es.toArray[j / 6]! = e := by
    rw [getElem!_pos _ _ (by simpa using h1)]
    simpa using h2
  rw [h3]
  have h4 : j % 6 < e.cells.length := by show j % 6 < 6; omega
  rw [List.getElem?_eq_getElem h4, getElem!_pos e.cells (j % 6) h4]
theorem holds_own {w : World} {base n g cap : Nat} {es : List Ev6} (h : w.ownsRow base 57 6 (.slice (some ⟨g, 0, none⟩) n cap) n (cellsE es)) (hn : es.length = n) : HoldsK Ev6.cells 6 w g 0 es.toArray := by
  intro j hj
  rw [size_flatK] at hj
  have hj' : j < es.length * 6 := by simpa using hj
  rw [Nat.zero_add]
  refine ⟨?_, h.frozenAt j⟩
  rw [h.cellAt j (by omega), flat_at es j hj']
  rfl
theorem own_sorted {w : World} {base n g cap m : Nat} {es ds : List Ev6} {os : Array Obj} (h : w.ownsRow base 57 6 (.slice (some ⟨g, 0, none⟩) n cap) n (cellsE es)) (hn : es.length = n) (hd : ds.length = n) :
    (sortWorldK Ev6.cells 6 w g 0 m ds.toArray os).ownsRow base 57 6 (.slice (some ⟨g, 0, none⟩) n cap) n (cellsE ds) ∧ Kp g w (sortWorldK Ev6.cells 6 w g 0 m ds.toArray os) := by
  have hg := (h.lt g rfl).2
  rcases h.2 with ⟨h1, h2⟩ | ⟨g', cap', cur, hv, hb, hh, hc, hm, hs, ht⟩
  · cases h1
  · cases hv
    have hw : (sortWorldK Ev6.cells 6 w g 0 m ds.toArray os).heap[g]? = some (.cells (putCells id 0 (flatK Ev6.cells 6 ds.toArray) cur) 57 (0, 0)) := by
      unfold sortWorldK
      rw [heap_grow_old _ _ (by rw [size_putRowK]; exact hg)]
      unfold putRowK putRow mapBlock
      show (Array.modify w.heap g _)[g]? = _
      rw [Array.getElem?_modify, if_pos rfl, hh]
      rfl
    refine ⟨⟨by rw [cellsE_len, hd], .inr ⟨g, cap, _, rfl, hb, hw, hc, hm, ?_, ?_⟩⟩, rfl, rfl, rfl, ?_, ?_⟩
    · unfold putCells; simp [hs]
    · apply List.ext_getElem?
      intro j
      by_cases hj : j < n * 6
      · rw [List.getElem?_take_of_lt hj, flat_at ds j (by omega), Array.getElem?_toList]
        unfold putCells
        have hjc : j < cur.size := by
          have := Nat.mul_le_mul_right 6 hc
          omega
        rw [Array.getElem?_mapIdx, Array.getElem?_eq_getElem hjc]
        simp
        intro h6
        omega
      · have hl := cellsE_len ds
        rw [List.getElem?_eq_none (by simp; omega), List.getElem?_eq_none (by omega)]
    · unfold sortWorldK; rw [size_grow, size_putRowK]; exact Nat.le_add_right _ _
    · intro i hi hne
      unfold sortWorldK
      rw [heap_grow_old _ _ (by rw [size_putRowK]; exact hi)]
      unfold putRowK putRow mapBlock
      show (Array.modify w.heap g _)[i]? = _
      rw [Array.getElem?_modify, if_neg (fun e => hne (congrArg some e.symm))]

/-! ### the closure -/
theorem isNaN_int (x : Int) (w : World) : Calls Try.prog 110 #[.int .i64 x] w fun e w' => e = .returned (.bool false) ∧ w = w' := by
  go_enter Try.func110, Try.ntmps110
  go_wp2_with fail
  all_goals (go_ret; exact ⟨by simp, rfl⟩)
theorem compare_int (x y : Int) (w : World) : Calls Try.prog 77 #[.int .i64 x, .int .i64 y] w fun e w' => e = .returned (.int .i64 (Lib.compareInt x y)) ∧ w = w' := by
  by_cases h1 : x < y
  · have h : Lib.compareInt x y = -1 := by unfold Lib.compareInt; simp [h1]
    rw [h]
    go_enter Try.func77, Try.ntmps77
    go_wp2_with (go_at_call 110; refine (isNaN_int _ _).mono ?_; rintro e w1 ⟨rfl, rfl⟩)
    all_goals (go_ret; exact ⟨rfl, rfl⟩)
  · by_cases h2 : y < x
    · have h : Lib.compareInt x y = 1 := by unfold Lib.compareInt; simp [h1, h2]
      rw [h]
      go_enter Try.func77, Try.ntmps77
      go_wp2_with (go_at_call 110; refine (isNaN_int _ _).mono ?_; rintro e w1 ⟨rfl, rfl⟩)
      all_goals (go_ret; exact ⟨rfl, rfl⟩)
    · have h : Lib.compareInt x y = 0 := by unfold Lib.compareInt; simp [h1, h2]
      rw [h]
      go_enter Try.func77, Try.ntmps77
      go_wp2_with (go_at_call 110; refine (isNaN_int _ _).mono ?_; rintro e w1 ⟨rfl, rfl⟩)
      all_goals (go_ret; exact ⟨rfl, rfl⟩)
theorem closure_ok (x y : Ev6) (W : World) : Calls Try.prog 76 #[.agg x.cells.toArray, .agg y.cells.toArray] W fun e w' => e = .returned (.int .i64 (cfE x y)) ∧ ∃ q os', w' = grow (W.drewN q) os' := by
  unfold cfE Ev6.cells
  obtain ⟨t, k, b, s, m, f⟩ := x
  obtain ⟨t', k', b', s', m', f'⟩ := y
  simp only
  have hcon := fun W' => compare_int t t' W'
  generalize Lib.compareInt t t' = r at hcon ⊢
  go_enter Try.func76, Try.ntmps76
  go_wp2_with (go_at_call 77; refine (hcon _).mono ?_; rintro e w' ⟨rfl, rfl⟩)
  go_ret
  exact ⟨rfl, 0, _, by rw [alloc_eq_grow, alloc_eq_grow, grow_grow]; rfl⟩
theorem cmpLaysE (blk off size : Nat) (w : World) : CmpLays Try.prog 76 #[] Ev6.cells 6 cfE blk off size w :=
  fun _ _ _ _ x y => closure_ok x y _

/-- the events sorted in place -/
def SortP (base n g cap : Nat) (ds : List Ev6) (w : World) (e : Ending) (w' : World) : Prop :=
  e = .returned (.tuple #[]) ∧ w'.ownsRow base 57 6 (.slice (some ⟨g, 0, none⟩) n cap) n (cellsE ds) ∧ Kp g w w'
theorem insertion_ok (es : List Ev6) (base n g cap : Nat) (hn : es.length = n) (hn2 : n ≤ 100) (w : World) (h : w.ownsRow base 57 6 (.slice (some ⟨g, 0, none⟩) n cap) n (cellsE es)) :
    Calls Try.prog 119 #[.slice (some ⟨g, 0, none⟩) n cap, .int .i64 0, .int .i64 (n : Int), .func (.func 76) #[] #[]] w (SortP base n g cap (ordE es) w) := by
  have eg : ∀ args w, (callFunc 76 args).run Try.prog w = .ok (.enter 76 args) w := enters_of Try.func76 (by kernel_rfl) rfl
  have hsz : es.toArray.size = n := by simpa using hn
  have hcon := AnyQ.insertionSortCmpFunc insLays 6 Try.isAgg57 Try.sizeOf57 Ev6.cells (fun _ => rfl) (fun x v hv => cellsE_one [x] v (by simpa [cellsE] using hv)) cfE 76 #[] g 0 cap 0 n es.toArray w eg (cmpLaysE g 0 es.toArray.size w) (holds_own h hn) (h.lt g rfl).2 (Nat.zero_le _) (by omega) (by omega)
  rw [hsz] at hcon
  change Calls Try.prog 119 _ _ _ at hcon
  refine hcon.mono ?_
  rintro e w' ⟨rfl, m, os, rfl⟩
  have ho : Sort.insertionSort (ltOf cfE) es.toArray 0 n = (ordE es).toArray := by unfold ordE; rw [hn]
  rw [ho]
  have hs := own_sorted (m := m) (os := os) h hn (show (ordE es).length = n by rw [ordE_len, hn])
  exact ⟨rfl, hs.1, hs.2⟩
theorem insertion_nil (w : World) (f : Value) :
    Calls Try.prog 119 #[.slice none 0 0, .int .i64 0, .int .i64 0, f] w fun e w' => e = .returned (.tuple #[]) ∧ w = w' := by
  go_enter Try.func119, Try.ntmps119
  go_wp2_with fail
  go_loopw [8] (fun v wr => v = .int .i64 1 ∧ wr = w) (fun _ _ => 0)
  case atStart => exact ⟨rfl, rfl⟩
  case round =>
    obtain ⟨rfl, rfl⟩ := hrel
    go_wp2_with fail
    go_end0
    exact ⟨rfl, rfl⟩

end Go.Proofs.Ytcodiiajmffdoaa
