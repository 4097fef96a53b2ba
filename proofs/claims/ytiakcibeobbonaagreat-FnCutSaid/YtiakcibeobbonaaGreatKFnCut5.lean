/- Texts of a proof, put together: StrikeB, PlayD, PlayK, PlayL, PlayM, PlayN, LimN, PlayO, PlayQ, ScoM.
   Conditions: those that each statement names. -/
import Derived.Test.YtiakcibeobbonaaGreatKFnCut4
import Derived.Deep.RegionLawGrows
import Derived.Deep.RegionHeld3
import Derived.Deep.DeepCutAuto
/- The walks of scaleSamples, StrikeBody and, where nothing is drawn, small.
   Conditions: those that each statement names. -/
namespace Go.Proofs.YtiakcibeobbonaaGreat
set_option linter.unusedSimpArgs false
set_option linter.unusedVariables false
open Go Go.RowKit

def RowF (xs : List Nat) (n : Nat) (w : World) (e : Ending) (w' : World) : Prop :=
  ∃ v : Value, e = .returned v ∧ w'.ownsRow w.heap.size 23 1 v n (cellsS xs) ∧ Nw w w'
theorem scaled_eq (xs : List Nat) (n f : Nat) (h : xs.length = n) : (List.range n).map (fun k => opB .mul .f32 (inputOf xs k) f) = xs.map fun x => opB .mul .f32 x f := by
  subst h
  apply List.ext_getElem?
  intro i
  by_cases hi : i < xs.length
  · simp [hi, inputOf]
  · simp [hi]

set_option maxRecDepth 100000 in
theorem scaleSamples_ok (xs : List Nat) (n bi f : Nat) (v : Value) (hx : xs.length = n) (hn : n ≤ 1048576) (w : World)
    (hi : w.ownsRow bi 23 1 v n (cellsS xs)) (hc : ∀ x ∈ xs, Calm .mul .f32 x f) :
    Calls Tryz.prog 108 #[v, .float .f32 f] w (RowF (xs.map fun x => opB .mul .f32 x f) n w) := by
  obtain ⟨va, vc, rfl⟩ := own_shape' hi
  obtain ⟨f0, hf, hfz0, hfz1, hfz2⟩ := info_parts info_f32
  have Hi := Lib.hid hi
  have Hx := Lib.hid hx
  have Hc := Lib.hid hc
  clear hi hx hc
  go_enter Tryz.func108, Tryz.ntmps108
  go_wp2_with (first
    | (at_make; refine wpList_make_full _ rfl _ _ 35 rfl w.heap.size 23 f0 (.float .f32 0) 1 Tryz.underlying35 hf hfz0 hfz1 _ _ _ _ n rfl rfl rfl rfl (by rw [hfz2]; omega) (by unfold maxLen; omega) (Nat.le_refl _) ?_))
  intro w3 hown3 hgrow3
  have O3 := Lib.hid (show w3.ownsRow w.heap.size 23 1 (.slice (some ⟨w.heap.size, 0, none⟩) n n) n (cellsS (fillL (fun k => opB .mul .f32 (inputOf xs k) f) n 0)) from by
    rw [toList_madeCells_one] at hown3
    rw [fillL_zero]
    simpa [cellsS] using hown3)
  have N3 := Lib.hid (show Nw w w3 from hgrow3)
  clear hown3 hgrow3
  go_wp2_with fail
  go_loopw [13] (fun i wr => FillI w.heap.size w.heap.size n (fun k => opB .mul .f32 (inputOf xs k) f) w i wr) (fun i _ => n - (intOf i).toNat)
  case atStart => exact ⟨0, by omega, rfl, O3.out, N3.out⟩
  case round =>
    obtain ⟨k, hk, rfl, how, hnw⟩ := hrel
    have Ow := Lib.hid how
    have Nr := Lib.hid hnw
    clear how hnw
    by_cases hlt : k < n
    · obtain ⟨x, hxk⟩ : ∃ x, xs[k]? = some x := ⟨xs[k]'(by rw [Hx.out]; exact hlt), List.getElem?_eq_getElem _⟩
      obtain ⟨g, cap, hv, hcap, hmax, hgs, e0⟩ := own_sample (own_nw Hi.out Nr.out) hxk Hx.out.symm
      cases hv
      have hcx := Hc.out x (List.mem_of_getElem? hxk)
      have r1 := hcx.res
      have d1 := hcx.fdr
      have e1 := Ow.out.cellAt k (by omega)
      rw [fillL_cell _ n k hlt] at e1
      have e2 := Ow.out.frozenAt k
      have hset := Ow.out.stored k (.float .f32 (opB .mul .f32 (inputOf xs k) f))
      rw [fillL_set (fun k => opB .mul .f32 (inputOf xs k) f) n k hlt] at hset
      have hin : inputOf xs k = x := by unfold inputOf; rw [List.getD_eq_getElem?_getD, hxk]; rfl
      rw [hin] at hset
      have F := Lib.hid hset.1
      have N2 := Lib.hid (Nr.out.set (p := ⟨w.heap.size, k, none⟩) (by show w.heap.size ≤ w.heap.size; omega) (.float .f32 (opB .mul .f32 x f)))
      unfold maxLen at hmax
      clear hset hxk hcx hin
      go_wp2_with fail
      go_roundw
      case rel => exact ⟨k + 1, by omega, by rw [show ((k + 1 : Nat) : Int) = (k : Int) + 1 from by omega], F.out, N2.out⟩
      case measure => simp only [intOf]; omega
    · obtain rfl : k = n := by omega
      go_wp2_with fail
      go_ret
      exact ⟨_, rfl, by have h := Ow.out; rw [fillL_full, scaled_eq xs _ f Hx.out] at h; exact h, Nr.out⟩

end Go.Proofs.YtiakcibeobbonaaGreat

/- A voice is struck: strikeVoice (FnShifted, FnCut).
   Conditions: those that each statement names. -/
namespace Go.Proofs.YtiakcibeobbonaaGreat
set_option linter.unusedSimpArgs false
set_option linter.unusedVariables false
open Go Go.RowKit

/-- 'make' of a row, as one step of a region that draws its order -/
theorem step_make_full {P : Program} {ops : Array Oper} {o : Oper} {a : Act} {w : World} {K : Act → World → Prop} {Q : Exit → Act → World → Prop} {E : Prop}
    (hg : o.guard = none) (l c : Operand) (t : TypeId) (hop : o.op = Op.makeSlice t l c)
    (base : Nat) (e : TypeId) (i : TypeInfo) (z : Value) (size : Nat) (h1 : P.underlying t = some (.slice e)) (h2 : P.info? e = some i) (h3 : i.zero = some z) (h4 : i.size = size)
    (kl kc : IntKind) (n : Nat) (hl : a.eval l = .int kl (n : Int)) (hc : a.eval c = .int kc (n : Int)) (b2 : i.bytes * n ≤ 281474976710656) (b3 : n ≤ maxLen) (b4 : base ≤ w.heap.size)
    (hK : ∀ g w', w'.ownsRow base e size (.slice (some ⟨g, 0, none⟩) n n) n (madeCells z.cells (n * size)).toList → w.grownBy w' none → K (a.put o.dst (.slice (some ⟨g, 0, none⟩) n n)) w') :
    if Region.wanted o (yielded ops a.tmps) = true then Oper.wp P o a w K Q else E := by
  have hw : Region.wanted o (yielded ops a.tmps) = true := by simp [Region.wanted, hg]
  rw [if_pos hw]
  obtain ⟨w', hrun, r1, r2⟩ := run_make_full (P := P) w base t e i z size h1 h2 h3 h4 kl kc n b2 b3 b4
  unfold Oper.wp
  simp [execOp, hop, hl, hc, hrun, Result.andThen]
  exact hK _ w' r1 r2

theorem HasC.new4 (w : World) (T : TypeId) (v0 v1 v2 v3 : Value) : HasC (w.alloc (.cells #[v0, v1, v2, v3] T (0, 0))) w.heap.size [v0, v1, v2, v3] := by
  refine ⟨by simp, fun k v hk => ?_⟩
  match k, hk with
  | 0, hk => simp at hk; subst hk; constructor <;> go_simp
  | 1, hk => simp at hk; subst hk; constructor <;> go_simp
  | 2, hk => simp at hk; subst hk; constructor <;> go_simp
  | 3, hk => simp at hk; subst hk; constructor <;> go_simp
  | k + 4, hk => simp at hk
theorem four_at {w : World} {b : Nat} {v0 v1 v2 v3 : Value} (h : HasC w b [v0, v1, v2, v3]) :
    (w.cell? ⟨b, 0, none⟩ = some v0 ∧ w.frozen? ⟨b, 0, none⟩ = false) ∧ (w.cell? ⟨b, 1, none⟩ = some v1 ∧ w.frozen? ⟨b, 1, none⟩ = false) ∧ (w.cell? ⟨b, 2, none⟩ = some v2 ∧ w.frozen? ⟨b, 2, none⟩ = false) ∧
    (w.cell? ⟨b, 3, none⟩ = some v3 ∧ w.frozen? ⟨b, 3, none⟩ = false) :=
  ⟨h.2 0 _ rfl, h.2 1 _ rfl, h.2 2 _ rfl, h.2 3 _ rfl⟩
theorem nw_four {w w' : World} {b : Nat} (h : Nw w w') (hb : w.heap.size ≤ b) (v0 v1 v2 v3 : Value) : Nw w ((((w'.setCell ⟨b, 0, none⟩ v0).setCell ⟨b, 1, none⟩ v1).setCell ⟨b, 2, none⟩ v2).setCell ⟨b, 3, none⟩ v3) :=
  (((h.set (p := ⟨b, 0, none⟩) hb _).set (p := ⟨b, 1, none⟩) hb _).set (p := ⟨b, 2, none⟩) hb _).set (p := ⟨b, 3, none⟩) hb _
theorem own_four {w : World} {base b : Nat} {E : TypeId} {size n : Nat} {v : Value} {xs : List Value} (h : w.ownsRow base E size v n xs) (hb : b < base) (v0 v1 v2 v3 : Value) :
    ((((w.setCell ⟨b, 0, none⟩ v0).setCell ⟨b, 1, none⟩ v1).setCell ⟨b, 2, none⟩ v2).setCell ⟨b, 3, none⟩ v3).ownsRow base E size v n xs :=
  own_set (p := ⟨b, 3, none⟩) (own_set (p := ⟨b, 2, none⟩) (own_set (p := ⟨b, 1, none⟩) (own_set (p := ⟨b, 0, none⟩) h hb _) hb _) hb _) hb _
theorem cell_four {w : World} {a o b : Nat} {v : Value} (h : w.cell? ⟨a, o, none⟩ = some v) (hb : a ≠ b) (v0 v1 v2 v3 : Value) : ((((w.setCell ⟨b, 0, none⟩ v0).setCell ⟨b, 1, none⟩ v1).setCell ⟨b, 2, none⟩ v2).setCell ⟨b, 3, none⟩ v3).cell? ⟨a, o, none⟩ = some v := by
  rw [World.cell?_of_block (a := ⟨a, o, none⟩) (w := w) (by rw [Below.heap_setCell _ _ _ _ hb, Below.heap_setCell _ _ _ _ hb, Below.heap_setCell _ _ _ _ hb, Below.heap_setCell _ _ _ _ hb]), h]
theorem made_c64 {w : World} {base n : Nat} {v : Value} (h : w.ownsRow base 91 1 v n (madeCells (Value.complex .f32 0 0).cells (n * 1)).toList) : w.ownsRow base 91 1 v n (cellsC (List.replicate n (0, 0))) := by
  have h : w.ownsRow base 91 1 v n (madeCells #[Value.complex .f32 0 0] (n * 1)).toList := h
  rw [Nat.mul_one, toList_madeCells_one] at h
  simpa [cellsC] using h

def VoiceP (b : Int) (ms : List M4) (xs : List Nat) (w : World) (e : Ending) (w' : World) : Prop :=
  ∃ (vm vi : Value) (g : Nat), e = .returned (.agg #[.int .i64 b, vm, .slice (some ⟨g, 0, none⟩) ms.length ms.length, vi]) ∧
    w'.ownsRow w.heap.size 93 2 vm ms.length (cellsM ms) ∧
    w'.ownsRow w.heap.size 91 1 (.slice (some ⟨g, 0, none⟩) ms.length ms.length) ms.length (cellsC (List.replicate ms.length (0, 0))) ∧
    w'.ownsRow w.heap.size 23 1 vi xs.length (cellsS xs) ∧ Nw w w'
theorem voice_fin {w W : World} {n n' m g : Nat} {ms : List M4} {ss : List (Nat × Nat)} {xs : List Nat} {vm vi : Value} (h1 : W.ownsRow (w.heap.size + 3) 93 2 vm n' (cellsM ms)) (h2 : W.ownsRow (w.heap.size + 3) 91 1 (.slice (some ⟨g, 0, none⟩) n n) n (cellsC ss)) (h3 : W.ownsRow (w.heap.size + 3) 23 1 vi m (cellsS xs)) (hN : Nw w W) (u0 : Value) :
    let W' := ((((W.setCell ⟨w.heap.size + 2, 0, none⟩ u0).setCell ⟨w.heap.size + 2, 1, none⟩ vm).setCell ⟨w.heap.size + 2, 2, none⟩ (.slice (some ⟨g, 0, none⟩) n n)).setCell ⟨w.heap.size + 2, 3, none⟩ vi)
    W'.ownsRow w.heap.size 93 2 vm n' (cellsM ms) ∧ W'.ownsRow w.heap.size 91 1 (.slice (some ⟨g, 0, none⟩) n n) n (cellsC ss) ∧ W'.ownsRow w.heap.size 23 1 vi m (cellsS xs) ∧ Nw w W' :=
  ⟨own_base (own_four h1 (by omega) _ _ _ _) (by omega), own_base (own_four h2 (by omega) _ _ _ _) (by omega), own_base (own_four h3 (by omega) _ _ _ _) (by omega), nw_four hN (by omega) _ _ _ _⟩

set_option maxHeartbeats 12800000 in
set_option maxRecDepth 100000 in
theorem strikeVoice_ok (ms : List M4) (n bm : Nat) (v : Value) (t k b : Int) (s m f : Nat) (hn : ms.length = n) (hn64 : n ≤ 64) (hs : s ≤ 2) (hm1 : 1 ≤ m) (hm : m ≤ 64) (hf : ∀ x ∈ shapeL s m, Calm .mul .f32 x f) (w : World)
    (ho : w.ownsRow bm 93 2 v n (cellsM ms)) :
    Calls Tryz.prog 91 #[.agg #[v], .agg #[.int .i64 t, .int .i64 k, .int .i64 b, .int .i64 (s : Int), .int .i64 (m : Int), .float .f32 f]] w (VoiceP b ms ((shapeL s m).map fun x => opB .mul .f32 x f) w) := by
  obtain ⟨va, vc, rfl⟩ := own_shape' ho
  obtain ⟨j0, hj, hjz0, hjz1, hjz2⟩ := info_parts info_c64
  have hsl : (shapeL s m).length = m := by simp [shapeL]
  have Ho := Lib.hid ho
  have Hn := Lib.hid hn
  have Hf := Lib.hid hf
  clear ho hn hf
  have B0 := Lib.hid (show Has1 _ w.heap.size _ from Has1.new w 65 (.slice va n vc))
  have E0 := Lib.hid (HasC.new (w.alloc (.cells #[.slice va n vc] 65 (0, 0))) 68 (.int .i64 t) (.int .i64 k) (.int .i64 b) (.int .i64 (s : Int)) (.int .i64 (m : Int)) (.float .f32 f))
  have R0 := Lib.hid (HasC.new4 ((w.alloc (.cells #[.slice va n vc] 65 (0, 0))).alloc (.cells #[.int .i64 t, .int .i64 k, .int .i64 b, .int .i64 (s : Int), .int .i64 (m : Int), .float .f32 f] 68 (0, 0))) 59 (.int .i64 0) (.slice none 0 0) (.slice none 0 0) (.slice none 0 0))
  have Nz := Lib.hid ((((Nw.refl w).alloc (.cells #[.slice va n vc] 65 (0, 0))).alloc (.cells #[.int .i64 t, .int .i64 k, .int .i64 b, .int .i64 (s : Int), .int .i64 (m : Int), .float .f32 f] 68 (0, 0))).alloc (.cells #[.int .i64 0, .slice none 0 0, .slice none 0 0, .slice none 0 0] 59 (0, 0)))
  have B1 := Lib.hid ((B0.out.alloc (.cells #[.int .i64 t, .int .i64 k, .int .i64 b, .int .i64 (s : Int), .int .i64 (m : Int), .float .f32 f] 68 (0, 0))).alloc (.cells #[.int .i64 0, .slice none 0 0, .slice none 0 0, .slice none 0 0] 59 (0, 0)))
  have E1 := Lib.hid (E0.out.alloc (.cells #[.int .i64 0, .slice none 0 0, .slice none 0 0, .slice none 0 0] 59 (0, 0)))
  have hA : ∀ (w : World) o, (w.alloc o).heap.size = w.heap.size + 1 := fun w o => by simp
  rw [hA] at E1
  rw [hA, hA] at R0
  clear hA
  clear B0 E0
  go_enter Tryz.func91, Tryz.ntmps91
  go_wp2_with fail
  refine (strikeShape_ok s m hs hm1 hm _).mono ?_
  rintro e w1 ⟨g, rfl, own1, n1⟩
  have B2 := Lib.hid (B1.out.nw n1)
  have E2 := Lib.hid (E1.out.nw n1)
  have R1 := Lib.hid (show HasC w1 (w.heap.size + 2) _ from R0.out.nw n1)
  have N1 := Lib.hid (Nz.out.trans n1)
  have Ho1 := Lib.hid (own_nw Ho.out N1.out)
  obtain ⟨bi, oi1⟩ : ∃ bi, w1.ownsRow bi 23 1 (.slice (some ⟨g, 0, none⟩) m m) m (cellsS (shapeL s m)) := ⟨_, own1⟩
  have Oi1 := Lib.hid oi1
  have hsz : w.heap.size + 3 ≤ w1.heap.size := by have := n1.size; simp at this; omega
  clear oi1
  clear B1 E1 R0 Nz n1 own1 Ho
  have KeepS := Lib.hid (show ∀ W, Nw w1 W → W.cell? ⟨w.heap.size, 0, none⟩ = some (.slice va n vc) ∧ W.cell? ⟨w.heap.size + 1, 2, none⟩ = some (.int .i64 b) ∧ W.cell? ⟨w.heap.size + 1, 5, none⟩ = some (.float .f32 f) from fun W hW => by
    obtain ⟨-, y0, -⟩ := B2.out.nw hW
    obtain ⟨-, -, ⟨y1, -⟩, -, -, y2, -⟩ := six_at (E2.out.nw hW)
    exact ⟨y0, y1, y2⟩)
  go_wp2_with fail
  refine wp_region_held_drew (S := fun w' => w'.cell? ⟨w.heap.size, 0, none⟩ = some (.slice va n vc) ∧ w'.cell? ⟨w.heap.size + 1, 2, none⟩ = some (.int .i64 b) ∧ w'.cell? ⟨w.heap.size + 1, 5, none⟩ = some (.float .f32 f)) (by kernel_rfl) ?_ (fun hHeld => ?_)
  · exact KeepS.out _ ((Nw.refl _).draw 1)
  have N0 := Lib.hid (show Nw w1 w1.drew from (Nw.refl _).draw 1)
  refine wpAnyH_take (i := 0) (oi := _) (v := ?_) rfl (by kernel_rfl) (by kernel_rfl) (by kernel_rfl) (fun _ _ _ h => h) (_root_.Or.inl ⟨by rfl, ?_⟩) (by assumption) ?_
  rotate_left
  · intro w hSw
    (try dsimp only at hSw)
    go_simp
    all_goals with_reducible rfl
  try simp only [List.getElem_toArray, List.getElem_cons_succ, List.getElem_cons_zero, Act.put, List.setIfInBounds_toArray, List.set_cons_zero, List.set_cons_succ]
  refine wpAnyH_take (i := 1) (oi := _) (v := ?_) rfl (by kernel_rfl) (by kernel_rfl) (by kernel_rfl) (fun _ _ _ h => h) (_root_.Or.inl ⟨by rfl, ?_⟩) (by assumption) ?_
  rotate_left
  · intro w hSw
    (try dsimp only at hSw)
    go_simp
    all_goals with_reducible rfl
  try simp only [List.getElem_toArray, List.getElem_cons_succ, List.getElem_cons_zero, Act.put, List.setIfInBounds_toArray, List.set_cons_zero, List.set_cons_succ]
  refine wpAnyH_take (i := 2) (oi := _) (v := ?_) rfl (by kernel_rfl) (by kernel_rfl) (by kernel_rfl) (fun _ _ _ h => h) (_root_.Or.inl ⟨by rfl, ?_⟩) (by assumption) ?_
  rotate_left
  · intro w hSw
    (try dsimp only at hSw)
    go_simp
    all_goals with_reducible rfl
  try simp only [List.getElem_toArray, List.getElem_cons_succ, List.getElem_cons_zero, Act.put, List.setIfInBounds_toArray, List.set_cons_zero, List.set_cons_succ]
  refine wpAnyH_take (i := 3) (oi := _) (v := ?_) rfl (by kernel_rfl) (by kernel_rfl) (by kernel_rfl) (fun _ _ _ h => h) (_root_.Or.inl ⟨by rfl, ?_⟩) (by assumption) ?_
  rotate_left
  · intro w hSw
    (try dsimp only at hSw)
    go_simp
    all_goals with_reducible rfl
  try simp only [List.getElem_toArray, List.getElem_cons_succ, List.getElem_cons_zero, Act.put, List.setIfInBounds_toArray, List.set_cons_zero, List.set_cons_succ]
  refine wpAnyH_take (i := 5) (oi := _) (v := ?_) rfl (by kernel_rfl) (by kernel_rfl) (by kernel_rfl) (fun _ _ _ h => h) (_root_.Or.inl ⟨by rfl, ?_⟩) (by assumption) ?_
  rotate_left
  · intro w hSw
    (try dsimp only at hSw)
    go_simp
    all_goals with_reducible rfl
  try simp only [List.getElem_toArray, List.getElem_cons_succ, List.getElem_cons_zero, Act.put, List.setIfInBounds_toArray, List.set_cons_zero, List.set_cons_succ]
  refine wpAnyH_take (i := 6) (oi := _) (v := ?_) rfl (by kernel_rfl) (by kernel_rfl) (by kernel_rfl) (fun _ _ _ h => h) (_root_.Or.inl ⟨by rfl, ?_⟩) (by assumption) ?_
  rotate_left
  · intro w hSw
    (try dsimp only at hSw)
    go_simp
    all_goals with_reducible rfl
  try simp only [List.getElem_toArray, List.getElem_cons_succ, List.getElem_cons_zero, Act.put, List.setIfInBounds_toArray, List.set_cons_zero, List.set_cons_succ]
  refine wpAnyH_take (i := 7) (oi := _) (v := ?_) rfl (by kernel_rfl) (by kernel_rfl) (by kernel_rfl) (fun _ _ _ h => h) (_root_.Or.inl ⟨by rfl, ?_⟩) (by assumption) ?_
  rotate_left
  · intro w hSw
    (try dsimp only at hSw)
    go_simp
    all_goals with_reducible rfl
  try simp only [List.getElem_toArray, List.getElem_cons_succ, List.getElem_cons_zero, Act.put, List.setIfInBounds_toArray, List.set_cons_zero, List.set_cons_succ]
  refine wpAnyH_take (i := 9) (oi := _) (v := ?_) rfl (by kernel_rfl) (by kernel_rfl) (by kernel_rfl) (fun _ _ _ h => h) (_root_.Or.inl ⟨by rfl, ?_⟩) (by assumption) ?_
  rotate_left
  · intro w hSw
    (try dsimp only at hSw)
    go_simp
    all_goals with_reducible rfl
  try simp only [List.getElem_toArray, List.getElem_cons_succ, List.getElem_cons_zero, Act.put, List.setIfInBounds_toArray, List.set_cons_zero, List.set_cons_succ]
  refine wpAnyH_take (i := 10) (oi := _) (v := ?_) rfl (by kernel_rfl) (by kernel_rfl) (by kernel_rfl) (fun _ _ _ h => h) (_root_.Or.inl ⟨by rfl, ?_⟩) (by assumption) ?_
  rotate_left
  · intro w hSw
    (try dsimp only at hSw)
    go_simp
    all_goals with_reducible rfl
  try simp only [List.getElem_toArray, List.getElem_cons_succ, List.getElem_cons_zero, Act.put, List.setIfInBounds_toArray, List.set_cons_zero, List.set_cons_succ]
  refine wpAnyH_take (i := 11) (oi := _) (v := ?_) rfl (by kernel_rfl) (by kernel_rfl) (by kernel_rfl) (fun _ _ _ h => h) (_root_.Or.inl ⟨by rfl, ?_⟩) (by assumption) ?_
  rotate_left
  · intro w hSw
    (try dsimp only at hSw)
    go_simp
    all_goals with_reducible rfl
  try simp only [List.getElem_toArray, List.getElem_cons_succ, List.getElem_cons_zero, Act.put, List.setIfInBounds_toArray, List.set_cons_zero, List.set_cons_succ]
  refine wpAnyH_ready (rs := [4, 8]) (by kernel_rfl) (by simp) ?_
  refine AllReadyH.cons (o := _) rfl (fun K hK => ?_) ?_
  · go_simp
    go_at_call 64
    refine (clone_modes ms n bm (.slice va n vc) Hn.out hn64 _ (own_nw Ho1.out N0.out)).mono ?_
    rintro e W1 ⟨vm, rfl, om, d⟩
    obtain ⟨ma, mc, rfl⟩ := own_shape' om
    have NW1 := Lib.hid (Nw.trans N0.out d)
    have OM := Lib.hid (show W1.ownsRow (w.heap.size + 3) 93 2 (.slice ma ms.length mc) ms.length (cellsM ms) from own_base om (Nat.le_trans hsz N0.out.size))
    clear d om hHeld
    go_wp2_with fail
    refine hK.out _ _ ?_ (fun hHeld => ?_)
    · exact KeepS.out _ NW1.out
    clear hK K
    try simp only [List.getElem_toArray, List.getElem_cons_succ, List.getElem_cons_zero, Act.put, List.setIfInBounds_toArray, List.set_cons_zero, List.set_cons_succ]
    refine wpAnyH_ready (rs := [8, 12]) (by kernel_rfl) (by simp) ?_
    refine AllReadyH.cons (o := _) rfl (fun K hK => ?_) ?_
    · refine step_make_full rfl (.tmp 22) (.tmp 22) 57 rfl (w.heap.size + 3) 91 j0 (.complex .f32 0 0) 1 Tryz.underlying57 hj hjz0 hjz1 .i64 .i64 n rfl rfl (by rw [hjz2]; omega) (by unfold maxLen; omega) (Nat.le_trans hsz NW1.out.size) ?_
      intro gs W2 os d
      have NW2 := Lib.hid (show Nw w1 W2 from Nw.trans NW1.out d)
      have OS := Lib.hid (made_c64 os)
      have OM := Lib.hid (own_nw OM.out d)
      clear d os hHeld
      refine hK.out _ _ ?_ (fun hHeld => ?_)
      · exact KeepS.out _ NW2.out
      clear hK K
      try simp only [List.getElem_toArray, List.getElem_cons_succ, List.getElem_cons_zero, Act.put, List.setIfInBounds_toArray, List.set_cons_zero, List.set_cons_succ]
      refine wpAnyH_ready (rs := [12]) (by kernel_rfl) (by simp) ?_
      refine AllReadyH.cons (o := _) rfl (fun K hK => ?_) AllReadyH.nil
      go_simp
      go_at_call 108
      refine (scaleSamples_ok (shapeL s m) m bi f (.slice (some ⟨g, 0, none⟩) m m) hsl (by omega) _ (own_nw Oi1.out NW2.out) Hf.out).mono ?_
      rintro e W3 ⟨vi, rfl, oi, d⟩
      obtain ⟨ia, ic, rfl⟩ := own_shape' oi
      have NW3 := Lib.hid (Nw.trans NW2.out d)
      have OI := Lib.hid (show W3.ownsRow (w.heap.size + 3) 23 1 (.slice ia m ic) m (cellsS ((shapeL s m).map fun x => opB .mul .f32 x f)) from own_base oi (Nat.le_trans hsz NW2.out.size))
      have OM := Lib.hid (own_nw OM.out d)
      have OS := Lib.hid (own_nw OS.out d)
      clear d oi hHeld
      go_wp2_with fail
      refine hK.out _ _ ?_ (fun hHeld => ?_)
      · exact KeepS.out _ NW3.out
      clear hK K
      try simp only [List.getElem_toArray, List.getElem_cons_succ, List.getElem_cons_zero, Act.put, List.setIfInBounds_toArray, List.set_cons_zero, List.set_cons_succ]
      refine wpAnyH_take (i := 13) (oi := _) (v := ?_) rfl (by kernel_rfl) (by kernel_rfl) (by kernel_rfl) (fun _ _ _ h => h) (_root_.Or.inl ⟨by rfl, ?_⟩) (by assumption) ?_
      rotate_left
      · intro w hSw
        (try dsimp only at hSw)
        go_simp
        all_goals with_reducible rfl
      try simp only [List.getElem_toArray, List.getElem_cons_succ, List.getElem_cons_zero, Act.put, List.setIfInBounds_toArray, List.set_cons_zero, List.set_cons_succ]
      refine wpAnyH_ready (rs := [14]) (by kernel_rfl) (by simp) ?_
      refine AllReadyH.cons (o := _) rfl (fun K hK => ?_) AllReadyH.nil
      have R := Lib.hid (R1.out.nw NW3.out)
      obtain ⟨⟨r0, s0⟩, ⟨r1, s1⟩, ⟨r2, s2⟩, r3, s3⟩ := four_at R.out
      go_simp
      refine hK.out _ _ ?_ (fun hHeld => ?_)
      · obtain ⟨z0, z1, z2⟩ := KeepS.out _ NW3.out
        exact ⟨cell_four z0 (by omega) _ _ _ _, cell_four z1 (by omega) _ _ _ _, cell_four z2 (by omega) _ _ _ _⟩
      clear hK K hHeld
      try simp only [List.getElem_toArray, List.getElem_cons_succ, List.getElem_cons_zero, Act.put, List.setIfInBounds_toArray, List.set_cons_zero, List.set_cons_succ]
      refine wpAnyH_done (by kernel_rfl) ?_ _
      have Fin := Lib.hid (voice_fin OM.out OS.out OI.out (N1.out.trans NW3.out) (.int .i64 b))
      go_wp2_with fail
      exact bodyPost_ret (v := .agg #[.int .i64 b, .slice ma ms.length mc, .slice (some ⟨gs, 0, none⟩) n n, .slice ia m ic]) (by simp [results, Tryz.results91, go_sem, r0, r1, r2, r3, s0]) rfl ⟨.slice ma ms.length mc, .slice ia m ic, gs, by rw [Hn.out], Fin.out.1, by simpa only [Hn.out] using Fin.out.2.1, by simpa [hsl] using Fin.out.2.2.1, Fin.out.2.2.2⟩
    refine AllReadyH.cons (o := _) rfl (fun K hK => ?_) AllReadyH.nil
    go_simp
    go_at_call 108
    refine (scaleSamples_ok (shapeL s m) m bi f (.slice (some ⟨g, 0, none⟩) m m) hsl (by omega) _ (own_nw Oi1.out NW1.out) Hf.out).mono ?_
    rintro e W4 ⟨vi, rfl, oi, d⟩
    obtain ⟨ia, ic, rfl⟩ := own_shape' oi
    have NW4 := Lib.hid (Nw.trans NW1.out d)
    have OI := Lib.hid (show W4.ownsRow (w.heap.size + 3) 23 1 (.slice ia m ic) m (cellsS ((shapeL s m).map fun x => opB .mul .f32 x f)) from own_base oi (Nat.le_trans hsz NW1.out.size))
    have OM := Lib.hid (own_nw OM.out d)
    clear d oi hHeld
    go_wp2_with fail
    refine hK.out _ _ ?_ (fun hHeld => ?_)
    · exact KeepS.out _ NW4.out
    clear hK K
    try simp only [List.getElem_toArray, List.getElem_cons_succ, List.getElem_cons_zero, Act.put, List.setIfInBounds_toArray, List.set_cons_zero, List.set_cons_succ]
    refine wpAnyH_ready (rs := [8]) (by kernel_rfl) (by simp) ?_
    refine AllReadyH.cons (o := _) rfl (fun K hK => ?_) AllReadyH.nil
    refine step_make_full rfl (.tmp 22) (.tmp 22) 57 rfl (w.heap.size + 3) 91 j0 (.complex .f32 0 0) 1 Tryz.underlying57 hj hjz0 hjz1 .i64 .i64 n rfl rfl (by rw [hjz2]; omega) (by unfold maxLen; omega) (Nat.le_trans hsz NW4.out.size) ?_
    intro gs W5 os d
    have NW5 := Lib.hid (show Nw w1 W5 from Nw.trans NW4.out d)
    have OS := Lib.hid (made_c64 os)
    have OM := Lib.hid (own_nw OM.out d)
    have OI := Lib.hid (own_nw OI.out d)
    clear d os hHeld
    refine hK.out _ _ ?_ (fun hHeld => ?_)
    · exact KeepS.out _ NW5.out
    clear hK K
    try simp only [List.getElem_toArray, List.getElem_cons_succ, List.getElem_cons_zero, Act.put, List.setIfInBounds_toArray, List.set_cons_zero, List.set_cons_succ]
    refine wpAnyH_take (i := 13) (oi := _) (v := ?_) rfl (by kernel_rfl) (by kernel_rfl) (by kernel_rfl) (fun _ _ _ h => h) (_root_.Or.inl ⟨by rfl, ?_⟩) (by assumption) ?_
    rotate_left
    · intro w hSw
      (try dsimp only at hSw)
      go_simp
      all_goals with_reducible rfl
    try simp only [List.getElem_toArray, List.getElem_cons_succ, List.getElem_cons_zero, Act.put, List.setIfInBounds_toArray, List.set_cons_zero, List.set_cons_succ]
    refine wpAnyH_ready (rs := [14]) (by kernel_rfl) (by simp) ?_
    refine AllReadyH.cons (o := _) rfl (fun K hK => ?_) AllReadyH.nil
    have R := Lib.hid (R1.out.nw NW5.out)
    obtain ⟨⟨r0, s0⟩, ⟨r1, s1⟩, ⟨r2, s2⟩, r3, s3⟩ := four_at R.out
    go_simp
    refine hK.out _ _ ?_ (fun hHeld => ?_)
    · obtain ⟨z0, z1, z2⟩ := KeepS.out _ NW5.out
      exact ⟨cell_four z0 (by omega) _ _ _ _, cell_four z1 (by omega) _ _ _ _, cell_four z2 (by omega) _ _ _ _⟩
    clear hK K hHeld
    try simp only [List.getElem_toArray, List.getElem_cons_succ, List.getElem_cons_zero, Act.put, List.setIfInBounds_toArray, List.set_cons_zero, List.set_cons_succ]
    refine wpAnyH_done (by kernel_rfl) ?_ _
    have Fin := Lib.hid (voice_fin OM.out OS.out OI.out (N1.out.trans NW5.out) (.int .i64 b))
    go_wp2_with fail
    exact bodyPost_ret (v := .agg #[.int .i64 b, .slice ma ms.length mc, .slice (some ⟨gs, 0, none⟩) n n, .slice ia m ic]) (by simp [results, Tryz.results91, go_sem, r0, r1, r2, r3, s0]) rfl ⟨.slice ma ms.length mc, .slice ia m ic, gs, by rw [Hn.out], Fin.out.1, by simpa only [Hn.out] using Fin.out.2.1, by simpa [hsl] using Fin.out.2.2.1, Fin.out.2.2.2⟩
  refine AllReadyH.cons (o := _) rfl (fun K hK => ?_) AllReadyH.nil
  refine step_make_full rfl (.tmp 22) (.tmp 22) 57 rfl (w.heap.size + 3) 91 j0 (.complex .f32 0 0) 1 Tryz.underlying57 hj hjz0 hjz1 .i64 .i64 n rfl rfl (by rw [hjz2]; omega) (by unfold maxLen; omega) (Nat.le_trans hsz N0.out.size) ?_
  intro gs W6 os d
  have NW6 := Lib.hid (show Nw w1 W6 from Nw.trans N0.out d)
  have OS := Lib.hid (made_c64 os)
  clear d os hHeld
  refine hK.out _ _ ?_ (fun hHeld => ?_)
  · exact KeepS.out _ NW6.out
  clear hK K
  try simp only [List.getElem_toArray, List.getElem_cons_succ, List.getElem_cons_zero, Act.put, List.setIfInBounds_toArray, List.set_cons_zero, List.set_cons_succ]
  refine wpAnyH_ready (rs := [4]) (by kernel_rfl) (by simp) ?_
  refine AllReadyH.cons (o := _) rfl (fun K hK => ?_) AllReadyH.nil
  go_simp
  go_at_call 64
  refine (clone_modes ms n bm (.slice va n vc) Hn.out hn64 _ (own_nw Ho1.out NW6.out)).mono ?_
  rintro e W7 ⟨vm, rfl, om, d⟩
  obtain ⟨ma, mc, rfl⟩ := own_shape' om
  have NW7 := Lib.hid (Nw.trans NW6.out d)
  have OM := Lib.hid (show W7.ownsRow (w.heap.size + 3) 93 2 (.slice ma ms.length mc) ms.length (cellsM ms) from own_base om (Nat.le_trans hsz NW6.out.size))
  have OS := Lib.hid (own_nw OS.out d)
  clear d om hHeld
  go_wp2_with fail
  refine hK.out _ _ ?_ (fun hHeld => ?_)
  · exact KeepS.out _ NW7.out
  clear hK K
  try simp only [List.getElem_toArray, List.getElem_cons_succ, List.getElem_cons_zero, Act.put, List.setIfInBounds_toArray, List.set_cons_zero, List.set_cons_succ]
  refine wpAnyH_ready (rs := [12]) (by kernel_rfl) (by simp) ?_
  refine AllReadyH.cons (o := _) rfl (fun K hK => ?_) AllReadyH.nil
  go_simp
  go_at_call 108
  refine (scaleSamples_ok (shapeL s m) m bi f (.slice (some ⟨g, 0, none⟩) m m) hsl (by omega) _ (own_nw Oi1.out NW7.out) Hf.out).mono ?_
  rintro e W8 ⟨vi, rfl, oi, d⟩
  obtain ⟨ia, ic, rfl⟩ := own_shape' oi
  have NW8 := Lib.hid (Nw.trans NW7.out d)
  have OI := Lib.hid (show W8.ownsRow (w.heap.size + 3) 23 1 (.slice ia m ic) m (cellsS ((shapeL s m).map fun x => opB .mul .f32 x f)) from own_base oi (Nat.le_trans hsz NW7.out.size))
  have OS := Lib.hid (own_nw OS.out d)
  have OM := Lib.hid (own_nw OM.out d)
  clear d oi hHeld
  go_wp2_with fail
  refine hK.out _ _ ?_ (fun hHeld => ?_)
  · exact KeepS.out _ NW8.out
  clear hK K
  try simp only [List.getElem_toArray, List.getElem_cons_succ, List.getElem_cons_zero, Act.put, List.setIfInBounds_toArray, List.set_cons_zero, List.set_cons_succ]
  refine wpAnyH_take (i := 13) (oi := _) (v := ?_) rfl (by kernel_rfl) (by kernel_rfl) (by kernel_rfl) (fun _ _ _ h => h) (_root_.Or.inl ⟨by rfl, ?_⟩) (by assumption) ?_
  rotate_left
  · intro w hSw
    (try dsimp only at hSw)
    go_simp
    all_goals with_reducible rfl
  try simp only [List.getElem_toArray, List.getElem_cons_succ, List.getElem_cons_zero, Act.put, List.setIfInBounds_toArray, List.set_cons_zero, List.set_cons_succ]
  refine wpAnyH_ready (rs := [14]) (by kernel_rfl) (by simp) ?_
  refine AllReadyH.cons (o := _) rfl (fun K hK => ?_) AllReadyH.nil
  have R := Lib.hid (R1.out.nw NW8.out)
  obtain ⟨⟨r0, s0⟩, ⟨r1, s1⟩, ⟨r2, s2⟩, r3, s3⟩ := four_at R.out
  go_simp
  refine hK.out _ _ ?_ (fun hHeld => ?_)
  · obtain ⟨z0, z1, z2⟩ := KeepS.out _ NW8.out
    exact ⟨cell_four z0 (by omega) _ _ _ _, cell_four z1 (by omega) _ _ _ _, cell_four z2 (by omega) _ _ _ _⟩
  clear hK K hHeld
  try simp only [List.getElem_toArray, List.getElem_cons_succ, List.getElem_cons_zero, Act.put, List.setIfInBounds_toArray, List.set_cons_zero, List.set_cons_succ]
  refine wpAnyH_done (by kernel_rfl) ?_ _
  have Fin := Lib.hid (voice_fin OM.out OS.out OI.out (N1.out.trans NW8.out) (.int .i64 b))
  go_wp2_with fail
  exact bodyPost_ret (v := .agg #[.int .i64 b, .slice ma ms.length mc, .slice (some ⟨gs, 0, none⟩) n n, .slice ia m ic]) (by simp [results, Tryz.results91, go_sem, r0, r1, r2, r3, s0]) rfl ⟨.slice ma ms.length mc, .slice ia m ic, gs, by rw [Hn.out], Fin.out.1, by simpa only [Hn.out] using Fin.out.2.1, by simpa [hsl] using Fin.out.2.2.1, Fin.out.2.2.2⟩
end Go.Proofs.YtiakcibeobbonaaGreat

/- A player in memory: what its steps change and what stays; modes damped in place (FnShifted, FnCut).
   Conditions: those that each statement names. -/
namespace Go.Proofs.YtiakcibeobbonaaGreat
set_option linter.unusedSimpArgs false
set_option linter.unusedVariables false
open Go Go.RowKit

/-! ### plain: events in order, sample by sample -/
theorem pair_of_adj : ∀ (l : List Ev6), (∀ (i : Nat) p q, l[i]? = some p → l[i + 1]? = some q → p.t ≤ q.t) → l.Pairwise fun a b => a.t ≤ b.t
  | [], _ => List.Pairwise.nil
  | [a], _ => List.pairwise_singleton _ _
  | a :: b :: l, h => by
    have ih := pair_of_adj (b :: l) fun i p q h1 h2 => h (i + 1) p q (by simpa using h1) (by simpa using h2)
    have hab : a.t ≤ b.t := h 0 a b rfl rfl
    refine List.Pairwise.cons (fun x hx => ?_) ih
    rcases List.mem_cons.1 hx with rfl | hx
    · exact hab
    · have := (List.pairwise_cons.1 ih).1 x hx
      omega
theorem ord_pair (es : List Ev6) : (ordE es).Pairwise fun a b => a.t ≤ b.t := pair_of_adj _ (ordE_sorted es)
theorem split_t (x : Int) : ∀ l : List Ev6, (l.Pairwise fun a b => a.t ≤ b.t) → l = l.filter (fun e => decide (e.t < x)) ++ (l.filter (fun e => e.t == x) ++ l.filter (fun e => decide (x < e.t)))
  | [], _ => rfl
  | a :: l, h => by
    obtain ⟨h1, h2⟩ := List.pairwise_cons.1 h
    have ih := split_t x l h2
    by_cases ha : a.t < x
    · have e2 : (a.t == x) = false := by rw [beq_eq_false_iff_ne]; omega
      have e3 : ¬ x < a.t := by omega
      rw [List.filter_cons, List.filter_cons, List.filter_cons, e2]
      simp only [ha, e3, decide_true, decide_false, if_true, Bool.false_eq_true, if_false, List.cons_append]
      rw [← ih]
    · have f1 : l.filter (fun e => decide (e.t < x)) = [] := by
        rw [List.filter_eq_nil_iff]
        intro b hb
        have := h1 b hb
        simp; omega
      rw [f1, List.nil_append] at ih
      by_cases hx : a.t = x
      · have e2 : (a.t == x) = true := by rw [beq_iff_eq]; exact hx
        have e3 : ¬ x < a.t := by omega
        rw [List.filter_cons, List.filter_cons, List.filter_cons, e2]
        simp only [ha, e3, decide_false, Bool.false_eq_true, if_false, if_true, f1, List.nil_append, List.cons_append]
        rw [← ih]
      · have e2 : (a.t == x) = false := by rw [beq_eq_false_iff_ne]; exact hx
        have e3 : x < a.t := by omega
        have f2 : l.filter (fun e => e.t == x) = [] := by
          rw [List.filter_eq_nil_iff]
          intro b hb
          have := h1 b hb
          simp; omega
        rw [f2, List.nil_append] at ih
        rw [List.filter_cons, List.filter_cons, List.filter_cons, e2]
        simp only [ha, e3, decide_false, decide_true, Bool.false_eq_true, if_false, if_true, f1, f2, List.nil_append]
        rw [← ih]
/-- how many events happen ahead of a sample -/
def dAt (es : List Ev6) (i : Nat) : Nat := (es.filter fun e => decide (e.t < (i : Int))).length
theorem evAt_ord (es : List Ev6) (i : Nat) : evAt (ordE es) i = evAt es i := ordE_filter es i
theorem dAt_succ (es : List Ev6) (i : Nat) : dAt es (i + 1) = dAt es i + (evAt es i).length := by
  unfold dAt evAt
  induction es with
  | nil => rfl
  | cons a l ih =>
    rw [List.filter_cons, List.filter_cons, List.filter_cons]
    by_cases h1 : a.t < (i : Int)
    · have e2 : (a.t == (i : Int)) = false := by rw [beq_eq_false_iff_ne]; omega
      have e3 : a.t < ((i + 1 : Nat) : Int) := by omega
      simp only [h1, e2, e3, decide_true, if_true, Bool.false_eq_true, if_false, List.length_cons]
      omega
    · by_cases h2 : a.t = (i : Int)
      · have e2 : (a.t == (i : Int)) = true := by rw [beq_iff_eq]; exact h2
        have e3 : a.t < ((i + 1 : Nat) : Int) := by omega
        simp only [h1, e2, e3, decide_true, decide_false, if_true, Bool.false_eq_true, if_false, List.length_cons]
        omega
      · have e2 : (a.t == (i : Int)) = false := by rw [beq_eq_false_iff_ne]; exact h2
        have e3 : ¬ a.t < ((i + 1 : Nat) : Int) := by omega
        simp only [h1, e2, e3, decide_false, Bool.false_eq_true, if_false]
        omega
theorem dAt_zero (es : List Ev6) (h : ∀ e ∈ es, 0 ≤ e.t) : dAt es 0 = 0 := by
  unfold dAt
  rw [List.length_eq_zero_iff, List.filter_eq_nil_iff]
  intro e he
  have := h e he
  simp; omega
theorem get_mid {l A B C : List Ev6} (h : l = A ++ (B ++ C)) (k : Nat) : l[A.length + k]? = (B ++ C)[k]? := by
  rw [h, List.getElem?_append_right (by omega), Nat.add_sub_cancel_left]
theorem ord_now (es : List Ev6) (i k : Nat) (hk : k < (evAt es i).length) : (ordE es)[dAt (ordE es) i + k]? = (evAt es i)[k]? := by
  have h := split_t (i : Int) (ordE es) (ord_pair es)
  rw [show (ordE es).filter (fun e => e.t == (i : Int)) = evAt es i from ordE_filter es (i : Int)] at h
  exact (get_mid h k).trans (List.getElem?_append_left hk)
theorem ord_late (es : List Ev6) (i : Nat) (e : Ev6) (h : (ordE es)[dAt (ordE es) i + (evAt es i).length]? = some e) : e.t ≠ (i : Int) := by
  have hs := split_t (i : Int) (ordE es) (ord_pair es)
  rw [show (ordE es).filter (fun e => e.t == (i : Int)) = evAt es i from ordE_filter es (i : Int)] at hs
  have h2 := (get_mid hs (evAt es i).length).symm.trans h
  rw [List.getElem?_append_right (Nat.le_refl _), Nat.sub_self] at h2
  have h3 := (List.mem_filter.1 (List.mem_of_getElem? h2)).2
  simp at h3
  omega
theorem ord_mem (es : List Ev6) (L nb : Nat) (h : ∀ e ∈ es, e.ok L nb) (e : Ev6) (he : e ∈ ordE es) : e.ok L nb := by
  have : e ∈ (ordE es).filter (fun x => x.t == e.t) := List.mem_filter.2 ⟨he, by simp⟩
  rw [ordE_filter] at this
  exact h e (List.mem_filter.1 this).1
theorem dAt_le (es : List Ev6) (i : Nat) : dAt es i ≤ es.length := List.length_filter_le _ _

/-! ### what stays -/
theorem Kp.nwk {c : Nat} {a w w' : World} (h : Kp c a w) (k : Nw w w') : Kp c a w' := ⟨k.os.trans h.os, k.tape.trans h.tape, k.output.trans h.output, Nat.le_trans h.size k.size, fun i hi hne => (k.block i (Nat.lt_of_lt_of_le hi h.size) (by simp)).trans (h.block i hi hne)⟩
theorem Kp.grown {c : Nat} {a w w' : World} {row : Option Nat} (h : Kp c a w) (hg : w.grownBy w' row) (hr : ∀ g, row = some g → a.heap.size ≤ g) : Kp c a w' :=
  ⟨hg.os.trans h.os, hg.tape.trans h.tape, hg.output.trans h.output, Nat.le_trans h.size hg.size, fun i hi hne => (hg.block i (Nat.lt_of_lt_of_le hi h.size) (fun e => by have := hr i e.symm; omega)).trans (h.block i hi hne)⟩

/-! ### parts -/
theorem pairs_of {zs : List (Prt × Loc)} (h : ∀ (i j : Nat) x y, i ≠ j → zs[i]? = some x → zs[j]? = some y → PApt x y) : zs.Pairwise fun x y => PApt x y ∧ PApt y x := by
  rw [List.pairwise_iff_getElem]
  intro i j hi hj hij
  exact ⟨h i j _ _ (by omega) (List.getElem?_eq_getElem hi) (List.getElem?_eq_getElem hj), h j i _ _ (by omega) (List.getElem?_eq_getElem hj) (List.getElem?_eq_getElem hi)⟩
theorem of_pairs {zs : List (Prt × Loc)} (h : zs.Pairwise fun x y => PApt x y ∧ PApt y x) : ∀ (i j : Nat) x y, i ≠ j → zs[i]? = some x → zs[j]? = some y → PApt x y := by
  rw [List.pairwise_iff_getElem] at h
  intro i j x y hij hx hy
  obtain ⟨hi, rfl⟩ := List.getElem?_eq_some_iff.1 hx
  obtain ⟨hj, rfl⟩ := List.getElem?_eq_some_iff.1 hy
  by_cases hlt : i < j
  · exact (h i j hi hj hlt).1
  · exact (h j i hj hi (by omega)).2
theorem cellsP_drop1 (zs : List (Prt × Loc)) : (cellsP zs).drop 5 = cellsP (zs.drop 1) := by
  cases zs with
  | nil => rfl
  | cons z l => simp [cellsP, cellP]
/-- the first voice is gone -/
theorem PartsR.drop1 {w w' : World} {base g n cap : Nat} {zs : List (Prt × Loc)} (h : PartsR w base (.slice (some ⟨g, 0, none⟩) n cap) zs) (hn : n = zs.length)
    (ho : w'.ownsRow base 84 5 (.slice (some ⟨g, 0, none⟩) (n - 1) cap) (n - 1) ((cellsP zs).drop 5)) (hg : w.grownBy w' (some g)) : PartsR w' base (.slice (some ⟨g, 0, none⟩) (n - 1) cap) (zs.drop 1) := by
  refine ⟨by rw [List.length_drop, ← hn, ← cellsP_drop1]; exact ho, fun z hz => (h.ins z (List.mem_of_mem_drop hz)).grown h.row hg, ?_⟩
  exact of_pairs ((pairs_of h.apt).drop (i := 1))
/-- the voices of a body are gone -/
theorem PartsR.keep {w w' : World} {base g n m cap : Nat} {b : Int} {zs : List (Prt × Loc)} (h : PartsR w base (.slice (some ⟨g, 0, none⟩) n cap) zs) (hm : m = (keepB b zs).length)
    (ho : w'.ownsRow base 84 5 (.slice (some ⟨g, 0, none⟩) m cap) m (cellsP (keepB b zs))) (hg : w.grownBy w' (some g)) : PartsR w' base (.slice (some ⟨g, 0, none⟩) m cap) (keepB b zs) := by
  refine ⟨by rw [← hm]; exact ho, fun z hz => (h.ins z (List.mem_filter.1 hz).1).grown h.row hg, ?_⟩
  exact of_pairs ((pairs_of h.apt).filter _)
/-- a voice is damped -/
theorem PartsR.damp {w w' : World} {base k t : Nat} {pv : Value} {zs : List (Prt × Loc)} {p : Prt} {l : Loc} (h : PartsR w base pv zs) (hk : zs[k]? = some (p, l))
    (hm : w'.ownsRow base 93 2 l.vm p.ms.length (cellsM (p.ms.map (dampM t)))) (hg : w.grownBy w' l.vm.ownBlock) : PartsR w' base pv (zs.set k (p.damp t, l)) := by
  have hz := h.ins _ (List.mem_of_getElem? hk)
  have hkl := (List.getElem?_eq_some_iff.1 hk).1
  have e : cellsP (zs.set k (p.damp t, l)) = cellsP zs := by
    have := cellsP_set zs k (p, l) (p.damp t, l) hk rfl (by simp [Prt.damp]) rfl rfl rfl
    rw [← this]
    apply List.ext_getElem?
    intro j
    by_cases hj : k * 5 + 3 = j
    · subst hj
      rw [List.getElem?_set_self (by rw [cellsP_len]; omega), cellsP_get zs k 3 (p, l) hk (by decide)]
      rfl
    · rw [List.getElem?_set_ne hj]
  refine ⟨by rw [List.length_set, e]; exact h.row.kept hg (rows_apart h.row hz.ms (by decide)), fun z hzm => ?_, fun i j x y hij hx hy => ?_⟩
  · obtain ⟨j, hj⟩ := List.getElem?_of_mem hzm
    by_cases hjk : j = k
    · subst hjk
      rw [List.getElem?_set_self hkl] at hj
      cases hj
      exact ⟨by simpa [Prt.damp] using hm, by simpa [Prt.damp] using hz.st.kept hg (rows_apart hz.st hz.ms (by decide)), hz.xs.grown hz.ms (by decide) hg⟩
    · rw [List.getElem?_set_ne (by omega)] at hj
      have hy := h.ins z (List.mem_of_getElem? hj)
      have ha := h.apt j k z (p, l) (by omega) hj hk
      exact ⟨hy.ms.kept hg ha.2, hy.st.kept hg (rows_apart hy.st hz.ms (by decide)), hy.xs.grown hz.ms (by decide) hg⟩
  · have ap : ∀ (i : Nat) x, (zs.set k (p.damp t, l))[i]? = some x → ∃ x0, zs[i]? = some x0 ∧ x0.2 = x.2 := by
      intro i x hx
      by_cases hik : i = k
      · subst hik
        rw [List.getElem?_set_self hkl] at hx
        cases hx
        exact ⟨_, hk, rfl⟩
      · rw [List.getElem?_set_ne (by omega)] at hx
        exact ⟨x, hx, rfl⟩
    obtain ⟨x0, a1, a2⟩ := ap i x hx
    obtain ⟨y0, b1, b2⟩ := ap j y hy
    have := h.apt i j x0 y0 hij a1 b1
    unfold PApt at this ⊢
    rw [← a2, ← b2]
    exact this
theorem PartsR.shapes {w : World} {base : Nat} {pv : Value} {zs : List (Prt × Loc)} (h : PartsR w base pv zs) : ∀ z ∈ zs, (∃ a n c, z.2.vm = .slice a n c) ∧ ∃ a n c, z.2.vi = .slice a n c := by
  intro z hz
  have hi := h.ins z hz
  obtain ⟨a, c, e⟩ := own_shape' hi.ms
  obtain ⟨g, off, cap, cur, e2, -⟩ := hi.xs
  exact ⟨⟨_, _, _, e⟩, _, _, _, e2⟩
theorem cellsP_one (zs : List (Prt × Loc)) (h : ∀ z ∈ zs, (∃ a n c, z.2.vm = .slice a n c) ∧ ∃ a n c, z.2.vi = .slice a n c) : ∀ u ∈ cellsP zs, u.oneCell' = true := by
  induction zs with
  | nil => intro u hu; simp [cellsP] at hu
  | cons z l ih =>
    intro u hu
    rw [cellsP, List.mem_append] at hu
    rcases hu with hu | hu
    · obtain ⟨⟨a, n, c, e⟩, a', n', c', e'⟩ := h z List.mem_cons_self
      exact cellP_one z (by rw [e]; rfl) (by rw [e']; rfl) u hu
    · exact ih (fun z hz => h z (List.mem_cons_of_mem _ hz)) u hu

/-! ### rows of samples beside the player -/
def Fr (zs zs' : List (Prt × Loc)) (w w' : World) : Prop :=
  w.heap.size ≤ w'.heap.size ∧ (∀ b v n xs, w.ownsRow b 23 1 v n xs → w'.ownsRow b 23 1 v n xs) ∧ ∀ g, g < w.heap.size → (∀ z ∈ zs, z.2.vi.ownBlock ≠ some g) → ∀ z ∈ zs', z.2.vi.ownBlock ≠ some g
theorem Fr.trans {a b c : List (Prt × Loc)} {w w1 w2 : World} (h : Fr a b w w1) (k : Fr b c w1 w2) : Fr a c w w2 :=
  ⟨Nat.le_trans h.1 k.1, fun b v n xs ho => k.2.1 b v n xs (h.2.1 b v n xs ho), fun g hg h0 => k.2.2 g (Nat.lt_of_lt_of_le hg h.1) (h.2.2 g hg h0)⟩
theorem Fr.nw {zs : List (Prt × Loc)} {w w' : World} (k : Nw w w') : Fr zs zs w w' := ⟨k.size, fun _ _ _ _ ho => own_nw ho k, fun _ _ h0 => h0⟩
theorem Fr.refl (zs : List (Prt × Loc)) (w : World) : Fr zs zs w w := Fr.nw (Nw.refl w)
theorem Fr.put {zs : List (Prt × Loc)} {w : World} {q : Nat} (hp : PlX w q) (o : Nat) (u : Value) : Fr zs zs w (w.setCell ⟨q, o, none⟩ u) :=
  ⟨Nat.le_of_eq (World.size_setCell _ _ _).symm, fun _ _ _ _ ho => own_setp ho hp (by decide) o u, fun _ _ h0 => h0⟩
theorem Fr.grown {zs zs' : List (Prt × Loc)} {w w' : World} {b2 size n : Nat} {E : TypeId} {u : Value} {us : List Value} (hr : w.ownsRow b2 E size u n us) (hE : 23 ≠ E) (hg : w.grownBy w' u.ownBlock) (hz : ∀ z ∈ zs', ∃ z0 ∈ zs, z0.2.vi = z.2.vi) : Fr zs zs' w w' :=
  ⟨hg.size, fun _ _ _ _ ho => ho.kept hg (rows_apart ho hr hE), fun g _ h0 z hz' => by obtain ⟨z0, a, b⟩ := hz z hz'; rw [← b]; exact h0 z0 a⟩
theorem Fr.snoc {zs : List (Prt × Loc)} {z : Prt × Loc} {wc w w' : World} {b2 size n : Nat} {E : TypeId} {u : Value} {us : List Value} (k : Nw wc w) (hr : w.ownsRow b2 E size u n us) (hE : 23 ≠ E) (hg : w.grownBy w' u.ownBlock) (hz : ∀ g, z.2.vi.ownBlock = some g → wc.heap.size ≤ g) : Fr zs (zs ++ [z]) wc w' :=
  ⟨Nat.le_trans k.size hg.size, fun _ _ _ _ ho => (own_nw ho k).kept hg (rows_apart (own_nw ho k) hr hE), fun g hlt h0 z' hz' => by
    rcases List.mem_append.1 hz' with h1 | h1
    · exact h0 z' h1
    · rw [List.mem_singleton] at h1
      subst h1
      intro e
      have := hz g e
      omega⟩

/-! ### the player's state -/
structure PlF (w0 W1 : World) (q bS L V C R : Nat) (bs : List (List M4)) (es : List Ev6) (sv ev eo : Value) : Prop where
  sco : ScoV w0 bS L V C R bs es sv ev
  n01 : Nw w0 W1
  hq : w0.heap.size ≤ q
  hq1 : q < W1.heap.size
  plx : PlX W1 q
  evs : W1.ownsRow w0.heap.size 68 6 eo (ordE es).length (cellsE (ordE es))
structure PlS (W1 : World) (q L V C R : Nat) (sv ev eo : Value) (i d b : Nat) (pv : Value) (env : Nat) (zs : List (Prt × Loc)) (w : World) : Prop where
  kp : Kp q W1 w
  box : HasC w q (plC L V C R sv ev eo (i : Int) (d : Int) (b : Int) pv env)
  par : PartsR w W1.heap.size pv zs
  plx : PlX w q
section
variable {w0 W1 : World} {q bS L V C R : Nat} {bs : List (List M4)} {es : List Ev6} {sv ev eo : Value}
theorem PlF.nw (h : PlF w0 W1 q bS L V C R bs es sv ev eo) {w : World} (k : Kp q W1 w) : Nw w0 w := h.n01.kp k h.hq
theorem PlF.sc (h : PlF w0 W1 q bS L V C R bs es sv ev eo) {w : World} (k : Kp q W1 w) : ScoV w bS L V C R bs es sv ev := h.sco.nw (h.nw k)
theorem PlF.evr (h : PlF w0 W1 q bS L V C R bs es sv ev eo) {w : World} (k : Kp q W1 w) : w.ownsRow w0.heap.size 68 6 eo (ordE es).length (cellsE (ordE es)) :=
  h.evs.kept k (own_plx h.evs h.plx (by decide))
variable {i d b env : Nat} {pv : Value} {zs : List (Prt × Loc)} {w : World}
theorem PlS.nw (h : PlS W1 q L V C R sv ev eo i d b pv env zs w) {w' : World} (k : Nw w w') : PlS W1 q L V C R sv ev eo i d b pv env zs w' := ⟨h.kp.nwk k, h.box.nw k, h.par.nw k, h.plx.nw k⟩
theorem PlS.put (hF : PlF w0 W1 q bS L V C R bs es sv ev eo) (h : PlS W1 q L V C R sv ev eo i d b pv env zs w) (o : Nat) (u : Value) {i' d' b' env' : Nat}
    (e : (plC L V C R sv ev eo (i : Int) (d : Int) (b : Int) pv env).set o u = plC L V C R sv ev eo (i' : Int) (d' : Int) (b' : Int) pv env') : PlS W1 q L V C R sv ev eo i' d' b' pv env' zs (w.setCell ⟨q, o, none⟩ u) :=
  ⟨h.kp.set o u, by rw [← e]; exact h.box.set o u, h.par.set hF.hq1 u, h.plx.set q o u⟩
theorem PlS.puti (hF : PlF w0 W1 q bS L V C R bs es sv ev eo) (h : PlS W1 q L V C R sv ev eo i d b pv env zs w) : PlS W1 q L V C R sv ev eo (i + 1) d b pv env zs (w.setCell ⟨q, 7, none⟩ (.int .i64 ((i : Int) + 1))) :=
  h.put hF 7 _ (by rw [show ((i + 1 : Nat) : Int) = (i : Int) + 1 from by omega]; rfl)
theorem PlS.putd (hF : PlF w0 W1 q bS L V C R bs es sv ev eo) (h : PlS W1 q L V C R sv ev eo i d b pv env zs w) : PlS W1 q L V C R sv ev eo i (d + 1) b pv env zs (w.setCell ⟨q, 8, none⟩ (.int .i64 ((d : Int) + 1))) :=
  h.put hF 8 _ (by rw [show ((d + 1 : Nat) : Int) = (d : Int) + 1 from by omega]; rfl)
theorem PlS.putb (hF : PlF w0 W1 q bS L V C R bs es sv ev eo) (h : PlS W1 q L V C R sv ev eo i d b pv env zs w) : PlS W1 q L V C R sv ev eo i d (b + 1) pv env zs (w.setCell ⟨q, 9, none⟩ (.int .i64 ((b : Int) + 1))) :=
  h.put hF 9 _ (by rw [show ((b + 1 : Nat) : Int) = (b : Int) + 1 from by omega]; rfl)
theorem PlS.pute (hF : PlF w0 W1 q bS L V C R bs es sv ev eo) (h : PlS W1 q L V C R sv ev eo i d b pv env zs w) (x : Nat) : PlS W1 q L V C R sv ev eo i d b pv x zs (w.setCell ⟨q, 11, none⟩ (.float .f32 x)) :=
  h.put hF 11 _ rfl
/-- the voices are others -/
theorem PlS.parts (hF : PlF w0 W1 q bS L V C R bs es sv ev eo) (h : PlS W1 q L V C R sv ev eo i d b pv env zs w) {w' : World} {row : Option Nat} {pv' : Value} {zs' : List (Prt × Loc)} (hg : w.grownBy w' row) (hr : ∀ g, row = some g → W1.heap.size ≤ g)
    (hp : PartsR w' W1.heap.size pv' zs') : HasC w' q (plC L V C R sv ev eo (i : Int) (d : Int) (b : Int) pv env) ∧ PlS W1 q L V C R sv ev eo i d b pv' env zs' (w'.setCell ⟨q, 10, none⟩ pv') ∧ PlX w' q := by
  have hb := h.box.grown hg (fun e => by have := hr q e; have := hF.hq1; omega)
  have hx := h.plx.of (hg.block q h.box.1 (fun e => by have := hr q e.symm; have := hF.hq1; omega))
  exact ⟨hb, ⟨(h.kp.grown hg hr).set 10 pv', hb.set 10 pv', hp.set hF.hq1 pv', hx.set q 10 pv'⟩, hx⟩
/-- what the voices name is other -/
theorem PlS.inside (hF : PlF w0 W1 q bS L V C R bs es sv ev eo) (h : PlS W1 q L V C R sv ev eo i d b pv env zs w) {w' : World} {row : Option Nat} {zs' : List (Prt × Loc)} (hg : w.grownBy w' row) (hr : ∀ g, row = some g → W1.heap.size ≤ g)
    (hp : PartsR w' W1.heap.size pv zs') : PlS W1 q L V C R sv ev eo i d b pv env zs' w' := by
  have hb := h.box.grown hg (fun e => by have := hr q e; have := hF.hq1; omega)
  exact ⟨h.kp.grown hg hr, hb, hp, h.plx.of (hg.block q h.box.1 (fun e => by have := hr q e.symm; have := hF.hq1; omega))⟩
end

/-! ### modes damped in place -/
def DampK (ms : List M4) (t n base : Nat) (v : Value) (w : World) (i : Value) (wr : World) : Prop :=
  ∃ k : Nat, k ≤ n ∧ i = .int .i64 (k : Int) ∧ wr.ownsRow base 93 2 v n (cellsM (dampL ms t k)) ∧ w.grownBy wr v.ownBlock
set_option maxRecDepth 100000 in
theorem dampK_ok (ms : List M4) (hms : ∀ m ∈ ms, m.ok) (n t base : Nat) (v : Value) (hn : ms.length = n) (ht : Sm t) (h0 : 0 ≤ S t) (h1 : S t ≤ 1) (w : World)
    (hm : w.ownsRow base 93 2 v n (cellsM ms)) :
    Calls Tryz.prog 92 #[v, .float .f32 t] w fun e w' =>
      e = .returned (.tuple #[]) ∧ w'.ownsRow base 93 2 v n (cellsM (ms.map (dampM t))) ∧ w.grownBy w' v.ownBlock := by
  obtain ⟨va, vc, rfl⟩ := own_shape' hm
  have O3 := Lib.hid hm
  have Hms := Lib.hid hms
  have Hn := Lib.hid hn
  have Ht := Lib.hid (And.intro ht (And.intro h0 h1))
  clear hm hms hn ht h0 h1
  go_enter Tryz.func92, Tryz.ntmps92
  go_wp2_with fail
  go_loopw [8] (fun i wr => DampK ms t n base (.slice va n vc) w i wr) (fun i _ => n - (intOf i).toNat)
  case atStart => exact ⟨0, by omega, rfl, by rw [dampL_zero]; exact O3.out, World.grownBy.refl _ _⟩
  case round =>
    obtain ⟨k, hk, rfl, own, hN⟩ := hrel
    have Ow := Lib.hid own
    have Nr := Lib.hid hN
    clear own hN
    by_cases hlt : k < n
    · obtain ⟨m, hmk⟩ : ∃ m, ms[k]? = some m := ⟨ms[k]'(by rw [Hn.out]; exact hlt), List.getElem?_eq_getElem _⟩
      obtain ⟨g, cap, hv, hcap, hmax, hgs, e1, e2⟩ := own_mode Ow.out (dampL_at ms t k m hmk) (by rw [dampL_len, Hn.out])
      cases hv
      have Hmk := Lib.hid hmk
      have Hmo := Lib.hid (Hms.out m (List.mem_of_getElem? hmk))
      unfold maxLen at hmax
      clear hmk
      have K1 := Lib.hid (HasMode.new wr 93 m.pr m.pi m.gr m.gi)
      have K2 := Lib.hid (Ow.out.alloc (.cells #[.complex .f32 m.pr m.pi, .complex .f32 m.gr m.gi] 93 (0, 0)))
      have K5 := Lib.hid (Nr.out.trans' (World.grownBy_alloc wr (.cells #[.complex .f32 m.pr m.pi, .complex .f32 m.gr m.gi] 93 (0, 0)) _))
      go_wp2_with fail
      obtain ⟨w4, hw4⟩ : ∃ w4, w4 = wr.alloc (.cells #[.complex .f32 m.pr m.pi, .complex .f32 m.gr m.gi] 93 (0, 0)) := ⟨_, rfl⟩
      rw [← hw4] at K1 K2 K5
      rw [← hw4]
      clear hw4 e1 e2
      obtain ⟨l0, l1, l2, l3, l4⟩ := K1.out
      obtain ⟨s1, s2, s3, s4⟩ := Hmo.out.nums
      obtain ⟨p1, p2⟩ := Hmo.out.pole
      have D1' := Lib.hid (damp_part m.pr t s1 Ht.out.1 Ht.out.2.1 Ht.out.2.2 (by have := ra_le p1; grind))
      have D2' := Lib.hid (damp_part m.pi t s2 Ht.out.1 Ht.out.2.1 Ht.out.2.2 (by have := ra_le p2; grind))
      refine (implScale_ok _ _ _ _ D1'.out.1 D2'.out.1).mono ?_
      rintro e w5 ⟨rfl, rfl⟩
      have hs4 := (K2.out.lt _ rfl)
      clear l0 l1 l2 l3 l4
      have e3 := K2.out.cellAt (k * 2) (by omega)
      have hc := (cellsM_at _ k m (dampL_at ms t k m Hmk.out)).1
      rw [Nat.mul_comm] at hc
      rw [hc] at e3
      have e4 := K2.out.frozenAt (k * 2)
      have hset := K2.out.stored (k * 2) (.complex .f32 (dampM t m).pr (dampM t m).pi)
      rw [cellsM_set (dampL ms t k) k m (dampM t m) (dampL_at ms t k m Hmk.out) ⟨rfl, rfl⟩, dampL_set ms t k m Hmk.out] at hset
      have hfin : DampK ms t n base (.slice (some ⟨g, 0, none⟩) n vc) w (.int .i64 ((k : Int) + 1)) (w4.setCell ⟨g, k * 2, none⟩ (.complex .f32 (opB .mul .f32 m.pr t) (opB .mul .f32 m.pi t))) :=
        ⟨k + 1, by omega, by rw [show ((k + 1 : Nat) : Int) = (k : Int) + 1 from by omega], hset.1, K5.out.trans' hset.2⟩
      have Hfin := Lib.hid hfin
      clear hfin hset hc
      go_wp2_with fail
      go_roundw
      case rel => exact Hfin.out
      case measure => simp only [intOf]; omega
    · obtain rfl : k = n := by omega
      go_wp2_with fail
      go_end0
      exact ⟨rfl, by rw [← dampL_full ms t k Hn.out]; exact Ow.out, Nr.out⟩
end Go.Proofs.YtiakcibeobbonaaGreat

/- An event of a score happens: a strike (take).
   Conditions: those that each statement names. -/
namespace Go.Proofs.YtiakcibeobbonaaGreat
set_option linter.unusedSimpArgs false
set_option linter.unusedVariables false
open Go Go.RowKit

theorem info_part3 : (Tryz.prog.info? 84).map (fun i => (i.zero, i.size, i.bytes)) = some (some (.agg #[.int .i64 0, .slice none 0 0, .slice none 0 0, .slice none 0 0, .int .i64 0]), 5, 88) := by kernel_rfl
theorem cellsP_snoc (zs : List (Prt × Loc)) (z : Prt × Loc) : cellsP (zs ++ [z]) = cellsP zs ++ cellP z := by rw [cellsP_append]; simp [cellsP]
/-- an event has happened -/
def TakeP (W1 : World) (q L V C R : Nat) (sv ev eo : Value) (i d b env : Nat) (zs : List (Prt × Loc)) (w : World) (ps : List Prt) (e : Ending) (w' : World) : Prop :=
  e = .returned (.tuple #[]) ∧ ∃ b' pv' zs', b ≤ b' ∧ b' ≤ b + 1 ∧ zs'.map Prod.fst = ps ∧ PlS W1 q L V C R sv ev eo i d b' pv' env zs' w' ∧ Fr zs zs' w w'
theorem strike_eq {bs : List (List M4)} {V p s m f : Nat} {t : Int} {ms : List M4} {zs zs' : List (Prt × Loc)} {l : Loc} (hp : bs[p]? = some ms) (hz : zs' = (if zs.length = V then zs.drop 1 else zs)) :
    (zs' ++ [((⟨(p : Int), ms, List.replicate ms.length (0, 0), (shapeL s m).map fun x => opB .mul .f32 x f⟩ : Prt), l)]).map Prod.fst = takeE bs V (zs.map Prod.fst) ⟨t, 1, (p : Int), (s : Int), (m : Int), f⟩ := by
  have e : strikeP bs ⟨t, 1, (p : Int), (s : Int), (m : Int), f⟩ = ⟨(p : Int), ms, List.replicate ms.length (0, 0), (shapeL s m).map fun x => opB .mul .f32 x f⟩ := by
    simp [strikeP, List.getD_eq_getElem?_getD, hp]
  unfold takeE
  rw [if_pos rfl, e, List.map_append, hz, List.length_map]
  split <;> simp
/-- append of one part -/
theorem step_append_part {ops : Array Oper} {o : Oper} {a : Act} {w : World} {K : Act → World → Prop} {Q : Exit → Act → World → Prop} {E : Prop} (hg : o.guard = none) (s x : Operand)
    (hop : o.op = Op.call { callee := Callee.builtin Builtin.append, args := #[s, x], argTypes := #[78, 78] }) (base n h : Nat) (v : Value) (z : Prt × Loc) (zs : List (Prt × Loc)) (hs : a.eval s = v) (hx : a.eval x = .slice (some ⟨h, 0, none⟩) 1 1)
    (hv : w.ownsRow base 84 5 v n (cellsP zs)) (hc : ∀ (j : Nat) u, (cellP z)[j]? = some u → w.cell? ⟨h, j, none⟩ = some u) (h1 : z.2.vm.oneCell' = true) (h2 : z.2.vi.oneCell' = true) (hn : n ≤ 1048576) (hb : base ≤ w.heap.size)
    (hK : ∀ v' w', w'.ownsRow base 84 5 v' (n + 1) (cellsP (zs ++ [z])) → w.grownBy w' v.ownBlock → K (a.put o.dst v') w') :
    if Region.wanted o (yielded ops a.tmps) = true then Oper.wp Tryz.prog o a w K Q else E := by
  have hw : Region.wanted o (yielded ops a.tmps) = true := by simp [Region.wanted, hg]
  rw [if_pos hw]
  obtain ⟨j0, hj, hy0, hy1, hy2⟩ := info_parts info_part3
  refine wp_append_own w s x 78 hop base 84 j0 (.agg #[.int .i64 0, .slice none 0 0, .slice none 0 0, .slice none 0 0, .int .i64 0]) 5 88 Tryz.underlying78 hj hy0 hy1 hy2 rfl (by decide) v n (cellsP zs) hs hv ⟨h, 0, none⟩ 1 1 (cellP z) hx (by simp [cellP]) ?_ ?_ (by unfold maxLen; omega) (by omega) hb ?_
  · intro j u hj
    rw [show (⟨h, 0, none⟩ : Addr).add j = ⟨h, j, none⟩ from by simp [Addr.add]; first | done | (intro e; omega)]
    exact hc j u hj
  · exact cellP_one z h1 h2
  · intro v' w' h1 h2 _
    exact hK v' w' (by rw [cellsP_snoc]; exact h1) h2

def CutS (W1 : World) (q L V C R : Nat) (sv ev eo : Value) (i d b env : Nat) (zs : List (Prt × Loc)) (w : World) (es : List Value) (wx : World) : Prop :=
  ∃ pv zs', zs' = (if zs.length = V then zs.drop 1 else zs) ∧ PlS W1 q L V C R sv ev eo i d b pv env zs' wx ∧ HasC wx w.heap.size es ∧ (∀ g, pv.ownBlock = some g → g < w.heap.size) ∧ w.heap.size ≤ wx.heap.size ∧ Fr zs zs' w wx
set_option maxHeartbeats 6400000 in
set_option maxRecDepth 100000 in
theorem takeStrike_ok {w0 W1 : World} {q bS L V C R : Nat} {bs : List (List M4)} {es : List Ev6} {sv ev eo : Value} {i d b env : Nat} {pv : Value} {zs : List (Prt × Loc)} {w : World} (hF : PlF w0 W1 q bS L V C R bs es sv ev eo) (h : PlS W1 q L V C R sv ev eo i d b pv env zs w)
    (t : Int) (p s m f : Nat) (ms : List M4) (hp : bs[p]? = some ms) (hs : s ≤ 2) (hm1 : 1 ≤ m) (hm : m ≤ 9) (hf : ∀ x ∈ shapeL s m, Calm .mul .f32 x f) (hb : b ≤ 1000) (hz : zs.length ≤ V) (hV1 : 1 ≤ V) (hV : V ≤ 4) :
    Calls Tryz.prog 60 #[.pointer (some ⟨q, 0, none⟩), .agg #[.int .i64 t, .int .i64 1, .int .i64 (p : Int), .int .i64 (s : Int), .int .i64 (m : Int), .float .f32 f]] w
      (TakeP W1 q L V C R sv ev eo i d b env zs w (takeE bs V (zs.map Prod.fst) ⟨t, 1, (p : Int), (s : Int), (m : Int), f⟩)) := by
  have Hpb := Lib.hid (fun g hg => (h.par.row.lt g hg).2)
  have hqw := h.box.1
  have Hf := Lib.hid hf
  clear hf
  obtain ⟨pa, pc, rfl⟩ := own_shape' h.par.row
  obtain ⟨zn, hzn⟩ : ∃ zn, zn = zs.length := ⟨_, rfl⟩
  rw [← hzn] at h hz Hpb
  have H0 := Lib.hid (h.nw ((Nw.refl w).alloc (.cells #[.int .i64 t, .int .i64 1, .int .i64 (p : Int), .int .i64 (s : Int), .int .i64 (m : Int), .float .f32 f] 68 (0, 0))))
  have E0 := Lib.hid (HasC.new w 68 (.int .i64 t) (.int .i64 1) (.int .i64 (p : Int)) (.int .i64 (s : Int)) (.int .i64 (m : Int)) (.float .f32 f))
  have Hzn := Lib.hid hzn
  have F0 := Lib.hid (Fr.nw (zs := zs) ((Nw.refl w).alloc (.cells #[.int .i64 t, .int .i64 1, .int .i64 (p : Int), .int .i64 (s : Int), .int .i64 (m : Int), .float .f32 f] 68 (0, 0))))
  have hsz : w.heap.size ≤ (w.alloc (.cells #[.int .i64 t, .int .i64 1, .int .i64 (p : Int), .int .i64 (s : Int), .int .i64 (m : Int), .float .f32 f] 68 (0, 0))).heap.size := by simp
  clear h hzn
  have c10 := (H0.out.box.2 10 _ rfl).1
  have f10 := (H0.out.box.2 10 _ rfl).2
  have c1 := (H0.out.box.2 1 _ rfl).1
  have hqs := H0.out.box.1
  go_enter Tryz.func60, Tryz.ntmps60
  go_wp2_with fail
  go_quiet (fail)
  obtain ⟨wd, hwd⟩ : ∃ wd, wd = (w.alloc (.cells #[.int .i64 t, .int .i64 1, .int .i64 (p : Int), .int .i64 (s : Int), .int .i64 (m : Int), .float .f32 f] 68 (0, 0))).drewN nq := ⟨_, rfl⟩
  have N1 := (Nw.refl (w.alloc (.cells #[.int .i64 t, .int .i64 1, .int .i64 (p : Int), .int .i64 (s : Int), .int .i64 (m : Int), .float .f32 f] 68 (0, 0)))).draw nq
  rw [← hwd] at N1 ⊢
  have H1 := Lib.hid (H0.out.nw N1)
  have E1 := Lib.hid (E0.out.nw N1)
  have F1 := Lib.hid (F0.out.trans (Fr.nw N1))
  have hsz1 : w.heap.size ≤ wd.heap.size := Nat.le_trans hsz N1.size
  clear hwd N1 H0 E0 F0 hsz c10 f10 c1 hqs
  have c10 := (H1.out.box.2 10 _ rfl).1
  have f10 := (H1.out.box.2 10 _ rfl).2
  have hqs := H1.out.box.1
  go_upto_if 20 with fail
  go_cut [] (fun wx => CutS W1 q L V C R sv ev eo i d b env zs w [.int .i64 t, .int .i64 1, .int .i64 (p : Int), .int .i64 (s : Int), .int .i64 (m : Int), .float .f32 f] wx)
  case first =>
    by_cases hfull : zn = V
    · have hV2 : ((zn : Int) == (V : Int)) = true := by simp [hfull]
      obtain ⟨g, rfl, hpc, hpm⟩ : ∃ g, pa = some ⟨g, 0, none⟩ ∧ zn ≤ pc ∧ pc ≤ maxLen := by
        rcases H1.out.par.row.2 with ⟨h1, h2⟩ | ⟨g, cap, cur, h1, hb, hg, hc, hmx, hs, ht⟩
        · rw [← Hzn.out] at h2; omega
        · cases h1; exact ⟨g, rfl, by rw [Hzn.out]; exact hc, hmx⟩
      have Hful := Lib.hid hfull
      unfold maxLen at hpm
      have hn1 : 1 ≤ zn := by omega
      clear hfull
      go_wp2_with fail
      refine (delete_first W1.heap.size g zn pc (cellsP zs) (cellsP_one zs H1.out.par.shapes) hn1 (by omega) hpc _ (by have o := H1.out.par.row; rw [← Hzn.out] at o; exact o)).mono ?_
      rintro e w1 ⟨rfl, o1, g1⟩
      have hgw := Hpb.out g rfl
      have P1 := Lib.hid (H1.out.par.drop1 Hzn.out o1 g1)
      obtain ⟨b1, h3, x3⟩ := H1.out.parts hF g1 (fun g' hg' => by cases hg'; exact (H1.out.par.row.lt g rfl).1) P1.out
      have H3 := Lib.hid h3
      have F3 := Lib.hid ((F1.out.trans (Fr.grown (zs' := zs.drop 1) H1.out.par.row (by decide) g1 (fun z hz => ⟨z, List.mem_of_mem_drop hz, rfl⟩))).trans (Fr.put x3 10 (.slice (some ⟨g, 0, none⟩) (zn - 1) pc)))
      have E3 := Lib.hid ((E1.out.grown g1 (fun e => by cases e; omega)).sete (p := ⟨q, 10, none⟩) (by show q ≠ w.heap.size; omega) (.slice (some ⟨g, 0, none⟩) (zn - 1) pc))
      have hs3 : w.heap.size ≤ w1.heap.size := Nat.le_trans hsz1 g1.size
      clear h3 x3 o1 g1 c10 f10 hqs
      have c10 := (b1.2 10 _ rfl).1
      have f10 := (b1.2 10 _ rfl).2
      clear b1
      go_wp2_with fail
      go_meet
      exact ⟨_, zs.drop 1, by rw [if_pos (by rw [← Hzn.out]; exact Hful.out)], H3.out, E3.out, fun g' hg' => by cases hg'; exact hgw, by show _ ≤ (World.setCell w1 _ _).heap.size; rw [World.size_setCell]; exact hs3, F3.out⟩
    · have hne : ¬ ((zn : Int) = (V : Int)) := by omega
      go_wp2_with fail
      go_meet
      exact ⟨_, zs, by rw [if_neg (by rw [← Hzn.out]; exact hfull)], H1.out, E1.out, Hpb.out, hsz1, F1.out⟩
  case rest =>
    obtain ⟨pv, zs', hzs', h2, e2, hpb2, hsz2, f2⟩ := hcut
    have F2 := Lib.hid f2
    clear f2
    have Hzs := Lib.hid hzs'
    have hzl : zs'.length ≤ 1000 := by have hz0 := Hzn.out; rw [hzs']; split <;> (try simp) <;> omega
    have Hpb2 := Lib.hid hpb2
    obtain ⟨pa', pc', rfl⟩ := own_shape' h2.par.row
    obtain ⟨zn', hzn'⟩ : ∃ zn', zn' = zs'.length := ⟨_, rfl⟩
    rw [← hzn'] at h2 hpb2 hzl Hpb2
    have H2 := Lib.hid h2
    have E2 := Lib.hid e2
    have Hzn' := Lib.hid hzn'
    clear hzs' h2 e2 hzn' hpb2 H1 E1 hsz1 c10 f10 hqs
    obtain ⟨sg, scap, ma, mc, rfl, -, -, hsg, hsc, hso⟩ := hF.sco.bods.at rfl hp
    have hpl := (List.getElem?_eq_some_iff.1 hp).1
    have hml : ms.length ≤ 4 := (hF.sco.bok ms (List.mem_of_getElem? hp)).1
    have Hlow := Lib.hid (show W1.heap.size ≤ wc.heap.size from H2.out.kp.size)
    have Hlt := Lib.hid (show ∀ x ∈ zs', x.2.g < wc.heap.size ∧ ∀ q, x.2.vm.ownBlock = some q → q < wc.heap.size from fun x hx => ⟨((H2.out.par.ins x hx).st.lt _ rfl).2, fun q hq => ((H2.out.par.ins x hx).ms.lt q hq).2⟩)
    have KeepS := Lib.hid (show ∀ (W' : World) pv', Kp q W1 W' → HasC W' q (plC L V C R (.slice (some ⟨sg, 0, none⟩) bs.length scap) ev eo (i : Int) (d : Int) (b : Int) pv' env) → HasC W' w.heap.size [.int .i64 t, .int .i64 1, .int .i64 (p : Int), .int .i64 (s : Int), .int .i64 (m : Int), .float .f32 f] → (W'.cell? ⟨q, 4, none⟩ = some (.slice (some ⟨sg, 0, none⟩) bs.length scap) ∧ W'.cell? ⟨sg, p, none⟩ = some (.slice ma ms.length mc) ∧ W'.cell? ⟨q, 9, none⟩ = some (.int .i64 (b : Int)) ∧ W'.cell? ⟨w.heap.size, 0, none⟩ = some (.int .i64 t) ∧ W'.cell? ⟨w.heap.size, 1, none⟩ = some (.int .i64 1) ∧ W'.cell? ⟨w.heap.size, 2, none⟩ = some (.int .i64 (p : Int)) ∧ W'.cell? ⟨w.heap.size, 3, none⟩ = some (.int .i64 (s : Int)) ∧ W'.cell? ⟨w.heap.size, 4, none⟩ = some (.int .i64 (m : Int)) ∧ W'.cell? ⟨w.heap.size, 5, none⟩ = some (.float .f32 f)) ∧ W'.ownsRow bS 93 2 (.slice ma ms.length mc) ms.length (cellsM ms) from fun W' pv' kp box HE => by
      obtain ⟨⟨e0, -⟩, ⟨e1, -⟩, ⟨e2, -⟩, ⟨e3, -⟩, ⟨e4, -⟩, e5, -⟩ := six_at HE
      have n := hF.nw kp
      exact ⟨⟨(box.2 4 _ rfl).1, (n.cell (p := ⟨sg, p, none⟩) hsg).trans hsc, (box.2 9 _ rfl).1, e0, e1, e2, e3, e4, e5⟩, own_nw hso n⟩)
    have HF := Lib.hid hF
    clear hsg hsc hso hF
    go_upto_region 5 with fail
    have H4 := Lib.hid (H2.out.nw ((Nw.refl wc).draw 1))
    have E4 := Lib.hid (E2.out.nw ((Nw.refl wc).draw 1))
    have C4 := Lib.hid (show wc.cell? ⟨q, 10, none⟩ = some _ from (H2.out.box.2 10 _ rfl).1)
    clear H2 E2
    refine wp_region_held_drew (S := fun W' => W'.cell? ⟨q, 4, none⟩ = some (.slice (some ⟨sg, 0, none⟩) bs.length scap) ∧ W'.cell? ⟨sg, p, none⟩ = some (.slice ma ms.length mc) ∧ W'.cell? ⟨q, 9, none⟩ = some (.int .i64 (b : Int)) ∧ W'.cell? ⟨w.heap.size, 0, none⟩ = some (.int .i64 t) ∧ W'.cell? ⟨w.heap.size, 1, none⟩ = some (.int .i64 1) ∧ W'.cell? ⟨w.heap.size, 2, none⟩ = some (.int .i64 (p : Int)) ∧ W'.cell? ⟨w.heap.size, 3, none⟩ = some (.int .i64 (s : Int)) ∧ W'.cell? ⟨w.heap.size, 4, none⟩ = some (.int .i64 (m : Int)) ∧ W'.cell? ⟨w.heap.size, 5, none⟩ = some (.float .f32 f)) (by kernel_rfl) (KeepS.out _ _ H4.out.kp H4.out.box E4.out).1 (fun hHeld => ?_)
    refine wpAnyH_take (i := 0) (oi := _) (v := ?_) rfl (by kernel_rfl) (by kernel_rfl) (by kernel_rfl) (fun _ _ _ h => h) (_root_.Or.inl ⟨by rfl, ?_⟩) (by assumption) ?_
    rotate_left
    · intro w hSw
      (try dsimp only at hSw)
      go_simp
      all_goals with_reducible rfl
    try simp only [List.getElem_toArray, List.getElem_cons_succ, List.getElem_cons_zero, Act.put, List.setIfInBounds_toArray, List.set_cons_zero, List.set_cons_succ]
    refine wpAnyH_take (i := 1) (oi := _) (v := ?_) rfl (by kernel_rfl) (by kernel_rfl) (by kernel_rfl) (fun _ _ _ h => h) (_root_.Or.inl ⟨by rfl, ?_⟩) (by assumption) ?_
    rotate_left
    · intro w hSw
      (try dsimp only at hSw)
      go_simp
      all_goals with_reducible rfl
    try simp only [List.getElem_toArray, List.getElem_cons_succ, List.getElem_cons_zero, Act.put, List.setIfInBounds_toArray, List.set_cons_zero, List.set_cons_succ]
    refine wpAnyH_take (i := 2) (oi := _) (v := ?_) rfl (by kernel_rfl) (by kernel_rfl) (by kernel_rfl) (fun _ _ _ h => h) (_root_.Or.inl ⟨by rfl, ?_⟩) (by assumption) ?_
    rotate_left
    · intro w hSw
      (try dsimp only at hSw)
      go_simp
      all_goals with_reducible rfl
    try simp only [List.getElem_toArray, List.getElem_cons_succ, List.getElem_cons_zero, Act.put, List.setIfInBounds_toArray, List.set_cons_zero, List.set_cons_succ]
    refine wpAnyH_take (i := 3) (oi := _) (v := ?_) rfl (by kernel_rfl) (by kernel_rfl) (by kernel_rfl) (fun _ _ _ h => h) (_root_.Or.inl ⟨by rfl, ?_⟩) (by assumption) ?_
    rotate_left
    · intro w hSw
      (try dsimp only at hSw)
      go_simp
      all_goals with_reducible rfl
    try simp only [List.getElem_toArray, List.getElem_cons_succ, List.getElem_cons_zero, Act.put, List.setIfInBounds_toArray, List.set_cons_zero, List.set_cons_succ]
    refine wpAnyH_take (i := 5) (oi := _) (v := ?_) rfl (by kernel_rfl) (by kernel_rfl) (by kernel_rfl) (fun _ _ _ h => h) (_root_.Or.inl ⟨by rfl, ?_⟩) (by assumption) ?_
    rotate_left
    · intro w hSw
      (try dsimp only at hSw)
      go_simp
      all_goals with_reducible rfl
    try simp only [List.getElem_toArray, List.getElem_cons_succ, List.getElem_cons_zero, Act.put, List.setIfInBounds_toArray, List.set_cons_zero, List.set_cons_succ]
    refine wpAnyH_take (i := 6) (oi := _) (v := ?_) rfl (by kernel_rfl) (by kernel_rfl) (by kernel_rfl) (fun _ _ _ h => h) (_root_.Or.inl ⟨by rfl, ?_⟩) (by assumption) ?_
    rotate_left
    · intro w hSw
      (try dsimp only at hSw)
      go_simp
      all_goals with_reducible rfl
    try simp only [List.getElem_toArray, List.getElem_cons_succ, List.getElem_cons_zero, Act.put, List.setIfInBounds_toArray, List.set_cons_zero, List.set_cons_succ]
    refine wpAnyH_take (i := 7) (oi := _) (v := ?_) rfl (by kernel_rfl) (by kernel_rfl) (by kernel_rfl) (fun _ _ _ h => h) (_root_.Or.inl ⟨by rfl, ?_⟩) (by assumption) ?_
    rotate_left
    · intro w hSw
      (try dsimp only at hSw)
      go_simp
      all_goals with_reducible rfl
    try simp only [List.getElem_toArray, List.getElem_cons_succ, List.getElem_cons_zero, Act.put, List.setIfInBounds_toArray, List.set_cons_zero, List.set_cons_succ]
    refine wpAnyH_take (i := 8) (oi := _) (v := ?_) rfl (by kernel_rfl) (by kernel_rfl) (by kernel_rfl) (fun _ _ _ h => h) (_root_.Or.inl ⟨by rfl, ?_⟩) (by assumption) ?_
    rotate_left
    · intro w hSw
      (try dsimp only at hSw)
      go_simp
      all_goals with_reducible rfl
    try simp only [List.getElem_toArray, List.getElem_cons_succ, List.getElem_cons_zero, Act.put, List.setIfInBounds_toArray, List.set_cons_zero, List.set_cons_succ]
    refine wpAnyH_take (i := 9) (oi := _) (v := ?_) rfl (by kernel_rfl) (by kernel_rfl) (by kernel_rfl) (fun _ _ _ h => h) (_root_.Or.inl ⟨by rfl, ?_⟩) (by assumption) ?_
    rotate_left
    · intro w hSw
      (try dsimp only at hSw)
      go_simp
      all_goals with_reducible rfl
    try simp only [List.getElem_toArray, List.getElem_cons_succ, List.getElem_cons_zero, Act.put, List.setIfInBounds_toArray, List.set_cons_zero, List.set_cons_succ]
    refine wpAnyH_take (i := 10) (oi := _) (v := ?_) rfl (by kernel_rfl) (by kernel_rfl) (by kernel_rfl) (fun _ _ _ h => h) (_root_.Or.inl ⟨by rfl, ?_⟩) (by assumption) ?_
    rotate_left
    · intro w hSw
      (try dsimp only at hSw)
      go_simp
      all_goals with_reducible rfl
    try simp only [List.getElem_toArray, List.getElem_cons_succ, List.getElem_cons_zero, Act.put, List.setIfInBounds_toArray, List.set_cons_zero, List.set_cons_succ]
    refine wpAnyH_take (i := 11) (oi := _) (v := ?_) rfl (by kernel_rfl) (by kernel_rfl) (by kernel_rfl) (fun _ _ _ h => h) (_root_.Or.inl ⟨by rfl, ?_⟩) (by assumption) ?_
    rotate_left
    · intro w hSw
      (try dsimp only at hSw)
      go_simp
      all_goals with_reducible rfl
    try simp only [List.getElem_toArray, List.getElem_cons_succ, List.getElem_cons_zero, Act.put, List.setIfInBounds_toArray, List.set_cons_zero, List.set_cons_succ]
    refine wpAnyH_take (i := 12) (oi := _) (v := ?_) rfl (by kernel_rfl) (by kernel_rfl) (by kernel_rfl) (fun _ _ _ h => h) (_root_.Or.inl ⟨by rfl, ?_⟩) (by assumption) ?_
    rotate_left
    · intro w hSw
      (try dsimp only at hSw)
      go_simp
      all_goals with_reducible rfl
    try simp only [List.getElem_toArray, List.getElem_cons_succ, List.getElem_cons_zero, Act.put, List.setIfInBounds_toArray, List.set_cons_zero, List.set_cons_succ]
    refine wpAnyH_take (i := 13) (oi := _) (v := ?_) rfl (by kernel_rfl) (by kernel_rfl) (by kernel_rfl) (fun _ _ _ h => h) (_root_.Or.inl ⟨by rfl, ?_⟩) (by assumption) ?_
    rotate_left
    · intro w hSw
      (try dsimp only at hSw)
      go_simp
      all_goals with_reducible rfl
    try simp only [List.getElem_toArray, List.getElem_cons_succ, List.getElem_cons_zero, Act.put, List.setIfInBounds_toArray, List.set_cons_zero, List.set_cons_succ]
    refine wpAnyH_take (i := 14) (oi := _) (v := ?_) rfl (by kernel_rfl) (by kernel_rfl) (by kernel_rfl) (fun _ _ _ h => h) (_root_.Or.inl ⟨by rfl, ?_⟩) (by assumption) ?_
    rotate_left
    · intro w hSw
      (try dsimp only at hSw)
      go_simp
      all_goals with_reducible rfl
    try simp only [List.getElem_toArray, List.getElem_cons_succ, List.getElem_cons_zero, Act.put, List.setIfInBounds_toArray, List.set_cons_zero, List.set_cons_succ]
    refine wpAnyH_take (i := 16) (oi := _) (v := ?_) rfl (by kernel_rfl) (by kernel_rfl) (by kernel_rfl) (fun _ _ _ h => h) (_root_.Or.inl ⟨by rfl, ?_⟩) (by assumption) ?_
    rotate_left
    · intro w hSw
      (try dsimp only at hSw)
      go_simp
      all_goals with_reducible rfl
    try simp only [List.getElem_toArray, List.getElem_cons_succ, List.getElem_cons_zero, Act.put, List.setIfInBounds_toArray, List.set_cons_zero, List.set_cons_succ]
    refine wpAnyH_take (i := 17) (oi := _) (v := ?_) rfl (by kernel_rfl) (by kernel_rfl) (by kernel_rfl) (fun _ _ _ h => h) (_root_.Or.inl ⟨by rfl, ?_⟩) (by assumption) ?_
    rotate_left
    · intro w hSw
      (try dsimp only at hSw)
      go_simp
      all_goals with_reducible rfl
    try simp only [List.getElem_toArray, List.getElem_cons_succ, List.getElem_cons_zero, Act.put, List.setIfInBounds_toArray, List.set_cons_zero, List.set_cons_succ]
    refine wpAnyH_take (i := 18) (oi := _) (v := ?_) rfl (by kernel_rfl) (by kernel_rfl) (by kernel_rfl) (fun _ _ _ h => h) (_root_.Or.inl ⟨by rfl, ?_⟩) (by assumption) ?_
    rotate_left
    · intro w hSw
      (try dsimp only at hSw)
      go_simp
      all_goals with_reducible rfl
    try simp only [List.getElem_toArray, List.getElem_cons_succ, List.getElem_cons_zero, Act.put, List.setIfInBounds_toArray, List.set_cons_zero, List.set_cons_succ]
    refine wpAnyH_take (i := 19) (oi := _) (v := ?_) rfl (by kernel_rfl) (by kernel_rfl) (by kernel_rfl) (fun _ _ _ h => h) (_root_.Or.inl ⟨by rfl, ?_⟩) (by assumption) ?_
    rotate_left
    · intro w hSw
      (try dsimp only at hSw)
      go_simp
      all_goals with_reducible rfl
    try simp only [List.getElem_toArray, List.getElem_cons_succ, List.getElem_cons_zero, Act.put, List.setIfInBounds_toArray, List.set_cons_zero, List.set_cons_succ]
    refine wpAnyH_ready (rs := [4, 15]) (by kernel_rfl) (by simp) ?_
    refine AllReadyH.cons (o := _) rfl (fun K hK => ?_) ?_
    · have cx1 := C4.out
      go_simp
      clear cx1
      refine hK.out _ _ ?_ (fun hHeld => ?_)
      · exact (KeepS.out _ _ H4.out.kp H4.out.box E4.out).1
      clear hK K
      try simp only [List.getElem_toArray, List.getElem_cons_succ, List.getElem_cons_zero, Act.put, List.setIfInBounds_toArray, List.set_cons_zero, List.set_cons_succ]
      refine wpAnyH_ready (rs := [15]) (by kernel_rfl) (by simp) ?_
      refine AllReadyH.cons (o := _) rfl (fun K hK => ?_) AllReadyH.nil
      go_simp
      go_at_call 91
      refine (strikeVoice_ok ms ms.length bS (.slice ma ms.length mc) t 1 (p : Int) s m f rfl (by omega) hs hm1 (by omega) Hf.out _ (KeepS.out _ _ H4.out.kp H4.out.box E4.out).2).mono ?_
      rintro e W2 ⟨vm, vi, vg, rfl, o1, o2, o3, n2⟩
      have H3 := Lib.hid (H4.out.nw n2)
      have E4 := Lib.hid (E4.out.nw n2)
      have H3n := Lib.hid (show Nw wc W2 from ((Nw.refl wc).draw 1).trans n2)
      have H3c := Lib.hid (show W2.cell? ⟨q, 10, none⟩ = some _ from (H3.out.box.2 10 _ rfl).1)
      obtain ⟨xa, xc, rfl⟩ := own_shape' o1
      have e3 : ((shapeL s m).map fun x => opB .mul .f32 x f).length = m := by simp [shapeL]
      rw [e3] at o3
      obtain ⟨ya, yc, rfl⟩ := own_shape' o3
      have P5 := Lib.hid (show PartIn W2 wc.heap.size (⟨(p : Int), ms, List.replicate ms.length (0, 0), (shapeL s m).map fun x => opB .mul .f32 x f⟩, ⟨.slice xa ms.length xc, vg, .slice ya m yc, (b : Int)⟩) from ⟨own_base o1 (Nat.le_refl _), own_base o2 (Nat.le_refl _), (View.own o3 e3.symm hm1).base (Nat.le_refl _)⟩)
      clear o1 o2 o3 n2 hHeld e3
      go_wp2_with fail
      refine hK.out _ _ ?_ (fun hHeld => ?_)
      · exact (KeepS.out _ _ H3.out.kp H3.out.box E4.out).1
      clear hK K
      try simp only [List.getElem_toArray, List.getElem_cons_succ, List.getElem_cons_zero, Act.put, List.setIfInBounds_toArray, List.set_cons_zero, List.set_cons_succ]
      refine wpAnyH_take (i := 20) (oi := _) (v := ?_) rfl (by kernel_rfl) (by kernel_rfl) (by kernel_rfl) (fun _ _ _ h => h) (_root_.Or.inl ⟨by rfl, ?_⟩) (by assumption) ?_
      rotate_left
      · intro w hSw
        (try dsimp only at hSw)
        go_simp
        all_goals with_reducible rfl
      try simp only [List.getElem_toArray, List.getElem_cons_succ, List.getElem_cons_zero, Act.put, List.setIfInBounds_toArray, List.set_cons_zero, List.set_cons_succ]
      refine wpAnyH_ready (rs := [21]) (by kernel_rfl) (by simp) ?_
      refine AllReadyH.cons (o := _) rfl (fun K hK => ?_) AllReadyH.nil
      have A10 := (Nw.refl W2).alloc (.cells #[.int .i64 (p : Int), .slice xa ms.length xc, .slice (some ⟨vg, 0, none⟩) ms.length ms.length, .slice ya m yc, .int .i64 (b : Int)] 84 (0, 0))
      have H6 := Lib.hid (H3.out.nw A10)
      have H6c := Lib.hid (H6.out.box.2 10 _ rfl).1
      have E7 := Lib.hid (E4.out.nw A10)
      have P8 := Lib.hid (P5.out.nw A10)
      have X9 := Lib.hid (HasC.newB W2 #[.int .i64 (p : Int), .slice xa ms.length xc, .slice (some ⟨vg, 0, none⟩) ms.length ms.length, .slice ya m yc, .int .i64 (b : Int)] 84)
      have H6n := Lib.hid (H3n.out.trans A10)
      clear A10 hHeld
      go_simp
      refine hK.out _ _ ?_ (fun hHeld => ?_)
      · exact (KeepS.out _ _ H6.out.kp H6.out.box E7.out).1
      clear hK K
      try simp only [List.getElem_toArray, List.getElem_cons_succ, List.getElem_cons_zero, Act.put, List.setIfInBounds_toArray, List.set_cons_zero, List.set_cons_succ]
      refine wpAnyH_ready (rs := [22]) (by kernel_rfl) (by simp) ?_
      refine AllReadyH.cons (o := _) rfl (fun K hK => ?_) AllReadyH.nil
      refine step_append_part rfl (.tmp 33) (.tmp 50) rfl W1.heap.size zn' W2.heap.size (.slice pa' zn' pc') (⟨(p : Int), ms, List.replicate ms.length (0, 0), (shapeL s m).map fun x => opB .mul .f32 x f⟩, ⟨.slice xa ms.length xc, vg, .slice ya m yc, (b : Int)⟩) zs' rfl rfl (by have o := H6.out.par.row; rw [← Hzn'.out] at o; exact o) (fun j u hj => (X9.out.2 j u hj).1) rfl rfl (by omega) H6.out.kp.size ?_
      intro v9 W11 o9 g9
      have G14 := Lib.hid (H6.out.par.snoc P8.out Hlow.out Hlt.out (by rw [← Hzn'.out]; exact o9) g9)
      have Kz := Lib.hid (H6.out.kp.grown g9 (fun g hg => (H6.out.par.row.lt g hg).1))
      obtain ⟨B15, H12, x9⟩ := H6.out.parts HF.out g9 (fun g hg => (H6.out.par.row.lt g hg).1) G14.out
      have E13 := Lib.hid (E7.out.grown g9 (fun e => by have := Hpb2.out _ e; omega))
      have Hz := Lib.hid H12
      have F9 := Lib.hid ((F2.out.trans (Fr.snoc H6n.out H6.out.par.row (by decide) g9 (fun g hg => (P8.out.xs.lt g hg).1))).trans (Fr.put x9 10 v9))
      obtain ⟨va, vn, vc, rfl⟩ := own_shape o9
      have c10 := (B15.2 10 _ rfl).1
      have f10 := (B15.2 10 _ rfl).2
      clear H12 x9 o9 g9 hHeld
      refine hK.out _ _ ?_ (fun hHeld => ?_)
      · exact (KeepS.out _ _ Kz.out B15 E13.out).1
      clear hK K
      try simp only [List.getElem_toArray, List.getElem_cons_succ, List.getElem_cons_zero, Act.put, List.setIfInBounds_toArray, List.set_cons_zero, List.set_cons_succ]
      refine wpAnyH_take (i := 23) (oi := _) (v := ?_) rfl (by kernel_rfl) (by kernel_rfl) (by kernel_rfl) (fun _ _ _ h => h) (_root_.Or.inl ⟨by rfl, ?_⟩) (by assumption) ?_
      rotate_left
      · intro w hSw
        (try dsimp only at hSw)
        go_simp
        all_goals with_reducible rfl
      try simp only [List.getElem_toArray, List.getElem_cons_succ, List.getElem_cons_zero, Act.put, List.setIfInBounds_toArray, List.set_cons_zero, List.set_cons_succ]
      refine wpAnyH_take (i := 24) (oi := _) (v := ?_) rfl (by kernel_rfl) (by kernel_rfl) (by kernel_rfl) (fun _ _ _ h => h) (_root_.Or.inl ⟨by rfl, ?_⟩) (by assumption) ?_
      rotate_left
      · intro w hSw
        (try dsimp only at hSw)
        go_simp
        all_goals with_reducible rfl
      try simp only [List.getElem_toArray, List.getElem_cons_succ, List.getElem_cons_zero, Act.put, List.setIfInBounds_toArray, List.set_cons_zero, List.set_cons_succ]
      refine wpAnyH_ready (rs := [25]) (by kernel_rfl) (by simp) ?_
      refine AllReadyH.cons (o := _) rfl (fun K hK => ?_) AllReadyH.nil
      go_simp
      refine hK.out _ _ ?_ (fun hHeld => ?_)
      · exact (KeepS.out _ _ Hz.out.kp Hz.out.box (E13.out.sete (p := ⟨q, 10, none⟩) (by show q ≠ w.heap.size; omega) _)).1
      clear hK K hHeld c10 f10
      try simp only [List.getElem_toArray, List.getElem_cons_succ, List.getElem_cons_zero, Act.put, List.setIfInBounds_toArray, List.set_cons_zero, List.set_cons_succ]
      refine wpAnyH_done (by kernel_rfl) ?_ _
      have c9 := (Hz.out.box.2 9 _ rfl).1
      have f9 := (Hz.out.box.2 9 _ rfl).2
      have Fin := Lib.hid (Hz.out.putb HF.out)
      have Fr9 := Lib.hid (F9.out.trans (Fr.put Hz.out.plx 9 (.int .i64 ((b : Int) + 1))))
      clear Hz F9
      obtain ⟨wz, hwz⟩ : ∃ wz, wz = W11.setCell ⟨q, 10, none⟩ (.slice va vn vc) := ⟨_, rfl⟩
      rw [← hwz] at c9 f9 Fin Fr9 ⊢
      clear hwz
      go_wp2_with fail
      go_end0
      exact ⟨rfl, b + 1, _, _, by omega, by omega, strike_eq hp Hzs.out, Fin.out, Fr9.out⟩
    refine AllReadyH.cons (o := _) rfl (fun K hK => ?_) AllReadyH.nil
    go_simp
    go_at_call 91
    refine (strikeVoice_ok ms ms.length bS (.slice ma ms.length mc) t 1 (p : Int) s m f rfl (by omega) hs hm1 (by omega) Hf.out _ (KeepS.out _ _ H4.out.kp H4.out.box E4.out).2).mono ?_
    rintro e W16 ⟨vm, vi, vg, rfl, o1, o2, o3, n2⟩
    have H17 := Lib.hid (H4.out.nw n2)
    have E18 := Lib.hid (E4.out.nw n2)
    have H17n := Lib.hid (show Nw wc W16 from ((Nw.refl wc).draw 1).trans n2)
    have H17c := Lib.hid (show W16.cell? ⟨q, 10, none⟩ = some _ from (H17.out.box.2 10 _ rfl).1)
    obtain ⟨xa, xc, rfl⟩ := own_shape' o1
    have e3 : ((shapeL s m).map fun x => opB .mul .f32 x f).length = m := by simp [shapeL]
    rw [e3] at o3
    obtain ⟨ya, yc, rfl⟩ := own_shape' o3
    have P19 := Lib.hid (show PartIn W16 wc.heap.size (⟨(p : Int), ms, List.replicate ms.length (0, 0), (shapeL s m).map fun x => opB .mul .f32 x f⟩, ⟨.slice xa ms.length xc, vg, .slice ya m yc, (b : Int)⟩) from ⟨own_base o1 (Nat.le_refl _), own_base o2 (Nat.le_refl _), (View.own o3 e3.symm hm1).base (Nat.le_refl _)⟩)
    clear o1 o2 o3 n2 hHeld e3
    go_wp2_with fail
    refine hK.out _ _ ?_ (fun hHeld => ?_)
    · exact (KeepS.out _ _ H17.out.kp H17.out.box E18.out).1
    clear hK K
    try simp only [List.getElem_toArray, List.getElem_cons_succ, List.getElem_cons_zero, Act.put, List.setIfInBounds_toArray, List.set_cons_zero, List.set_cons_succ]
    refine wpAnyH_take (i := 20) (oi := _) (v := ?_) rfl (by kernel_rfl) (by kernel_rfl) (by kernel_rfl) (fun _ _ _ h => h) (_root_.Or.inl ⟨by rfl, ?_⟩) (by assumption) ?_
    rotate_left
    · intro w hSw
      (try dsimp only at hSw)
      go_simp
      all_goals with_reducible rfl
    try simp only [List.getElem_toArray, List.getElem_cons_succ, List.getElem_cons_zero, Act.put, List.setIfInBounds_toArray, List.set_cons_zero, List.set_cons_succ]
    refine wpAnyH_ready (rs := [4, 21]) (by kernel_rfl) (by simp) ?_
    refine AllReadyH.cons (o := _) rfl (fun K hK => ?_) ?_
    · have cx20 := H17c.out
      go_simp
      clear cx20
      refine hK.out _ _ ?_ (fun hHeld => ?_)
      · exact (KeepS.out _ _ H17.out.kp H17.out.box E18.out).1
      clear hK K
      try simp only [List.getElem_toArray, List.getElem_cons_succ, List.getElem_cons_zero, Act.put, List.setIfInBounds_toArray, List.set_cons_zero, List.set_cons_succ]
      refine wpAnyH_ready (rs := [21]) (by kernel_rfl) (by simp) ?_
      refine AllReadyH.cons (o := _) rfl (fun K hK => ?_) AllReadyH.nil
      have A25 := (Nw.refl W16).alloc (.cells #[.int .i64 (p : Int), .slice xa ms.length xc, .slice (some ⟨vg, 0, none⟩) ms.length ms.length, .slice ya m yc, .int .i64 (b : Int)] 84 (0, 0))
      have H21 := Lib.hid (H17.out.nw A25)
      have H21c := Lib.hid (H21.out.box.2 10 _ rfl).1
      have E22 := Lib.hid (E18.out.nw A25)
      have P23 := Lib.hid (P19.out.nw A25)
      have X24 := Lib.hid (HasC.newB W16 #[.int .i64 (p : Int), .slice xa ms.length xc, .slice (some ⟨vg, 0, none⟩) ms.length ms.length, .slice ya m yc, .int .i64 (b : Int)] 84)
      have H21n := Lib.hid (H17n.out.trans A25)
      clear A25 hHeld
      go_simp
      refine hK.out _ _ ?_ (fun hHeld => ?_)
      · exact (KeepS.out _ _ H21.out.kp H21.out.box E22.out).1
      clear hK K
      try simp only [List.getElem_toArray, List.getElem_cons_succ, List.getElem_cons_zero, Act.put, List.setIfInBounds_toArray, List.set_cons_zero, List.set_cons_succ]
      refine wpAnyH_ready (rs := [22]) (by kernel_rfl) (by simp) ?_
      refine AllReadyH.cons (o := _) rfl (fun K hK => ?_) AllReadyH.nil
      refine step_append_part rfl (.tmp 33) (.tmp 50) rfl W1.heap.size zn' W16.heap.size (.slice pa' zn' pc') (⟨(p : Int), ms, List.replicate ms.length (0, 0), (shapeL s m).map fun x => opB .mul .f32 x f⟩, ⟨.slice xa ms.length xc, vg, .slice ya m yc, (b : Int)⟩) zs' rfl rfl (by have o := H21.out.par.row; rw [← Hzn'.out] at o; exact o) (fun j u hj => (X24.out.2 j u hj).1) rfl rfl (by omega) H21.out.kp.size ?_
      intro v9 W26 o9 g9
      have G29 := Lib.hid (H21.out.par.snoc P23.out Hlow.out Hlt.out (by rw [← Hzn'.out]; exact o9) g9)
      have Kz := Lib.hid (H21.out.kp.grown g9 (fun g hg => (H21.out.par.row.lt g hg).1))
      obtain ⟨B30, H27, x9⟩ := H21.out.parts HF.out g9 (fun g hg => (H21.out.par.row.lt g hg).1) G29.out
      have E28 := Lib.hid (E22.out.grown g9 (fun e => by have := Hpb2.out _ e; omega))
      have Hz := Lib.hid H27
      have F9 := Lib.hid ((F2.out.trans (Fr.snoc H21n.out H21.out.par.row (by decide) g9 (fun g hg => (P23.out.xs.lt g hg).1))).trans (Fr.put x9 10 v9))
      obtain ⟨va, vn, vc, rfl⟩ := own_shape o9
      have c10 := (B30.2 10 _ rfl).1
      have f10 := (B30.2 10 _ rfl).2
      clear H27 x9 o9 g9 hHeld
      refine hK.out _ _ ?_ (fun hHeld => ?_)
      · exact (KeepS.out _ _ Kz.out B30 E28.out).1
      clear hK K
      try simp only [List.getElem_toArray, List.getElem_cons_succ, List.getElem_cons_zero, Act.put, List.setIfInBounds_toArray, List.set_cons_zero, List.set_cons_succ]
      refine wpAnyH_take (i := 23) (oi := _) (v := ?_) rfl (by kernel_rfl) (by kernel_rfl) (by kernel_rfl) (fun _ _ _ h => h) (_root_.Or.inl ⟨by rfl, ?_⟩) (by assumption) ?_
      rotate_left
      · intro w hSw
        (try dsimp only at hSw)
        go_simp
        all_goals with_reducible rfl
      try simp only [List.getElem_toArray, List.getElem_cons_succ, List.getElem_cons_zero, Act.put, List.setIfInBounds_toArray, List.set_cons_zero, List.set_cons_succ]
      refine wpAnyH_take (i := 24) (oi := _) (v := ?_) rfl (by kernel_rfl) (by kernel_rfl) (by kernel_rfl) (fun _ _ _ h => h) (_root_.Or.inl ⟨by rfl, ?_⟩) (by assumption) ?_
      rotate_left
      · intro w hSw
        (try dsimp only at hSw)
        go_simp
        all_goals with_reducible rfl
      try simp only [List.getElem_toArray, List.getElem_cons_succ, List.getElem_cons_zero, Act.put, List.setIfInBounds_toArray, List.set_cons_zero, List.set_cons_succ]
      refine wpAnyH_ready (rs := [25]) (by kernel_rfl) (by simp) ?_
      refine AllReadyH.cons (o := _) rfl (fun K hK => ?_) AllReadyH.nil
      go_simp
      refine hK.out _ _ ?_ (fun hHeld => ?_)
      · exact (KeepS.out _ _ Hz.out.kp Hz.out.box (E28.out.sete (p := ⟨q, 10, none⟩) (by show q ≠ w.heap.size; omega) _)).1
      clear hK K hHeld c10 f10
      try simp only [List.getElem_toArray, List.getElem_cons_succ, List.getElem_cons_zero, Act.put, List.setIfInBounds_toArray, List.set_cons_zero, List.set_cons_succ]
      refine wpAnyH_done (by kernel_rfl) ?_ _
      have c9 := (Hz.out.box.2 9 _ rfl).1
      have f9 := (Hz.out.box.2 9 _ rfl).2
      have Fin := Lib.hid (Hz.out.putb HF.out)
      have Fr9 := Lib.hid (F9.out.trans (Fr.put Hz.out.plx 9 (.int .i64 ((b : Int) + 1))))
      clear Hz F9
      obtain ⟨wz, hwz⟩ : ∃ wz, wz = W26.setCell ⟨q, 10, none⟩ (.slice va vn vc) := ⟨_, rfl⟩
      rw [← hwz] at c9 f9 Fin Fr9 ⊢
      clear hwz
      go_wp2_with fail
      go_end0
      exact ⟨rfl, b + 1, _, _, by omega, by omega, strike_eq hp Hzs.out, Fin.out, Fr9.out⟩
    refine AllReadyH.cons (o := _) rfl (fun K hK => ?_) AllReadyH.nil
    have A35 := (Nw.refl W16).alloc (.cells #[.int .i64 (p : Int), .slice xa ms.length xc, .slice (some ⟨vg, 0, none⟩) ms.length ms.length, .slice ya m yc, .int .i64 (b : Int)] 84 (0, 0))
    have H31 := Lib.hid (H17.out.nw A35)
    have H31c := Lib.hid (H31.out.box.2 10 _ rfl).1
    have E32 := Lib.hid (E18.out.nw A35)
    have P33 := Lib.hid (P19.out.nw A35)
    have X34 := Lib.hid (HasC.newB W16 #[.int .i64 (p : Int), .slice xa ms.length xc, .slice (some ⟨vg, 0, none⟩) ms.length ms.length, .slice ya m yc, .int .i64 (b : Int)] 84)
    have H31n := Lib.hid (H17n.out.trans A35)
    clear A35 hHeld
    go_simp
    refine hK.out _ _ ?_ (fun hHeld => ?_)
    · exact (KeepS.out _ _ H31.out.kp H31.out.box E32.out).1
    clear hK K
    try simp only [List.getElem_toArray, List.getElem_cons_succ, List.getElem_cons_zero, Act.put, List.setIfInBounds_toArray, List.set_cons_zero, List.set_cons_succ]
    refine wpAnyH_ready (rs := [4]) (by kernel_rfl) (by simp) ?_
    refine AllReadyH.cons (o := _) rfl (fun K hK => ?_) AllReadyH.nil
    have cx36 := H31c.out
    go_simp
    clear cx36
    refine hK.out _ _ ?_ (fun hHeld => ?_)
    · exact (KeepS.out _ _ H31.out.kp H31.out.box E32.out).1
    clear hK K
    try simp only [List.getElem_toArray, List.getElem_cons_succ, List.getElem_cons_zero, Act.put, List.setIfInBounds_toArray, List.set_cons_zero, List.set_cons_succ]
    refine wpAnyH_ready (rs := [22]) (by kernel_rfl) (by simp) ?_
    refine AllReadyH.cons (o := _) rfl (fun K hK => ?_) AllReadyH.nil
    refine step_append_part rfl (.tmp 33) (.tmp 50) rfl W1.heap.size zn' W16.heap.size (.slice pa' zn' pc') (⟨(p : Int), ms, List.replicate ms.length (0, 0), (shapeL s m).map fun x => opB .mul .f32 x f⟩, ⟨.slice xa ms.length xc, vg, .slice ya m yc, (b : Int)⟩) zs' rfl rfl (by have o := H31.out.par.row; rw [← Hzn'.out] at o; exact o) (fun j u hj => (X34.out.2 j u hj).1) rfl rfl (by omega) H31.out.kp.size ?_
    intro v9 W37 o9 g9
    have G40 := Lib.hid (H31.out.par.snoc P33.out Hlow.out Hlt.out (by rw [← Hzn'.out]; exact o9) g9)
    have Kz := Lib.hid (H31.out.kp.grown g9 (fun g hg => (H31.out.par.row.lt g hg).1))
    obtain ⟨B41, H38, x9⟩ := H31.out.parts HF.out g9 (fun g hg => (H31.out.par.row.lt g hg).1) G40.out
    have E39 := Lib.hid (E32.out.grown g9 (fun e => by have := Hpb2.out _ e; omega))
    have Hz := Lib.hid H38
    have F9 := Lib.hid ((F2.out.trans (Fr.snoc H31n.out H31.out.par.row (by decide) g9 (fun g hg => (P33.out.xs.lt g hg).1))).trans (Fr.put x9 10 v9))
    obtain ⟨va, vn, vc, rfl⟩ := own_shape o9
    have c10 := (B41.2 10 _ rfl).1
    have f10 := (B41.2 10 _ rfl).2
    clear H38 x9 o9 g9 hHeld
    refine hK.out _ _ ?_ (fun hHeld => ?_)
    · exact (KeepS.out _ _ Kz.out B41 E39.out).1
    clear hK K
    try simp only [List.getElem_toArray, List.getElem_cons_succ, List.getElem_cons_zero, Act.put, List.setIfInBounds_toArray, List.set_cons_zero, List.set_cons_succ]
    refine wpAnyH_take (i := 23) (oi := _) (v := ?_) rfl (by kernel_rfl) (by kernel_rfl) (by kernel_rfl) (fun _ _ _ h => h) (_root_.Or.inl ⟨by rfl, ?_⟩) (by assumption) ?_
    rotate_left
    · intro w hSw
      (try dsimp only at hSw)
      go_simp
      all_goals with_reducible rfl
    try simp only [List.getElem_toArray, List.getElem_cons_succ, List.getElem_cons_zero, Act.put, List.setIfInBounds_toArray, List.set_cons_zero, List.set_cons_succ]
    refine wpAnyH_take (i := 24) (oi := _) (v := ?_) rfl (by kernel_rfl) (by kernel_rfl) (by kernel_rfl) (fun _ _ _ h => h) (_root_.Or.inl ⟨by rfl, ?_⟩) (by assumption) ?_
    rotate_left
    · intro w hSw
      (try dsimp only at hSw)
      go_simp
      all_goals with_reducible rfl
    try simp only [List.getElem_toArray, List.getElem_cons_succ, List.getElem_cons_zero, Act.put, List.setIfInBounds_toArray, List.set_cons_zero, List.set_cons_succ]
    refine wpAnyH_ready (rs := [25]) (by kernel_rfl) (by simp) ?_
    refine AllReadyH.cons (o := _) rfl (fun K hK => ?_) AllReadyH.nil
    go_simp
    refine hK.out _ _ ?_ (fun hHeld => ?_)
    · exact (KeepS.out _ _ Hz.out.kp Hz.out.box (E39.out.sete (p := ⟨q, 10, none⟩) (by show q ≠ w.heap.size; omega) _)).1
    clear hK K hHeld c10 f10
    try simp only [List.getElem_toArray, List.getElem_cons_succ, List.getElem_cons_zero, Act.put, List.setIfInBounds_toArray, List.set_cons_zero, List.set_cons_succ]
    refine wpAnyH_done (by kernel_rfl) ?_ _
    have c9 := (Hz.out.box.2 9 _ rfl).1
    have f9 := (Hz.out.box.2 9 _ rfl).2
    have Fin := Lib.hid (Hz.out.putb HF.out)
    have Fr9 := Lib.hid (F9.out.trans (Fr.put Hz.out.plx 9 (.int .i64 ((b : Int) + 1))))
    clear Hz F9
    obtain ⟨wz, hwz⟩ : ∃ wz, wz = W37.setCell ⟨q, 10, none⟩ (.slice va vn vc) := ⟨_, rfl⟩
    rw [← hwz] at c9 f9 Fin Fr9 ⊢
    clear hwz
    go_wp2_with fail
    go_end0
    exact ⟨rfl, b + 1, _, _, by omega, by omega, strike_eq hp Hzs.out, Fin.out, Fr9.out⟩
end Go.Proofs.YtiakcibeobbonaaGreat

/- An event of a score happens: a damp, a stop (take).
   Conditions: those that each statement names. -/
namespace Go.Proofs.YtiakcibeobbonaaGreat
set_option linter.unusedSimpArgs false
set_option linter.unusedVariables false
open Go Go.RowKit

/-- some of the voices damped -/
def dampB (b : Int) (t : Nat) (zs : List (Prt × Loc)) (k : Nat) : List (Prt × Loc) := (zs.take k).map (fun z => if z.1.b = b then (z.1.damp t, z.2) else z) ++ zs.drop k
theorem dampB_len (b : Int) (t : Nat) (zs : List (Prt × Loc)) (k : Nat) : (dampB b t zs k).length = zs.length := by simp [dampB]; omega
theorem dampB_zero (b : Int) (t : Nat) (zs : List (Prt × Loc)) : dampB b t zs 0 = zs := by simp [dampB]
theorem dampB_full (b : Int) (t : Nat) (zs : List (Prt × Loc)) : (dampB b t zs zs.length).map Prod.fst = (zs.map Prod.fst).map fun p => if p.b = b then p.damp t else p := by
  simp only [dampB, List.take_length, List.drop_length, List.append_nil, List.map_map]
  apply List.map_congr_left
  intro z _
  simp only [Function.comp]
  split <;> rfl
theorem dampB_at (b : Int) (t : Nat) (zs : List (Prt × Loc)) (k : Nat) (z : Prt × Loc) (h : zs[k]? = some z) : (dampB b t zs k)[k]? = some z := by
  obtain ⟨hk, he⟩ := List.getElem?_eq_some_iff.1 h
  unfold dampB
  rw [List.getElem?_append_right (by simp; omega)]
  simp only [List.length_map, List.length_take, Nat.min_eq_left (Nat.le_of_lt hk), Nat.sub_self, List.getElem?_drop, Nat.add_zero, h]
theorem dampB_yes (b : Int) (t : Nat) (zs : List (Prt × Loc)) (k : Nat) (z : Prt × Loc) (h : zs[k]? = some z) (hb : z.1.b = b) : (dampB b t zs k).set k (z.1.damp t, z.2) = dampB b t zs (k + 1) := by
  obtain ⟨hk, he⟩ := List.getElem?_eq_some_iff.1 h
  unfold dampB
  rw [List.take_succ_eq_append_getElem hk, he, List.drop_eq_getElem_cons hk, he, List.set_append_right _ _ (by simp; omega)]
  simp [Nat.min_eq_left (Nat.le_of_lt hk), hb]
theorem dampB_no (b : Int) (t : Nat) (zs : List (Prt × Loc)) (k : Nat) (z : Prt × Loc) (h : zs[k]? = some z) (hb : z.1.b ≠ b) : dampB b t zs k = dampB b t zs (k + 1) := by
  obtain ⟨hk, he⟩ := List.getElem?_eq_some_iff.1 h
  unfold dampB
  rw [List.take_succ_eq_append_getElem hk, he, List.drop_eq_getElem_cons hk, he]
  simp [hb]

set_option maxHeartbeats 6400000 in
set_option maxRecDepth 100000 in
theorem takeDamp_ok {w0 W1 : World} {q bS L V C R : Nat} {bs : List (List M4)} {es : List Ev6} {sv ev eo : Value} {i d b env : Nat} {pv : Value} {zs : List (Prt × Loc)} {w : World} (hF : PlF w0 W1 q bS L V C R bs es sv ev eo) (h : PlS W1 q L V C R sv ev eo i d b pv env zs w)
    (t eb : Int) (f : Nat) (hf : Fact f) (hz : zs.length ≤ 1000) (hms : ∀ z ∈ zs, ∀ m ∈ z.1.ms, m.ok) :
    Calls Tryz.prog 60 #[.pointer (some ⟨q, 0, none⟩), .agg #[.int .i64 t, .int .i64 2, .int .i64 eb, .int .i64 0, .int .i64 0, .float .f32 f]] w
      (TakeP W1 q L V C R sv ev eo i d b env zs w (takeE bs V (zs.map Prod.fst) ⟨t, 2, eb, 0, 0, f⟩)) := by
  obtain ⟨pa, pc, rfl⟩ := own_shape' h.par.row
  obtain ⟨zn, hzn⟩ : ∃ zn, zn = zs.length := ⟨_, rfl⟩
  rw [← hzn] at h hz
  have H0 := Lib.hid (h.nw ((Nw.refl w).alloc (.cells #[.int .i64 t, .int .i64 2, .int .i64 eb, .int .i64 0, .int .i64 0, .float .f32 f] 68 (0, 0))))
  have F0 := Lib.hid (Fr.nw (zs := zs) ((Nw.refl w).alloc (.cells #[.int .i64 t, .int .i64 2, .int .i64 eb, .int .i64 0, .int .i64 0, .float .f32 f] 68 (0, 0))))
  have E0 := Lib.hid (HasC.new w 68 (.int .i64 t) (.int .i64 2) (.int .i64 eb) (.int .i64 0) (.int .i64 0) (.float .f32 f))
  have Hzn := Lib.hid hzn
  have hqw := h.box.1
  have Hlt := Lib.hid (show ∀ z ∈ zs, ∀ g, z.2.vm.ownBlock = some g → W1.heap.size ≤ g ∧ g < w.heap.size from fun z hz g hg => (h.par.ins z hz).ms.lt g hg)
  have Hms := Lib.hid hms
  have HF := Lib.hid hF
  have Hf := Lib.hid hf
  have c10 := (H0.out.box.2 10 _ rfl).1
  have hqs := H0.out.box.1
  clear h hzn hms hF hf
  go_enter Tryz.func60, Tryz.ntmps60
  go_wp2_with fail
  clear c10 hqs
  go_loopw [68] (fun x wr => ∃ k : Nat, k ≤ zn ∧ x = .int .i64 (k : Int) ∧ PlS W1 q L V C R sv ev eo i d b (.slice pa zn pc) env (dampB eb f zs k) wr ∧ HasC wr w.heap.size [.int .i64 t, .int .i64 2, .int .i64 eb, .int .i64 0, .int .i64 0, .float .f32 f] ∧ Fr zs (dampB eb f zs k) w wr) (fun x _ => zn - (intOf x).toNat)
  case atStart => exact ⟨0, by omega, rfl, by rw [dampB_zero]; exact H0.out, E0.out, by rw [dampB_zero]; exact F0.out⟩
  case round =>
    obtain ⟨k, hk, rfl, hP, hE, hFr⟩ := hrel
    have Hr := Lib.hid hP
    have Fw := Lib.hid hFr
    have Er := Lib.hid hE
    clear hP hE hFr
    by_cases hlt : k < zn
    · obtain ⟨z, hzk⟩ : ∃ z, zs[k]? = some z := ⟨zs[k]'(by rw [← Hzn.out]; exact hlt), List.getElem?_eq_getElem _⟩
      have hz' := dampB_at eb f zs k z hzk
      obtain ⟨g, rfl, hpc, hpm⟩ : ∃ g, pa = some ⟨g, 0, none⟩ ∧ zn ≤ pc ∧ pc ≤ maxLen := by
        rcases Hr.out.par.row.2 with ⟨h1, h2⟩ | ⟨g, cap, cur, h1, hb, hg, hc, hmx, hs, ht⟩
        · rw [dampB_len, ← Hzn.out] at h2; omega
        · cases h1; exact ⟨g, rfl, by rw [dampB_len, ← Hzn.out] at hc; exact hc, hmx⟩
      have hgr : g < wr.heap.size := (Hr.out.par.row.lt g rfl).2
      obtain ⟨⟨va, vn, vc, hvm⟩, ia, xn, ic, hvi⟩ := Hr.out.par.shapes z (List.mem_of_getElem? hz')
      obtain ⟨e0, e1, e2, e3, e4⟩ := part_at (by have o := Hr.out.par.row; rw [dampB_len, ← Hzn.out] at o; exact o) (by rw [dampB_len, ← Hzn.out]) hz'
      rw [hvm] at e1
      rw [hvi] at e3
      have Hz' := Lib.hid hz'
      have Hzk := Lib.hid hzk
      have Hvm := Lib.hid hvm
      have Bx := Lib.hid (HasC.newB wr #[.int .i64 z.1.b, .slice va vn vc, .slice (some ⟨z.2.g, 0, none⟩) z.1.ms.length z.1.ms.length, .slice ia xn ic, .int .i64 z.2.tr] 84)
      have Hn := Lib.hid (Hr.out.nw ((Nw.refl wr).alloc (.cells #[.int .i64 z.1.b, .slice va vn vc, .slice (some ⟨z.2.g, 0, none⟩) z.1.ms.length z.1.ms.length, .slice ia xn ic, .int .i64 z.2.tr] 84 (0, 0))))
      have Fn := Lib.hid (Fw.out.trans (Fr.nw ((Nw.refl wr).alloc (.cells #[.int .i64 z.1.b, .slice va vn vc, .slice (some ⟨z.2.g, 0, none⟩) z.1.ms.length z.1.ms.length, .slice ia xn ic, .int .i64 z.2.tr] 84 (0, 0)))))
      have En := Lib.hid (Er.out.nw ((Nw.refl wr).alloc (.cells #[.int .i64 z.1.b, .slice va vn vc, .slice (some ⟨z.2.g, 0, none⟩) z.1.ms.length z.1.ms.length, .slice ia xn ic, .int .i64 z.2.tr] 84 (0, 0))))
      obtain ⟨-, -, ⟨x2, -⟩, -, -, ⟨x5, -⟩⟩ := six_at En.out
      have hew : w.heap.size < wr.heap.size := Er.out.1
      clear hz' hzk hvm hvi
      go_upto_if 77 with fail
      clear x2 x5 e0 e1 e2 e3 e4
      obtain ⟨w4, hw4⟩ : ∃ w4, w4 = wr.alloc (.cells #[.int .i64 z.1.b, .slice va vn vc, .slice (some ⟨z.2.g, 0, none⟩) z.1.ms.length z.1.ms.length, .slice ia xn ic, .int .i64 z.2.tr] 84 (0, 0)) := ⟨_, rfl⟩
      rw [← hw4] at Bx Hn En Fn ⊢
      have hr4 : wr.heap.size < w4.heap.size := by rw [hw4]; simp
      clear hw4
      obtain ⟨⟨x0, -⟩, ⟨x1, -⟩, -⟩ := five_at Bx.out
      obtain ⟨-, -, ⟨x2, -⟩, -, -, ⟨x5, -⟩⟩ := six_at En.out
      by_cases hb : z.1.b = eb
      · have Hb := Lib.hid hb
        have hbb : (z.1.b == eb) = true := by rw [beq_iff_eq]; exact hb
        clear hb
        go_wp2_with fail
        have hzi := Hn.out.par.ins z (List.mem_of_getElem? Hz'.out)
        have om := hzi.ms
        rw [Hvm.out] at om
        obtain ⟨a', c', e'⟩ := own_shape' om
        cases e'
        refine (dampK_ok z.1.ms (Hms.out z (List.mem_of_getElem? Hzk.out)) z.1.ms.length f W1.heap.size _ rfl Hf.out.1 Hf.out.range.1 Hf.out.range.2 _ om).mono ?_
        rintro e w5 ⟨rfl, o5, g5⟩
        rw [← Hvm.out] at o5 g5
        have P5 := Lib.hid (Hn.out.inside HF.out g5 (fun g hg => (Hlt.out z (List.mem_of_getElem? Hzk.out) g hg).1) (Hn.out.par.damp (l := z.2) (p := z.1) Hz'.out o5 g5))
        have F5 := Lib.hid (Fn.out.trans (Fr.grown (zs' := (dampB eb f zs k).set k (z.1.damp f, z.2)) hzi.ms (by decide) g5 (fun y hy => by
          rcases List.mem_or_eq_of_mem_set hy with h | h
          · exact ⟨y, h, rfl⟩
          · subst h; exact ⟨z, List.mem_of_getElem? Hz'.out, rfl⟩)))
        have E5 := Lib.hid (En.out.grown g5 (fun e => by have := (Hlt.out z (List.mem_of_getElem? Hzk.out) _ e).2; omega))
        clear om o5 g5 x0 x1 x2 x5 hzi
        go_wp2_with fail
        go_roundw
        case rel =>
          refine ⟨k + 1, by omega, by rw [show ((k + 1 : Nat) : Int) = (k : Int) + 1 from by omega], ?_, E5.out, ?_⟩
          · have p5 := P5.out
            rw [dampB_yes eb f zs k z Hzk.out Hb.out] at p5
            exact p5
          · have f5 := F5.out
            rw [dampB_yes eb f zs k z Hzk.out Hb.out] at f5
            exact f5
        case measure => simp only [intOf]; omega
      · have hbb : (z.1.b == eb) = false := by rw [beq_eq_false_iff_ne]; exact hb
        go_wp2_with fail
        go_roundw
        case rel =>
          refine ⟨k + 1, by omega, by rw [show ((k + 1 : Nat) : Int) = (k : Int) + 1 from by omega], ?_, En.out, ?_⟩
          · rw [← dampB_no eb f zs k z Hzk.out hb]
            exact Hn.out
          · rw [← dampB_no eb f zs k z Hzk.out hb]
            exact Fn.out
        case measure => simp only [intOf]; omega
    · obtain rfl : k = zn := by omega
      go_wp2_with fail
      go_end0
      exact ⟨rfl, b, _, _, by omega, by omega, by rw [Hzn.out, dampB_full]; rfl, Hr.out, Fw.out⟩

set_option maxRecDepth 100000 in
theorem deleteFunc_nil (eb : Nat) (w : World) :
    Calls Tryz.prog 93 #[.slice none 0 0, .func (.func 94) #[] #[.pointer (some ⟨eb, 0, none⟩)]] w fun e w' =>
      e = .returned (.slice none 0 0) ∧ Nw w w' := by
  have hi : Calls Tryz.prog 110 #[.slice none 0 0, .func (.func 94) #[] #[.pointer (some ⟨eb, 0, none⟩)]] w fun e w' => e = .returned (.int .i64 (-1)) ∧ w' = w := by
    go_enter Tryz.func110, Tryz.ntmps110
    go_wp2_with fail
    go_loopw [8] (fun i wr => i = .int .i64 0 ∧ wr = w) (fun _ _ => 0)
    case atStart => exact ⟨rfl, rfl⟩
    case round =>
      obtain ⟨rfl, rfl⟩ := hrel
      go_wp2_with fail
      go_ret
      exact ⟨rfl, rfl⟩
  have Hi := Lib.hid hi
  clear hi
  go_enter Tryz.func93, Tryz.ntmps93
  go_wp2_with fail
  refine Hi.out.mono ?_
  rintro e w1 ⟨rfl, rfl⟩
  go_wp2_with fail
  go_ret
  exact ⟨rfl, Nw.refl _⟩
theorem keep_eq (b : Int) (zs : List (Prt × Loc)) : (keepB b zs).map Prod.fst = (zs.map Prod.fst).filter fun p => p.b != b := by
  unfold keepB
  rw [List.filter_map]
  rfl
theorem stop_eq (bs : List (List M4)) (V : Nat) (ps : List Prt) (t b : Int) (f : Nat) : takeE bs V ps ⟨t, 3, b, 0, 0, f⟩ = ps.filter fun p => p.b != b := by
  unfold takeE
  simp
set_option maxHeartbeats 6400000 in
set_option maxRecDepth 100000 in
theorem takeStop_ok {w0 W1 : World} {q bS L V C R : Nat} {bs : List (List M4)} {es : List Ev6} {sv ev eo : Value} {i d b env : Nat} {pv : Value} {zs : List (Prt × Loc)} {w : World} (hF : PlF w0 W1 q bS L V C R bs es sv ev eo) (h : PlS W1 q L V C R sv ev eo i d b pv env zs w)
    (t eb : Int) (f : Nat) (hz : zs.length ≤ 1000) :
    Calls Tryz.prog 60 #[.pointer (some ⟨q, 0, none⟩), .agg #[.int .i64 t, .int .i64 3, .int .i64 eb, .int .i64 0, .int .i64 0, .float .f32 f]] w
      (TakeP W1 q L V C R sv ev eo i d b env zs w (takeE bs V (zs.map Prod.fst) ⟨t, 3, eb, 0, 0, f⟩)) := by
  obtain ⟨pa, pc, rfl⟩ := own_shape' h.par.row
  obtain ⟨zn, hzn⟩ : ∃ zn, zn = zs.length := ⟨_, rfl⟩
  rw [← hzn] at h hz
  have Hrow := Lib.hid (show (pa = none ∧ zn = 0) ∨ ∃ g, pa = some ⟨g, 0, none⟩ ∧ zn ≤ pc ∧ pc ≤ maxLen from by
    rcases h.par.row.2 with ⟨h1, h2⟩ | ⟨g, cap, cur, h1, hb, hg, hc, hmx, hs, ht⟩
    · cases h1; exact .inl ⟨rfl, rfl⟩
    · cases h1; exact .inr ⟨g, rfl, by rw [hzn]; exact hc, hmx⟩)
  have hpc0 : pa = none → pc = 0 := fun e => by
    subst e
    rcases h.par.row.2 with ⟨h1, h2⟩ | ⟨g, cap, cur, h1, -⟩
    · cases h1; rfl
    · cases h1
  have Hpb := Lib.hid (fun g hg => (h.par.row.lt g hg).2)
  have H0 := Lib.hid (h.nw ((Nw.refl w).alloc (.cells #[.int .i64 t, .int .i64 3, .int .i64 eb, .int .i64 0, .int .i64 0, .float .f32 f] 68 (0, 0))))
  have F0 := Lib.hid (Fr.nw (zs := zs) ((Nw.refl w).alloc (.cells #[.int .i64 t, .int .i64 3, .int .i64 eb, .int .i64 0, .int .i64 0, .float .f32 f] 68 (0, 0))))
  have E0 := Lib.hid (HasC.new w 68 (.int .i64 t) (.int .i64 3) (.int .i64 eb) (.int .i64 0) (.int .i64 0) (.float .f32 f))
  have Hzn := Lib.hid hzn
  have HF := Lib.hid hF
  have c10 := (H0.out.box.2 10 _ rfl).1
  have hqs := H0.out.box.1
  clear h hzn hF
  go_enter Tryz.func60, Tryz.ntmps60
  go_wp2_with fail
  clear c10 hqs
  obtain ⟨w4, hw4⟩ : ∃ w4, w4 = w.alloc (.cells #[.int .i64 t, .int .i64 3, .int .i64 eb, .int .i64 0, .int .i64 0, .float .f32 f] 68 (0, 0)) := ⟨_, rfl⟩
  rw [← hw4] at H0 E0 F0 ⊢
  clear hw4
  rcases Hrow.out with ⟨rfl, rfl⟩ | ⟨g, rfl, hc, hmx⟩
  · obtain rfl := hpc0 rfl
    have hz0 : zs = [] := List.eq_nil_of_length_eq_zero Hzn.out.symm
    subst hz0
    clear hpc0
    refine (deleteFunc_nil w.heap.size w4).mono ?_
    rintro e w5 ⟨rfl, n5⟩
    have H5 := Lib.hid (H0.out.nw n5)
    have F5 := Lib.hid ((F0.out.trans (Fr.nw n5)).trans (Fr.put (H0.out.plx.nw n5) 10 (.slice none 0 0)))
    clear n5
    have c10 := (H5.out.box.2 10 _ rfl).1
    have f10 := (H5.out.box.2 10 _ rfl).2
    go_wp2_with fail
    go_end0
    have h6 := H5.out.put HF.out 10 (.slice none 0 0) rfl
    rw [stop_eq]
    exact ⟨rfl, b, .slice none 0 0, [], by omega, by omega, rfl, h6, F5.out⟩
  · clear hpc0
    have hgw := Hpb.out g rfl
    unfold maxLen at hmx
    have hge := (H0.out.par.row.lt g rfl).1
    refine (deleteFunc_ok W1.heap.size g zn pc w.heap.size eb zs Hzn.out (by omega) hc w4 (by have o := H0.out.par.row; rw [← Hzn.out] at o; exact o) (E0.out.2 2 _ rfl).1 (by omega) H0.out.par.shapes).mono ?_
    rintro e w5 ⟨m, hm, rfl, o5, g5⟩
    have P5 := Lib.hid (H0.out.par.keep hm o5 g5)
    obtain ⟨b5, h5, x5⟩ := H0.out.parts HF.out g5 (fun g' hg' => by cases hg'; exact hge) P5.out
    have H5 := Lib.hid h5
    have F5 := Lib.hid ((F0.out.trans (Fr.grown (zs' := keepB eb zs) H0.out.par.row (by decide) g5 (fun z hz => ⟨z, (List.mem_filter.1 hz).1, rfl⟩))).trans (Fr.put x5 10 (.slice (some ⟨g, 0, none⟩) m pc)))
    clear h5 x5 o5 g5 P5 hm
    have c10 := (b5.2 10 _ rfl).1
    have f10 := (b5.2 10 _ rfl).2
    clear b5
    go_wp2_with fail
    go_end0
    rw [stop_eq]
    exact ⟨rfl, b, _, keepB eb zs, by omega, by omega, keep_eq eb zs, H5.out, F5.out⟩
end Go.Proofs.YtiakcibeobbonaaGreat

/- The events of a sample happen: takeEvents (FnShifted, FnCut).
   Conditions: those that each statement names. -/
namespace Go.Proofs.YtiakcibeobbonaaGreat
set_option linter.unusedSimpArgs false
set_option linter.unusedVariables false
open Go Go.RowKit

def evV' (e : Ev6) : Value := .agg #[.int .i64 e.t, .int .i64 e.k, .int .i64 e.b, .int .i64 e.s, .int .i64 e.m, .float .f32 e.f]
theorem take_ok {w0 W1 : World} {q bS L V C R : Nat} {bs : List (List M4)} {es : List Ev6} {sv ev eo : Value} {i d b env : Nat} {pv : Value} {zs : List (Prt × Loc)} {w : World} {B : Rat} (hF : PlF w0 W1 q bS L V C R bs es sv ev eo) (h : PlS W1 q L V C R sv ev eo i d b pv env zs w)
    (e : Ev6) (he : e.ok L bs.length) (hps : PsOk V B (zs.map Prod.fst)) (hb : b ≤ 1000) (e' : Value) (hev : e' = evV' e := by rfl) :
    Calls Tryz.prog 60 #[.pointer (some ⟨q, 0, none⟩), e'] w (TakeP W1 q L V C R sv ev eo i d b env zs w (takeE bs V (zs.map Prod.fst) e)) := by
  subst hev
  obtain ⟨t, k, eb, s, m, f⟩ := e
  obtain ⟨h1, h2⟩ := hps
  rw [List.length_map] at h1
  have hV := hF.sco.hV
  have he : EvOk L bs.length t k eb s m f := he
  obtain ⟨t0, t1, b0, b1, hk⟩ := he
  rcases hk with ⟨rfl, s0, s1, m0, m1, f0, f1⟩ | ⟨rfl, rfl, rfl, hf⟩ | ⟨rfl, rfl, rfl, rfl⟩
  · obtain ⟨p, rfl⟩ := Int.eq_ofNat_of_zero_le b0
    obtain ⟨s', rfl⟩ := Int.eq_ofNat_of_zero_le s0
    obtain ⟨m', rfl⟩ := Int.eq_ofNat_of_zero_le (show 0 ≤ m by omega)
    have hp : p < bs.length := by omega
    exact takeStrike_ok hF h t p s' m' f bs[p] (List.getElem?_eq_getElem hp) (by omega) (by omega) (by omega) (fun x hx => (force_mul x f (shapeP_mem s' m' (by omega) (by omega) x hx) f0 f1).1) hb h1 hV.1 hV.2
  · exact takeDamp_ok hF h t eb f hf (by omega) fun z hz m hm => (h2 z.1 (List.mem_map_of_mem hz)).ms m hm
  · exact takeStop_ok hF h t eb 0 (by omega)
/-- the events of a sample have happened -/
def EvsP (W1 : World) (q L V C R : Nat) (sv ev eo : Value) (i d env : Nat) (zs : List (Prt × Loc)) (w : World) (ps : List Prt) (e : Ending) (w' : World) : Prop :=
  e = .returned (.tuple #[]) ∧ ∃ b' pv' zs', b' ≤ d ∧ zs'.map Prod.fst = ps ∧ PlS W1 q L V C R sv ev eo i d b' pv' env zs' w' ∧ Fr zs zs' w w'
def doneOf (q : Nat) (w : World) : Nat := (intOf ((w.cell? ⟨q, 8, none⟩).getD (.int .i64 0))).toNat
set_option maxHeartbeats 6400000 in
set_option maxRecDepth 100000 in
theorem takeEvents_ok {w0 W1 : World} {q bS L V C R : Nat} {bs : List (List M4)} {es : List Ev6} {sv ev eo : Value} {i b0 env : Nat} {pv0 : Value} {zs0 : List (Prt × Loc)} {w : World} (hF : PlF w0 W1 q bS L V C R bs es sv ev eo) (h : PlS W1 q L V C R sv ev eo i (dAt (ordE es) i) b0 pv0 env zs0 w)
    (hi : i ≤ 70) (hb : b0 ≤ dAt (ordE es) i) (hz : zs0.map Prod.fst = preP bs V es i) :
    Calls Tryz.prog 34 #[.pointer (some ⟨q, 0, none⟩)] w (EvsP W1 q L V C R sv ev eo i (dAt (ordE es) (i + 1)) env zs0 w (tkP bs V es i)) := by
  have HF := Lib.hid hF
  obtain ⟨ea, ec, rfl⟩ := own_shape' hF.evs
  have he13 : (ordE es).length ≤ 13 := by rw [ordE_len]; exact hF.sco.he
  obtain ⟨ne, hne⟩ : ∃ ne, ne = (ordE es).length := ⟨_, rfl⟩
  rw [← hne] at he13 h HF ⊢
  have Hne := Lib.hid hne
  obtain ⟨d0, hd0⟩ : ∃ d0, d0 = dAt (ordE es) i := ⟨_, rfl⟩
  rw [← hd0] at h hb
  have hds : dAt (ordE es) (i + 1) = d0 + (evAt es i).length := by rw [dAt_succ, evAt_ord, hd0]
  have hdl : d0 + (evAt es i).length ≤ ne := by rw [← hds, hne]; exact dAt_le _ _
  have Now := Lib.hid (show ∀ k, k < (evAt es i).length → (ordE es)[d0 + k]? = (evAt es i)[k]? from fun k hk => by rw [hd0]; exact ord_now es i k hk)
  have Late := Lib.hid (show ∀ e, (ordE es)[d0 + (evAt es i).length]? = some e → e.t ≠ (i : Int) from fun e he => by rw [hd0] at he; exact ord_late es i e he)
  have Eok := Lib.hid (ord_mem es L bs.length hF.sco.eok)
  have Eok2 := Lib.hid hF.sco.eok
  have Pre := Lib.hid (pre_ok bs hF.sco.bok L V hF.sco.hV.1 es hF.sco.eok i hi)
  have Take := Lib.hid (fun k => takes_ok bs hF.sco.bok L V hF.sco.hV.1 (boxAt i) (boxAt_nonneg i) ((evAt es i).take k) (fun e he => hF.sco.eok e (List.mem_filter.1 (List.mem_of_mem_take he)).1) _ Pre.out)
  rw [hds]
  obtain ⟨m, hm⟩ : ∃ m, m = (evAt es i).length := ⟨_, rfl⟩
  rw [← hm] at hdl Now Late ⊢
  have Hm := Lib.hid hm
  have H := Lib.hid h
  have Hz := Lib.hid hz
  clear hF hne hd0 hds hm h hz
  go_enter Tryz.func34, Tryz.ntmps34
  go_wp2_with fail
  go_loopw [] (fun wr => ∃ (D k b : Nat) (pv : Value) (zs : List (Prt × Loc)), D = d0 + k ∧ k ≤ m ∧ b ≤ D ∧ zs.map Prod.fst = ((evAt es i).take k).foldl (takeE bs V) (preP bs V es i) ∧ PlS W1 q L V C R sv ev (.slice ea ne ec) i D b pv env zs wr ∧ Fr zs0 zs w wr) (fun wr => (d0 + m) - doneOf q wr)
  case atStart => exact ⟨d0, 0, b0, pv0, zs0, rfl, by omega, by omega, Hz.out, H.out, Fr.refl _ _⟩
  case round =>
    obtain ⟨D, k, b, pv, zs, hD, hk, hbk, hzk, hP, hFr⟩ := hrel
    have Fw := Lib.hid hFr
    clear hFr
    have Hd := Lib.hid hP
    have HD := Lib.hid hD
    have hD1 : d0 + k ≤ D ∧ D ≤ d0 + k := by omega
    have Hzk := Lib.hid hzk
    have hdone : doneOf q wr = D := by
      unfold doneOf
      rw [(hP.box.2 8 _ rfl).1]
      simp [intOf]
    clear hP hzk hD
    have c8 := (Hd.out.box.2 8 _ rfl).1
    have c6 := (Hd.out.box.2 6 _ rfl).1
    have c7 := (Hd.out.box.2 7 _ rfl).1
    have hqs := Hd.out.box.1
    by_cases hlt : D < ne
    · have hd1 : decide ((D : Int) < (ne : Int)) = true := by rw [decide_eq_true_iff]; omega
      obtain ⟨e, hek⟩ : ∃ e, (ordE es)[D]? = some e := ⟨(ordE es)[D]'(by rw [← Hne.out]; exact hlt), List.getElem?_eq_getElem _⟩
      have oe := HF.out.evr Hd.out.kp
      obtain ⟨g, cap, hv, hcap, hmax, hgs, x0, x1, x2, x3, x4, x5⟩ := own_event oe rfl hek
      rw [← Hne.out] at hv
      cases hv
      have He := Lib.hid (Eok.out e (List.mem_of_getElem? hek))
      by_cases hkm : k < m
      · have het : (evAt es i)[k]? = some e := by rw [← Now.out k hkm, ← HD.out]; exact hek
        have hti : e.t = (i : Int) := by
          have := (List.mem_filter.1 (List.mem_of_getElem? het)).2
          simpa using this
        have hd2 : (e.t == (i : Int)) = true := by rw [beq_iff_eq]; exact hti
        have Het := Lib.hid het
        have Hek := Lib.hid hek
        have Hps := Lib.hid (show PsOk V (boxAt i) (zs.map Prod.fst) from Hzk.out ▸ Take.out k)
        have hb1 : b ≤ 1000 := by omega
        clear het hti hek oe
        have KeepS := Lib.hid (show ∀ (W' : World) b' pv' zs', PlS W1 q L V C R sv ev (.slice (some ⟨g, 0, none⟩) ne ec) i D b' pv' env zs' W' → W'.cell? ⟨q, 6, none⟩ = some (.slice (some ⟨g, 0, none⟩) ne ec) ∧ W'.cell? ⟨q, 8, none⟩ = some (.int .i64 (D : Int)) ∧ W'.cell? ⟨g, D * 6, none⟩ = some (.int .i64 e.t) ∧ W'.cell? ⟨g, D * 6 + 1, none⟩ = some (.int .i64 e.k) ∧ W'.cell? ⟨g, D * 6 + 2, none⟩ = some (.int .i64 e.b) ∧ W'.cell? ⟨g, D * 6 + 3, none⟩ = some (.int .i64 e.s) ∧ W'.cell? ⟨g, D * 6 + 4, none⟩ = some (.int .i64 e.m) ∧ W'.cell? ⟨g, D * 6 + 5, none⟩ = some (.float .f32 e.f) from fun W' b' pv' zs' hP => by
          have oe := HF.out.evr hP.kp
          obtain ⟨g', cap', hv', -, -, -, x0, x1, x2, x3, x4, x5⟩ := own_event oe rfl Hek.out
          cases hv'
          exact ⟨(hP.box.2 6 _ rfl).1, (hP.box.2 8 _ rfl).1, x0, x1, x2, x3, x4, x5⟩)
        go_wp2_with fail
        go_quiet (fail)
        go_upto_region 1 with fail
        have Hd2 := Lib.hid (Hd.out.nw ((Nw.refl wr).draw (nq + 1)))
        clear c8 c6 c7 x0 x1 x2 x3 x4 x5 hd1 hd2
        refine wp_region_held_drew (S := fun W' => W'.cell? ⟨q, 6, none⟩ = some (.slice (some ⟨g, 0, none⟩) ne ec) ∧ W'.cell? ⟨q, 8, none⟩ = some (.int .i64 (D : Int)) ∧ W'.cell? ⟨g, D * 6, none⟩ = some (.int .i64 e.t) ∧ W'.cell? ⟨g, D * 6 + 1, none⟩ = some (.int .i64 e.k) ∧ W'.cell? ⟨g, D * 6 + 2, none⟩ = some (.int .i64 e.b) ∧ W'.cell? ⟨g, D * 6 + 3, none⟩ = some (.int .i64 e.s) ∧ W'.cell? ⟨g, D * 6 + 4, none⟩ = some (.int .i64 e.m) ∧ W'.cell? ⟨g, D * 6 + 5, none⟩ = some (.float .f32 e.f)) (by kernel_rfl) (KeepS.out _ _ _ _ Hd2.out) (fun hHeld => ?_)
        refine wpAnyH_take (i := 0) (oi := _) (v := ?_) rfl (by kernel_rfl) (by kernel_rfl) (by kernel_rfl) (fun _ _ _ h => h) (_root_.Or.inl ⟨by rfl, ?_⟩) (by assumption) ?_
        rotate_left
        · intro w hSw
          (try dsimp only at hSw)
          go_simp
          all_goals with_reducible rfl
        try simp only [List.getElem_toArray, List.getElem_cons_succ, List.getElem_cons_zero, Act.put, List.setIfInBounds_toArray, List.set_cons_zero, List.set_cons_succ]
        refine wpAnyH_take (i := 1) (oi := _) (v := ?_) rfl (by kernel_rfl) (by kernel_rfl) (by kernel_rfl) (fun _ _ _ h => h) (_root_.Or.inl ⟨by rfl, ?_⟩) (by assumption) ?_
        rotate_left
        · intro w hSw
          (try dsimp only at hSw)
          go_simp
          all_goals with_reducible rfl
        try simp only [List.getElem_toArray, List.getElem_cons_succ, List.getElem_cons_zero, Act.put, List.setIfInBounds_toArray, List.set_cons_zero, List.set_cons_succ]
        refine wpAnyH_take (i := 2) (oi := _) (v := ?_) rfl (by kernel_rfl) (by kernel_rfl) (by kernel_rfl) (fun _ _ _ h => h) (_root_.Or.inl ⟨by rfl, ?_⟩) (by assumption) ?_
        rotate_left
        · intro w hSw
          (try dsimp only at hSw)
          go_simp
          all_goals with_reducible rfl
        try simp only [List.getElem_toArray, List.getElem_cons_succ, List.getElem_cons_zero, Act.put, List.setIfInBounds_toArray, List.set_cons_zero, List.set_cons_succ]
        refine wpAnyH_take (i := 3) (oi := _) (v := ?_) rfl (by kernel_rfl) (by kernel_rfl) (by kernel_rfl) (fun _ _ _ h => h) (_root_.Or.inl ⟨by rfl, ?_⟩) (by assumption) ?_
        rotate_left
        · intro w hSw
          (try dsimp only at hSw)
          go_simp
          all_goals with_reducible rfl
        try simp only [List.getElem_toArray, List.getElem_cons_succ, List.getElem_cons_zero, Act.put, List.setIfInBounds_toArray, List.set_cons_zero, List.set_cons_succ]
        refine wpAnyH_take (i := 4) (oi := _) (v := ?_) rfl (by kernel_rfl) (by kernel_rfl) (by kernel_rfl) (fun _ _ _ h => h) (_root_.Or.inl ⟨by rfl, ?_⟩) (by assumption) ?_
        rotate_left
        · intro w hSw
          (try dsimp only at hSw)
          go_simp
          all_goals with_reducible rfl
        try simp only [List.getElem_toArray, List.getElem_cons_succ, List.getElem_cons_zero, Act.put, List.setIfInBounds_toArray, List.set_cons_zero, List.set_cons_succ]
        refine wpAnyH_take (i := 5) (oi := _) (v := ?_) rfl (by kernel_rfl) (by kernel_rfl) (by kernel_rfl) (fun _ _ _ h => h) (_root_.Or.inl ⟨by rfl, ?_⟩) (by assumption) ?_
        rotate_left
        · intro w hSw
          (try dsimp only at hSw)
          go_simp
          all_goals with_reducible rfl
        try simp only [List.getElem_toArray, List.getElem_cons_succ, List.getElem_cons_zero, Act.put, List.setIfInBounds_toArray, List.set_cons_zero, List.set_cons_succ]
        refine wpAnyH_take (i := 6) (oi := _) (v := ?_) rfl (by kernel_rfl) (by kernel_rfl) (by kernel_rfl) (fun _ _ _ h => h) (_root_.Or.inl ⟨by rfl, ?_⟩) (by assumption) ?_
        rotate_left
        · intro w hSw
          (try dsimp only at hSw)
          go_simp
          all_goals with_reducible rfl
        try simp only [List.getElem_toArray, List.getElem_cons_succ, List.getElem_cons_zero, Act.put, List.setIfInBounds_toArray, List.set_cons_zero, List.set_cons_succ]
        refine wpAnyH_take (i := 7) (oi := _) (v := ?_) rfl (by kernel_rfl) (by kernel_rfl) (by kernel_rfl) (fun _ _ _ h => h) (_root_.Or.inl ⟨by rfl, ?_⟩) (by assumption) ?_
        rotate_left
        · intro w hSw
          (try dsimp only at hSw)
          go_simp
          all_goals with_reducible rfl
        try simp only [List.getElem_toArray, List.getElem_cons_succ, List.getElem_cons_zero, Act.put, List.setIfInBounds_toArray, List.set_cons_zero, List.set_cons_succ]
        refine wpAnyH_take (i := 8) (oi := _) (v := ?_) rfl (by kernel_rfl) (by kernel_rfl) (by kernel_rfl) (fun _ _ _ h => h) (_root_.Or.inl ⟨by rfl, ?_⟩) (by assumption) ?_
        rotate_left
        · intro w hSw
          (try dsimp only at hSw)
          go_simp
          all_goals with_reducible rfl
        try simp only [List.getElem_toArray, List.getElem_cons_succ, List.getElem_cons_zero, Act.put, List.setIfInBounds_toArray, List.set_cons_zero, List.set_cons_succ]
        refine wpAnyH_take (i := 9) (oi := _) (v := ?_) rfl (by kernel_rfl) (by kernel_rfl) (by kernel_rfl) (fun _ _ _ h => h) (_root_.Or.inl ⟨by rfl, ?_⟩) (by assumption) ?_
        rotate_left
        · intro w hSw
          (try dsimp only at hSw)
          go_simp
          all_goals with_reducible rfl
        try simp only [List.getElem_toArray, List.getElem_cons_succ, List.getElem_cons_zero, Act.put, List.setIfInBounds_toArray, List.set_cons_zero, List.set_cons_succ]
        refine wpAnyH_take (i := 10) (oi := _) (v := ?_) rfl (by kernel_rfl) (by kernel_rfl) (by kernel_rfl) (fun _ _ _ h => h) (_root_.Or.inl ⟨by rfl, ?_⟩) (by assumption) ?_
        rotate_left
        · intro w hSw
          (try dsimp only at hSw)
          go_simp
          all_goals with_reducible rfl
        try simp only [List.getElem_toArray, List.getElem_cons_succ, List.getElem_cons_zero, Act.put, List.setIfInBounds_toArray, List.set_cons_zero, List.set_cons_succ]
        refine wpAnyH_ready (rs := [11]) (by kernel_rfl) (by simp) ?_
        refine AllReadyH.cons (o := _) rfl (fun K hK => ?_) AllReadyH.nil
        go_simp
        go_at_call 60
        refine (take_ok HF.out Hd2.out e He.out Hps.out hb1 _).mono ?_
        rintro en w5 ⟨rfl, b', pv', zs', k1, k2, k3, k4, k5⟩
        have P5 := Lib.hid k4
        have Z5 := Lib.hid k3
        have F5 := Lib.hid ((Fw.out.trans (Fr.nw ((Nw.refl wr).draw (nq + 1)))).trans k5)
        clear k3 k4 k5 hHeld
        go_wp2_with fail
        refine hK.out _ _ ?_ (fun hHeld => ?_)
        · exact KeepS.out _ _ _ _ P5.out
        clear hK K
        try simp only [List.getElem_toArray, List.getElem_cons_succ, List.getElem_cons_zero, Act.put, List.setIfInBounds_toArray, List.set_cons_zero, List.set_cons_succ]
        refine wpAnyH_done (by kernel_rfl) ?_ _
        clear hHeld
        have c8 := (P5.out.box.2 8 _ rfl).1
        have f8 := (P5.out.box.2 8 _ rfl).2
        have Fin := Lib.hid (P5.out.putd HF.out)
        have Ffin := Lib.hid (F5.out.trans (Fr.put P5.out.plx 8 (.int .i64 ((D : Int) + 1))))
        clear KeepS hqs
        go_wp2_with fail
        go_roundw
        case rel =>
          refine ⟨D + 1, k + 1, b', pv', zs', by omega, by omega, by omega, ?_, Fin.out, Ffin.out⟩
          rw [Z5.out, Hzk.out, List.take_add_one, Het.out, List.foldl_append]
          rfl
        case measure =>
          have hdone' : ∀ w6 : World, PlS W1 q L V C R sv ev (.slice (some ⟨g, 0, none⟩) ne ec) i (D + 1) b' pv' env zs' w6 → doneOf q w6 = D + 1 := fun w6 h6 => by
            unfold doneOf
            rw [(h6.box.2 8 _ rfl).1]
            simp [intOf]
          rw [hdone' _ Fin.out, hdone]
          omega
      · obtain rfl : k = m := by omega
        have hti : e.t ≠ (i : Int) := Late.out e (by rw [← HD.out]; exact hek)
        have hd2 : (e.t == (i : Int)) = false := by rw [beq_eq_false_iff_ne]; exact hti
        clear hti hek oe
        go_wp2_with fail
        go_quiet (fail)
        go_wp2_with fail
        go_end0
        refine ⟨rfl, b, pv, zs, by omega, ?_, ?_, Fw.out.trans (Fr.nw ((Nw.refl wr).draw nq))⟩
        · rw [Hzk.out, Hm.out, List.take_length]; rfl
        · rw [← HD.out]; exact Hd.out.nw ((Nw.refl wr).draw nq)
    · obtain rfl : k = m := by omega
      have hd1 : decide ((D : Int) < (ne : Int)) = false := by rw [decide_eq_false_iff_not]; omega
      go_wp2_with fail
      go_quiet (fail)
      go_wp2_with fail
      go_end0
      refine ⟨rfl, b, pv, zs, by omega, ?_, ?_, Fw.out.trans (Fr.nw ((Nw.refl wr).draw nq))⟩
      · rw [Hzk.out, Hm.out, List.take_length]; rfl
      · rw [← HD.out]; exact Hd.out.nw ((Nw.refl wr).draw nq)
end Go.Proofs.YtiakcibeobbonaaGreat

/- LimitNext as a plain function, but for the bits of NaN, and its walks, the program's and the model's.
   Conditions: those that each statement names. -/
namespace Go.Proofs.YtiakcibeobbonaaGreat
set_option linter.unusedSimpArgs false
set_option linter.unusedVariables false
open Go Go.RowKit

/-- the absolute value, but for the bits of NaN -/
def absA (x : Nat) : Option Nat := if nan32 x then none else some (x % 2147483648)
def gtA (a b : Option Nat) : Bool := match a, b with | some a, some b => FloatKind.f32.format.order a b == some .gt | _, _ => false
theorem gt_fab (a b : Nat) : (FloatKind.f32.format.order a b == some .gt) = gtA (fab .f32 a) (fab .f32 b) := by
  cases ha : (FloatKind.f32.decode a).isNaN with
  | true =>
    rw [fab_none ha]
    show _ = false
    unfold Ieee.Format.order
    unfold FloatKind.decode at ha
    cases hd : FloatKind.f32.format.read a <;> rw [hd] at ha <;> simp [Ieee.Datum.isNaN] at ha
    simp [Ieee.Datum.order]
  | false =>
    rw [fab_some ha]
    cases hb : (FloatKind.f32.decode b).isNaN with
    | true =>
      rw [fab_none hb]
      show _ = false
      unfold Ieee.Format.order
      unfold FloatKind.decode at hb
      cases hd : FloatKind.f32.format.read b <;> rw [hd] at hb <;> simp [Ieee.Datum.isNaN] at hb
      cases FloatKind.f32.format.read a <;> simp [Ieee.Datum.order]
    | false => rw [fab_some hb]; rfl

/-- the word of an absolute value -/
theorem read_mod {x : Nat} : FloatKind.f32.decode (x % 2147483648) = match FloatKind.f32.decode x with | .number _ m p => .number false m p | .infinity _ => .infinity false | .nan _ f => .nan false f := by
  have e : Ieee.single.signWeight = 2147483648 := by decide
  show Ieee.single.read _ = match Ieee.single.read x with | .number _ m p => _ | .infinity _ => _ | .nan _ f => _
  unfold Ieee.Format.read
  simp only [e]
  have h1 : x % 2147483648 / 2147483648 = 0 := Nat.div_eq_of_lt (Nat.mod_lt _ (by decide))
  have h2 : x % 2147483648 % 2147483648 = x % 2147483648 := Nat.mod_mod _ _
  rw [h1, h2]
  split
  · rfl
  · split
    · rfl
    · split <;> rfl
theorem tw_word {p b x : Nat} (h : Tw p b) (lp : p < 2 ^ 32) (hx : nan32 x = false) (hb : b = labs (wid x)) : p = x % 2147483648 := by
  have esw : 2 * Ieee.single.signWeight = 2 ^ 32 := by decide
  have hm := read_mod (x := x)
  have lm : x % 2147483648 < 2 * Ieee.single.signWeight := by
    have := Nat.mod_lt x (show 2147483648 > 0 by decide)
    rw [esw]; omega
  cases hd : Ieee.single.read x with
  | nan s f => unfold nan32 at hx; rw [show FloatKind.f32.decode x = _ from hd] at hx; cases hx
  | infinity s =>
    rw [show FloatKind.f32.decode x = _ from hd] at hm
    have k := labs_inf (wid_lt x) (wid_inf hd)
    rw [← hb] at k
    rcases h with ⟨m, i, n, j, h1, h2, h3⟩ | ⟨h1, h2⟩
    · rw [k] at h2; cases h2
    · exact (Flo.inf_word _ h1 (by omega)).trans (Flo.inf_word _ (show Ieee.single.read _ = _ from hm) lm).symm
  | number s m i =>
    rw [show FloatKind.f32.decode x = _ from hd] at hm
    obtain ⟨n, j, hw, he⟩ := wid_read hd
    obtain ⟨n', j', l1, l2⟩ := labs_read (wid_lt x) hw
    rw [← hb] at l1
    rcases h with ⟨m1, i1, n1, j1, h1, h2, h3⟩ | ⟨h1, h2⟩
    · rw [l1] at h2; cases h2
      exact Flo.read_inj _ h1 (show Ieee.single.read _ = _ from hm) (by omega) lm (by rw [h3, l2, he])
    · rw [l1] at h2; cases h2

theorem implAbs_any (x : Nat) (h32 : x < 2 ^ 32) (w : World) :
    Calls Tryz.prog 63 #[.float .f32 x] w fun e w' => (∃ p, e = .returned (.float .f32 p) ∧ fab .f32 p = absA x ∧ p < 2 ^ 32) ∧ Nw w w' := by
  cases hx : nan32 x with
  | true =>
    have lt := fun w => fcv_wf w .f32 x .f64 (show x < 2 ^ FloatKind.f32.format.width from h32)
    have hn := fun w => nan_wide hx w
    go_enter Tryz.func63, Tryz.ntmps63
    go_wp2_with (go_at_call 96; refine (abs_any _ _ (lt _)).mono ?_; rintro e w' ⟨rfl, rfl⟩)
    all_goals (go_ret; exact ⟨⟨_, rfl, by rw [fab_none (nan_abs (hn _) _)]; unfold absA; rw [hx]; rfl, fcv_wf _ .f64 _ .f32 (Nat.lt_of_le_of_lt (Nat.mod_le _ _) (lt _))⟩, ⟨rfl, rfl, rfl, Nat.le_refl _, fun _ _ _ => rfl⟩⟩)
  | false =>
    have a1 := fcv_wide hx
    have a2 := fcd_wide hx
    have a3 := (tw_abs hx w).2
    have lt := wid_lt x
    go_enter Tryz.func63, Tryz.ntmps63
    go_wp2_with (go_at_call 96; refine (abs_any _ _ lt).mono ?_; rintro e w' ⟨rfl, rfl⟩)
    all_goals
      go_ret
      have l32 := fcv_wf w .f64 (wid x % signBit) .f32 (Nat.lt_of_le_of_lt (Nat.mod_le _ _) lt)
      refine ⟨⟨_, rfl, ?_, l32⟩, ⟨rfl, rfl, rfl, Nat.le_refl _, fun _ _ _ => rfl⟩⟩
      rw [fab_some (tw_abs hx w).1.nan.1]
      unfold absA
      rw [hx, tw_word (tw_abs hx w).1 l32 hx rfl]; rfl

/-- what the model narrows the absolute value to -/
theorem spec_abs (x : Nat) (h32 : x < 2 ^ 32) (w1 w2 : World) : fab .f32 (fcv w2 .f64 (labs (fcv w1 .f32 x .f64)) .f32) = absA x := by
  cases hx : nan32 x with
  | true =>
    have hn := nan_wide hx w1
    rw [nan_labs hn]
    unfold absA; rw [hx]
    refine fab_none ?_
    unfold nan64 at hn
    generalize fcv w1 .f32 x .f64 = z at hn ⊢
    cases hd : FloatKind.f64.decode z with
    | number s m p => rw [hd] at hn; cases hn
    | infinity s => rw [hd] at hn; cases hn
    | nan s f =>
      unfold fcv
      rw [if_neg (by decide), hd]
      exact nan_conv _ _ _
  | false =>
    rw [fcv_wide hx]
    have ht := (tw_abs hx w2).1
    have hl : labs (wid x) < 2 ^ 64 := by
      have := wid_lt x
      unfold labs
      split
      · unfold Op.negFloat
        exact Nat.xor_lt_two_pow this (by decide)
      · split
        · decide
        · exact this
    have l32 := fcv_wf w2 .f64 (labs (wid x)) .f32 hl
    have h2 : Tw (fcv w2 .f64 (labs (wid x)) .f32) (labs (wid x)) := by
      rcases ht with ⟨m, i, n, j, h1, h2, h3⟩ | ⟨h1, h2⟩
      · exact (tw_narrow h1 h2 h3.symm w2).1
      · exact (tw_narrow_inf h2 w2).1
    rw [fab_some h2.nan.1]
    unfold absA
    rw [hx, tw_word h2 l32 hx rfl]; rfl

/-! ### the step -/
def limE (e : Option Nat) (x r : Nat) : Option Nat := if gtA (absA x) (fA .mul .f32 e (fab .f32 r)) then absA x else fA .mul .f32 e (fab .f32 r)
def limY (e : Option Nat) (x c r : Nat) : Option Nat := if gtA (limE e x r) (fab .f32 c) then fA .quo .f32 (fA .mul .f32 (fab .f32 x) (fab .f32 c)) (limE e x r) else fab .f32 x
def LimNP (e x c r : Nat) (w : World) (en : Ending) (w' : World) : Prop :=
  ∃ y d, en = .returned (.tuple #[.float .f32 y, .float .f32 d]) ∧ fab .f32 y = limY (fab .f32 e) x c r ∧ fab .f32 d = limE (fab .f32 e) x r ∧ y < 2 ^ 32 ∧ d < 2 ^ 32 ∧ Nw w w'

set_option maxHeartbeats 1600000 in
theorem implLimit_ok (e x c r : Nat) (h32 : x < 2 ^ 32) (w : World) :
    Calls Tryz.prog 36 #[.float .f32 e, .float .f32 x, .float .f32 c, .float .f32 r] w (LimNP e x c r w) := by
  have hm : ∀ w, fab .f32 (fres w .mul .f32 e r) = fA .mul .f32 (fab .f32 e) (fab .f32 r) := fun w => fab_fres w .mul .f32 e r
  have Hm := Lib.hid hm
  clear hm
  have lm := Lib.hid (fun w => fres_wf w .mul .f32 e r)
  have lq := Lib.hid (fun w y z => fres_wf w .quo .f32 y z)
  go_enter Tryz.func36, Tryz.ntmps36
  go_wp2_with fail
  refine (implAbs_any x h32 _).mono ?_
  rintro en w1 ⟨⟨p, rfl, hp, lp⟩, n1⟩
  have N1 := Lib.hid (((Nw.refl w).draw _).trans n1)
  clear n1
  cases h1 : gtA (absA x) (fA .mul .f32 (fab .f32 e) (fab .f32 r)) with
  | true =>
    have hE : limE (fab .f32 e) x r = absA x := by unfold limE; rw [h1]; rfl
    have g1 : ∀ w, (FloatKind.f32.format.order p (fres w .mul .f32 e r) == some .gt) = true := fun w => by rw [gt_fab, hp, Hm.out, h1]
    cases h2 : gtA (absA x) (fab .f32 c) with
    | true =>
      have g2 : (FloatKind.f32.format.order p c == some .gt) = true := by rw [gt_fab, hp, h2]
      have hY : limY (fab .f32 e) x c r = fA .quo .f32 (fA .mul .f32 (fab .f32 x) (fab .f32 c)) (absA x) := by unfold limY; rw [hE, h2]; rfl
      have Hp := Lib.hid hp
      have HY := Lib.hid (And.intro hE hY)
      clear hp h1 h2 hE hY
      go_wp2_with fail
      all_goals
        go_ret2
        exact ⟨_, _, rfl, by rw [HY.out.2, fab_fres, fab_fres, Hp.out], by rw [HY.out.1, Hp.out], lq.out _ _ _, lp, N1.out.trans ⟨rfl, rfl, rfl, Nat.le_refl _, fun _ _ _ => rfl⟩⟩
    | false =>
      have g2 : (FloatKind.f32.format.order p c == some .gt) = false := by rw [gt_fab, hp, h2]
      have hY : limY (fab .f32 e) x c r = fab .f32 x := by unfold limY; rw [hE, h2]; rfl
      have Hp := Lib.hid hp
      have HY := Lib.hid (And.intro hE hY)
      clear hp h1 h2 hE hY
      go_wp2_with fail
      all_goals
        go_ret2
        exact ⟨_, _, rfl, by rw [HY.out.2], by rw [HY.out.1, Hp.out], h32, lp, N1.out.trans ⟨rfl, rfl, rfl, Nat.le_refl _, fun _ _ _ => rfl⟩⟩
  | false =>
    have hE : limE (fab .f32 e) x r = fA .mul .f32 (fab .f32 e) (fab .f32 r) := by unfold limE; rw [h1]; rfl
    have g1 : ∀ w, (FloatKind.f32.format.order p (fres w .mul .f32 e r) == some .gt) = false := fun w => by rw [gt_fab, hp, Hm.out, h1]
    cases h2 : gtA (fA .mul .f32 (fab .f32 e) (fab .f32 r)) (fab .f32 c) with
    | true =>
      have g2 : ∀ w, (FloatKind.f32.format.order (fres w .mul .f32 e r) c == some .gt) = true := fun w => by rw [gt_fab, Hm.out, h2]
      have hY : limY (fab .f32 e) x c r = fA .quo .f32 (fA .mul .f32 (fab .f32 x) (fab .f32 c)) (fA .mul .f32 (fab .f32 e) (fab .f32 r)) := by unfold limY; rw [hE, h2]; rfl
      have Hp := Lib.hid hp
      have HY := Lib.hid (And.intro hE hY)
      clear hp h1 h2 hE hY
      go_wp2_with fail
      all_goals
        go_ret2
        exact ⟨_, _, rfl, by rw [HY.out.2, fab_fres, fab_fres, Hm.out], by rw [HY.out.1, Hm.out], lq.out _ _ _, lm.out _, N1.out.trans ⟨rfl, rfl, rfl, Nat.le_refl _, fun _ _ _ => rfl⟩⟩
    | false =>
      have g2 : ∀ w, (FloatKind.f32.format.order (fres w .mul .f32 e r) c == some .gt) = false := fun w => by rw [gt_fab, Hm.out, h2]
      have hY : limY (fab .f32 e) x c r = fab .f32 x := by unfold limY; rw [hE, h2]; rfl
      have Hp := Lib.hid hp
      have HY := Lib.hid (And.intro hE hY)
      clear hp h1 h2 hE hY
      go_wp2_with fail
      all_goals
        go_ret2
        exact ⟨_, _, rfl, by rw [HY.out.2], by rw [HY.out.1, Hm.out], h32, lm.out _, N1.out.trans ⟨rfl, rfl, rfl, Nat.le_refl _, fun _ _ _ => rfl⟩⟩

theorem labs_lt {z : Nat} (h : z < 2 ^ 64) : labs z < 2 ^ 64 := by
  unfold labs
  split
  · unfold Op.negFloat
    exact Nat.xor_lt_two_pow h (by decide)
  · split
    · decide
    · exact h

end Go.Proofs.YtiakcibeobbonaaGreat

/- A player plays: play (FnShifted, FnCut).
   Conditions: those that each statement names. -/
namespace Go.Proofs.YtiakcibeobbonaaGreat
set_option linter.unusedSimpArgs false
set_option linter.unusedVariables false
open Go Go.RowKit

theorem opB_lt (o : BinOp) (x y : Nat) : opB o .f32 x y < 2 ^ 32 := by
  unfold opB
  cases h : floatBits o .f32 x y with
  | none => decide
  | some r => have := floatBits_wf h; simpa [Lit.wf] using this
theorem sumP_lt (ps : List Prt) : sumP ps < 2 ^ 32 := by
  unfold sumP
  have : ∀ (ps : List Prt) (x : Nat), x < 2 ^ 32 → ps.foldl (fun x p => opB .add .f32 x p.out) x < 2 ^ 32 := by
    intro ps
    induction ps with
    | nil => intro x h; exact h
    | cons p l ih => intro x _; exact ih _ (opB_lt _ _ _)
  exact this ps 0 (by decide)
section
variable (bs : List (List M4)) (V : Nat) (es : List Ev6) (C R i0 : Nat) (e0 : Option Nat)
/-- the envelope after k samples, and the sample behind them, but for the bits of NaN -/
def eAt : Nat → Option Nat
  | 0 => e0
  | k + 1 => limE (eAt k) (sumAt bs V es (i0 + k)) R
def yAt (k : Nat) : Option Nat := limY (eAt bs V es R i0 e0 k) (sumAt bs V es (i0 + k)) C R
end
/-- the first k samples -/
def GoodA (f : Nat → Option Nat) (k : Nat) (ys : List Nat) : Prop := ys.length = k ∧ ∀ (j : Nat) y, ys[j]? = some y → fab .f32 y = f j ∧ y < 2 ^ 32
theorem GoodA.nil (f : Nat → Option Nat) : GoodA f 0 [] := ⟨rfl, fun j y h => by simp at h⟩
theorem GoodA.snoc {f : Nat → Option Nat} {ys : List Nat} {k y : Nat} (h : GoodA f k ys) (hy : fab .f32 y = f k) (hl : y < 2 ^ 32) : GoodA f (k + 1) (ys ++ [y]) := by
  refine ⟨by rw [List.length_append, h.1]; rfl, fun j z hz => ?_⟩
  by_cases hj : j < k
  · rw [List.getElem?_append_left (by rw [h.1]; exact hj)] at hz
    exact h.2 j z hz
  · rw [List.getElem?_append_right (by rw [h.1]; omega)] at hz
    have hb := (List.getElem?_eq_some_iff.1 hz).1
    simp at hb
    have e : j = k := by rw [h.1] at hb; omega
    subst e
    rw [h.1, Nat.sub_self] at hz
    simp at hz
    subst hz
    exact ⟨hy, hl⟩
theorem set_fill (ys : List Nat) (n k y : Nat) (hl : ys.length = k) (h : k < n) : (cellsS (ys ++ List.replicate (n - k) 0)).set k (.float .f32 y) = cellsS ((ys ++ [y]) ++ List.replicate (n - (k + 1)) 0) := by
  rw [show n - k = (n - (k + 1)) + 1 from by omega, List.replicate_succ]
  simp only [cellsS, List.map_append, List.map_cons, List.map_nil, List.append_assoc, List.singleton_append]
  rw [List.set_append_right _ _ (by simp; omega)]
  simp [hl]
theorem cell_fill (ys : List Nat) (n k : Nat) (hl : ys.length = k) (h : k < n) : (cellsS (ys ++ List.replicate (n - k) 0))[k]? = some (.float .f32 0) := by
  unfold cellsS
  rw [List.getElem?_map, List.getElem?_append_right (by omega)]
  simp [List.getElem?_replicate, hl]
  omega

/-! ### the voices step, one after another -/
/-- a voice has taken its step: what is beside -/
theorem PlS.step {w0 W1 : World} {q bS L V C R : Nat} {bs : List (List M4)} {es : List Ev6} {sv ev eo : Value} {i d b env g cap k : Nat} {vi : Value} {zs : List (Prt × Loc)} {p : Prt} {l : Loc} {w w1 w' : World} (hF : PlF w0 W1 q bS L V C R bs es sv ev eo)
    (h : PlS W1 q L V C R sv ev eo i d b (.slice (some ⟨g, 0, none⟩) zs.length cap) env zs w) (hk : zs[k]? = some (p, l)) (hg : w.grownBy w1 (some l.g)) (hs : w1.ownsRow W1.heap.size 91 1 (.slice (some ⟨l.g, 0, none⟩) p.ms.length p.ms.length) p.ms.length (cellsC p.next.st))
    (hv : View w1 W1.heap.size vi p.next.xs) (ho : vi.ownBlock = l.vi.ownBlock) (hn : Nw (w1.setCell ⟨g, k * 5 + 3, none⟩ vi) w') :
    PlS W1 q L V C R sv ev eo i d b (.slice (some ⟨g, 0, none⟩) zs.length cap) env (zs.set k (p.next, { l with vi := vi })) w' ∧ Fr zs (zs.set k (p.next, { l with vi := vi })) w w' := by
  have hz := h.par.ins _ (List.mem_of_getElem? hk)
  have hgl := hz.st.lt l.g rfl
  have hgg := h.par.row.lt g rfl
  have r1 : w1.ownsRow W1.heap.size 84 5 (.slice (some ⟨g, 0, none⟩) zs.length cap) zs.length (cellsP zs) := h.par.row.kept hg (rows_apart h.par.row hz.st (by decide))
  obtain ⟨s1, s2⟩ := r1.stored (k * 5 + 3) vi
  have hq1 := hF.hq1
  have kp1 := h.kp.grown hg (fun g' e => by cases e; exact hgl.1)
  have kp2 := kp1.grown s2 (fun g' e => by cases e; exact hgg.1)
  have b1 := h.box.grown hg (fun e => by cases e; omega)
  have b2 := b1.grown s2 (fun e => by cases e; omega)
  have x1 := h.plx.of (hg.block q h.box.1 (fun e => by cases e; omega))
  have x2 := x1.of (s2.block q b1.1 (fun e => by cases e; omega))
  refine ⟨⟨kp2.nwk hn, b2.nw hn, h.par.step hk hg hs hv hn, x2.nw hn⟩, ?_⟩
  have hset : ∀ z ∈ zs.set k (p.next, { l with vi := vi }), ∃ z0 ∈ zs, z0.2.vi.ownBlock = z.2.vi.ownBlock := fun z hz' => by
    rcases List.mem_or_eq_of_mem_set hz' with h1 | h1
    · exact ⟨z, h1, rfl⟩
    · subst h1; exact ⟨(p, l), List.mem_of_getElem? hk, ho.symm⟩
  refine ⟨Nat.le_trans (Nat.le_trans hg.size s2.size) hn.size, fun b v n xs hr => ?_, fun g' hg' h0 z hz' => by obtain ⟨z0, a, e⟩ := hset z hz'; rw [← e]; exact h0 z0 a⟩
  have r2 := hr.kept hg (rows_apart hr hz.st (by decide))
  exact own_nw (r2.kept s2 (rows_apart r2 r1 (by decide))) hn

/-- the first j of the voices have taken their step -/
def stepB (zs : List (Prt × Loc)) (j : Nat) (zs' : List (Prt × Loc)) : Prop := zs'.map Prod.fst = ((zs.map Prod.fst).take j).map Prt.next ++ (zs.map Prod.fst).drop j
theorem stepB_len {zs zs' : List (Prt × Loc)} {j : Nat} (h : stepB zs j zs') : zs'.length = zs.length := by
  have := congrArg List.length h
  simp at this
  omega
theorem stepB_at {zs zs' : List (Prt × Loc)} {j : Nat} {p : Prt} {l : Loc} (h : stepB zs j zs') (hj : j < zs.length) (hk : zs'[j]? = some (p, l)) : (zs.map Prod.fst)[j]? = some p := by
  have := congrArg (fun l => l[j]?) h
  simp only [List.getElem?_map, hk] at this
  rw [List.getElem?_append_right (by simp; omega)] at this
  simp only [List.length_map, List.length_take, Nat.min_eq_left (Nat.le_of_lt hj), Nat.sub_self, List.getElem?_drop, Nat.add_zero] at this
  simpa using this.symm
theorem stepB_next {zs zs' : List (Prt × Loc)} {j : Nat} {p : Prt} {l l' : Loc} (h : stepB zs j zs') (hj : j < zs.length) (hk : zs'[j]? = some (p, l)) : stepB zs (j + 1) (zs'.set j (p.next, l')) := by
  have hp := stepB_at h hj hk
  obtain ⟨hj', he⟩ := List.getElem?_eq_some_iff.1 hp
  unfold stepB at h ⊢
  rw [List.map_set, h, List.take_succ_eq_append_getElem hj', he, List.map_append, List.drop_eq_getElem_cons hj', he, List.set_append_right _ _ (by simp; omega)]
  simp [Nat.min_eq_left (Nat.le_of_lt hj)]
theorem sumP_snoc (ps : List Prt) (j : Nat) (p : Prt) (h : ps[j]? = some p) : sumP (ps.take (j + 1)) = opB .add .f32 (sumP (ps.take j)) p.out := by
  unfold sumP
  rw [List.take_add_one, h, List.foldl_append]
  rfl

def PlayP (W1 : World) (q L V C R : Nat) (sv ev eo : Value) (bs : List (List M4)) (es : List Ev6) (i0 n env0 : Nat) (zs0 : List (Prt × Loc)) (w : World) (e : Ending) (w' : World) : Prop :=
  ∃ (g : Nat) (ys : List Nat), e = .returned (.slice (some ⟨g, 0, none⟩) n n) ∧ w'.ownsRow w.heap.size 23 1 (.slice (some ⟨g, 0, none⟩) n n) n (cellsS ys) ∧ GoodA (yAt bs V es C R i0 (fab .f32 env0)) n ys ∧
    ∃ b' pv' env' zs', b' ≤ dAt (ordE es) (i0 + n) ∧ PlS W1 q L V C R sv ev eo (i0 + n) (dAt (ordE es) (i0 + n)) b' pv' env' zs' w' ∧ fab .f32 env' = eAt bs V es R i0 (fab .f32 env0) n ∧ zs'.map Prod.fst = preP bs V es (i0 + n) ∧ Fr zs0 zs' w w'
/-- a sample is stored beside the player -/
theorem PlS.side {w0 W1 : World} {q bS L V C R : Nat} {bs : List (List M4)} {es : List Ev6} {sv ev eo : Value} {i d b env gs n bb : Nat} {pv : Value} {xs : List Value} {zs : List (Prt × Loc)} {w : World} (hF : PlF w0 W1 q bS L V C R bs es sv ev eo)
    (h : PlS W1 q L V C R sv ev eo i d b pv env zs w) (ho : w.ownsRow bb 23 1 (.slice (some ⟨gs, 0, none⟩) n n) n xs) (ha : ∀ z ∈ zs, z.2.vi.ownBlock ≠ some gs) (hgs : W1.heap.size ≤ gs) (j : Nat) (u : Value) : PlS W1 q L V C R sv ev eo i d b pv env zs (w.setCell ⟨gs, j, none⟩ u) := by
  obtain ⟨s1, s2⟩ := ho.stored j u
  have hq1 := hF.hq1
  refine ⟨h.kp.grown s2 (fun g e => by cases e; exact hgs), h.box.grown s2 (fun e => by cases e; omega), ⟨h.par.row.kept s2 (rows_apart h.par.row ho (by decide)), fun z hz => ?_, h.par.apt⟩, h.plx.of (s2.block q h.box.1 (fun e => by cases e; omega))⟩
  have hi := h.par.ins z hz
  exact ⟨hi.ms.kept s2 (rows_apart hi.ms ho (by decide)), hi.st.kept s2 (rows_apart hi.st ho (by decide)), hi.xs.of fun k e => s2.block k (hi.xs.lt k e).2 (fun e2 => ha z hz (by rw [e, ← e2]))⟩
theorem Fr.setg {zs zs' : List (Prt × Loc)} {w w' : World} {gs : Nat} (h : Fr zs zs' w w') (hg : w.heap.size ≤ gs) (j : Nat) (u : Value) : Fr zs zs' w (w'.setCell ⟨gs, j, none⟩ u) :=
  ⟨by rw [World.size_setCell]; exact h.1, fun b v n xs ho => (h.2.1 b v n xs ho).kept (row := some gs) ((Kp.refl gs w').set j u) (by
    cases hv : v.ownBlock with
    | none => exact .inl rfl
    | some g => exact .inr (by rw [ne_eq, Option.some.injEq]; intro e; have := (ho.lt g hv).2; omega)), h.2.2⟩

set_option maxHeartbeats 12800000 in
set_option maxRecDepth 100000 in
theorem play_ok {w0 W1 : World} {q bS L V C R : Nat} {bs : List (List M4)} {es : List Ev6} {sv ev eo : Value} {i0 b0 env0 : Nat} {pv0 : Value} {zs0 : List (Prt × Loc)} {w : World} (hF : PlF w0 W1 q bS L V C R bs es sv ev eo) (h : PlS W1 q L V C R sv ev eo i0 (dAt (ordE es) i0) b0 pv0 env0 zs0 w)
    (n : Nat) (hin : i0 + n ≤ 70) (hb : b0 ≤ dAt (ordE es) i0) (hz : zs0.map Prod.fst = preP bs V es i0) :
    Calls Tryz.prog 16 #[.pointer (some ⟨q, 0, none⟩), .int .i64 (n : Int)] w (PlayP W1 q L V C R sv ev eo bs es i0 n env0 zs0 w) := by
  obtain ⟨f0, hf0, hfz0, hfz1, hfz2⟩ := info_parts info_f32
  have HF := Lib.hid hF
  have H := Lib.hid h
  have Hgs := Lib.hid (show W1.heap.size ≤ w.heap.size from h.kp.size)
  have A0 := Lib.hid (show ∀ z ∈ zs0, z.2.vi.ownBlock ≠ some w.heap.size from fun z hz e => by have := ((h.par.ins z hz).xs.lt _ e).2; omega)
  have hqw := h.box.1
  have Tk := Lib.hid (fun i hi => tk_ok bs hF.sco.bok L V hF.sco.hV.1 es hF.sco.eok i hi)
  have hV4 := hF.sco.hV.2
  have Hz := Lib.hid hz
  have Hb := Lib.hid hb
  clear hF h hz hb
  go_enter Tryz.func16, Tryz.ntmps16
  go_wp2_with (at_make; refine wpList_make_full _ rfl _ _ 35 rfl w.heap.size 23 f0 (.float .f32 0) 1 Tryz.underlying35 hf0 hfz0 hfz1 _ _ _ _ n rfl rfl rfl rfl (by rw [hfz2]; omega) (by unfold maxLen; omega) (Nat.le_refl _) ?_)
  intro w3 hown3 hgrow3
  have O3 := Lib.hid (show w3.ownsRow w.heap.size 23 1 (.slice (some ⟨w.heap.size, 0, none⟩) n n) n (cellsS ([] ++ List.replicate (n - 0) 0)) from by
    rw [toList_madeCells_one] at hown3
    simpa [cellsS] using hown3)
  have N3 := Lib.hid (show Nw w w3 from hgrow3)
  have Sz3 := Lib.hid (hown3.lt w.heap.size rfl).2
  clear hown3 hgrow3
  go_wp2_with fail
  go_loopw [13] (fun c wr => ∃ (k D b : Nat) (pv : Value) (env : Nat) (zs : List (Prt × Loc)) (ys : List Nat), k ≤ n ∧ D = i0 + k ∧ c = .int .i64 (k : Int) ∧ b ≤ dAt (ordE es) D ∧ PlS W1 q L V C R sv ev eo D (dAt (ordE es) D) b pv env zs wr ∧ zs.map Prod.fst = preP bs V es D ∧ fab .f32 env = eAt bs V es R i0 (fab .f32 env0) k ∧
    GoodA (yAt bs V es C R i0 (fab .f32 env0)) k ys ∧ wr.ownsRow w.heap.size 23 1 (.slice (some ⟨w.heap.size, 0, none⟩) n n) n (cellsS (ys ++ List.replicate (n - k) 0)) ∧ (∀ z ∈ zs, z.2.vi.ownBlock ≠ some w.heap.size) ∧ w.heap.size < wr.heap.size ∧ Fr zs0 zs w wr) (fun c _ => n - (intOf c).toNat)
  case atStart => exact ⟨0, i0, b0, pv0, env0, zs0, [], by omega, rfl, rfl, Hb.out, H.out.nw N3.out, Hz.out, rfl, GoodA.nil _, O3.out, A0.out, Sz3.out, Fr.nw N3.out⟩
  case round =>
    obtain ⟨k, D, b, pv, env, zs, ys, hk, hD, rfl, hb, hP, hz, he, hys, ho, ha, hsz, hfr⟩ := hrel
    have HD := Lib.hid hD
    have hD1 : i0 + k ≤ D ∧ D ≤ i0 + k := by omega
    have Hd := Lib.hid hP
    have Hbd := Lib.hid hb
    have Hzd := Lib.hid hz
    have He := Lib.hid he
    have Hys := Lib.hid hys
    have Ow := Lib.hid ho
    have Aw := Lib.hid ha
    have Szw := Lib.hid hsz
    have Fw := Lib.hid hfr
    clear hD hb hP hz he hys ho ha hsz hfr
    by_cases hlt : k < n
    · go_wp2_with fail
      refine (takeEvents_ok HF.out Hd.out (by omega) Hbd.out Hzd.out).mono ?_
      rintro e w5 ⟨rfl, b', pv', zs', hb', hz', hP', hFr'⟩
      obtain ⟨pa, pc, rfl⟩ := own_shape' hP'.par.row
      obtain ⟨m, hm⟩ : ∃ m, m = zs'.length := ⟨_, rfl⟩
      rw [← hm] at hP'
      have Hm := Lib.hid hm
      have P5 := Lib.hid hP'
      have Z5 := Lib.hid hz'
      have B5 := Lib.hid hb'
      have O5 := Lib.hid (hFr'.2.1 _ _ _ _ Ow.out)
      have A5 := Lib.hid (hFr'.2.2 _ Szw.out Aw.out)
      have F5 := Lib.hid (Fw.out.trans hFr')
      have Sz5 := Lib.hid (Nat.lt_of_lt_of_le Szw.out hFr'.1)
      have hps := Tk.out D (by omega)
      have hm4 : m ≤ 4 := by have := hps.1; rw [← hz', List.length_map] at this; omega
      have Hps := Lib.hid hps
      clear hm hP' hz' hb' hFr' hps Hd Ow Aw Fw
      have c10 := (P5.out.box.2 10 _ rfl).1
      have hq5 := P5.out.box.1
      go_wp2_with fail
      clear c10 hq5
      go_loopw [7, 23] (fun x c wr2 => ∃ (j X : Nat) (zs2 : List (Prt × Loc)), j ≤ m ∧ X = sumP ((tkP bs V es D).take j) ∧ x = .float .f32 X ∧ c = .int .i64 (j : Int) ∧ stepB zs' j zs2 ∧ PlS W1 q L V C R sv ev eo D (dAt (ordE es) (D + 1)) b' (.slice pa m pc) env zs2 wr2 ∧
        wr2.ownsRow w.heap.size 23 1 (.slice (some ⟨w.heap.size, 0, none⟩) n n) n (cellsS (ys ++ List.replicate (n - k) 0)) ∧ (∀ z ∈ zs2, z.2.vi.ownBlock ≠ some w.heap.size) ∧ w.heap.size < wr2.heap.size ∧ Fr zs0 zs2 w wr2) (fun _ c _ => m - (intOf c).toNat)
      case atStart => exact ⟨0, 0, zs', by omega, rfl, rfl, rfl, by simp [stepB], P5.out, O5.out, A5.out, Sz5.out, F5.out⟩
      case round =>
        obtain ⟨j, X, zs2, hj, hX, rfl, rfl, hst, hP, ho, ha, hsz, hfr⟩ := hrel
        have HX := Lib.hid hX
        clear hX
        have P7 := Lib.hid hP
        have S7 := Lib.hid hst
        have O7 := Lib.hid ho
        have A7 := Lib.hid ha
        have Sz7 := Lib.hid hsz
        have F7 := Lib.hid hfr
        have hz2 : zs2.length = m := by rw [stepB_len hst, Hm.out]
        clear hP hst ho ha hsz hfr
        by_cases hjm : j < m
        · obtain ⟨⟨p, l⟩, hzj⟩ : ∃ z, zs2[j]? = some z := ⟨zs2[j]'(by rw [hz2]; exact hjm), List.getElem?_eq_getElem _⟩
          obtain ⟨g, rfl, hpc, hpm⟩ : ∃ g, pa = some ⟨g, 0, none⟩ ∧ m ≤ pc ∧ pc ≤ maxLen := by
            rcases P7.out.par.row.2 with ⟨h1, h2⟩ | ⟨g, cap, cur, h1, hb, hg, hc, hmx, hs, ht⟩
            · omega
            · cases h1; exact ⟨g, rfl, by omega, hmx⟩
          have hpt := stepB_at S7.out (by rw [← Hm.out]; exact hjm) hzj
          rw [Z5.out] at hpt
          have hX0 : (0 : Rat) ≤ 2097152 := by grind
          have l2 : Flo.pw 40 ≤ Flo.pw 104 := Flo.pw_le (by omega)
          rw [show Flo.pw 40 = 1099511627776 from Flo.pw_nat 40] at l2
          have hX2 : (4096 : Rat) * 2097152 + 1 ≤ Flo.pw 104 := by grind
          have pok := Hps.out.2 p (List.mem_of_getElem? hpt)
          obtain ⟨q1, q2, q3, q4, q5⟩ := pok.step hX0 (boxAt_nonneg D) (boxAt_le D (by omega)) hX2
          have cl := (sumP_ok (tkP bs V es D) (fun p hp => ((Hps.out.2 p hp).step hX0 (boxAt_nonneg D) (boxAt_le D (by omega)) hX2).2.2.2) (by have := Hps.out.1; omega) (tkP bs V es D).length (Nat.le_refl _)).2.2 j p (List.getElem?_eq_some_iff.1 hpt).1 hpt
          have r1 : ∀ w, fres w .add .f32 X (outS (stepAll p.ms p.st (inputOf p.xs 0))) = sumP ((tkP bs V es D).take (j + 1)) := fun w => by rw [sumP_snoc _ _ _ hpt, HX.out]; exact cl.res w
          have d1 : fdr .add .f32 X (outS (stepAll p.ms p.st (inputOf p.xs 0))) = 0 := by rw [HX.out]; exact cl.fdr
          have Row := Lib.hid (show wr.ownsRow W1.heap.size 84 5 (.slice (some ⟨g, 0, none⟩) m pc) m (cellsP zs2) from by have o := P7.out.par.row; rw [hz2] at o; exact o)
          have Q := Lib.hid (And.intro q1 q2)
          have Pok := Lib.hid pok
          have Hzj := Lib.hid hzj
          have Hzi := Lib.hid (P7.out.par.ins (p, l) (List.mem_of_getElem? hzj))
          have Pc := Lib.hid (part_at Row.out hz2.symm hzj)
          have hgr := (Row.out.lt g rfl).2
          have c10 := (P7.out.box.2 10 _ rfl).1
          have hq7 := P7.out.box.1
          unfold maxLen at hpm
          clear hpt l2 hX2 hX0 q1 q2 q3 q4 q5 cl pok hzj
          go_wp2_with fail
          obtain ⟨e0, e1, e2, e3, e4⟩ := Pc.out
          have ap := rows_apart Row.out Hzi.out.st (by decide)
          have ap2 := rows_apart Hzi.out.ms Hzi.out.st (by decide)
          refine (stepVoice_ok p.ms p.st p.xs p.ms.length l.g W1.heap.size W1.heap.size W1.heap.size g (j * 5) l.vm l.vi Pok.out.ms rfl Pok.out.st Pok.out.len (by have := Pok.out.xl; omega) _ e1 e2 e3 (Row.out.frozenAt (j * 5 + 3)) hgr (by rcases ap with h | h; cases h; intro e; exact h (by rw [e]; rfl)) Hzi.out.ms Hzi.out.st Hzi.out.xs (by rcases ap2 with h | h; rw [h]; simp; exact h) Q.out.1 Q.out.2).mono ?_
          rintro e w6 ⟨rfl, w7, vi', n7, v7, o7, s7, g7⟩
          have Rm := Lib.hid (show PlS W1 q L V C R sv ev eo D (dAt (ordE es) (D + 1)) b' (.slice (some ⟨g, 0, none⟩) zs2.length pc) env zs2 wr from by rw [hz2]; exact P7.out)
          obtain ⟨p6, f6⟩ := Rm.out.step HF.out Hzj.out g7 s7 v7 o7 n7
          rw [hz2] at p6
          have P6 := Lib.hid p6
          have F6 := Lib.hid (F7.out.trans f6)
          have O6 := Lib.hid (f6.2.1 _ _ _ _ O7.out)
          have A6 := Lib.hid (f6.2.2 _ Sz7.out A7.out)
          have Sz6 := Lib.hid (Nat.lt_of_lt_of_le Sz7.out f6.1)
          have S6 := Lib.hid (stepB_next (l' := { l with vi := vi' }) S7.out (by rw [← Hm.out]; exact hjm) Hzj.out)
          clear n7 v7 o7 s7 g7 p6 f6 e0 e1 e2 e3 e4 ap ap2 c10 hq7
          go_wp2_with fail
          go_roundw
          case rel => exact ⟨j + 1, _, zs2.set j (p.next, { l with vi := vi' }), by omega, rfl, rfl, by rw [show ((j + 1 : Nat) : Int) = (j : Int) + 1 from by omega], S6.out, P6.out, O6.out, A6.out, Sz6.out, F6.out⟩
          case measure => simp only [intOf]; omega
        · obtain rfl : j = m := by omega
          have htl : (tkP bs V es D).length = j := by rw [← Z5.out, List.length_map, Hm.out]
          have hX : X = sumAt bs V es D := by rw [HX.out, ← htl, List.take_length]; rfl
          have Xlt := Lib.hid (show X < 2 ^ 32 from by rw [HX.out]; exact sumP_lt _)
          have Z7 := Lib.hid (show zs2.map Prod.fst = preP bs V es (D + 1) from by
            have e := S7.out
            unfold stepB at e
            rw [e, Z5.out, ← htl, List.take_length, List.drop_length, List.append_nil, preP_succ])
          have Hx := Lib.hid hX
          have C11 := Lib.hid (show wr.cell? ⟨q, 11, none⟩ = some (.float .f32 env) from (P7.out.box.2 11 _ rfl).1)
          have hq7 := P7.out.box.1
          clear htl hX
          have KeepS := Lib.hid (show ∀ (W' : World) env', HasC W' q (plC L V C R sv ev eo (D : Int) ((dAt (ordE es) (D + 1) : Nat) : Int) (b' : Int) (.slice pa j pc) env') → W'.cell? ⟨q, 2, none⟩ = some (.float .f32 C) ∧ W'.cell? ⟨q, 3, none⟩ = some (.float .f32 R) from fun W' env' hb => ⟨(hb.2 2 _ rfl).1, (hb.2 3 _ rfl).1⟩)
          have hslt := Sz7.out
          go_upto_region 12 with fail
          have B8 := Lib.hid ((P7.out.nw ((Nw.refl wr).draw 1)).box)
          refine wp_region_held_drew (S := fun W' => W'.cell? ⟨q, 2, none⟩ = some (.float .f32 C) ∧ W'.cell? ⟨q, 3, none⟩ = some (.float .f32 R)) (by kernel_rfl) (KeepS.out _ _ B8.out) (fun hHeld => ?_)
          refine wpAnyH_take (i := 0) (oi := _) (v := ?_) rfl (by kernel_rfl) (by kernel_rfl) (by kernel_rfl) (fun _ _ _ h => h) (_root_.Or.inl ⟨by rfl, ?_⟩) (by assumption) ?_
          rotate_left
          · intro w hSw
            (try dsimp only at hSw)
            go_simp
            all_goals with_reducible rfl
          try simp only [List.getElem_toArray, List.getElem_cons_succ, List.getElem_cons_zero, Act.put, List.setIfInBounds_toArray, List.set_cons_zero, List.set_cons_succ]
          refine wpAnyH_take (i := 1) (oi := _) (v := ?_) rfl (by kernel_rfl) (by kernel_rfl) (by kernel_rfl) (fun _ _ _ h => h) (_root_.Or.inl ⟨by rfl, ?_⟩) (by assumption) ?_
          rotate_left
          · intro w hSw
            (try dsimp only at hSw)
            go_simp
            all_goals with_reducible rfl
          try simp only [List.getElem_toArray, List.getElem_cons_succ, List.getElem_cons_zero, Act.put, List.setIfInBounds_toArray, List.set_cons_zero, List.set_cons_succ]
          refine wpAnyH_take (i := 2) (oi := _) (v := ?_) rfl (by kernel_rfl) (by kernel_rfl) (by kernel_rfl) (fun _ _ _ h => h) (_root_.Or.inl ⟨by rfl, ?_⟩) (by assumption) ?_
          rotate_left
          · intro w hSw
            (try dsimp only at hSw)
            go_simp
            all_goals with_reducible rfl
          try simp only [List.getElem_toArray, List.getElem_cons_succ, List.getElem_cons_zero, Act.put, List.setIfInBounds_toArray, List.set_cons_zero, List.set_cons_succ]
          refine wpAnyH_take (i := 3) (oi := _) (v := ?_) rfl (by kernel_rfl) (by kernel_rfl) (by kernel_rfl) (fun _ _ _ h => h) (_root_.Or.inl ⟨by rfl, ?_⟩) (by assumption) ?_
          rotate_left
          · intro w hSw
            (try dsimp only at hSw)
            go_simp
            all_goals with_reducible rfl
          try simp only [List.getElem_toArray, List.getElem_cons_succ, List.getElem_cons_zero, Act.put, List.setIfInBounds_toArray, List.set_cons_zero, List.set_cons_succ]
          refine wpAnyH_take (i := 4) (oi := _) (v := ?_) rfl (by kernel_rfl) (by kernel_rfl) (by kernel_rfl) (fun _ _ _ h => h) (_root_.Or.inl ⟨by rfl, ?_⟩) (by assumption) ?_
          rotate_left
          · intro w hSw
            (try dsimp only at hSw)
            go_simp
            all_goals with_reducible rfl
          try simp only [List.getElem_toArray, List.getElem_cons_succ, List.getElem_cons_zero, Act.put, List.setIfInBounds_toArray, List.set_cons_zero, List.set_cons_succ]
          refine wpAnyH_take (i := 5) (oi := _) (v := ?_) rfl (by kernel_rfl) (by kernel_rfl) (by kernel_rfl) (fun _ _ _ h => h) (_root_.Or.inl ⟨by rfl, ?_⟩) (by assumption) ?_
          rotate_left
          · intro w hSw
            (try dsimp only at hSw)
            go_simp
            all_goals with_reducible rfl
          try simp only [List.getElem_toArray, List.getElem_cons_succ, List.getElem_cons_zero, Act.put, List.setIfInBounds_toArray, List.set_cons_zero, List.set_cons_succ]
          refine wpAnyH_take (i := 7) (oi := _) (v := ?_) rfl (by kernel_rfl) (by kernel_rfl) (by kernel_rfl) (fun _ _ _ h => h) (_root_.Or.inl ⟨by rfl, ?_⟩) (by assumption) ?_
          rotate_left
          · intro w hSw
            (try dsimp only at hSw)
            go_simp
            all_goals with_reducible rfl
          try simp only [List.getElem_toArray, List.getElem_cons_succ, List.getElem_cons_zero, Act.put, List.setIfInBounds_toArray, List.set_cons_zero, List.set_cons_succ]
          refine wpAnyH_take (i := 8) (oi := _) (v := ?_) rfl (by kernel_rfl) (by kernel_rfl) (by kernel_rfl) (fun _ _ _ h => h) (_root_.Or.inl ⟨by rfl, ?_⟩) (by assumption) ?_
          rotate_left
          · intro w hSw
            (try dsimp only at hSw)
            go_simp
            all_goals with_reducible rfl
          try simp only [List.getElem_toArray, List.getElem_cons_succ, List.getElem_cons_zero, Act.put, List.setIfInBounds_toArray, List.set_cons_zero, List.set_cons_succ]
          refine wpAnyH_take (i := 9) (oi := _) (v := ?_) rfl (by kernel_rfl) (by kernel_rfl) (by kernel_rfl) (fun _ _ _ h => h) (_root_.Or.inl ⟨by rfl, ?_⟩) (by assumption) ?_
          rotate_left
          · intro w hSw
            (try dsimp only at hSw)
            go_simp
            all_goals with_reducible rfl
          try simp only [List.getElem_toArray, List.getElem_cons_succ, List.getElem_cons_zero, Act.put, List.setIfInBounds_toArray, List.set_cons_zero, List.set_cons_succ]
          refine wpAnyH_take (i := 10) (oi := _) (v := ?_) rfl (by kernel_rfl) (by kernel_rfl) (by kernel_rfl) (fun _ _ _ h => h) (_root_.Or.inl ⟨by rfl, ?_⟩) (by assumption) ?_
          rotate_left
          · intro w hSw
            (try dsimp only at hSw)
            go_simp
            all_goals with_reducible rfl
          try simp only [List.getElem_toArray, List.getElem_cons_succ, List.getElem_cons_zero, Act.put, List.setIfInBounds_toArray, List.set_cons_zero, List.set_cons_succ]
          refine wpAnyH_take (i := 11) (oi := _) (v := ?_) rfl (by kernel_rfl) (by kernel_rfl) (by kernel_rfl) (fun _ _ _ h => h) (_root_.Or.inl ⟨by rfl, ?_⟩) (by assumption) ?_
          rotate_left
          · intro w hSw
            (try dsimp only at hSw)
            go_simp
            all_goals with_reducible rfl
          try simp only [List.getElem_toArray, List.getElem_cons_succ, List.getElem_cons_zero, Act.put, List.setIfInBounds_toArray, List.set_cons_zero, List.set_cons_succ]
          refine wpAnyH_take (i := 12) (oi := _) (v := ?_) rfl (by kernel_rfl) (by kernel_rfl) (by kernel_rfl) (fun _ _ _ h => h) (_root_.Or.inl ⟨by rfl, ?_⟩) (by assumption) ?_
          rotate_left
          · intro w hSw
            (try dsimp only at hSw)
            go_simp
            all_goals with_reducible rfl
          try simp only [List.getElem_toArray, List.getElem_cons_succ, List.getElem_cons_zero, Act.put, List.setIfInBounds_toArray, List.set_cons_zero, List.set_cons_succ]
          refine wpAnyH_take (i := 13) (oi := _) (v := ?_) rfl (by kernel_rfl) (by kernel_rfl) (by kernel_rfl) (fun _ _ _ h => h) (_root_.Or.inl ⟨by rfl, ?_⟩) (by assumption) ?_
          rotate_left
          · intro w hSw
            (try dsimp only at hSw)
            go_simp
            all_goals with_reducible rfl
          try simp only [List.getElem_toArray, List.getElem_cons_succ, List.getElem_cons_zero, Act.put, List.setIfInBounds_toArray, List.set_cons_zero, List.set_cons_succ]
          refine wpAnyH_take (i := 14) (oi := _) (v := ?_) rfl (by kernel_rfl) (by kernel_rfl) (by kernel_rfl) (fun _ _ _ h => h) (_root_.Or.inl ⟨by rfl, ?_⟩) (by assumption) ?_
          rotate_left
          · intro w hSw
            (try dsimp only at hSw)
            go_simp
            all_goals with_reducible rfl
          try simp only [List.getElem_toArray, List.getElem_cons_succ, List.getElem_cons_zero, Act.put, List.setIfInBounds_toArray, List.set_cons_zero, List.set_cons_succ]
          refine wpAnyH_take (i := 15) (oi := _) (v := ?_) rfl (by kernel_rfl) (by kernel_rfl) (by kernel_rfl) (fun _ _ _ h => h) (_root_.Or.inl ⟨by rfl, ?_⟩) (by assumption) ?_
          rotate_left
          · intro w hSw
            (try dsimp only at hSw)
            go_simp
            all_goals with_reducible rfl
          try simp only [List.getElem_toArray, List.getElem_cons_succ, List.getElem_cons_zero, Act.put, List.setIfInBounds_toArray, List.set_cons_zero, List.set_cons_succ]
          refine wpAnyH_take (i := 16) (oi := _) (v := ?_) rfl (by kernel_rfl) (by kernel_rfl) (by kernel_rfl) (fun _ _ _ h => h) (_root_.Or.inl ⟨by rfl, ?_⟩) (by assumption) ?_
          rotate_left
          · intro w hSw
            (try dsimp only at hSw)
            go_simp
            all_goals with_reducible rfl
          try simp only [List.getElem_toArray, List.getElem_cons_succ, List.getElem_cons_zero, Act.put, List.setIfInBounds_toArray, List.set_cons_zero, List.set_cons_succ]
          refine wpAnyH_take (i := 17) (oi := _) (v := ?_) rfl (by kernel_rfl) (by kernel_rfl) (by kernel_rfl) (fun _ _ _ h => h) (_root_.Or.inl ⟨by rfl, ?_⟩) (by assumption) ?_
          rotate_left
          · intro w hSw
            (try dsimp only at hSw)
            go_simp
            all_goals with_reducible rfl
          try simp only [List.getElem_toArray, List.getElem_cons_succ, List.getElem_cons_zero, Act.put, List.setIfInBounds_toArray, List.set_cons_zero, List.set_cons_succ]
          refine wpAnyH_ready (rs := [6]) (by kernel_rfl) (by simp) ?_
          refine AllReadyH.cons (o := _) rfl (fun K hK => ?_) AllReadyH.nil
          have cx := C11.out
          go_simp
          clear cx
          refine hK.out _ _ ?_ (fun hHeld => ?_)
          · exact KeepS.out _ _ B8.out
          clear hK K
          try simp only [List.getElem_toArray, List.getElem_cons_succ, List.getElem_cons_zero, Act.put, List.setIfInBounds_toArray, List.set_cons_zero, List.set_cons_succ]
          refine wpAnyH_ready (rs := [18]) (by kernel_rfl) (by simp) ?_
          refine AllReadyH.cons (o := _) rfl (fun K hK => ?_) AllReadyH.nil
          go_simp
          go_at_call 36
          refine (implLimit_ok env _ C R Xlt.out _).mono ?_
          rintro en w8 ⟨y, dd, rfl, hy, hd, ly, ld, n8⟩
          have N8 := Lib.hid (show Nw wr w8 from ((Nw.refl wr).draw 1).trans n8)
          have P8 := Lib.hid (P7.out.nw N8.out)
          have Y8 := Lib.hid (And.intro hy (And.intro hd (And.intro ly ld)))
          clear hy hd ly ld n8 hHeld
          go_wp2_with fail
          refine hK.out _ _ ?_ (fun hHeld => ?_)
          · exact KeepS.out _ _ P8.out.box
          clear hK K
          try simp only [List.getElem_toArray, List.getElem_cons_succ, List.getElem_cons_zero, Act.put, List.setIfInBounds_toArray, List.set_cons_zero, List.set_cons_succ]
          refine wpAnyH_take (i := 19) (oi := _) (v := ?_) rfl (by kernel_rfl) (by kernel_rfl) (by kernel_rfl) (fun _ _ _ h => h) (_root_.Or.inl ⟨by rfl, ?_⟩) (by assumption) ?_
          rotate_left
          · intro w hSw
            (try dsimp only at hSw)
            go_simp
            all_goals with_reducible rfl
          try simp only [List.getElem_toArray, List.getElem_cons_succ, List.getElem_cons_zero, Act.put, List.setIfInBounds_toArray, List.set_cons_zero, List.set_cons_succ]
          refine wpAnyH_take (i := 20) (oi := _) (v := ?_) rfl (by kernel_rfl) (by kernel_rfl) (by kernel_rfl) (fun _ _ _ h => h) (_root_.Or.inl ⟨by rfl, ?_⟩) (by assumption) ?_
          rotate_left
          · intro w hSw
            (try dsimp only at hSw)
            go_simp
            all_goals with_reducible rfl
          try simp only [List.getElem_toArray, List.getElem_cons_succ, List.getElem_cons_zero, Act.put, List.setIfInBounds_toArray, List.set_cons_zero, List.set_cons_succ]
          refine wpAnyH_take (i := 21) (oi := _) (v := ?_) rfl (by kernel_rfl) (by kernel_rfl) (by kernel_rfl) (fun _ _ _ h => h) (_root_.Or.inl ⟨by rfl, ?_⟩) (by assumption) ?_
          rotate_left
          · intro w hSw
            (try dsimp only at hSw)
            go_simp
            all_goals with_reducible rfl
          try simp only [List.getElem_toArray, List.getElem_cons_succ, List.getElem_cons_zero, Act.put, List.setIfInBounds_toArray, List.set_cons_zero, List.set_cons_succ]
          refine wpAnyH_take (i := 22) (oi := _) (v := ?_) rfl (by kernel_rfl) (by kernel_rfl) (by kernel_rfl) (fun _ _ _ h => h) (_root_.Or.inl ⟨by rfl, ?_⟩) (by assumption) ?_
          rotate_left
          · intro w hSw
            (try dsimp only at hSw)
            go_simp
            all_goals with_reducible rfl
          try simp only [List.getElem_toArray, List.getElem_cons_succ, List.getElem_cons_zero, Act.put, List.setIfInBounds_toArray, List.set_cons_zero, List.set_cons_succ]
          refine wpAnyH_ready (rs := [23]) (by kernel_rfl) (by simp) ?_
          refine AllReadyH.cons (o := _) rfl (fun K hK => ?_) AllReadyH.nil
          have O8 := Lib.hid (own_nw O7.out N8.out)
          have t8 := O8.out.cellAt k (by omega)
          rw [cell_fill ys n k Hys.out.1 hlt] at t8
          have f8 := O8.out.frozenAt k
          have hg8 : w.heap.size < w8.heap.size := Nat.lt_of_lt_of_le Sz7.out N8.out.size
          have P9 := Lib.hid (P8.out.side HF.out O8.out A7.out Hgs.out k (.float .f32 y))
          have O9 := Lib.hid ((O8.out.stored k (.float .f32 y)).1)
          have F9 := Lib.hid ((F7.out.trans (Fr.nw N8.out)).setg (gs := w.heap.size) (Nat.le_refl _) k (.float .f32 y))
          go_simp
          clear t8 f8
          refine hK.out _ _ ?_ (fun hHeld => ?_)
          · exact KeepS.out _ _ P9.out.box
          clear hK K
          try simp only [List.getElem_toArray, List.getElem_cons_succ, List.getElem_cons_zero, Act.put, List.setIfInBounds_toArray, List.set_cons_zero, List.set_cons_succ]
          refine wpAnyH_take (i := 24) (oi := _) (v := ?_) rfl (by kernel_rfl) (by kernel_rfl) (by kernel_rfl) (fun _ _ _ h => h) (_root_.Or.inl ⟨by rfl, ?_⟩) (by assumption) ?_
          rotate_left
          · intro w hSw
            (try dsimp only at hSw)
            go_simp
            all_goals with_reducible rfl
          try simp only [List.getElem_toArray, List.getElem_cons_succ, List.getElem_cons_zero, Act.put, List.setIfInBounds_toArray, List.set_cons_zero, List.set_cons_succ]
          refine wpAnyH_take (i := 25) (oi := _) (v := ?_) rfl (by kernel_rfl) (by kernel_rfl) (by kernel_rfl) (fun _ _ _ h => h) (_root_.Or.inl ⟨by rfl, ?_⟩) (by assumption) ?_
          rotate_left
          · intro w hSw
            (try dsimp only at hSw)
            go_simp
            all_goals with_reducible rfl
          try simp only [List.getElem_toArray, List.getElem_cons_succ, List.getElem_cons_zero, Act.put, List.setIfInBounds_toArray, List.set_cons_zero, List.set_cons_succ]
          refine wpAnyH_ready (rs := [26]) (by kernel_rfl) (by simp) ?_
          refine AllReadyH.cons (o := _) rfl (fun K hK => ?_) AllReadyH.nil
          have t9 := (P9.out.box.2 11 _ rfl).1
          have f9 := (P9.out.box.2 11 _ rfl).2
          have P10 := Lib.hid (P9.out.pute HF.out dd)
          have O10 := Lib.hid (own_setp O9.out P9.out.plx (by decide) 11 (.float .f32 dd))
          have F10 := Lib.hid (F9.out.trans (Fr.put P9.out.plx 11 (.float .f32 dd)))
          go_simp
          clear t9 f9
          refine hK.out _ _ ?_ (fun hHeld => ?_)
          · exact KeepS.out _ _ P10.out.box
          clear hK K hHeld
          try simp only [List.getElem_toArray, List.getElem_cons_succ, List.getElem_cons_zero, Act.put, List.setIfInBounds_toArray, List.set_cons_zero, List.set_cons_succ]
          refine wpAnyH_done (by kernel_rfl) ?_ _
          obtain ⟨wz, hwz⟩ : ∃ wz, wz = (w8.setCell ⟨w.heap.size, k, none⟩ (.float .f32 y)).setCell ⟨q, 11, none⟩ (.float .f32 dd) := ⟨_, rfl⟩
          have hsz : w.heap.size < wz.heap.size := by rw [hwz, World.size_setCell, World.size_setCell]; exact hg8
          rw [← hwz] at P10 O10 F10 ⊢
          clear hwz P9 O9 F9 P8 O8
          have c7 := (P10.out.box.2 7 _ rfl).1
          have f7 := (P10.out.box.2 7 _ rfl).2
          have P11 := Lib.hid (P10.out.puti HF.out)
          have O11 := Lib.hid (own_setp O10.out P10.out.plx (by decide) 7 (.int .i64 ((D : Int) + 1)))
          have F11 := Lib.hid (F10.out.trans (Fr.put P10.out.plx 7 (.int .i64 ((D : Int) + 1))))
          go_wp2_with fail
          go_roundw
          case rel =>
            refine ⟨k + 1, D + 1, b', _, dd, zs2, ys ++ [y], by omega, by omega, by rw [show ((k + 1 : Nat) : Int) = (k : Int) + 1 from by omega], B5.out, P11.out, Z7.out, ?_, ?_, ?_, A7.out, ?_, F11.out⟩
            · rw [Y8.out.2.1, He.out, Hx.out, HD.out]; rfl
            · exact Hys.out.snoc (by rw [Y8.out.1, He.out, Hx.out, HD.out]; rfl) Y8.out.2.2.1
            · have o := O11.out
              rw [set_fill ys n k y Hys.out.1 hlt] at o
              exact o
            · rw [World.size_setCell]; exact hsz
          case measure => simp only [intOf]; omega
    · obtain rfl : k = n := by omega
      go_wp2_with fail
      go_ret
      refine ⟨_, ys, rfl, ?_, Hys.out, b, pv, env, zs, ?_, ?_, He.out, ?_, Fw.out⟩
      · have o := Ow.out
        rw [Nat.sub_self, List.replicate_zero, List.append_nil] at o
        exact o
      · rw [← HD.out]; exact Hbd.out
      · rw [← HD.out]; exact Hd.out
      · rw [← HD.out]; exact Hzd.out
end Go.Proofs.YtiakcibeobbonaaGreat

/- A score is rendered whole: RenderScore; its events are counted: CountEvents (FnShifted, FnCut).
   Conditions: those that each statement names. -/
namespace Go.Proofs.YtiakcibeobbonaaGreat
set_option linter.unusedSimpArgs false
set_option linter.unusedVariables false
open Go Go.RowKit

def RenderP (L V C R : Nat) (bs : List (List M4)) (es : List Ev6) (w : World) (e : Ending) (w' : World) : Prop :=
  ∃ (g : Nat) (ys : List Nat), e = .returned (.tuple #[.slice (some ⟨g, 0, none⟩) L L, .bool true]) ∧ w'.ownsRow w.heap.size 23 1 (.slice (some ⟨g, 0, none⟩) L L) L (cellsS ys) ∧ GoodA (yAt bs V es C R 0 (fab .f32 0)) L ys ∧ Nw w w'
end Go.Proofs.YtiakcibeobbonaaGreat

/- The walk of MakeScore: a score that is valid, in memory of its own.
   Conditions: those that each statement names. -/
namespace Go.Proofs.YtiakcibeobbonaaGreat
set_option linter.unusedSimpArgs false
set_option linter.unusedVariables false
open Go Go.RowKit

def MadeSco (M : Nat) (w : World) (e : Ending) (w' : World) : Prop :=
  ∃ (L V C R : Nat) (bs : List (List M4)) (es : List Ev6) (sv ev : Value), e = .returned (.agg #[.int .i64 (L : Int), .int .i64 (V : Int), .float .f32 C, .float .f32 R, sv, ev]) ∧ L ≤ M ∧ ScoV w' w.heap.size L V C R bs es sv ev ∧ Nw w w'
theorem nw_six {w w' : World} {b : Nat} (h : Nw w w') (hb : w.heap.size ≤ b) (v0 v1 v2 v3 v4 v5 : Value) : Nw w ((((((w'.setCell ⟨b, 0, none⟩ v0).setCell ⟨b, 1, none⟩ v1).setCell ⟨b, 2, none⟩ v2).setCell ⟨b, 3, none⟩ v3).setCell ⟨b, 4, none⟩ v4).setCell ⟨b, 5, none⟩ v5) :=
  (((((h.set (p := ⟨b, 0, none⟩) hb _).set (p := ⟨b, 1, none⟩) hb _).set (p := ⟨b, 2, none⟩) hb _).set (p := ⟨b, 3, none⟩) hb _).set (p := ⟨b, 4, none⟩) hb _).set (p := ⟨b, 5, none⟩) hb _
theorem rows_six {w : World} {base b : Nat} {sv ev : Value} {bs : List (List M4)} {es : List Ev6} (h1 : BodsR w base sv bs) (h2 : w.ownsRow base 68 6 ev es.length (cellsE es)) (hb : b < base) (v0 v1 v2 v3 v4 v5 : Value) :
    BodsR ((((((w.setCell ⟨b, 0, none⟩ v0).setCell ⟨b, 1, none⟩ v1).setCell ⟨b, 2, none⟩ v2).setCell ⟨b, 3, none⟩ v3).setCell ⟨b, 4, none⟩ v4).setCell ⟨b, 5, none⟩ v5) base sv bs ∧
    ((((((w.setCell ⟨b, 0, none⟩ v0).setCell ⟨b, 1, none⟩ v1).setCell ⟨b, 2, none⟩ v2).setCell ⟨b, 3, none⟩ v3).setCell ⟨b, 4, none⟩ v4).setCell ⟨b, 5, none⟩ v5).ownsRow base 68 6 ev es.length (cellsE es) :=
  ⟨(((((h1.set (p := ⟨b, 0, none⟩) hb _).set (p := ⟨b, 1, none⟩) hb _).set (p := ⟨b, 2, none⟩) hb _).set (p := ⟨b, 3, none⟩) hb _).set (p := ⟨b, 4, none⟩) hb _).set (p := ⟨b, 5, none⟩) hb _,
   own_set (p := ⟨b, 5, none⟩) (own_set (p := ⟨b, 4, none⟩) (own_set (p := ⟨b, 3, none⟩) (own_set (p := ⟨b, 2, none⟩) (own_set (p := ⟨b, 1, none⟩) (own_set (p := ⟨b, 0, none⟩) h2 hb _) hb _) hb _) hb _) hb _) hb _⟩

set_option maxRecDepth 100000 in
set_option maxHeartbeats 1600000 in
theorem makeScore_any (a : Option Addr) (len cap M : Nat) (hM0 : 1 ≤ M) (hM : M ≤ 500) (w : World) (hb : Bys w.heap.size a len w) :
    Calls Tryz.prog 4 #[.slice a len cap, .int .i64 (M : Int)] w (MadeSco M w) := by
  have Hb := Lib.hid hb
  clear hb
  have hsz : ∀ o, (w.alloc o).heap.size = w.heap.size + 1 := fun o => by simp
  have Hsz := Lib.hid hsz
  clear hsz
  go_enter Tryz.func4, Tryz.ntmps4
  go_wp2_with fail
  refine (l01New_any _ _ _ _ ((Hb.out.below ((Below.refl _ _).alloc (Nat.le_refl _) _)).mono (by simp))).mono ?_
  rintro e w1 ⟨rfl, hat⟩
  rw [Hsz.out] at hat
  have Hr1 := Lib.hid ((HasC.new w 27 (.int .i64 0) (.int .i64 0) (.float .f32 0) (.float .f32 0) (.slice none 0 0) (.slice none 0 0)).kp hat.2 (by omega))
  have Hn1 := Lib.hid ((((Nw.refl w).alloc (.cells #[.int .i64 0, .int .i64 0, .float .f32 0, .float .f32 0, .slice none 0 0, .slice none 0 0] 27 (0, 0))).trans (hat.2.nw (by simp))))
  have Hat := Lib.hid hat
  clear hat
  have hmin : min (M : Int) 500 = M := by omega
  have hmax : max 0 (M : Int) = M := by omega
  go_wp2_with fail
  refine (l7Score_at _ _ _ _ _ _ M hM _ Hat.out.here).mono ?_
  rintro e w2 ⟨L, V, C, R, bs, es, sv, ev, rfl, k1, k2, k3, k4, k5, k6, k7, k8, k9, hbods, hevs, hc2⟩
  have Hr2 := Lib.hid (Hr1.out.kp hc2.2 (by omega))
  have Hn2 := Lib.hid (show Nw w w2 from ⟨hc2.2.os.trans Hn1.out.os, hc2.2.tape.trans Hn1.out.tape, hc2.2.output.trans Hn1.out.output, Nat.le_trans Hn1.out.size hc2.2.size,
    fun k hk hne => (hc2.2.block k (Nat.lt_of_lt_of_le hk Hn1.out.size) (fun e => by cases e; omega)).trans (Hn1.out.block k hk hne)⟩)
  have hs1 : w.heap.size + 1 ≤ w1.heap.size := by have := Hat.out.2.size; rw [Hsz.out] at this; exact this
  obtain ⟨sa, sc, rfl⟩ := hbods.shape
  obtain ⟨ea, ec, rfl⟩ := own_shape' hevs
  obtain ⟨z1, z2⟩ := rows_six hbods hevs (b := w.heap.size) (by omega) (.int .i64 (L : Int)) (.int .i64 (V : Int)) (.float .f32 C) (.float .f32 R) (.slice sa bs.length sc) (.slice ea es.length ec)
  have hfin : MadeSco M w (.returned (.agg #[.int .i64 (L : Int), .int .i64 (V : Int), .float .f32 C, .float .f32 R, .slice sa bs.length sc, .slice ea es.length ec])) _ :=
    ⟨L, V, C, R, bs, es, _, _, rfl, k1, ⟨by omega, ⟨k2, k3⟩, k4, k5, k6, k7, k8, k9, z1.base (by omega), own_base z2 (by omega)⟩, nw_six Hn2.out (Nat.le_refl _) _ _ _ _ _ _⟩
  have Hfin := Lib.hid hfin
  clear hc2 hfin z1 z2 hbods hevs k4 k5 k8 k9
  obtain ⟨⟨r0, f0⟩, ⟨r1, f1⟩, ⟨r2, f2⟩, ⟨r3, f3⟩, ⟨r4, f4⟩, ⟨r5, f5⟩⟩ := six_at Hr2.out
  go_wp2_with fail
  exact bodyPost_ret (v := .agg #[.int .i64 (L : Int), .int .i64 (V : Int), .float .f32 C, .float .f32 R, .slice sa bs.length sc, .slice ea es.length ec]) (by simp [results, Tryz.results4, go_sem, r0, r1, r2, r3, r4, r5, f0]) rfl Hfin.out

end Go.Proofs.YtiakcibeobbonaaGreat
