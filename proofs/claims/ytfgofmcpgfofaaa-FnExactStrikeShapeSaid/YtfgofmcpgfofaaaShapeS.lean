/- The walks of StrikeShape of the model, of StrikeShape for all arguments, and of the marks that the exact laws set.
   Conditions: those that each statement names. -/
import Derived.Test.YtfgofmcpgfofaaaStrike
import Derived.Test.YtfgofmcpgfofaaaFls
namespace Go.Proofs.Ytfgofmcpgfofaaa
open Go Go.RowKit

def ShapeV (zs : List Nat) (ok : Bool) (w : World) (e : Ending) (w' : World) : Prop :=
  ∃ v : Value, e = .returned (.tuple #[v, .bool ok]) ∧ w'.ownsRow w.heap.size 49 1 v zs.length (cellsS zs) ∧ Nw w w'
def StrS (kind n : Nat) (w : World) (v i : Value) (wr : World) : Prop :=
  ∃ k : Nat, k ≤ n ∧ i = .int .i64 (k : Int) ∧ wr.ownsRow w.heap.size 49 1 v k (cellsS ((List.range k).map (shapeAt kind n))) ∧ Nw w wr
theorem shapeL_len (kind n : Nat) : (shapeL kind n).length = n := by unfold shapeL; simp
theorem row_snoc (kind n k : Nat) : cellsS ((List.range k).map (shapeAt kind n)) ++ cellsS [shapeAt kind n k] = cellsS ((List.range (k + 1)).map (shapeAt kind n)) := by
  rw [List.range_succ]; simp [cellsS]

theorem nw_grow2 {a w w1 : World} {row : Option Nat} (h : Nw a w) (hg : w.grownBy w1 row) (hr : ∀ q, row = some q → a.heap.size ≤ q) : Nw a w1 :=
  ⟨hg.os.trans h.os, hg.tape.trans h.tape, hg.output.trans h.output, Nat.le_trans h.size hg.size, fun k hk hne => (hg.block k (Nat.lt_of_lt_of_le hk h.size) (fun e => by have := hr k e.symm; omega)).trans (h.block k hk hne)⟩

theorem l1In_any (x a b : Int) (w : World) :
    Calls Try.prog 95 #[.int .i64 x, .int .i64 a, .int .i64 b] w fun e w' => e = .returned (.bool (decide (a ≤ x ∧ x ≤ b))) ∧ w = w' := by
  by_cases h1 : a ≤ x
  all_goals by_cases h2 : x ≤ b
  all_goals
    go_enter Try.func95, Try.ntmps95
    go_wp2
    go_ret
    exact ⟨by simp [h1, h2], rfl⟩

set_option maxRecDepth 100000 in
set_option maxHeartbeats 6400000 in
theorem specStrike_ok (kind n : Nat) (hk : kind ≤ 2) (h1 : 1 ≤ n) (hn : n ≤ 64) (w : World) :
    Calls Try.prog 53 #[.int .i64 (kind : Int), .int .i64 (n : Int)] w (ShapeV (shapeL kind n) true w) := by
  obtain ⟨i0, hi, hz0, hz1, hz2⟩ := info_parts info_f32
  have hk3 : kind = 0 ∨ kind = 1 ∨ kind = 2 := by omega
  rcases hk3 with rfl | rfl | rfl
  all_goals
    go_enter Try.func53, Try.ntmps53
  · go_wp2_with (first | (go_at_call 95; refine (l1In_any _ _ _ _).mono ?_; rintro e w' ⟨rfl, rfl⟩; rw [decide_eq_true (by omega)]))
    go_loopw [6, 7] (fun v i wr => StrS 0 n w v i wr) (fun _ i _ => n - (intOf i).toNat)
    case atStart => exact ⟨0, by omega, rfl, World.ownsRow_lit (base := w.heap.size) (e := 49) (size := 1) w #[] 0 (Nat.le_refl _) (by decide) rfl, (Nw.refl w).alloc _⟩
    case round =>
      obtain ⟨k, hk', rfl, how, hnw⟩ := hrel
      obtain ⟨sa, sc, rfl⟩ := own_shape' how
      have Ow := Lib.hid how
      have Nr := Lib.hid hnw
      clear how hnw
      by_cases hlt : k < n
      · skip
        by_cases hk0 : k = 0
        · subst hk0
          go_wp2_with (at_builtin; refine wpList_append_own _ rfl _ _ 47 rfl w.heap.size 49 i0 (.float .f32 0) 1 4 Try.underlying47 hi hz0 hz1 hz2 rfl (by decide) _ _ _ rfl (Ow.out.alloc _) ⟨wr.heap.size, 0, none⟩ 1 1 [.float .f32 1065353216] rfl rfl ?c1 ?c2 ?c3 ?c4 ?c5 ?_)
          case c1 =>
            intro j u hj
            match j, hj with
            | 0, hj => simp at hj; subst hj; simp [Addr.add]
          case c2 => intro u hu; simp at hu; subst hu; rfl
          case c3 => unfold maxLen; omega
          case c4 => omega
          case c5 => have := Nr.out.size; simp; omega
          · intro v' w4 hown4 hgrow _
            have hrow : ∀ q, (Value.slice sa 0 sc).ownBlock = some q → w.heap.size ≤ q := fun q hq => own_ge Ow.out q hq
            have N4 := Lib.hid (nw_grow2 (Nr.out.alloc (.cells #[.float .f32 1065353216] 49 (0, 0))) hgrow hrow)
            have O4 := Lib.hid (show w4.ownsRow w.heap.size 49 1 v' 1 (cellsS ((List.range 1).map (shapeAt 0 n))) from by simpa [cellsS, shapeAt, clickAt] using hown4)
            clear hown4 hgrow hrow
            go_wp2_with fail
            go_roundw
            case rel => exact ⟨1, by omega, rfl, O4.out, N4.out⟩
            case measure => simp only [intOf]; omega
        · skip
          go_wp2_with (at_builtin; refine wpList_append_own _ rfl _ _ 47 rfl w.heap.size 49 i0 (.float .f32 0) 1 4 Try.underlying47 hi hz0 hz1 hz2 rfl (by decide) _ _ _ rfl (Ow.out.alloc _) ⟨wr.heap.size, 0, none⟩ 1 1 [.float .f32 0] rfl rfl ?c1 ?c2 ?c3 ?c4 ?c5 ?_)
          case c1 =>
            intro j u hj
            match j, hj with
            | 0, hj => simp at hj; subst hj; simp [Addr.add]
          case c2 => intro u hu; simp at hu; subst hu; rfl
          case c3 => unfold maxLen; omega
          case c4 => omega
          case c5 => have := Nr.out.size; simp; omega
          · intro v' w4 hown4 hgrow _
            have hrow : ∀ q, (Value.slice sa k sc).ownBlock = some q → w.heap.size ≤ q := fun q hq => own_ge Ow.out q hq
            have N4 := Lib.hid (nw_grow2 (Nr.out.alloc (.cells #[.float .f32 0] 49 (0, 0))) hgrow hrow)
            rw [show [Value.float .f32 0] = cellsS [shapeAt 0 n k] from by simp [cellsS, shapeAt, clickAt, hk0], row_snoc] at hown4
            have O4 := Lib.hid hown4
            clear hown4 hgrow hrow
            go_wp2_with fail
            go_roundw
            case rel => exact ⟨k + 1, by omega, by rw [show ((k + 1 : Nat) : Int) = (k : Int) + 1 from by omega], O4.out, N4.out⟩
            case measure => simp only [intOf]; omega
      · obtain rfl : k = n := by omega
        go_wp2_with fail
        go_ret2
        exact ⟨_, rfl, by rw [shapeL_len]; exact Ow.out, Nr.out⟩
  · go_wp2_with (first | (go_at_call 95; refine (l1In_any _ _ _ _).mono ?_; rintro e w' ⟨rfl, rfl⟩; rw [decide_eq_true (by omega)]))
    go_loopw [6, 7] (fun v i wr => StrS 1 n w v i wr) (fun _ i _ => n - (intOf i).toNat)
    case atStart => exact ⟨0, by omega, rfl, World.ownsRow_lit (base := w.heap.size) (e := 49) (size := 1) w #[] 0 (Nat.le_refl _) (by decide) rfl, (Nw.refl w).alloc _⟩
    case round =>
      obtain ⟨k, hk', rfl, how, hnw⟩ := hrel
      obtain ⟨sa, sc, rfl⟩ := own_shape' how
      have Ow := Lib.hid how
      have Nr := Lib.hid hnw
      clear how hnw
      by_cases hlt : k < n
      · skip
        have hb := all_pairs ramp_all n k hn hlt
        rw [rampB_eq] at hb
        simp only [Bool.and_eq_true] at hb
        have hc := calm_of hb.1.1.1
        have r1 := hc.res
        have d1 := hc.fdr
        clear hb hc
        go_wp2_with (at_builtin; refine wpList_append_own _ rfl _ _ 47 rfl w.heap.size 49 i0 (.float .f32 0) 1 4 Try.underlying47 hi hz0 hz1 hz2 rfl (by decide) _ _ _ rfl (Ow.out.alloc _) ⟨wr.heap.size, 0, none⟩ 1 1 [.float .f32 (opB .quo .f32 (floatOfInt .f32 ((k : Int) + 1)) (floatOfInt .f32 (n : Int)))] rfl rfl ?c1 ?c2 ?c3 ?c4 ?c5 ?_)
        case c1 =>
          intro j u hj
          match j, hj with
          | 0, hj => simp at hj; subst hj; simp [Addr.add]
        case c2 => intro u hu; simp at hu; subst hu; rfl
        case c3 => unfold maxLen; omega
        case c4 => omega
        case c5 => have := Nr.out.size; simp; omega
        · intro v' w4 hown4 hgrow _
          have hrow : ∀ q, (Value.slice sa k sc).ownBlock = some q → w.heap.size ≤ q := fun q hq => own_ge Ow.out q hq
          have N4 := Lib.hid (nw_grow2 (Nr.out.alloc (.cells #[.float .f32 (opB .quo .f32 (floatOfInt .f32 ((k : Int) + 1)) (floatOfInt .f32 (n : Int)))] 49 (0, 0))) hgrow hrow)
          rw [show [Value.float .f32 (opB .quo .f32 (floatOfInt .f32 ((k : Int) + 1)) (floatOfInt .f32 (n : Int)))] = cellsS [shapeAt 1 n k] from by simp [cellsS, shapeAt, rampAt], row_snoc] at hown4
          have O4 := Lib.hid hown4
          clear hown4 hgrow hrow
          go_wp2_with fail
          go_roundw
          case rel => exact ⟨k + 1, by omega, by rw [show ((k + 1 : Nat) : Int) = (k : Int) + 1 from by omega], O4.out, N4.out⟩
          case measure => simp only [intOf]; omega
      · obtain rfl : k = n := by omega
        go_wp2_with fail
        go_ret2
        exact ⟨_, rfl, by rw [shapeL_len]; exact Ow.out, Nr.out⟩
  · go_wp2_with (first | (go_at_call 95; refine (l1In_any _ _ _ _).mono ?_; rintro e w' ⟨rfl, rfl⟩; rw [decide_eq_true (by omega)]))
    go_loopw [6, 7] (fun v i wr => StrS 2 n w v i wr) (fun _ i _ => n - (intOf i).toNat)
    case atStart => exact ⟨0, by omega, rfl, World.ownsRow_lit (base := w.heap.size) (e := 49) (size := 1) w #[] 0 (Nat.le_refl _) (by decide) rfl, (Nw.refl w).alloc _⟩
    case round =>
      obtain ⟨k, hk', rfl, how, hnw⟩ := hrel
      obtain ⟨sa, sc, rfl⟩ := own_shape' how
      have Ow := Lib.hid how
      have Nr := Lib.hid hnw
      clear how hnw
      by_cases hlt : k < n
      · skip
        have hb := all_pairs arch_all n k hn hlt
        rw [archB_eq] at hb
        simp only [Bool.and_eq_true] at hb
        have c1 := calm_of hb.1.1.1.1
        have c2 := calm_of hb.1.1.1.2
        have c3 := calm_of hb.1.1.2
        have c4 := calm_of hb.1.2
        have r1 := c1.res
        have d1 := c1.fdr
        have r2 := c2.res
        have d2 := c2.fdr
        have r3 := c3.res
        have d3 := c3.fdr
        have r4 := c4.res
        have d4 := c4.fdr
        clear hb c1 c2 c3 c4
        unfold archP archM archT at r4 d4
        unfold archT at r2 d2 r3 d3
        go_wp2_with (at_builtin; refine wpList_append_own _ rfl _ _ 47 rfl w.heap.size 49 i0 (.float .f32 0) 1 4 Try.underlying47 hi hz0 hz1 hz2 rfl (by decide) _ _ _ rfl (Ow.out.alloc _) ⟨wr.heap.size, 0, none⟩ 1 1 [.float .f32 (opB .mul .f32 (opB .mul .f32 1082130432 (opB .quo .f32 (floatOfInt .f32 (2 * (k : Int) + 1)) (floatOfInt .f32 (2 * (n : Int))))) (opB .sub .f32 1065353216 (opB .quo .f32 (floatOfInt .f32 (2 * (k : Int) + 1)) (floatOfInt .f32 (2 * (n : Int))))))] rfl rfl ?c1 ?c2 ?c3 ?c4 ?c5 ?_)
        case c1 =>
          intro j u hj
          match j, hj with
          | 0, hj => simp at hj; subst hj; simp [Addr.add]
        case c2 => intro u hu; simp at hu; subst hu; rfl
        case c3 => unfold maxLen; omega
        case c4 => omega
        case c5 => have := Nr.out.size; simp; omega
        · intro v' w4 hown4 hgrow _
          have hrow : ∀ q, (Value.slice sa k sc).ownBlock = some q → w.heap.size ≤ q := fun q hq => own_ge Ow.out q hq
          have N4 := Lib.hid (nw_grow2 (Nr.out.alloc (.cells #[.float .f32 (opB .mul .f32 (opB .mul .f32 1082130432 (opB .quo .f32 (floatOfInt .f32 (2 * (k : Int) + 1)) (floatOfInt .f32 (2 * (n : Int))))) (opB .sub .f32 1065353216 (opB .quo .f32 (floatOfInt .f32 (2 * (k : Int) + 1)) (floatOfInt .f32 (2 * (n : Int))))))] 49 (0, 0))) hgrow hrow)
          rw [show [Value.float .f32 (opB .mul .f32 (opB .mul .f32 1082130432 (opB .quo .f32 (floatOfInt .f32 (2 * (k : Int) + 1)) (floatOfInt .f32 (2 * (n : Int))))) (opB .sub .f32 1065353216 (opB .quo .f32 (floatOfInt .f32 (2 * (k : Int) + 1)) (floatOfInt .f32 (2 * (n : Int))))))] = cellsS [shapeAt 2 n k] from by simp [cellsS, shapeAt, archAt, archP, archM, archT], row_snoc] at hown4
          have O4 := Lib.hid hown4
          clear hown4 hgrow hrow
          go_wp2_with fail
          go_roundw
          case rel => exact ⟨k + 1, by omega, by rw [show ((k + 1 : Nat) : Int) = (k : Int) + 1 from by omega], O4.out, N4.out⟩
          case measure => simp only [intOf]; omega
      · obtain rfl : k = n := by omega
        go_wp2_with fail
        go_ret2
        exact ⟨_, rfl, by rw [shapeL_len]; exact Ow.out, Nr.out⟩

end Go.Proofs.Ytfgofmcpgfofaaa
