/- The law FnShifted, proved: a score that is shifted is silent as long, and then is the score, bit for bit.
   Conditions: none beyond the statement's own. -/
import Derived.Test.YtkajhgfimempaaaKFnShifted6
namespace Go.Proofs.Ytkajhgfimempaaa.fnShifted
set_option linter.unusedSimpArgs false
set_option linter.unusedVariables false
open Go Go.ChangeShapes Go.WideShapes Go.ChangeAt Go.RowKit

theorem nw_below {w w' : World} (hb : Nw w w') : Below w.heap.size w w' := ⟨hb.os, hb.tape, hb.output, hb.size, fun k hk => hb.block k hk (by simp)⟩
theorem zeros_own {w : World} {base n : Nat} {v : Value} (h : w.ownsRow base 23 1 v n (madeCells (Value.float .f32 0).cells (n * 1)).toList) : w.ownsRow base 23 1 v n (cellsS (List.replicate n 0)) := by
  have h : w.ownsRow base 23 1 v n (madeCells #[Value.float .f32 0] (n * 1)).toList := h
  rw [Nat.mul_one, toList_madeCells_one] at h
  simpa [cellsS] using h
set_option maxHeartbeats 6400000 in
set_option maxRecDepth 100000 in
theorem walk (a0 : Option Addr) (len0 cap0 : Nat) (z0 : List Int) (w : World) (w0 : IsRow .u8 w a0 len0 cap0 z0) :
    Calls Try.prog 3 #[.slice a0 len0 cap0] w fun e w' => e = .returned (.bool true) ∧ Below w.heap.size w w' := by
  by_cases hl : len0 ≤ 1048576
  · have Hb := Lib.hid (bys_of_row w0 (by omega))
    clear w0
    go_enter Try.func3, Try.ntmps3
    go_wp2_with fail
    refine (makeScore_any _ _ _ 40 (by omega) (by omega) _ Hb.out).mono ?_
    rintro e w1 ⟨L, V, C, R, bs, es, sv, ev, rfl, hL, hsc, n1⟩
    obtain ⟨nb, hnb⟩ : ∃ nb, nb = bs.length := ⟨_, rfl⟩
    obtain ⟨ne, hne⟩ : ∃ ne, ne = es.length := ⟨_, rfl⟩
    obtain ⟨⟨sa, sc, rfl⟩, ea, ec, rfl⟩ := hsc.shape
    rw [← hnb, ← hne] at hsc ⊢
    have X1 := Lib.hid (HasC.new w1 27 (.int .i64 (L : Int)) (.int .i64 (V : Int)) (.float .f32 C) (.float .f32 R) (.slice sa nb sc) (.slice ea ne ec))
    have N1 := Lib.hid (n1.alloc (.cells #[.int .i64 (L : Int), .int .i64 (V : Int), .float .f32 C, .float .f32 R, .slice sa nb sc, .slice ea ne ec] 27 (0, 0)))
    have S1 := Lib.hid (hsc.nw ((Nw.refl w1).alloc (.cells #[.int .i64 (L : Int), .int .i64 (V : Int), .float .f32 C, .float .f32 R, .slice sa nb sc, .slice ea ne ec] 27 (0, 0))))
    have Hn := Lib.hid (And.intro hnb hne)
    have hs1 : w.heap.size ≤ w1.heap.size := n1.size
    clear n1 hsc hnb hne
    go_upto_region 4 with fail
    obtain ⟨w2, hw2⟩ : ∃ w2, w2 = w1.alloc (.cells #[.int .i64 (L : Int), .int .i64 (V : Int), .float .f32 C, .float .f32 R, .slice sa nb sc, .slice ea ne ec] 27 (0, 0)) := ⟨_, rfl⟩
    rw [← hw2] at X1 N1 S1 ⊢
    clear hw2
    obtain ⟨b3, hb3⟩ : ∃ b3, b3 = w1.heap.size := ⟨_, rfl⟩
    rw [← hb3] at X1 hs1 ⊢
    clear hb3
    go_wp2_with fail
    refine (at_any _ _ _ 1 hl (by omega) _ ((Hb.out.below (nw_below N1.out)).mono N1.out.size)).mono ?_
    rintro e w3 ⟨z, hz, rfl, rfl⟩
    obtain ⟨y, hy⟩ : ∃ y : Nat, y = z % 30 := ⟨_, rfl⟩
    have hy30 : y < 30 := by omega
    have hzy : (z : Int) % 30 = (y : Int) := by omega
    obtain ⟨⟨e0, g0⟩, ⟨e1, g1⟩, ⟨e2, g2⟩, ⟨e3, g3⟩, ⟨e4, g4⟩, ⟨e5, g5⟩⟩ := six_at X1.out
    go_upto_region 5 with fail
    rw [hzy]
    clear hzy hy hz
    go_wp2_with fail
    refine (shiftScore_ok _ L V C R y bs es _ _ _ S1.out (by omega)).mono ?_
    rintro e w4 ⟨su, eu, L', hL', rfl, hsu, n4⟩
    obtain ⟨ua, uc, hsu4⟩ := hsu.shape.1
    obtain ⟨va, vc, heu4⟩ := hsu.shape.2
    rw [← Hn.out.1] at hsu4
    rw [List.length_map, ← Hn.out.2] at heu4
    subst hsu4
    subst heu4
    have U4 := Lib.hid hsu
    have N4 := Lib.hid (N1.out.trans n4)
    have X4 := Lib.hid (X1.out.nw n4)
    have S4 := Lib.hid (S1.out.nw n4)
    have HL := Lib.hid hL'
    have hL70 : L' ≤ 70 := by omega
    have hyL : y ≤ L' := by omega
    clear hsu n4 e0 g0 e1 g1 e2 g2 e3 g3 e4 g4 e5 g5 X1 S1 N1 hL'
    go_upto_region 6 with fail
    obtain ⟨w5, hw5⟩ : ∃ w5, w5 = w4.alloc (.cells #[.int .i64 (L' : Int), .int .i64 (V : Int), .float .f32 C, .float .f32 R, .slice ua nb uc, .slice va ne vc] 27 (0, 0)) := ⟨_, rfl⟩
    have U5 := Lib.hid (show HasC w5 w4.heap.size [.int .i64 (L' : Int), .int .i64 (V : Int), .float .f32 C, .float .f32 R, .slice ua nb uc, .slice va ne vc] from by rw [hw5]; exact HasC.new w4 _ _ _ _ _ _ _)
    have Na := Lib.hid (show Nw w4 w5 from by rw [hw5]; exact (Nw.refl w4).alloc _)
    rw [← hw5]
    clear hw5
    obtain ⟨b5, hb5⟩ : ∃ b5, b5 = w4.heap.size := ⟨_, rfl⟩
    rw [← hb5] at U5 ⊢
    clear hb5
    obtain ⟨⟨e0, g0⟩, ⟨e1, g1⟩, ⟨e2, g2⟩, ⟨e3, g3⟩, ⟨e4, g4⟩, ⟨e5, g5⟩⟩ := six_at U5.out
    go_wp2_with fail
    refine (renderScore_ok _ L' V C R bs (es.map (Ev6.late y)) _ _ _ (U4.out.nw Na.out) hL70).mono ?_
    rintro e wa ⟨ga, ys1, rfl, oa, ga1, na⟩
    have O1 := Lib.hid oa
    have Hg1 := Lib.hid ga1
    have Nb := Lib.hid (Na.out.trans na)
    have Sa := Lib.hid (S4.out.nw Nb.out)
    have Xa := Lib.hid (X4.out.nw Nb.out)
    have Ua := Lib.hid (U5.out.nw na)
    clear oa ga1 na e0 g0 e1 g1 e2 g2 e3 g3 e4 g4 e5 g5 Na U5 X4 S4
    obtain ⟨⟨e0, g0⟩, ⟨e1, g1⟩, ⟨e2, g2⟩, ⟨e3, g3⟩, ⟨e4, g4⟩, ⟨e5, g5⟩⟩ := six_at Xa.out
    go_wp2_with fail
    refine (renderScore_ok _ L V C R bs es _ _ _ Sa.out (by omega)).mono ?_
    rintro e w6 ⟨gb, ys2, rfl, ob, gb1, nb'⟩
    have O2 := Lib.hid ob
    have Hg2 := Lib.hid gb1
    have O1' := Lib.hid (own_nw O1.out nb')
    obtain ⟨wa0, hwa0⟩ : ∃ wa0, wa0 = w5.heap.size := ⟨_, rfl⟩
    obtain ⟨wb0, hwb0⟩ : ∃ wb0, wb0 = wa.heap.size := ⟨_, rfl⟩
    rw [← hwa0] at O1'
    rw [← hwb0] at O2
    clear hwa0 hwb0
    have X6 := Lib.hid (Xa.out.nw nb')
    have Ub := Lib.hid (Ua.out.nw nb')
    have U6 := Lib.hid (U4.out.nw (Nb.out.trans nb'))
    have N6 := Lib.hid ((N4.out.trans Nb.out).trans nb')
    clear ob gb1 nb' e0 g0 e1 g1 e2 g2 e3 g3 e4 g4 e5 g5 Xa Ua Nb N4 U4
    have eok := Sa.out.eok
    have h00 : ∀ e ∈ es, 0 ≤ e.t := fun e he => (eok e he).1
    have Hb1 := Lib.hid (show ∀ x ∈ ys1, x < 2 ^ 32 from fun x hx => by obtain ⟨k, hk⟩ := List.getElem?_of_mem hx; exact (Hg1.out.2 k x hk).2)
    have Hb2 := Lib.hid (show ∀ x ∈ ys2, x < 2 ^ 32 from fun x hx => by obtain ⟨k, hk⟩ := List.getElem?_of_mem hx; exact (Hg2.out.2 k x hk).2)
    have Hs1 := Lib.hid (show ∀ (k : Nat) x z, (ys1.take y)[k]? = some x → (List.replicate y 0)[k]? = some z → sameX x z = true from fun k x z h1 h2 => by
      have hk := (List.getElem?_eq_some_iff.1 h2).1
      rw [List.length_replicate] at hk
      rw [List.getElem?_take_of_lt hk] at h1
      rw [List.getElem?_replicate, if_pos hk] at h2
      cases h2
      exact sameX_of_fab (by rw [(Hg1.out.2 k x h1).1, yAt_early bs V es C R y h00 Sa.out.hR Sa.out.hC k hk]; exact fab_zero.symm))
    have Hs2 := Lib.hid (show ∀ (k : Nat) x z, (ys1.drop y)[k]? = some x → ys2[k]? = some z → sameX x z = true from fun k x z h1 h2 => by
      rw [List.getElem?_drop] at h1
      exact sameX_of_fab (by rw [(Hg1.out.2 (y + k) x h1).1, (Hg2.out.2 k z h2).1, yAt_late bs V es C R y h00 Sa.out.hR k]))
    have Hab := Lib.hid (show ∀ e ∈ es.map (Ev6.late y), ((y : Nat) : Int) ≤ e.t ∧ e.t < ((3000 : Nat) : Int) from fun e he => by
      obtain ⟨e1, he1, rfl⟩ := List.mem_map.1 he
      have h1 := (eok e1 he1).1
      have h2 := (eok e1 he1).2.1
      constructor
      · show (y : Int) ≤ e1.t + (y : Int); omega
      · show e1.t + (y : Int) < ((3000 : Nat) : Int); omega)
    have Hlen := Lib.hid (show ((es.map (Ev6.late y)).length : Int) = (ne : Int) from by rw [List.length_map, ← Hn.out.2])
    clear eok h00
    obtain ⟨⟨e0, g0⟩, -, -, -, -, ⟨e5, g5⟩⟩ := six_at X6.out
    have hLs : ((L' : Int) != (y : Int) + (L : Int)) = false := by rw [HL.out]; simp; omega
    go_upto_region 10 with fail
    have KeepS := Lib.hid (show ∀ W', Nw w6 W' → W'.cell? ⟨b5, 0, none⟩ = some (.int .i64 (L' : Int)) ∧ W'.cell? ⟨b5, 1, none⟩ = some (.int .i64 (V : Int)) ∧ W'.cell? ⟨b5, 2, none⟩ = some (.float .f32 C) ∧ W'.cell? ⟨b5, 3, none⟩ = some (.float .f32 R) ∧ W'.cell? ⟨b5, 4, none⟩ = some (.slice ua nb uc) ∧ W'.cell? ⟨b5, 5, none⟩ = some (.slice va ne vc) ∧ W'.cell? ⟨b3, 5, none⟩ = some (.slice ea ne ec) from fun W' hW => by
      obtain ⟨⟨e0, -⟩, ⟨e1, -⟩, ⟨e2, -⟩, ⟨e3, -⟩, ⟨e4, -⟩, e5, -⟩ := six_at (Ub.out.nw hW)
      exact ⟨e0, e1, e2, e3, e4, e5, ((X6.out.nw hW).2 5 _ rfl).1⟩)
    have V1 := Lib.hid (show View w6 wa0 (.slice (some ⟨ga, 0, none⟩) y L') (ys1.take y) from View.cut O1'.out Hg1.out.1 0 y (by omega) hyL L' (by omega) (by unfold maxLen; omega))
    have V3 := Lib.hid (show View w6 wb0 (.slice (some ⟨gb, 0, none⟩) L L) ys2 from by
      have v := View.cut O2.out Hg2.out.1 0 L (by omega) (Nat.le_refl _) L (by omega) (by unfold maxLen; omega)
      rw [List.take_of_length_le (Nat.le_of_eq Hg2.out.1)] at v
      exact v)
    obtain ⟨f0, hf0, hfz0, hfz1, hfz2⟩ := info_parts info_f32
    clear e0 g0 e5 g5 hLs
    by_cases hL0 : L = 0
    · have hLy : L' = y := by rw [HL.out]; omega
      have hLy2 : L' - y = 0 := by omega
      have V2 := Lib.hid (show View w6 wa0 (.slice (some ⟨ga, 0, none⟩) 0 0) (ys1.drop y) from by
        have v := View.cut O1'.out Hg1.out.1 0 0 (by omega) (by omega) 0 (by omega) (by unfold maxLen; omega)
        rw [List.drop_of_length_le (by rw [Hg1.out.1]; omega)]
        simpa using v)
      rw [hLy] at V1 U6
      rw [hL0] at V3
      refine wp_region_held_drew (S := fun W' => W'.cell? ⟨b5, 0, none⟩ = some (.int .i64 (L' : Int)) ∧ W'.cell? ⟨b5, 1, none⟩ = some (.int .i64 (V : Int)) ∧ W'.cell? ⟨b5, 2, none⟩ = some (.float .f32 C) ∧ W'.cell? ⟨b5, 3, none⟩ = some (.float .f32 R) ∧ W'.cell? ⟨b5, 4, none⟩ = some (.slice ua nb uc) ∧ W'.cell? ⟨b5, 5, none⟩ = some (.slice va ne vc) ∧ W'.cell? ⟨b3, 5, none⟩ = some (.slice ea ne ec)) (by kernel_rfl) (KeepS.out _ ((Nw.refl w6).draw 1)) (fun hHeld => ?_)
      refine wpAnyH_take (i := 0) (oi := _) (v := ?_) rfl (by kernel_rfl) (by kernel_rfl) (by kernel_rfl) (fun _ _ _ h => h) (_root_.Or.inl ⟨by kernel_rfl, ?_⟩) (by assumption) ?_
      rotate_left
      · intro w hSw
        (try dsimp only at hSw)
        go_simp
        all_goals with_reducible rfl
      try simp only [List.getElem_toArray, List.getElem_cons_succ, List.getElem_cons_zero, Act.put, List.setIfInBounds_toArray, List.set_cons_zero, List.set_cons_succ]
      refine wpAnyH_take (i := 1) (oi := _) (v := ?_) rfl (by kernel_rfl) (by kernel_rfl) (by kernel_rfl) (fun _ _ _ h => h) (_root_.Or.inl ⟨by kernel_rfl, ?_⟩) (by assumption) ?_
      rotate_left
      · intro w hSw
        (try dsimp only at hSw)
        go_simp
        all_goals with_reducible rfl
      try simp only [List.getElem_toArray, List.getElem_cons_succ, List.getElem_cons_zero, Act.put, List.setIfInBounds_toArray, List.set_cons_zero, List.set_cons_succ]
      refine wpAnyH_take (i := 2) (oi := _) (v := ?_) rfl (by kernel_rfl) (by kernel_rfl) (by kernel_rfl) (fun _ _ _ h => h) (_root_.Or.inl ⟨by kernel_rfl, ?_⟩) (by assumption) ?_
      rotate_left
      · intro w hSw
        (try dsimp only at hSw)
        go_simp
        all_goals with_reducible rfl
      try simp only [List.getElem_toArray, List.getElem_cons_succ, List.getElem_cons_zero, Act.put, List.setIfInBounds_toArray, List.set_cons_zero, List.set_cons_succ]
      refine wpAnyH_take (i := 3) (oi := _) (v := ?_) rfl (by kernel_rfl) (by kernel_rfl) (by kernel_rfl) (fun _ _ _ h => h) (_root_.Or.inl ⟨by kernel_rfl, ?_⟩) (by assumption) ?_
      rotate_left
      · intro w hSw
        (try dsimp only at hSw)
        go_simp
        all_goals with_reducible rfl
      try simp only [List.getElem_toArray, List.getElem_cons_succ, List.getElem_cons_zero, Act.put, List.setIfInBounds_toArray, List.set_cons_zero, List.set_cons_succ]
      refine wpAnyH_ready (rs := [4]) (by kernel_rfl) (by simp) ?_
      refine AllReadyH.cons (o := _) rfl (fun K hK => ?_) AllReadyH.nil
      refine step_make_full rfl (.tmp 57) (.tmp 57) 32 rfl w6.heap.size 23 f0 (.float .f32 0) 1 Try.underlying32 hf0 hfz0 hfz1 .i64 .i64 y rfl rfl (by rw [hfz2]; omega) (by unfold maxLen; omega) (Nat.le_refl _) ?_
      intro gz w7 oz d
      have N7 := Lib.hid (((Nw.refl w6).draw 1).trans (show Nw w6.drew w7 from d))
      have Vz := Lib.hid (show View w7 w6.heap.size (.slice (some ⟨gz, 0, none⟩) y y) (List.replicate y 0) from by
        have o := zeros_own oz
        have v := View.cut o (by simp) 0 y (by omega) (by omega) y (by omega) (by unfold maxLen; omega)
        simpa using v)
      clear oz d hHeld
      refine hK.out _ _ ?_ (fun hHeld => ?_)
      · exact KeepS.out _ N7.out
      clear hK K
      try simp only [List.getElem_toArray, List.getElem_cons_succ, List.getElem_cons_zero, Act.put, List.setIfInBounds_toArray, List.set_cons_zero, List.set_cons_succ]
      refine wpAnyH_ready (rs := [5]) (by kernel_rfl) (by simp) ?_
      refine AllReadyH.cons (o := _) rfl (fun K hK => ?_) AllReadyH.nil
      go_simp
      go_at_call 8
      refine (same_view (ys1.take y) (List.replicate y 0) y _ _ _ _ (by rw [List.length_take, Hg1.out.1]; omega) (by simp) (by omega) (fun x hx => Hb1.out x (List.mem_of_mem_take hx)) (fun x hx => by rw [List.eq_of_mem_replicate hx]; decide) _ (V1.out.nw N7.out) Vz.out Hs1.out).mono ?_
      rintro e w8 ⟨rfl, n8⟩
      have N8 := Lib.hid (N7.out.trans n8)
      clear n8 hHeld
      go_wp2_with fail
      refine hK.out _ _ ?_ (fun hHeld => ?_)
      · exact KeepS.out _ N8.out
      clear hK K
      try simp only [List.getElem_toArray, List.getElem_cons_succ, List.getElem_cons_zero, Act.put, List.setIfInBounds_toArray, List.set_cons_zero, List.set_cons_succ]
      refine wpAnyH_take (i := 6) (oi := _) (v := ?_) rfl (by kernel_rfl) (by kernel_rfl) (by kernel_rfl) (fun _ _ _ h => h) (_root_.Or.inl ⟨by kernel_rfl, ?_⟩) (by assumption) ?_
      rotate_left
      · intro w hSw
        (try dsimp only at hSw)
        go_simp
        all_goals with_reducible rfl
      try simp only [List.getElem_toArray, List.getElem_cons_succ, List.getElem_cons_zero, Act.put, List.setIfInBounds_toArray, List.set_cons_zero, List.set_cons_succ]
      refine wpAnyH_take (i := 7) (oi := _) (v := ?_) rfl (by kernel_rfl) (by kernel_rfl) (by kernel_rfl) (fun _ _ _ h => h) (_root_.Or.inl ⟨by kernel_rfl, ?_⟩) (by assumption) ?_
      rotate_left
      · intro w hSw
        (try dsimp only at hSw)
        go_simp
        all_goals with_reducible rfl
      try simp only [List.getElem_toArray, List.getElem_cons_succ, List.getElem_cons_zero, Act.put, List.setIfInBounds_toArray, List.set_cons_zero, List.set_cons_succ]
      refine wpAnyH_take (i := 8) (oi := _) (v := ?_) rfl (by kernel_rfl) (by kernel_rfl) (by kernel_rfl) (fun _ _ _ h => h) (_root_.Or.inl ⟨by kernel_rfl, ?_⟩) (by assumption) ?_
      rotate_left
      · intro w hSw
        (try dsimp only at hSw)
        go_simp
        all_goals with_reducible rfl
      try simp only [List.getElem_toArray, List.getElem_cons_succ, List.getElem_cons_zero, Act.put, List.setIfInBounds_toArray, List.set_cons_zero, List.set_cons_succ]
      refine wpAnyH_take (i := 9) (oi := _) (v := ?_) rfl (by kernel_rfl) (by kernel_rfl) (by kernel_rfl) (fun _ _ _ h => h) (_root_.Or.inl ⟨by kernel_rfl, ?_⟩) (by assumption) ?_
      rotate_left
      · intro w hSw
        (try dsimp only at hSw)
        go_simp
        all_goals with_reducible rfl
      try simp only [List.getElem_toArray, List.getElem_cons_succ, List.getElem_cons_zero, Act.put, List.setIfInBounds_toArray, List.set_cons_zero, List.set_cons_succ]
      refine wpAnyH_take (i := 10) (oi := _) (v := ?_) rfl (by kernel_rfl) (by kernel_rfl) (by kernel_rfl) (fun _ _ _ h => h) (_root_.Or.inl ⟨by kernel_rfl, ?_⟩) (by assumption) ?_
      rotate_left
      · intro w hSw
        (try dsimp only at hSw)
        go_simp
        all_goals with_reducible rfl
      try simp only [List.getElem_toArray, List.getElem_cons_succ, List.getElem_cons_zero, Act.put, List.setIfInBounds_toArray, List.set_cons_zero, List.set_cons_succ]
      refine wpAnyH_ready (rs := [11]) (by kernel_rfl) (by simp) ?_
      refine AllReadyH.cons (o := _) rfl (fun K hK => ?_) AllReadyH.nil
      go_simp
      go_at_call 8
      refine (same_view (ys1.drop y) ys2 L _ _ _ _ (by rw [List.length_drop, Hg1.out.1]; have := HL.out; omega) Hg2.out.1 (by omega) (fun x hx => Hb1.out x (List.mem_of_mem_drop hx)) Hb2.out _ (V2.out.nw N8.out) (V3.out.nw N8.out) Hs2.out).mono ?_
      rintro e w9 ⟨rfl, n9⟩
      have N9 := Lib.hid (N8.out.trans n9)
      clear n9 hHeld
      go_wp2_with fail
      refine hK.out _ _ ?_ (fun hHeld => ?_)
      · exact KeepS.out _ N9.out
      clear hK K
      try simp only [List.getElem_toArray, List.getElem_cons_succ, List.getElem_cons_zero, Act.put, List.setIfInBounds_toArray, List.set_cons_zero, List.set_cons_succ]
      refine wpAnyH_take (i := 12) (oi := _) (v := ?_) rfl (by kernel_rfl) (by kernel_rfl) (by kernel_rfl) (fun _ _ _ h => h) (_root_.Or.inl ⟨by kernel_rfl, ?_⟩) (by assumption) ?_
      rotate_left
      · intro w hSw
        (try dsimp only at hSw)
        go_simp
        all_goals with_reducible rfl
      try simp only [List.getElem_toArray, List.getElem_cons_succ, List.getElem_cons_zero, Act.put, List.setIfInBounds_toArray, List.set_cons_zero, List.set_cons_succ]
      refine wpAnyH_take (i := 13) (oi := _) (v := ?_) rfl (by kernel_rfl) (by kernel_rfl) (by kernel_rfl) (fun _ _ _ h => h) (_root_.Or.inl ⟨by kernel_rfl, ?_⟩) (by assumption) ?_
      rotate_left
      · intro w hSw
        (try dsimp only at hSw)
        go_simp
        all_goals with_reducible rfl
      try simp only [List.getElem_toArray, List.getElem_cons_succ, List.getElem_cons_zero, Act.put, List.setIfInBounds_toArray, List.set_cons_zero, List.set_cons_succ]
      refine wpAnyH_take (i := 14) (oi := _) (v := ?_) rfl (by kernel_rfl) (by kernel_rfl) (by kernel_rfl) (fun _ _ _ h => h) (_root_.Or.inl ⟨by kernel_rfl, ?_⟩) (by assumption) ?_
      rotate_left
      · intro w hSw
        (try dsimp only at hSw)
        go_simp
        all_goals with_reducible rfl
      try simp only [List.getElem_toArray, List.getElem_cons_succ, List.getElem_cons_zero, Act.put, List.setIfInBounds_toArray, List.set_cons_zero, List.set_cons_succ]
      refine wpAnyH_take (i := 15) (oi := _) (v := ?_) rfl (by kernel_rfl) (by kernel_rfl) (by kernel_rfl) (fun _ _ _ h => h) (_root_.Or.inl ⟨by kernel_rfl, ?_⟩) (by assumption) ?_
      rotate_left
      · intro w hSw
        (try dsimp only at hSw)
        go_simp
        all_goals with_reducible rfl
      try simp only [List.getElem_toArray, List.getElem_cons_succ, List.getElem_cons_zero, Act.put, List.setIfInBounds_toArray, List.set_cons_zero, List.set_cons_succ]
      refine wpAnyH_take (i := 17) (oi := _) (v := ?_) rfl (by kernel_rfl) (by kernel_rfl) (by kernel_rfl) (fun _ _ _ h => h) (_root_.Or.inl ⟨by kernel_rfl, ?_⟩) (by assumption) ?_
      rotate_left
      · intro w hSw
        (try dsimp only at hSw)
        go_simp
        all_goals with_reducible rfl
      try simp only [List.getElem_toArray, List.getElem_cons_succ, List.getElem_cons_zero, Act.put, List.setIfInBounds_toArray, List.set_cons_zero, List.set_cons_succ]
      refine wpAnyH_take (i := 18) (oi := _) (v := ?_) rfl (by kernel_rfl) (by kernel_rfl) (by kernel_rfl) (fun _ _ _ h => h) (_root_.Or.inl ⟨by kernel_rfl, ?_⟩) (by assumption) ?_
      rotate_left
      · intro w hSw
        (try dsimp only at hSw)
        go_simp
        all_goals with_reducible rfl
      try simp only [List.getElem_toArray, List.getElem_cons_succ, List.getElem_cons_zero, Act.put, List.setIfInBounds_toArray, List.set_cons_zero, List.set_cons_succ]
      refine wpAnyH_take (i := 19) (oi := _) (v := ?_) rfl (by kernel_rfl) (by kernel_rfl) (by kernel_rfl) (fun _ _ _ h => h) (_root_.Or.inl ⟨by kernel_rfl, ?_⟩) (by assumption) ?_
      rotate_left
      · intro w hSw
        (try dsimp only at hSw)
        go_simp
        all_goals with_reducible rfl
      try simp only [List.getElem_toArray, List.getElem_cons_succ, List.getElem_cons_zero, Act.put, List.setIfInBounds_toArray, List.set_cons_zero, List.set_cons_succ]
      refine wpAnyH_ready (rs := [16]) (by kernel_rfl) (by simp) ?_
      refine AllReadyH.cons (o := _) rfl (fun K hK => ?_) AllReadyH.nil
      go_simp
      go_at_call 9
      refine (countEvents_ok _ _ V C R y 3000 bs (es.map (Ev6.late y)) _ _ _ (U6.out.nw N9.out) Hab.out).mono ?_
      rintro e wA ⟨rfl, nA⟩
      have NA := Lib.hid (N9.out.trans nA)
      clear nA hHeld
      rw [Hlen.out]
      go_wp2_with fail
      refine hK.out _ _ ?_ (fun hHeld => ?_)
      · exact KeepS.out _ NA.out
      clear hK K
      try simp only [List.getElem_toArray, List.getElem_cons_succ, List.getElem_cons_zero, Act.put, List.setIfInBounds_toArray, List.set_cons_zero, List.set_cons_succ]
      refine wpAnyH_take (i := 20) (oi := _) (v := ?_) rfl (by kernel_rfl) (by kernel_rfl) (by kernel_rfl) (fun _ _ _ h => h) (_root_.Or.inl ⟨by kernel_rfl, ?_⟩) (by assumption) ?_
      rotate_left
      · intro w hSw
        (try dsimp only at hSw)
        go_simp
        all_goals with_reducible rfl
      try simp only [List.getElem_toArray, List.getElem_cons_succ, List.getElem_cons_zero, Act.put, List.setIfInBounds_toArray, List.set_cons_zero, List.set_cons_succ]
      refine wpAnyH_take (i := 21) (oi := _) (v := ?_) rfl (by kernel_rfl) (by kernel_rfl) (by kernel_rfl) (fun _ _ _ h => h) (_root_.Or.inl ⟨by kernel_rfl, ?_⟩) (by assumption) ?_
      rotate_left
      · intro w hSw
        (try dsimp only at hSw)
        go_simp
        all_goals with_reducible rfl
      try simp only [List.getElem_toArray, List.getElem_cons_succ, List.getElem_cons_zero, Act.put, List.setIfInBounds_toArray, List.set_cons_zero, List.set_cons_succ]
      refine wpAnyH_take (i := 22) (oi := _) (v := ?_) rfl (by kernel_rfl) (by kernel_rfl) (by kernel_rfl) (fun _ _ _ h => h) (_root_.Or.inl ⟨by kernel_rfl, ?_⟩) (by assumption) ?_
      rotate_left
      · intro w hSw
        (try dsimp only at hSw)
        go_simp
        all_goals with_reducible rfl
      try simp only [List.getElem_toArray, List.getElem_cons_succ, List.getElem_cons_zero, Act.put, List.setIfInBounds_toArray, List.set_cons_zero, List.set_cons_succ]
      refine wpAnyH_done (by kernel_rfl) ?_ _
      clear hHeld
      go_wp2_with fail
      go_ret
      exact ⟨rfl, nw_below (N6.out.trans NA.out)⟩
    · have hLy : ¬ (L' = y) := by rw [HL.out]; omega
      have hLy3 : ¬ (L' ≤ y) := by rw [HL.out]; omega
      have hLy2 : ¬ (L' - y = 0) := by rw [HL.out]; omega
      have V2 := Lib.hid (show View w6 wa0 (.slice (some ⟨ga, y, none⟩) (L' - y) (L' - y)) (ys1.drop y) from by
        have v := View.cut O1'.out Hg1.out.1 y L' hyL (Nat.le_refl _) (L' - y) (by omega) (by unfold maxLen; omega)
        rw [List.take_of_length_le (Nat.le_of_eq Hg1.out.1)] at v
        exact v)
      refine wp_region_held_drew (S := fun W' => W'.cell? ⟨b5, 0, none⟩ = some (.int .i64 (L' : Int)) ∧ W'.cell? ⟨b5, 1, none⟩ = some (.int .i64 (V : Int)) ∧ W'.cell? ⟨b5, 2, none⟩ = some (.float .f32 C) ∧ W'.cell? ⟨b5, 3, none⟩ = some (.float .f32 R) ∧ W'.cell? ⟨b5, 4, none⟩ = some (.slice ua nb uc) ∧ W'.cell? ⟨b5, 5, none⟩ = some (.slice va ne vc) ∧ W'.cell? ⟨b3, 5, none⟩ = some (.slice ea ne ec)) (by kernel_rfl) (KeepS.out _ ((Nw.refl w6).draw 1)) (fun hHeld => ?_)
      refine wpAnyH_take (i := 0) (oi := _) (v := ?_) rfl (by kernel_rfl) (by kernel_rfl) (by kernel_rfl) (fun _ _ _ h => h) (_root_.Or.inl ⟨by kernel_rfl, ?_⟩) (by assumption) ?_
      rotate_left
      · intro w hSw
        (try dsimp only at hSw)
        go_simp
        all_goals with_reducible rfl
      try simp only [List.getElem_toArray, List.getElem_cons_succ, List.getElem_cons_zero, Act.put, List.setIfInBounds_toArray, List.set_cons_zero, List.set_cons_succ]
      refine wpAnyH_take (i := 1) (oi := _) (v := ?_) rfl (by kernel_rfl) (by kernel_rfl) (by kernel_rfl) (fun _ _ _ h => h) (_root_.Or.inl ⟨by kernel_rfl, ?_⟩) (by assumption) ?_
      rotate_left
      · intro w hSw
        (try dsimp only at hSw)
        go_simp
        all_goals with_reducible rfl
      try simp only [List.getElem_toArray, List.getElem_cons_succ, List.getElem_cons_zero, Act.put, List.setIfInBounds_toArray, List.set_cons_zero, List.set_cons_succ]
      refine wpAnyH_take (i := 2) (oi := _) (v := ?_) rfl (by kernel_rfl) (by kernel_rfl) (by kernel_rfl) (fun _ _ _ h => h) (_root_.Or.inl ⟨by kernel_rfl, ?_⟩) (by assumption) ?_
      rotate_left
      · intro w hSw
        (try dsimp only at hSw)
        go_simp
        all_goals with_reducible rfl
      try simp only [List.getElem_toArray, List.getElem_cons_succ, List.getElem_cons_zero, Act.put, List.setIfInBounds_toArray, List.set_cons_zero, List.set_cons_succ]
      refine wpAnyH_take (i := 3) (oi := _) (v := ?_) rfl (by kernel_rfl) (by kernel_rfl) (by kernel_rfl) (fun _ _ _ h => h) (_root_.Or.inl ⟨by kernel_rfl, ?_⟩) (by assumption) ?_
      rotate_left
      · intro w hSw
        (try dsimp only at hSw)
        go_simp
        all_goals with_reducible rfl
      try simp only [List.getElem_toArray, List.getElem_cons_succ, List.getElem_cons_zero, Act.put, List.setIfInBounds_toArray, List.set_cons_zero, List.set_cons_succ]
      refine wpAnyH_ready (rs := [4]) (by kernel_rfl) (by simp) ?_
      refine AllReadyH.cons (o := _) rfl (fun K hK => ?_) AllReadyH.nil
      refine step_make_full rfl (.tmp 57) (.tmp 57) 32 rfl w6.heap.size 23 f0 (.float .f32 0) 1 Try.underlying32 hf0 hfz0 hfz1 .i64 .i64 y rfl rfl (by rw [hfz2]; omega) (by unfold maxLen; omega) (Nat.le_refl _) ?_
      intro gz w7 oz d
      have N7 := Lib.hid (((Nw.refl w6).draw 1).trans (show Nw w6.drew w7 from d))
      have Vz := Lib.hid (show View w7 w6.heap.size (.slice (some ⟨gz, 0, none⟩) y y) (List.replicate y 0) from by
        have o := zeros_own oz
        have v := View.cut o (by simp) 0 y (by omega) (by omega) y (by omega) (by unfold maxLen; omega)
        simpa using v)
      clear oz d hHeld
      refine hK.out _ _ ?_ (fun hHeld => ?_)
      · exact KeepS.out _ N7.out
      clear hK K
      try simp only [List.getElem_toArray, List.getElem_cons_succ, List.getElem_cons_zero, Act.put, List.setIfInBounds_toArray, List.set_cons_zero, List.set_cons_succ]
      refine wpAnyH_ready (rs := [5]) (by kernel_rfl) (by simp) ?_
      refine AllReadyH.cons (o := _) rfl (fun K hK => ?_) AllReadyH.nil
      go_simp
      go_at_call 8
      refine (same_view (ys1.take y) (List.replicate y 0) y _ _ _ _ (by rw [List.length_take, Hg1.out.1]; omega) (by simp) (by omega) (fun x hx => Hb1.out x (List.mem_of_mem_take hx)) (fun x hx => by rw [List.eq_of_mem_replicate hx]; decide) _ (V1.out.nw N7.out) Vz.out Hs1.out).mono ?_
      rintro e w8 ⟨rfl, n8⟩
      have N8 := Lib.hid (N7.out.trans n8)
      clear n8 hHeld
      go_wp2_with fail
      refine hK.out _ _ ?_ (fun hHeld => ?_)
      · exact KeepS.out _ N8.out
      clear hK K
      try simp only [List.getElem_toArray, List.getElem_cons_succ, List.getElem_cons_zero, Act.put, List.setIfInBounds_toArray, List.set_cons_zero, List.set_cons_succ]
      refine wpAnyH_take (i := 6) (oi := _) (v := ?_) rfl (by kernel_rfl) (by kernel_rfl) (by kernel_rfl) (fun _ _ _ h => h) (_root_.Or.inl ⟨by kernel_rfl, ?_⟩) (by assumption) ?_
      rotate_left
      · intro w hSw
        (try dsimp only at hSw)
        go_simp
        all_goals with_reducible rfl
      try simp only [List.getElem_toArray, List.getElem_cons_succ, List.getElem_cons_zero, Act.put, List.setIfInBounds_toArray, List.set_cons_zero, List.set_cons_succ]
      refine wpAnyH_take (i := 7) (oi := _) (v := ?_) rfl (by kernel_rfl) (by kernel_rfl) (by kernel_rfl) (fun _ _ _ h => h) (_root_.Or.inl ⟨by kernel_rfl, ?_⟩) (by assumption) ?_
      rotate_left
      · intro w hSw
        (try dsimp only at hSw)
        go_simp
        all_goals with_reducible rfl
      try simp only [List.getElem_toArray, List.getElem_cons_succ, List.getElem_cons_zero, Act.put, List.setIfInBounds_toArray, List.set_cons_zero, List.set_cons_succ]
      refine wpAnyH_take (i := 8) (oi := _) (v := ?_) rfl (by kernel_rfl) (by kernel_rfl) (by kernel_rfl) (fun _ _ _ h => h) (_root_.Or.inl ⟨by kernel_rfl, ?_⟩) (by assumption) ?_
      rotate_left
      · intro w hSw
        (try dsimp only at hSw)
        go_simp
        all_goals with_reducible rfl
      try simp only [List.getElem_toArray, List.getElem_cons_succ, List.getElem_cons_zero, Act.put, List.setIfInBounds_toArray, List.set_cons_zero, List.set_cons_succ]
      refine wpAnyH_take (i := 9) (oi := _) (v := ?_) rfl (by kernel_rfl) (by kernel_rfl) (by kernel_rfl) (fun _ _ _ h => h) (_root_.Or.inl ⟨by kernel_rfl, ?_⟩) (by assumption) ?_
      rotate_left
      · intro w hSw
        (try dsimp only at hSw)
        go_simp
        all_goals with_reducible rfl
      try simp only [List.getElem_toArray, List.getElem_cons_succ, List.getElem_cons_zero, Act.put, List.setIfInBounds_toArray, List.set_cons_zero, List.set_cons_succ]
      refine wpAnyH_take (i := 10) (oi := _) (v := ?_) rfl (by kernel_rfl) (by kernel_rfl) (by kernel_rfl) (fun _ _ _ h => h) (_root_.Or.inl ⟨by kernel_rfl, ?_⟩) (by assumption) ?_
      rotate_left
      · intro w hSw
        (try dsimp only at hSw)
        go_simp
        all_goals with_reducible rfl
      try simp only [List.getElem_toArray, List.getElem_cons_succ, List.getElem_cons_zero, Act.put, List.setIfInBounds_toArray, List.set_cons_zero, List.set_cons_succ]
      refine wpAnyH_ready (rs := [11]) (by kernel_rfl) (by simp) ?_
      refine AllReadyH.cons (o := _) rfl (fun K hK => ?_) AllReadyH.nil
      go_simp
      go_at_call 8
      refine (same_view (ys1.drop y) ys2 L _ _ _ _ (by rw [List.length_drop, Hg1.out.1]; have := HL.out; omega) Hg2.out.1 (by omega) (fun x hx => Hb1.out x (List.mem_of_mem_drop hx)) Hb2.out _ (V2.out.nw N8.out) (V3.out.nw N8.out) Hs2.out).mono ?_
      rintro e w9 ⟨rfl, n9⟩
      have N9 := Lib.hid (N8.out.trans n9)
      clear n9 hHeld
      go_wp2_with fail
      refine hK.out _ _ ?_ (fun hHeld => ?_)
      · exact KeepS.out _ N9.out
      clear hK K
      try simp only [List.getElem_toArray, List.getElem_cons_succ, List.getElem_cons_zero, Act.put, List.setIfInBounds_toArray, List.set_cons_zero, List.set_cons_succ]
      refine wpAnyH_take (i := 12) (oi := _) (v := ?_) rfl (by kernel_rfl) (by kernel_rfl) (by kernel_rfl) (fun _ _ _ h => h) (_root_.Or.inl ⟨by kernel_rfl, ?_⟩) (by assumption) ?_
      rotate_left
      · intro w hSw
        (try dsimp only at hSw)
        go_simp
        all_goals with_reducible rfl
      try simp only [List.getElem_toArray, List.getElem_cons_succ, List.getElem_cons_zero, Act.put, List.setIfInBounds_toArray, List.set_cons_zero, List.set_cons_succ]
      refine wpAnyH_take (i := 13) (oi := _) (v := ?_) rfl (by kernel_rfl) (by kernel_rfl) (by kernel_rfl) (fun _ _ _ h => h) (_root_.Or.inl ⟨by kernel_rfl, ?_⟩) (by assumption) ?_
      rotate_left
      · intro w hSw
        (try dsimp only at hSw)
        go_simp
        all_goals with_reducible rfl
      try simp only [List.getElem_toArray, List.getElem_cons_succ, List.getElem_cons_zero, Act.put, List.setIfInBounds_toArray, List.set_cons_zero, List.set_cons_succ]
      refine wpAnyH_take (i := 14) (oi := _) (v := ?_) rfl (by kernel_rfl) (by kernel_rfl) (by kernel_rfl) (fun _ _ _ h => h) (_root_.Or.inl ⟨by kernel_rfl, ?_⟩) (by assumption) ?_
      rotate_left
      · intro w hSw
        (try dsimp only at hSw)
        go_simp
        all_goals with_reducible rfl
      try simp only [List.getElem_toArray, List.getElem_cons_succ, List.getElem_cons_zero, Act.put, List.setIfInBounds_toArray, List.set_cons_zero, List.set_cons_succ]
      refine wpAnyH_take (i := 15) (oi := _) (v := ?_) rfl (by kernel_rfl) (by kernel_rfl) (by kernel_rfl) (fun _ _ _ h => h) (_root_.Or.inl ⟨by kernel_rfl, ?_⟩) (by assumption) ?_
      rotate_left
      · intro w hSw
        (try dsimp only at hSw)
        go_simp
        all_goals with_reducible rfl
      try simp only [List.getElem_toArray, List.getElem_cons_succ, List.getElem_cons_zero, Act.put, List.setIfInBounds_toArray, List.set_cons_zero, List.set_cons_succ]
      refine wpAnyH_take (i := 17) (oi := _) (v := ?_) rfl (by kernel_rfl) (by kernel_rfl) (by kernel_rfl) (fun _ _ _ h => h) (_root_.Or.inl ⟨by kernel_rfl, ?_⟩) (by assumption) ?_
      rotate_left
      · intro w hSw
        (try dsimp only at hSw)
        go_simp
        all_goals with_reducible rfl
      try simp only [List.getElem_toArray, List.getElem_cons_succ, List.getElem_cons_zero, Act.put, List.setIfInBounds_toArray, List.set_cons_zero, List.set_cons_succ]
      refine wpAnyH_take (i := 18) (oi := _) (v := ?_) rfl (by kernel_rfl) (by kernel_rfl) (by kernel_rfl) (fun _ _ _ h => h) (_root_.Or.inl ⟨by kernel_rfl, ?_⟩) (by assumption) ?_
      rotate_left
      · intro w hSw
        (try dsimp only at hSw)
        go_simp
        all_goals with_reducible rfl
      try simp only [List.getElem_toArray, List.getElem_cons_succ, List.getElem_cons_zero, Act.put, List.setIfInBounds_toArray, List.set_cons_zero, List.set_cons_succ]
      refine wpAnyH_take (i := 19) (oi := _) (v := ?_) rfl (by kernel_rfl) (by kernel_rfl) (by kernel_rfl) (fun _ _ _ h => h) (_root_.Or.inl ⟨by kernel_rfl, ?_⟩) (by assumption) ?_
      rotate_left
      · intro w hSw
        (try dsimp only at hSw)
        go_simp
        all_goals with_reducible rfl
      try simp only [List.getElem_toArray, List.getElem_cons_succ, List.getElem_cons_zero, Act.put, List.setIfInBounds_toArray, List.set_cons_zero, List.set_cons_succ]
      refine wpAnyH_ready (rs := [16]) (by kernel_rfl) (by simp) ?_
      refine AllReadyH.cons (o := _) rfl (fun K hK => ?_) AllReadyH.nil
      go_simp
      go_at_call 9
      refine (countEvents_ok _ _ V C R y 3000 bs (es.map (Ev6.late y)) _ _ _ (U6.out.nw N9.out) Hab.out).mono ?_
      rintro e wA ⟨rfl, nA⟩
      have NA := Lib.hid (N9.out.trans nA)
      clear nA hHeld
      rw [Hlen.out]
      go_wp2_with fail
      refine hK.out _ _ ?_ (fun hHeld => ?_)
      · exact KeepS.out _ NA.out
      clear hK K
      try simp only [List.getElem_toArray, List.getElem_cons_succ, List.getElem_cons_zero, Act.put, List.setIfInBounds_toArray, List.set_cons_zero, List.set_cons_succ]
      refine wpAnyH_take (i := 20) (oi := _) (v := ?_) rfl (by kernel_rfl) (by kernel_rfl) (by kernel_rfl) (fun _ _ _ h => h) (_root_.Or.inl ⟨by kernel_rfl, ?_⟩) (by assumption) ?_
      rotate_left
      · intro w hSw
        (try dsimp only at hSw)
        go_simp
        all_goals with_reducible rfl
      try simp only [List.getElem_toArray, List.getElem_cons_succ, List.getElem_cons_zero, Act.put, List.setIfInBounds_toArray, List.set_cons_zero, List.set_cons_succ]
      refine wpAnyH_take (i := 21) (oi := _) (v := ?_) rfl (by kernel_rfl) (by kernel_rfl) (by kernel_rfl) (fun _ _ _ h => h) (_root_.Or.inl ⟨by kernel_rfl, ?_⟩) (by assumption) ?_
      rotate_left
      · intro w hSw
        (try dsimp only at hSw)
        go_simp
        all_goals with_reducible rfl
      try simp only [List.getElem_toArray, List.getElem_cons_succ, List.getElem_cons_zero, Act.put, List.setIfInBounds_toArray, List.set_cons_zero, List.set_cons_succ]
      refine wpAnyH_take (i := 22) (oi := _) (v := ?_) rfl (by kernel_rfl) (by kernel_rfl) (by kernel_rfl) (fun _ _ _ h => h) (_root_.Or.inl ⟨by kernel_rfl, ?_⟩) (by assumption) ?_
      rotate_left
      · intro w hSw
        (try dsimp only at hSw)
        go_simp
        all_goals with_reducible rfl
      try simp only [List.getElem_toArray, List.getElem_cons_succ, List.getElem_cons_zero, Act.put, List.setIfInBounds_toArray, List.set_cons_zero, List.set_cons_succ]
      refine wpAnyH_done (by kernel_rfl) ?_ _
      clear hHeld
      go_wp2_with fail
      go_ret
      exact ⟨rfl, nw_below (N6.out.trans NA.out)⟩
  · clear w0
    go_enter Try.func3, Try.ntmps3
    go_wp2
    go_ret
    exact ⟨rfl, Below.refl _ _⟩
/-! ### THE ROW's STEP: WRITTEN OUT: LEAVE IT -/
set_option maxRecDepth 100000 in
theorem lifted (os : Os) (started : os.Started) (H : Type) (enc : TypeId × Value → H) :
    ReturnsInHanded {} Try.checked os 3 .any (Rows.fnShiftedSpec.pre6 enc Try.prog Try.f3 Rows.fnShiftedRow.domain false) (Rows.fnShiftedSpec.post enc Try.prog Try.f3 false true false false) := by
  refine returnsInHanded_of_change (C := Try.checked) own started (by kernel_rfl) Try.func3
    (ChangeSpec.witness6 (enc := enc) (C := Try.checked) false ⟨#[], #[.slice none 0 0], []⟩ 8 (by kernel_rfl) (by kernel_rfl) (by kernel_rfl) (by kernel_rfl)) ?_
  intro W base args ds gs before hval0 hW hcnd _
  have hval : ∀ (j : Nat) t v, Try.f3.params[j]? = some t → args[j]? = some v → Value.okWide Try.prog W .any base t v := hval0
  have hW' := hW
  obtain ⟨p, q, hA0, hV, rfl, hfz, hnd⟩ := hW
  have hA : DataW.TrodAll enc Try.prog W 0 (fun _ => true) true Try.f3.params.toList args.toList ds p := hA0
  rw [Try.params3] at hA hval
  obtain ⟨v0, vs0, d0, ds0, p0, q0, hargs, rfl, rfl, h0, r0⟩ := trodAll_cons hA
  obtain ⟨rfl, rfl, rfl⟩ := trodAll_nil r0
  obtain rfl : args = #[v0] := by cases args; simp_all
  obtain ⟨rfl, rfl⟩ := trodVars_none hV
  obtain ⟨a0, len0, cap0, rfl⟩ := okWide_slice Try.underlying22 (hval 0 22 v0 rfl rfl)
  have k0 := h0
  have lt0 : ∀ x ∈ p0, x.block < W.heap.size := by obtain ⟨m, hm⟩ := k0; exact DataW.trod_lt m _ _ _ hm
  obtain ⟨z0, w0⟩ : ∃ zs, IsRow .u8 W a0 len0 cap0 zs := by
    obtain ⟨fuel, hf⟩ := h0
    rcases open_ints Try.underlying22 Try.underlying5 (by kernel_rfl) hf with ⟨hcs, _⟩ | ⟨x, l, c, zs, hcs, _, hl, hm, hz, _, hcell, hwz⟩
    · simp [Value.cells] at hcs
      obtain ⟨rfl, rfl, rfl⟩ := hcs
      exact ⟨[], .inl ⟨rfl, rfl, rfl, rfl⟩⟩
    · simp [Value.cells] at hcs
      obtain ⟨rfl, rfl, rfl⟩ := hcs
      exact ⟨zs, .inr ⟨_, rfl, hl, hm, by simpa using hz, hcell, hwz⟩⟩
  clear hA0 hval0
  refine (walk a0 len0 cap0 z0 W w0).mono fun e W' ⟨he, bel⟩ => ?_
  subst he
  exact ⟨_, rfl, _, _, _, [], _, [], hW', trodAll_mk1 (shut_bool Try.underlying4 _), (trodAll_cons_mk (Below.trod laidOut (by kernel_rfl) (of_decide_eq_true (by kernel_rfl)) k0 bel lt0) trodAll_mk0), rfl, bel.frame _, fun h => by cases h⟩

theorem over : Rows.fnShiftedRow.holds Try.pinned (OpenSpec.ofChange Rows.fnShiftedSpec) :=
  OpenClaim.holds_of_wide 3 Try.f3 rfl rfl rfl rfl rfl rfl rfl ⟨rfl, rfl, rfl, rfl, rfl⟩ rfl rfl rfl rfl rfl (by kernel_rfl) Try.func3 (by kernel_rfl)
    (of_decide_eq_true (by kernel_rfl)) (by unfold Func.isWrapper; first | (rw [if_pos (by decide +kernel)]; kernel_rfl) | (rw [if_neg (by decide +kernel)]; exact ⟨rfl, rfl⟩))
    (fun os started H enc _ => lifted os started H enc)

/-- ████ THE STATEMENT ████ -/
theorem proved : Rows.FnShiftedSaid := over
#print axioms proved
end Go.Proofs.Ytkajhgfimempaaa.fnShifted

