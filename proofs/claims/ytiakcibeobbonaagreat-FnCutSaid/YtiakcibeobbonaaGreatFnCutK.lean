/- The law FnCut, proved: a stream advanced in two parts is the stream advanced at once.
   Conditions: none beyond the statement's own. -/
import Derived.Test.YtiakcibeobbonaaGreatKFnCut8
namespace Go.Proofs.YtiakcibeobbonaaGreat.fnCut
set_option linter.unusedSimpArgs false
set_option linter.unusedVariables false
open Go Go.ChangeShapes Go.WideShapes Go.ChangeAt Go.RowKit

theorem nw_below {w w' : World} (hb : Nw w w') : Below w.heap.size w w' := ⟨hb.os, hb.tape, hb.output, hb.size, fun k hk => hb.block k hk (by simp)⟩
theorem row_some {w : World} {base n : Nat} {v : Value} {xs : List Nat} (h : w.ownsRow base 23 1 v n (cellsS xs)) (hv : v ≠ .slice none 0 0) : ∃ g cap, v = .slice (some ⟨g, 0, none⟩) n cap := by
  rcases h.2 with ⟨h1, _⟩ | ⟨g, cap, cur, h1, _⟩
  · exact absurd h1 hv
  · exact ⟨g, cap, h1⟩
theorem view_some {w : World} {base n g cap : Nat} {xs : List Nat} (h : w.ownsRow base 23 1 (.slice (some ⟨g, 0, none⟩) n cap) n (cellsS xs)) (hn : n = xs.length) : View w base (.slice (some ⟨g, 0, none⟩) n cap) xs := by
  subst hn
  rcases h.2 with ⟨h1, h0⟩ | ⟨g', cap', cur, h1, q1, q2, q3, q4, q5⟩
  · cases h1
  · cases h1
    refine ⟨g, 0, cap, cur, rfl, q3, q4, q1, q2, fun k x hx => ?_⟩
    have hk := (List.getElem?_eq_some_iff.1 hx).1
    have c := h.cellAt k (by omega)
    rw [show (cellsS xs)[k]? = some (.float .f32 x) from by simp [cellsS, hx]] at c
    simpa using c
theorem row_cell {w : World} {base n g cap : Nat} {xs : List Nat} (h : w.ownsRow base 23 1 (.slice (some ⟨g, 0, none⟩) n cap) n (cellsS xs)) (hn : xs.length = n) : ∀ (j : Nat) u, (cellsS xs)[j]? = some u → w.cell? ((⟨g, 0, none⟩ : Addr).add j) = some u := by
  intro j u hj
  have hj' : j < n := by
    have := (List.getElem?_eq_some_iff.1 hj).1
    simpa [cellsS, hn] using this
  have c := h.cellAt j (by omega)
  rw [hj] at c
  rw [show (⟨g, 0, none⟩ : Addr).add j = ⟨g, j, none⟩ from by simp [Addr.add]; first | done | (intro h; omega)]
  exact c
theorem one_cells (xs : List Nat) : ∀ u ∈ cellsS xs, u.oneCell' = true := by
  intro u hu
  obtain ⟨x, -, rfl⟩ := List.mem_map.1 hu
  rfl
set_option maxHeartbeats 6400000 in
set_option maxRecDepth 100000 in
theorem walk (a0 : Option Addr) (len0 cap0 : Nat) (z0 : List Int) (w : World) (w0 : IsRow .u8 w a0 len0 cap0 z0) :
    Calls Tryz.prog 3 #[.slice a0 len0 cap0] w fun e w' => e = .returned (.bool true) ∧ Below w.heap.size w w' := by
  by_cases hl : len0 ≤ 1048576
  · have Hb := Lib.hid (bys_of_row w0 (by omega))
    clear w0
    go_enter Tryz.func3, Tryz.ntmps3
    go_wp2_with fail
    refine (makeScore_any _ _ _ 40 (by omega) (by omega) _ Hb.out).mono ?_
    rintro e w1 ⟨L, V, C, R, bs, es, sv, ev, rfl, hL, hsc, n1⟩
    obtain ⟨nb, hnb⟩ : ∃ nb, nb = bs.length := ⟨_, rfl⟩
    obtain ⟨ne, hne⟩ : ∃ ne, ne = es.length := ⟨_, rfl⟩
    obtain ⟨⟨sa, sc, rfl⟩, ea, ec, rfl⟩ := hsc.shape
    rw [← hnb, ← hne] at hsc ⊢
    have X1 := Lib.hid (HasC.new w1 27 (.int .i64 (L : Int)) (.int .i64 (V : Int)) (.float .f32 C) (.float .f32 R) (.slice sa nb sc) (.slice ea ne ec))
    have N1 := Lib.hid (n1.alloc (.cells #[.int .i64 (L : Int), .int .i64 (V : Int), .float .f32 C, .float .f32 R, .slice sa nb sc, .slice ea ne ec] 27 (0, 0)))
    have S1 := Lib.hid (hsc.nw ((Nw.refl w1).alloc (.cells #[.int .i64 (L : Int), .int .i64 (V : Int), .float .f32 C, .float .f32 R, .slice sa nb sc, .slice ea ne ec] 27 (0, 0))))
    have Hn := Lib.hid (And.intro hnb hne)
    clear n1 hsc hnb hne
    go_upto_region 4 with fail
    obtain ⟨w2, hw2⟩ : ∃ w2, w2 = w1.alloc (.cells #[.int .i64 (L : Int), .int .i64 (V : Int), .float .f32 C, .float .f32 R, .slice sa nb sc, .slice ea ne ec] 27 (0, 0)) := ⟨_, rfl⟩
    rw [← hw2] at X1 N1 S1 ⊢
    clear hw2
    obtain ⟨b3, hb3⟩ : ∃ b3, b3 = w1.heap.size := ⟨_, rfl⟩
    rw [← hb3] at X1 ⊢
    clear hb3
    obtain ⟨⟨e0, g0⟩, ⟨e1, g1⟩, ⟨e2, g2⟩, ⟨e3, g3⟩, ⟨e4, g4⟩, ⟨e5, g5⟩⟩ := six_at X1.out
    go_wp2_with fail
    refine (openStream_c _ L V C R bs es _ _ _ S1.out (by omega)).mono ?_
    rintro e w3 ⟨sv3, ev3, rfl, hst, n3⟩
    obtain ⟨⟨ba, bc, rfl⟩, ca, cc, rfl⟩ := hst.sco.shape
    obtain ⟨d0, hd0⟩ : ∃ d0, d0 = dAt (ordE es) 0 := ⟨_, rfl⟩
    unfold strA
    rw [← hd0]
    have D0 := Lib.hid hd0
    obtain ⟨w4, hw4⟩ : ∃ w4, w4 = w3.alloc (.cells #[.int .i64 (L : Int), .int .i64 (V : Int), .float .f32 C, .float .f32 R, .slice ba bs.length bc, .slice ca es.length cc, .int .i64 0, .int .i64 (d0 : Int), .slice none 0 0, .float .f32 0] 31 (0, 0)) := ⟨_, rfl⟩
    have Na := Lib.hid (show Nw w3 w4 from by rw [hw4]; exact (Nw.refl w3).alloc _)
    have T4 := Lib.hid (show HasC w4 w3.heap.size [.int .i64 (L : Int), .int .i64 (V : Int), .float .f32 C, .float .f32 R, .slice ba bs.length bc, .slice ca es.length cc, .int .i64 0, .int .i64 (d0 : Int), .slice none 0 0, .float .f32 0] from by rw [hw4]; exact HasC.newB w3 _ _)
    have St4 := Lib.hid (hst.nw Na.out)
    have X4 := Lib.hid (X1.out.nw (n3.trans Na.out))
    have N4 := Lib.hid ((N1.out.trans n3).trans Na.out)
    have Hw4 := Lib.hid hw4
    clear hst n3 hd0 hw4 e0 g0 e1 g1 e2 g2 e3 g3 e4 g4 e5 g5 X1 S1 N1
    go_upto_region 5 with fail
    rw [← Hw4.out]
    clear Hw4
    obtain ⟨b4, hb4⟩ : ∃ b4, b4 = w3.heap.size := ⟨_, rfl⟩
    rw [← hb4] at T4 ⊢
    clear hb4
    have Bs := Lib.hid (fun W (hW : Nw w4 W) => (Hb.out.below (nw_below (N4.out.trans hW))).mono (N4.out.trans hW).size)
    have KeepL := Lib.hid (show ∀ W', Nw w4 W' → W'.cell? ⟨b3, 0, none⟩ = some (.int .i64 (L : Int)) from fun W' hW => (six_at (X4.out.nw hW)).1.1)
    have hwr : IntKind.i64.wrap ((L : Int) + 1) = (L : Int) + 1 := IntWalk.i64_in _ (by omega)
    have hne0 : ¬ ((L : Int) + 1 = 0) := by omega
    have acc := Lib.hid (show Nw w4 w4.drew from (Nw.refl w4).draw 1)
    go_region_held3 (fun W' => W'.cell? ⟨b3, 0, none⟩ = some (.int .i64 (L : Int))) (exact KeepL.out _ acc.out) (first
      | (go_at_call 6; refine (at_any _ _ _ 1 hl (by omega) _ (Bs.out _ acc.out)).mono ?_; rintro e u ⟨z, hz, rfl, rfl⟩))
    obtain ⟨a, ha⟩ : ∃ a, a = z % (L + 1) := ⟨_, rfl⟩
    have haL : a ≤ L := by have := Nat.mod_lt z (show 0 < L + 1 by omega); omega
    have hza : (z : Int).tmod ((L : Int) + 1) = (a : Int) := by rw [Int.tmod_eq_emod_of_nonneg (by omega), ha]; push_cast; rfl
    rw [hza]
    clear ha hza hz hwr hne0
    have N5 := Lib.hid (N4.out.trans acc.out)
    have X5 := Lib.hid (X4.out.nw acc.out)
    have T5 := Lib.hid (T4.out.nw acc.out)
    have St5 := Lib.hid (St4.out.nw acc.out)
    clear acc KeepL Bs N4 X4 T4 St4 Na
    generalize w4.drew = w5 at *
    have hwr1 : IntKind.i64.wrap ((L : Int) - (a : Int)) = (L : Int) - (a : Int) := IntWalk.i64_in _ (by omega)
    have hwr2 : IntKind.i64.wrap ((L : Int) - (a : Int) + 1) = (L : Int) - (a : Int) + 1 := IntWalk.i64_in _ (by omega)
    have hne0 : ¬ ((L : Int) - (a : Int) + 1 = 0) := by omega
    have Bs := Lib.hid (fun W (hW : Nw w5 W) => (Hb.out.below (nw_below (N5.out.trans hW))).mono (N5.out.trans hW).size)
    have KeepL := Lib.hid (show ∀ W', Nw w5 W' → W'.cell? ⟨b3, 0, none⟩ = some (.int .i64 (L : Int)) from fun W' hW => (six_at (X5.out.nw hW)).1.1)
    go_upto_region 6 with fail
    have acc := Lib.hid (show Nw w5 w5.drew from (Nw.refl w5).draw 1)
    go_region_held3 (fun W' => W'.cell? ⟨b3, 0, none⟩ = some (.int .i64 (L : Int))) (exact KeepL.out _ acc.out) (first
      | (go_at_call 6; refine (at_any _ _ _ 2 hl (by omega) _ (Bs.out _ acc.out)).mono ?_; rintro e u ⟨y, hy, rfl, rfl⟩))
    obtain ⟨b, hb⟩ : ∃ b, b = y % (L - a + 1) := ⟨_, rfl⟩
    have hbL : a + b ≤ L := by have := Nat.mod_lt y (show 0 < L - a + 1 by omega); omega
    have hyb : (y : Int).tmod ((L : Int) - (a : Int) + 1) = (b : Int) := by
      rw [Int.tmod_eq_emod_of_nonneg (by omega), hb, show ((L : Int) - (a : Int) + 1) = ((L - a + 1 : Nat) : Int) from by omega]
      push_cast
      rfl
    rw [hyb]
    clear hb hyb hy hwr1 hwr2 hne0
    have N6 := Lib.hid (N5.out.trans acc.out)
    have T6 := Lib.hid (T5.out.nw acc.out)
    have St6 := Lib.hid (St5.out.nw acc.out)
    clear acc KeepL Bs N5 X5 T5 St5
    generalize w5.drew = w6 at *
    obtain ⟨e0, e1, e2, e3, e4, e5, e6, e7, e8, e9⟩ := ten_at T6.out
    have A := advance_ok (n := a) St6.out (by omega)
    unfold strA at A
    rw [← D0.out, show ((0 : Nat) : Int) = 0 from rfl] at A
    have Ad := Lib.hid A
    clear A
    go_upto_region 7 with fail
    go_wp2_with fail
    refine Ad.out.mono ?_
    rintro e w7 ⟨sv7, ev7, vv7, env7, zs7, g7, xs7, rfl, st7, o7, good7, n7⟩
    rw [Nat.zero_add] at st7
    simp only [Nat.zero_add] at good7
    rw [Nat.zero_add]
    obtain ⟨⟨p7, q7, rfl⟩, r7, s7, rfl⟩ := st7.sco.shape
    obtain ⟨v7, c7, rfl⟩ := own_shape' st7.voi.row
    obtain ⟨d7, hd7⟩ : ∃ d, d = dAt (ordE es) (a) := ⟨_, rfl⟩
    obtain ⟨i7, hi7⟩ : ∃ i, i = a := ⟨_, rfl⟩
    unfold strA
    rw [← hd7, ← hi7]
    have D7 := Lib.hid (And.intro hd7 hi7)
    obtain ⟨w8, hw8⟩ : ∃ w8, w8 = w7.alloc (.cells #[.int .i64 (L : Int), .int .i64 (V : Int), .float .f32 C, .float .f32 R, .slice p7 bs.length q7, .slice r7 es.length s7, .int .i64 (i7 : Int), .int .i64 (d7 : Int), .slice v7 zs7.length c7, .float .f32 env7] 31 (0, 0)) := ⟨_, rfl⟩
    have M8 := Lib.hid (show Nw w7 w8 from by rw [hw8]; exact (Nw.refl w7).alloc _)
    have P8 := Lib.hid (show Nw w6 w8 from n7.trans M8.out)
    have U8 := Lib.hid (show HasC w8 w7.heap.size [.int .i64 (L : Int), .int .i64 (V : Int), .float .f32 C, .float .f32 R, .slice p7 bs.length q7, .slice r7 es.length s7, .int .i64 (i7 : Int), .int .i64 (d7 : Int), .slice v7 zs7.length c7, .float .f32 env7] from by rw [hw8]; exact HasC.newB w7 _ _)
    have Sv8 := Lib.hid (st7.nw M8.out)
    have O8 := Lib.hid (own_nw o7 M8.out)
    have G7 := Lib.hid good7
    have Hw8 := Lib.hid hw8
    clear st7 o7 good7 n7 hd7 hi7 hw8 e0 e1 e2 e3 e4 e5 e6 e7 e8 e9
    go_upto_region 8 with fail
    rw [← Hw8.out]
    clear Hw8
    obtain ⟨k7, hk7⟩ : ∃ k, k = w7.heap.size := ⟨_, rfl⟩
    rw [← hk7] at U8 ⊢
    clear hk7
    obtain ⟨e0, e1, e2, e3, e4, e5, e6, e7, e8, e9⟩ := ten_at U8.out
    have A := advance_ok (n := b) Sv8.out (by omega)
    unfold strA at A
    rw [← D7.out.1, ← D7.out.2] at A
    have Ad2 := Lib.hid A
    clear A
    go_wp2_with fail
    refine Ad2.out.mono ?_
    rintro e w9 ⟨sv9, ev9, vv9, env9, zs9, g9, xs9, rfl, st9, o9, good9, n9⟩
    rw [D7.out.2] at st9 good9 ⊢
    obtain ⟨⟨p9, q9, rfl⟩, r9, s9, rfl⟩ := st9.sco.shape
    obtain ⟨v9, c9, rfl⟩ := own_shape' st9.voi.row
    obtain ⟨d9, hd9⟩ : ∃ d, d = dAt (ordE es) (a + b) := ⟨_, rfl⟩
    obtain ⟨i9, hi9⟩ : ∃ i, i = a + b := ⟨_, rfl⟩
    unfold strA
    rw [← hd9, ← hi9]
    have D9 := Lib.hid (And.intro hd9 hi9)
    obtain ⟨w10, hw10⟩ : ∃ w10, w10 = w9.alloc (.cells #[.int .i64 (L : Int), .int .i64 (V : Int), .float .f32 C, .float .f32 R, .slice p9 bs.length q9, .slice r9 es.length s9, .int .i64 (i9 : Int), .int .i64 (d9 : Int), .slice v9 zs9.length c9, .float .f32 env9] 31 (0, 0)) := ⟨_, rfl⟩
    have M10 := Lib.hid (show Nw w9 w10 from by rw [hw10]; exact (Nw.refl w9).alloc _)
    have P10 := Lib.hid (show Nw w8 w10 from n9.trans M10.out)
    have U10 := Lib.hid (show HasC w10 w9.heap.size [.int .i64 (L : Int), .int .i64 (V : Int), .float .f32 C, .float .f32 R, .slice p9 bs.length q9, .slice r9 es.length s9, .int .i64 (i9 : Int), .int .i64 (d9 : Int), .slice v9 zs9.length c9, .float .f32 env9] from by rw [hw10]; exact HasC.newB w9 _ _)
    have Sv10 := Lib.hid (st9.nw M10.out)
    have O10 := Lib.hid (own_nw o9 M10.out)
    have G9 := Lib.hid good9
    have Hw10 := Lib.hid hw10
    clear st9 o9 good9 n9 hd9 hi9 hw10 e0 e1 e2 e3 e4 e5 e6 e7 e8 e9
    go_upto_region 9 with fail
    rw [← Hw10.out]
    clear Hw10
    obtain ⟨k9, hk9⟩ : ∃ k, k = w9.heap.size := ⟨_, rfl⟩
    rw [← hk9] at U10 ⊢
    clear hk9
    have T10 := Lib.hid ((T6.out.nw P8.out).nw P10.out)
    obtain ⟨e0, e1, e2, e3, e4, e5, e6, e7, e8, e9⟩ := ten_at T10.out
    have A := advance_ok (n := a + b) ((St6.out.nw P8.out).nw P10.out) (by omega)
    unfold strA at A
    rw [← D0.out, show ((0 : Nat) : Int) = 0 from rfl, show ((a + b : Nat) : Int) = (a : Int) + (b : Int) from by omega] at A
    have Ad3 := Lib.hid A
    clear A
    have hwr : IntKind.i64.wrap ((a : Int) + (b : Int)) = (a : Int) + (b : Int) := IntWalk.i64_in _ (by omega)
    go_wp2_with fail
    refine Ad3.out.mono ?_
    rintro e w11 ⟨sv11, ev11, vv11, env11, zs11, g11, xs11, rfl, st11, o11, good11, n11⟩
    rw [Nat.zero_add] at st11
    simp only [Nat.zero_add] at good11
    rw [Nat.zero_add]
    obtain ⟨⟨p11, q11, rfl⟩, r11, s11, rfl⟩ := st11.sco.shape
    obtain ⟨v11, c11, rfl⟩ := own_shape' st11.voi.row
    obtain ⟨d11, hd11⟩ : ∃ d, d = dAt (ordE es) (a + b) := ⟨_, rfl⟩
    obtain ⟨i11, hi11⟩ : ∃ i, i = a + b := ⟨_, rfl⟩
    unfold strA
    rw [← hd11, ← hi11]
    have D11 := Lib.hid (And.intro hd11 hi11)
    obtain ⟨w12, hw12⟩ : ∃ w12, w12 = w11.alloc (.cells #[.int .i64 (L : Int), .int .i64 (V : Int), .float .f32 C, .float .f32 R, .slice p11 bs.length q11, .slice r11 es.length s11, .int .i64 (i11 : Int), .int .i64 (d11 : Int), .slice v11 zs11.length c11, .float .f32 env11] 31 (0, 0)) := ⟨_, rfl⟩
    have M12 := Lib.hid (show Nw w11 w12 from by rw [hw12]; exact (Nw.refl w11).alloc _)
    have P12 := Lib.hid (show Nw w10 w12 from n11.trans M12.out)
    have U12 := Lib.hid (show HasC w12 w11.heap.size [.int .i64 (L : Int), .int .i64 (V : Int), .float .f32 C, .float .f32 R, .slice p11 bs.length q11, .slice r11 es.length s11, .int .i64 (i11 : Int), .int .i64 (d11 : Int), .slice v11 zs11.length c11, .float .f32 env11] from by rw [hw12]; exact HasC.newB w11 _ _)
    have Sv12 := Lib.hid (st11.nw M12.out)
    have O12 := Lib.hid (own_nw o11 M12.out)
    have G11 := Lib.hid good11
    have Hw12 := Lib.hid hw12
    clear st11 o11 good11 n11 hd11 hi11 hw12 e0 e1 e2 e3 e4 e5 e6 e7 e8 e9
    go_upto_region 10 with fail
    rw [← Hw12.out]
    clear Hw12
    obtain ⟨k11, hk11⟩ : ∃ k, k = w11.heap.size := ⟨_, rfl⟩
    rw [← hk11] at U12 ⊢
    clear hk11
    have I := isStream_ok ((Sv8.out.nw P10.out).nw P12.out)
    unfold strA at I
    have q8 := (U8.out.nw P10.out).nw P12.out
    rw [D7.out.1, D7.out.2] at q8
    generalize dAt (ordE es) a = dd7 at I q8
    have hEq := StrV.env_eq (Sv10.out.nw P12.out) Sv12.out
    have q10 := U10.out.nw P12.out
    rw [D9.out.1, D9.out.2] at q10
    have q12 := U12.out
    rw [D11.out.1, D11.out.2, hEq] at q12
    have s12 := Sv12.out
    rw [hEq] at s12
    have pl := Sv10.out.plain
    have M := fun W (hW : Nw w12 W) => makeSame_ok ((Sv10.out.nw P12.out).nw hW) (s12.nw hW) pl.1 pl.2.2
    unfold strA at M
    generalize dAt (ordE es) (a + b) = dd at M q10 q12
    obtain ⟨j, hj⟩ : ∃ j, j = a + b := ⟨_, rfl⟩
    rw [← hj] at q10 q12
    simp only [← hj] at M
    have r12 := O12.out
    rw [← hj] at r12
    rw [D11.out.2, ← hj]
    have heq : ((j : Int) == (a : Int) + (b : Int)) = true := by rw [hj]; simp
    have hj40 : j ≤ 40 := by omega
    have Is := Lib.hid I
    have Ms := Lib.hid M
    have V8 := Lib.hid q8
    have V10 := Lib.hid q10
    have V12 := Lib.hid q12
    have R12 := Lib.hid r12
    have R8 := Lib.hid (own_nw (own_nw O8.out P10.out) P12.out)
    have R10 := Lib.hid (own_nw O10.out P12.out)
    have N12 := Lib.hid ((N6.out.trans P8.out).trans (P10.out.trans P12.out))
    have Hj := Lib.hid hj
    have h7 := G7.out.1
    have h9 := G9.out.1
    have h11 := G11.out.1
    obtain ⟨f0, hf0, hfz0, hfz1, hfz2⟩ := info_parts info_f32
    clear I M q8 q10 q12 r12 s12 pl hj
    obtain ⟨e0, e1, e2, e3, e4, e5, e6, e7, e8, e9⟩ := ten_at V8.out
    go_wp2_with fail
    refine Is.out.mono ?_
    rintro e w13 ⟨rfl, n13⟩
    have N13 := Lib.hid n13
    clear n13 e0 e1 e2 e3 e4 e5 e6 e7 e8 e9
    obtain ⟨e0, e1, e2, e3, e4, e5, e6, e7, e8, e9⟩ := ten_at (V10.out.nw N13.out)
    obtain ⟨c0, c1, c2, c3, c4, c5, c6, c7, c8, c9⟩ := ten_at (V12.out.nw N13.out)
    go_wp2_with fail
    refine (Ms.out _ N13.out).mono ?_
    rintro e w14 ⟨rfl, n14⟩
    have N14 := Lib.hid (N13.out.trans n14)
    clear n14 e0 e1 e2 e3 e4 e5 e6 e7 e8 e9 c0 c1 c2 c3 c4 c5 c6 c7 c8 c9
    obtain ⟨c0, c1, c2, c3, c4, c5, c6, c7, c8, c9⟩ := ten_at (V12.out.nw N14.out)
    have Ml := Lib.hid (show (w14.alloc (.cells #[] 23 (0, 0))).ownsRow w14.heap.size 23 1 (.slice (some ⟨w14.heap.size, 0, none⟩) 0 0) 0 (cellsS []) from World.ownsRow_made w14 #[] 0 (Nat.le_refl _) (Nat.zero_le _) rfl)
    have N15 := Lib.hid (N14.out.alloc (.cells #[] 23 (0, 0)))
    have hsz15 : w14.heap.size ≤ (w14.alloc (.cells #[] 23 (0, 0))).heap.size := by simp
    go_wp2_with (at_builtin; refine wpList_step fun K hK => ?_; rw [if_pos (by rfl)]; refine wp_append_own _ (.tmp 89) (.tmp 90) 35 rfl w14.heap.size 23 f0 (.float .f32 0) 1 4 Tryz.underlying35 hf0 hfz0 hfz1 hfz2 rfl (by decide) _ _ _ rfl Ml.out ⟨g7, 0, none⟩ a a (cellsS xs7) rfl (by simp [cellsS, h7]) (row_cell (own_nw R8.out N15.out) h7) (one_cells xs7) (by unfold maxLen; omega) (by omega) (by omega) ?_)
    intro v16 w16 own16 gr16 nil16
    refine hK _ _ ?_
    clear hK K
    have N16 := Lib.hid (((Nw.refl w14).alloc (.cells #[] 23 (0, 0))).grown gr16 (fun q hq => by simp [Value.ownBlock] at hq; omega))
    obtain ⟨g16, cap16, rfl⟩ := row_some (by simpa [cellsS] using own16 : w16.ownsRow w14.heap.size 23 1 v16 a (cellsS xs7)) (fun h => by first | exact nil16 h | exact absurd (nil16.1 h).1 (by simp))
    have A16 := Lib.hid (show w16.ownsRow w14.heap.size 23 1 (.slice (some ⟨g16, 0, none⟩) a cap16) a (cellsS xs7) from by simpa [cellsS] using own16)
    have T16 := Lib.hid (N14.out.trans N16.out)
    have hsz16 : w14.heap.size ≤ w16.heap.size := N16.out.size
    clear own16 gr16 nil16
    go_wp2_with (at_builtin; refine wpList_step fun K hK => ?_; rw [if_pos (by rfl)]; refine wp_append_own _ (.tmp 91) (.tmp 92) 35 rfl w14.heap.size 23 f0 (.float .f32 0) 1 4 Tryz.underlying35 hf0 hfz0 hfz1 hfz2 rfl (by decide) _ _ _ rfl A16.out ⟨g9, 0, none⟩ b b (cellsS xs9) rfl (by simp [cellsS, h9]) (row_cell (own_nw R10.out T16.out) h9) (one_cells xs9) (by unfold maxLen; omega) (by omega) (by omega) ?_)
    intro v17 w17 own17 gr17 nil17
    refine hK _ _ ?_
    clear hK K
    have N17 := Lib.hid (N16.out.grown gr17 (fun q hq => by have := own_ge A16.out q hq; omega))
    obtain ⟨g17, cap17, rfl⟩ := row_some (by simpa [cellsS] using own17 : w17.ownsRow w14.heap.size 23 1 v17 (a + b) (cellsS (xs7 ++ xs9))) (fun h => by first | exact nil17 h | exact absurd (nil17.1 h).1 (by simp))
    have A17 := Lib.hid (show w17.ownsRow w14.heap.size 23 1 (.slice (some ⟨g17, 0, none⟩) (a + b) cap17) (a + b) (cellsS (xs7 ++ xs9)) from by simpa [cellsS] using own17)
    have T17 := Lib.hid (N14.out.trans N17.out)
    clear own17 gr17 nil17
    have B17 := Lib.hid (own_nw R12.out T17.out)
    have hl17 : (xs7 ++ xs9).length = a + b := by rw [List.length_append, h7, h9]
    rw [← Hj.out] at A17 hl17 ⊢
    have hl11 : xs11.length = j := by rw [h11, Hj.out]
    have Sm := Lib.hid (same_view (xs7 ++ xs9) xs11 j _ _ _ _ hl17 hl11 (by omega) (fun x hx => by
      rcases List.mem_append.1 hx with h | h
      · obtain ⟨k, hk⟩ := List.getElem?_of_mem h; exact (G7.out.2 k x hk).2
      · obtain ⟨k, hk⟩ := List.getElem?_of_mem h; exact (G9.out.2 k x hk).2) (fun x hx => by obtain ⟨k, hk⟩ := List.getElem?_of_mem hx; exact (G11.out.2 k x hk).2) w17 (view_some A17.out hl17.symm) (view_some B17.out hl11.symm) (fun k x y hx hy => by
      refine sameX_of_fab ?_
      rw [(G11.out.2 k y hy).1]
      by_cases hk : k < a
      · rw [List.getElem?_append_left (by omega)] at hx
        exact (G7.out.2 k x hx).1
      · rw [List.getElem?_append_right (by omega), h7] at hx
        rw [(G9.out.2 (k - a) x hx).1]
        show yAt bs V es C R 0 (fab .f32 0) (a + (k - a)) = yAt bs V es C R 0 (fab .f32 0) k
        rw [show a + (k - a) = k from by omega]))
    go_wp2_with fail
    refine Sm.out.mono ?_
    rintro e w18 ⟨rfl, n18⟩
    have N18 := Lib.hid ((N12.out.trans T17.out).trans n18)
    clear n18
    go_wp2_with fail
    go_ret
    exact ⟨rfl, nw_below N18.out⟩
  · clear w0
    go_enter Tryz.func3, Tryz.ntmps3
    go_wp2
    go_ret
    exact ⟨rfl, Below.refl _ _⟩
/-! ### THE ROW's STEP: WRITTEN OUT: LEAVE IT -/
set_option maxRecDepth 100000 in
theorem lifted (os : Os) (started : os.Started) (H : Type) (enc : TypeId × Value → H) :
    ReturnsInHanded {} Tryz.checked os 3 .any (Rows.fnCutSpec.pre6 enc Tryz.prog Tryz.f3 Rows.fnCutRow.domain false) (Rows.fnCutSpec.post enc Tryz.prog Tryz.f3 false true false false) := by
  refine returnsInHanded_of_change (C := Tryz.checked) own started (by kernel_rfl) Tryz.func3
    (ChangeSpec.witness6 (enc := enc) (C := Tryz.checked) false ⟨#[], #[.slice none 0 0], []⟩ 8 (by kernel_rfl) (by kernel_rfl) (by kernel_rfl) (by kernel_rfl)) ?_
  intro W base args ds gs before hval0 hW hcnd _
  have hval : ∀ (j : Nat) t v, Tryz.f3.params[j]? = some t → args[j]? = some v → Value.okWide Tryz.prog W .any base t v := hval0
  have hW' := hW
  obtain ⟨p, q, hA0, hV, rfl, hfz, hnd⟩ := hW
  have hA : DataW.TrodAll enc Tryz.prog W 0 (fun _ => true) true Tryz.f3.params.toList args.toList ds p := hA0
  rw [Tryz.params3] at hA hval
  obtain ⟨v0, vs0, d0, ds0, p0, q0, hargs, rfl, rfl, h0, r0⟩ := trodAll_cons hA
  obtain ⟨rfl, rfl, rfl⟩ := trodAll_nil r0
  obtain rfl : args = #[v0] := by cases args; simp_all
  obtain ⟨rfl, rfl⟩ := trodVars_none hV
  obtain ⟨a0, len0, cap0, rfl⟩ := okWide_slice Tryz.underlying22 (hval 0 22 v0 rfl rfl)
  have k0 := h0
  have lt0 : ∀ x ∈ p0, x.block < W.heap.size := by obtain ⟨m, hm⟩ := k0; exact DataW.trod_lt m _ _ _ hm
  obtain ⟨z0, w0⟩ : ∃ zs, IsRow .u8 W a0 len0 cap0 zs := by
    obtain ⟨fuel, hf⟩ := h0
    rcases open_ints Tryz.underlying22 Tryz.underlying5 (by kernel_rfl) hf with ⟨hcs, _⟩ | ⟨x, l, c, zs, hcs, _, hl, hm, hz, _, hcell, hwz⟩
    · simp [Value.cells] at hcs
      obtain ⟨rfl, rfl, rfl⟩ := hcs
      exact ⟨[], .inl ⟨rfl, rfl, rfl, rfl⟩⟩
    · simp [Value.cells] at hcs
      obtain ⟨rfl, rfl, rfl⟩ := hcs
      exact ⟨zs, .inr ⟨_, rfl, hl, hm, by simpa using hz, hcell, hwz⟩⟩
  clear hA0 hval0
  refine (walk a0 len0 cap0 z0 W w0).mono fun e W' ⟨he, bel⟩ => ?_
  subst he
  exact ⟨_, rfl, _, _, _, [], _, [], hW', trodAll_mk1 (shut_bool Tryz.underlying4 _), (trodAll_cons_mk (Below.trod laidOut (by kernel_rfl) (of_decide_eq_true (by kernel_rfl)) k0 bel lt0) trodAll_mk0), rfl, bel.frame _, fun h => by cases h⟩

theorem over : Rows.fnCutRow.holds Tryz.pinned (OpenSpec.ofChange Rows.fnCutSpec) :=
  OpenClaim.holds_of_wide 3 Tryz.f3 rfl rfl rfl rfl rfl rfl rfl ⟨rfl, rfl, rfl, rfl, rfl⟩ rfl rfl rfl rfl rfl (by kernel_rfl) Tryz.func3 (by kernel_rfl)
    (of_decide_eq_true (by kernel_rfl)) (by unfold Func.isWrapper; first | (rw [if_pos (by decide +kernel)]; kernel_rfl) | (rw [if_neg (by decide +kernel)]; exact ⟨rfl, rfl⟩))
    (fun os started H enc _ => lifted os started H enc)

/-- ████ THE STATEMENT ████ -/
theorem proved : Rows.FnCutSaid := over
#print axioms proved
end Go.Proofs.YtiakcibeobbonaaGreat.fnCut

