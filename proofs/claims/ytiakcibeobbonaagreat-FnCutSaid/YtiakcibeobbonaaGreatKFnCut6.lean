/- Texts of a proof, put together: PlayR, Same, First, Noise, FirstS, PlayP, PlayS, Dy, Bits, FmtU, Frx, Ldx, ParD, Odd, For, FmL, TxF, ShapeS, IscV.
   Conditions: those that each statement names. -/
import Derived.Test.YtiakcibeobbonaaGreatKFnCut5
import Derived.Deep.QuietTactic
import Derived.Lib.ItoaMem
import Derived.Lib.Walk
import Derived.Shelf.Strconv.Itoa3
import Derived.Shelf.Spec.TrailingZeros
/- A score is copied and shifted: copyScore, ShiftScore (FnShifted).
   Conditions: those that each statement names. -/
namespace Go.Proofs.YtiakcibeobbonaaGreat
set_option linter.unusedSimpArgs false
set_option linter.unusedVariables false
open Go Go.RowKit

def CpsP (L V C R : Nat) (bs : List (List M4)) (es : List Ev6) (w : World) (e : Ending) (w' : World) : Prop :=
  ∃ (sv ev : Value), e = .returned (.agg #[.int .i64 (L : Int), .int .i64 (V : Int), .float .f32 C, .float .f32 R, sv, ev]) ∧ BodsR w' w.heap.size sv bs ∧ w'.ownsRow w.heap.size 68 6 ev es.length (cellsE es) ∧ Nw w w'
set_option maxHeartbeats 6400000 in
set_option maxRecDepth 100000 in
theorem copyScore_ok (base L V C R : Nat) (bs : List (List M4)) (es : List Ev6) (sv ev : Value) (w : World) (h : ScoV w base L V C R bs es sv ev) :
    Calls Tryz.prog 37 #[.agg #[.int .i64 (L : Int), .int .i64 (V : Int), .float .f32 C, .float .f32 R, sv, ev]] w (CpsP L V C R bs es w) := by
  obtain ⟨nb, hnb⟩ : ∃ nb, nb = bs.length := ⟨_, rfl⟩
  obtain ⟨ne, hne⟩ : ∃ ne, ne = es.length := ⟨_, rfl⟩
  obtain ⟨⟨sa, sc, rfl⟩, ea, ec, rfl⟩ := h.shape
  obtain ⟨j0, hj, hjz0, hjz1, hjz2⟩ := info_parts info_body
  have hb3 := h.hb
  have he13 := h.he
  rw [← hnb] at hb3
  rw [← hne] at he13
  rw [← hnb, ← hne] at h ⊢
  have H := Lib.hid h
  have Hn := Lib.hid (And.intro hnb hne)
  have hA : ∀ (w : World) o, (w.alloc o).heap.size = w.heap.size + 1 := fun w o => by simp
  obtain ⟨w1, hw1⟩ : ∃ w1, w1 = w.alloc (.cells #[.int .i64 (L : Int), .int .i64 (V : Int), .float .f32 C, .float .f32 R, .slice sa nb sc, .slice ea ne ec] 27 (0, 0)) := ⟨_, rfl⟩
  obtain ⟨w2, hw2⟩ : ∃ w2, w2 = w1.alloc (.cells #[.int .i64 0, .int .i64 0, .float .f32 0, .float .f32 0, .slice none 0 0, .slice none 0 0] 27 (0, 0)) := ⟨_, rfl⟩
  obtain ⟨w3, hw3⟩ : ∃ w3, w3 = w2.alloc (.cells #[.int .i64 (L : Int), .int .i64 (V : Int), .float .f32 C, .float .f32 R, .slice sa nb sc, .slice ea ne ec] 27 (0, 0)) := ⟨_, rfl⟩
  have s1 : w1.heap.size = w.heap.size + 1 := by rw [hw1, hA]
  have s2 : w2.heap.size = w.heap.size + 2 := by rw [hw2, hA, s1]
  have s3 : w3.heap.size = w.heap.size + 3 := by rw [hw3, hA, s2]
  have n3 : Nw w w3 := by rw [hw3, hw2, hw1]; exact (((Nw.refl w).alloc _).alloc _).alloc _
  have x1 : HasC w3 w.heap.size [.int .i64 (L : Int), .int .i64 (V : Int), .float .f32 C, .float .f32 R, .slice sa nb sc, .slice ea ne ec] := by
    rw [hw3, hw2, hw1]; exact ((HasC.new w _ _ _ _ _ _ _).alloc _).alloc _
  have x2 : HasC w3 (w.heap.size + 1) [.int .i64 0, .int .i64 0, .float .f32 0, .float .f32 0, .slice none 0 0, .slice none 0 0] := by
    rw [hw3, hw2, ← s1]; exact (HasC.new w1 _ _ _ _ _ _ _).alloc _
  have x3 : HasC w3 (w.heap.size + 2) [.int .i64 (L : Int), .int .i64 (V : Int), .float .f32 C, .float .f32 R, .slice sa nb sc, .slice ea ne ec] := by
    rw [hw3, ← s2]; exact HasC.new w2 _ _ _ _ _ _ _
  have N3 := Lib.hid n3
  have X1 := Lib.hid x1
  have X2 := Lib.hid x2
  have X3 := Lib.hid x3
  have Hw := Lib.hid (And.intro hw1 (And.intro hw2 hw3))
  have S3 := Lib.hid (And.intro s1 (And.intro s2 s3))
  clear h hnb hne hw1 hw2 hw3 s1 s2 s3 n3 x1 x2 x3 hA
  go_enter Tryz.func37, Tryz.ntmps37
  go_upto_region 2 with fail
  rw [← Hw.out.1, ← Hw.out.2.1, ← Hw.out.2.2, show w.heap.size + 1 + 1 = w.heap.size + 2 from rfl]
  obtain ⟨⟨e0, g0⟩, ⟨e1, g1⟩, ⟨e2, g2⟩, ⟨e3, g3⟩, ⟨e4, g4⟩, ⟨e5, g5⟩⟩ := six_at X1.out
  go_wp2_with (at_make; refine wpList_make_full _ rfl _ _ 24 rfl (w.heap.size + 3) 65 j0 (.agg #[.slice none 0 0]) 1 Tryz.underlying24 hj hjz0 hjz1 _ _ _ _ nb rfl rfl rfl rfl (by rw [hjz2]; omega) (by unfold maxLen; omega) (by have := S3.out.2.2; omega) ?_)
  intro w4 hown4 hgrow4
  rw [S3.out.2.2] at hown4 ⊢
  have R4 := Lib.hid (show w4.ownsRow (w.heap.size + 3) 65 1 (.slice (some ⟨w.heap.size + 3, 0, none⟩) nb nb) nb (List.replicate nb (.slice none 0 0)) from by
    have h : w4.ownsRow (w.heap.size + 3) 65 1 (.slice (some ⟨w.heap.size + 3, 0, none⟩) nb nb) nb (madeCells #[Value.slice none 0 0] nb).toList := hown4
    rw [toList_madeCells_one] at h
    exact h)
  have N4 := Lib.hid (show Nw w3 w4 from hgrow4)
  obtain ⟨⟨e0, g0⟩, ⟨e1, g1⟩, ⟨e2, g2⟩, ⟨e3, g3⟩, ⟨e4, g4⟩, ⟨e5, g5⟩⟩ := six_at (X3.out.nw N4.out)
  clear hown4 hgrow4
  go_upto_region 3 with fail
  obtain ⟨w5, hw5⟩ : ∃ w5, w5 = w4.setCell ⟨w.heap.size + 2, 4, none⟩ (.slice (some ⟨w.heap.size + 3, 0, none⟩) nb nb) := ⟨_, rfl⟩
  have Rw := Lib.hid (show w5.ownsRow (w.heap.size + 3) 65 1 (.slice (some ⟨w.heap.size + 3, 0, none⟩) nb nb) nb (List.replicate nb (.slice none 0 0)) from by rw [hw5]; exact own_set (p := ⟨w.heap.size + 2, 4, none⟩) R4.out (by show w.heap.size + 2 < w.heap.size + 3; omega) _)
  have K5 := Lib.hid (show HasC w5 (w.heap.size + 2) [.int .i64 (L : Int), .int .i64 (V : Int), .float .f32 C, .float .f32 R, .slice (some ⟨w.heap.size + 3, 0, none⟩) nb nb, .slice ea ne ec] from by rw [hw5]; exact (X3.out.nw N4.out).set 4 _)
  have X5 := Lib.hid (show HasC w5 w.heap.size [.int .i64 (L : Int), .int .i64 (V : Int), .float .f32 C, .float .f32 R, .slice sa nb sc, .slice ea ne ec] from by rw [hw5]; exact (X1.out.nw N4.out).sete (p := ⟨w.heap.size + 2, 4, none⟩) (by show w.heap.size + 2 ≠ w.heap.size; omega) _)
  have Z5 := Lib.hid (show HasC w5 (w.heap.size + 1) [.int .i64 0, .int .i64 0, .float .f32 0, .float .f32 0, .slice none 0 0, .slice none 0 0] from by rw [hw5]; exact (X2.out.nw N4.out).sete (p := ⟨w.heap.size + 2, 4, none⟩) (by show w.heap.size + 2 ≠ w.heap.size + 1; omega) _)
  have N5 := Lib.hid (show Nw w w5 from by rw [hw5]; exact (N3.out.trans N4.out).set (p := ⟨w.heap.size + 2, 4, none⟩) (by show w.heap.size ≤ w.heap.size + 2; omega) _)
  rw [← hw5]
  clear hw5 R4 N4 e0 g0 e1 g1 e2 g2 e3 g3 e4 g4 e5 g5 X1 X2 X3 N3 Hw
  obtain ⟨⟨e0, g0⟩, ⟨e1, g1⟩, ⟨e2, g2⟩, ⟨e3, g3⟩, ⟨e4, g4⟩, ⟨e5, g5⟩⟩ := six_at X5.out
  go_wp2_with fail
  clear e0 g0 e1 g1 e2 g2 e3 g3 e4 g4 e5 g5
  go_loopw [15] (fun c wr => ∃ (k : Nat) (vs : List Value), k ≤ nb ∧ c = .int .i64 (k : Int) ∧ wr.ownsRow (w.heap.size + 3) 65 1 (.slice (some ⟨w.heap.size + 3, 0, none⟩) nb nb) nb vs ∧ (∀ (p : Nat) ms, p < k → bs[p]? = some ms → ∃ v, vs[p]? = some v ∧ wr.ownsRow (w.heap.size + 3) 93 2 v ms.length (cellsM ms)) ∧
    (∀ (p : Nat), k ≤ p → p < nb → vs[p]? = some (.slice none 0 0)) ∧ HasC wr (w.heap.size + 2) [.int .i64 (L : Int), .int .i64 (V : Int), .float .f32 C, .float .f32 R, .slice (some ⟨w.heap.size + 3, 0, none⟩) nb nb, .slice ea ne ec] ∧ HasC wr w.heap.size [.int .i64 (L : Int), .int .i64 (V : Int), .float .f32 C, .float .f32 R, .slice sa nb sc, .slice ea ne ec] ∧ HasC wr (w.heap.size + 1) [.int .i64 0, .int .i64 0, .float .f32 0, .float .f32 0, .slice none 0 0, .slice none 0 0] ∧ Nw w wr) (fun c _ => nb - (intOf c).toNat)
  case atStart => exact ⟨0, _, by omega, rfl, Rw.out, fun p ms h => by omega, fun p _ h => by rw [List.getElem?_replicate]; simp [h], K5.out, X5.out, Z5.out, N5.out⟩
  case round =>
    obtain ⟨k, vs, hk, rfl, hR, hM, hV, hK, hX, hZ, hN⟩ := hrel
    have Rr := Lib.hid hR
    have Mr := Lib.hid hM
    have Vr := Lib.hid hV
    have Kr := Lib.hid hK
    have Xr := Lib.hid hX
    have Zr := Lib.hid hZ
    have Nr := Lib.hid hN
    clear hR hM hV hK hX hZ hN Rw K5 X5 Z5 N5
    by_cases hlt : k < nb
    · obtain ⟨ms, hms⟩ : ∃ ms, bs[k]? = some ms := ⟨bs[k]'(by rw [← Hn.out.1]; exact hlt), List.getElem?_eq_getElem _⟩
      have hml : ms.length ≤ 4 := (H.out.bok ms (List.mem_of_getElem? hms)).1
      obtain ⟨sg, scap, ma, mc, hsv, hs1, hs2, hs3, hsc, hso⟩ := (H.out.bods.nw Nr.out).at Hn.out.1 hms
      cases hsv
      have vk := Vr.out k (Nat.le_refl _) hlt
      have Mo' := Lib.hid hso
      have Hms := Lib.hid hms
      have hlw : w.heap.size < wr.heap.size := Xr.out.1
      have hlk : w.heap.size + 2 < wr.heap.size := Kr.out.1
      have hrw : w.heap.size + 3 < wr.heap.size := (Rr.out.lt _ rfl).2
      obtain ⟨wd, hwd⟩ : ∃ wd, wd = wr.alloc (.cells #[.slice ma ms.length mc] 65 (0, 0)) := ⟨_, rfl⟩
      have Na := Lib.hid (show Nw wr wd from by rw [hwd]; exact (Nw.refl wr).alloc _)
      have B4 := Lib.hid (show Has1 wd wr.heap.size (.slice ma ms.length mc) from by rw [hwd]; exact Has1.new wr _ _)
      have Hwd := Lib.hid hwd
      clear hso hms hwd
      go_upto_region 6 with fail
      rw [← Hwd.out]
      clear hsc Hwd
      have R4 := Lib.hid (own_nw Rr.out Na.out)
      have K4 := Lib.hid (Kr.out.nw Na.out)
      have Mo := Lib.hid (own_nw Mo'.out Na.out)
      have KeepS := Lib.hid (show ∀ W', HasC W' (w.heap.size + 2) [.int .i64 (L : Int), .int .i64 (V : Int), .float .f32 C, .float .f32 R, .slice (some ⟨w.heap.size + 3, 0, none⟩) nb nb, .slice ea ne ec] → Has1 W' wr.heap.size (.slice ma ms.length mc) → W'.cell? ⟨w.heap.size + 2, 4, none⟩ = some (.slice (some ⟨w.heap.size + 3, 0, none⟩) nb nb) ∧ W'.cell? ⟨wr.heap.size, 0, none⟩ = some (.slice ma ms.length mc) from fun W' h1 h2 => ⟨(h1.2 4 _ rfl).1, h2.2.1⟩)
      refine wp_region_held_drew (S := fun W' => W'.cell? ⟨w.heap.size + 2, 4, none⟩ = some (.slice (some ⟨w.heap.size + 3, 0, none⟩) nb nb) ∧ W'.cell? ⟨wr.heap.size, 0, none⟩ = some (.slice ma ms.length mc)) (by kernel_rfl) (KeepS.out _ (K4.out.nw ((Nw.refl wd).draw 1)) (B4.out.nw ((Nw.refl wd).draw 1))) (fun hHeld => ?_)
      refine wpAnyH_take (i := 0) (oi := _) (v := ?_) rfl (by kernel_rfl) (by kernel_rfl) (by kernel_rfl) (fun _ _ _ h => h) (_root_.Or.inl ⟨by rfl, ?_⟩) (by assumption) ?_
      rotate_left
      · intro w hSw
        (try dsimp only at hSw)
        go_simp
        all_goals with_reducible rfl
      try simp only [List.getElem_toArray, List.getElem_cons_succ, List.getElem_cons_zero, Act.put, List.setIfInBounds_toArray, List.set_cons_zero, List.set_cons_succ]
      refine wpAnyH_take (i := 1) (oi := _) (v := ?_) rfl (by kernel_rfl) (by kernel_rfl) (by kernel_rfl) (fun _ _ _ h => h) (_root_.Or.inl ⟨by rfl, ?_⟩) (by assumption) ?_
      rotate_left
      · intro w hSw
        (try dsimp only at hSw)
        go_simp
        all_goals with_reducible rfl
      try simp only [List.getElem_toArray, List.getElem_cons_succ, List.getElem_cons_zero, Act.put, List.setIfInBounds_toArray, List.set_cons_zero, List.set_cons_succ]
      refine wpAnyH_take (i := 2) (oi := _) (v := ?_) rfl (by kernel_rfl) (by kernel_rfl) (by kernel_rfl) (fun _ _ _ h => h) (_root_.Or.inl ⟨by rfl, ?_⟩) (by assumption) ?_
      rotate_left
      · intro w hSw
        (try dsimp only at hSw)
        go_simp
        all_goals with_reducible rfl
      try simp only [List.getElem_toArray, List.getElem_cons_succ, List.getElem_cons_zero, Act.put, List.setIfInBounds_toArray, List.set_cons_zero, List.set_cons_succ]
      refine wpAnyH_take (i := 3) (oi := _) (v := ?_) rfl (by kernel_rfl) (by kernel_rfl) (by kernel_rfl) (fun _ _ _ h => h) (_root_.Or.inl ⟨by rfl, ?_⟩) (by assumption) ?_
      rotate_left
      · intro w hSw
        (try dsimp only at hSw)
        go_simp
        all_goals with_reducible rfl
      try simp only [List.getElem_toArray, List.getElem_cons_succ, List.getElem_cons_zero, Act.put, List.setIfInBounds_toArray, List.set_cons_zero, List.set_cons_succ]
      refine wpAnyH_take (i := 4) (oi := _) (v := ?_) rfl (by kernel_rfl) (by kernel_rfl) (by kernel_rfl) (fun _ _ _ h => h) (_root_.Or.inl ⟨by rfl, ?_⟩) (by assumption) ?_
      rotate_left
      · intro w hSw
        (try dsimp only at hSw)
        go_simp
        all_goals with_reducible rfl
      try simp only [List.getElem_toArray, List.getElem_cons_succ, List.getElem_cons_zero, Act.put, List.setIfInBounds_toArray, List.set_cons_zero, List.set_cons_succ]
      refine wpAnyH_ready (rs := [5]) (by kernel_rfl) (by simp) ?_
      refine AllReadyH.cons (o := _) rfl (fun K hK => ?_) AllReadyH.nil
      go_simp
      go_at_call 64
      refine (clone_modes ms ms.length base (.slice ma ms.length mc) rfl (by omega) _ (own_nw Mo.out ((Nw.refl wd).draw 1))).mono ?_
      rintro e w5 ⟨v5, rfl, o5, d⟩
      obtain ⟨v5a, v5c, rfl⟩ := own_shape' o5
      have M5 := Lib.hid (((Nw.refl wd).draw 1).trans d)
      have O5 := Lib.hid (own_base o5 (show w.heap.size + 3 ≤ wd.drew.heap.size from by have := K4.out.1; show w.heap.size + 3 ≤ wd.heap.size; omega))
      clear d o5 hHeld
      go_wp2_with fail
      refine hK.out _ _ ?_ (fun hHeld => ?_)
      · exact KeepS.out _ (K4.out.nw M5.out) (B4.out.nw M5.out)
      clear hK K
      try simp only [List.getElem_toArray, List.getElem_cons_succ, List.getElem_cons_zero, Act.put, List.setIfInBounds_toArray, List.set_cons_zero, List.set_cons_succ]
      refine wpAnyH_take (i := 6) (oi := _) (v := ?_) rfl (by kernel_rfl) (by kernel_rfl) (by kernel_rfl) (fun _ _ _ h => h) (_root_.Or.inl ⟨by rfl, ?_⟩) (by assumption) ?_
      rotate_left
      · intro w hSw
        (try dsimp only at hSw)
        go_simp
        all_goals with_reducible rfl
      try simp only [List.getElem_toArray, List.getElem_cons_succ, List.getElem_cons_zero, Act.put, List.setIfInBounds_toArray, List.set_cons_zero, List.set_cons_succ]
      refine wpAnyH_take (i := 7) (oi := _) (v := ?_) rfl (by kernel_rfl) (by kernel_rfl) (by kernel_rfl) (fun _ _ _ h => h) (_root_.Or.inl ⟨by rfl, ?_⟩) (by assumption) ?_
      rotate_left
      · intro w hSw
        (try dsimp only at hSw)
        go_simp
        all_goals with_reducible rfl
      try simp only [List.getElem_toArray, List.getElem_cons_succ, List.getElem_cons_zero, Act.put, List.setIfInBounds_toArray, List.set_cons_zero, List.set_cons_succ]
      refine wpAnyH_ready (rs := [8]) (by kernel_rfl) (by simp) ?_
      refine AllReadyH.cons (o := _) rfl (fun K hK => ?_) AllReadyH.nil
      have R5 := Lib.hid (own_nw R4.out M5.out)
      have t5 := R5.out.cellAt k (by omega)
      rw [vk] at t5
      have f5 := R5.out.frozenAt k
      have hr5 : w.heap.size + 3 < w5.heap.size := (R5.out.lt _ rfl).2
      obtain ⟨s1, s2⟩ := R5.out.stored k (.slice v5a ms.length v5c)
      have S1 := Lib.hid (And.intro s1 s2)
      clear s1 s2
      go_simp
      clear t5 f5
      refine hK.out _ _ ?_ (fun hHeld => ?_)
      · exact KeepS.out _ ((K4.out.nw M5.out).sete (p := ⟨w.heap.size + 3, k, none⟩) (by show w.heap.size + 3 ≠ w.heap.size + 2; omega) _) ((B4.out.nw M5.out).set (p := ⟨w.heap.size + 3, k, none⟩) (by show w.heap.size + 3 ≠ wr.heap.size; omega) _)
      clear hK K hHeld
      try simp only [List.getElem_toArray, List.getElem_cons_succ, List.getElem_cons_zero, Act.put, List.setIfInBounds_toArray, List.set_cons_zero, List.set_cons_succ]
      refine wpAnyH_done (by kernel_rfl) ?_ _
      have Nf := Lib.hid ((Na.out.trans M5.out))
      have Kf := Lib.hid ((K4.out.nw M5.out).sete (p := ⟨w.heap.size + 3, k, none⟩) (by show w.heap.size + 3 ≠ w.heap.size + 2; omega) (.slice v5a ms.length v5c))
      have Xf := Lib.hid ((Xr.out.nw Nf.out).sete (p := ⟨w.heap.size + 3, k, none⟩) (by show w.heap.size + 3 ≠ w.heap.size; omega) (.slice v5a ms.length v5c))
      have Zf := Lib.hid ((Zr.out.nw Nf.out).sete (p := ⟨w.heap.size + 3, k, none⟩) (by show w.heap.size + 3 ≠ w.heap.size + 1; omega) (.slice v5a ms.length v5c))
      have Nz := Lib.hid ((Nr.out.trans Nf.out).set (p := ⟨w.heap.size + 3, k, none⟩) (by show w.heap.size ≤ w.heap.size + 3; omega) (.slice v5a ms.length v5c))
      go_wp2_with fail
      go_roundw
      case rel =>
        refine ⟨k + 1, vs.set k (.slice v5a ms.length v5c), by omega, by rw [show ((k + 1 : Nat) : Int) = (k : Int) + 1 from by omega], S1.out.1, fun p ms' hp hpm => ?_, fun p hp1 hp2 => ?_, Kf.out, Xf.out, Zf.out, Nz.out⟩
        · by_cases hpk : p = k
          · subst hpk
            rw [Hms.out] at hpm
            cases hpm
            have hvl : p < vs.length := (List.getElem?_eq_some_iff.1 vk).1
            exact ⟨_, List.getElem?_set_self hvl, O5.out.kept S1.out.2 (rows_apart O5.out R5.out (by decide))⟩
          · obtain ⟨v, hv1, hv2⟩ := Mr.out p ms' (by omega) hpm
            have hv3 := own_nw hv2 Nf.out
            exact ⟨v, by rw [List.getElem?_set_ne (by omega)]; exact hv1, hv3.kept S1.out.2 (rows_apart hv3 R5.out (by decide))⟩
        · rw [List.getElem?_set_ne (by omega)]
          exact Vr.out p (by omega) hp2
      case measure => simp only [intOf]; omega
    · obtain rfl : k = nb := by omega
      obtain ⟨⟨e0, g0⟩, ⟨e1, g1⟩, ⟨e2, g2⟩, ⟨e3, g3⟩, ⟨e4, g4⟩, ⟨e5, g5⟩⟩ := six_at Xr.out
      have Bd := Lib.hid (show BodsR wr (w.heap.size + 3) (.slice (some ⟨w.heap.size + 3, 0, none⟩) k k) bs from ⟨vs, by have o := Rr.out; rw [Hn.out.1] at o ⊢; exact o, fun p ms hp => Mr.out p ms (by have := (List.getElem?_eq_some_iff.1 hp).1; rw [Hn.out.1]; exact this) hp⟩)
      go_wp2_with fail
      refine (clone_events es ne base _ Hn.out.2.symm (by omega) _ (by have o := own_nw H.out.evs Nr.out; rwa [← Hn.out.2] at o)).mono ?_
      rintro e w6 ⟨v6, rfl, o6, n6⟩
      rw [← Hn.out.2] at o6
      obtain ⟨va, vc, rfl⟩ := own_shape' o6
      have N6 := Lib.hid n6
      have O6 := Lib.hid (own_base o6 (show w.heap.size + 3 ≤ wr.heap.size from by have := Kr.out.1; omega))
      clear n6 o6 e0 g0 e1 g1 e2 g2 e3 g3 e4 g4 e5 g5
      have K6 := Lib.hid ((Kr.out.nw N6.out).set 5 (.slice va ne vc))
      obtain ⟨⟨e0, g0⟩, ⟨e1, g1⟩, ⟨e2, g2⟩, ⟨e3, g3⟩, ⟨e4, g4⟩, ⟨e5, g5⟩⟩ := six_at (Kr.out.nw N6.out)
      have B6 := Lib.hid ((Bd.out.nw N6.out).set (p := ⟨w.heap.size + 2, 5, none⟩) (by show w.heap.size + 2 < w.heap.size + 3; omega) (.slice va ne vc))
      have E6 := Lib.hid (own_set (p := ⟨w.heap.size + 2, 5, none⟩) O6.out (by show w.heap.size + 2 < w.heap.size + 3; omega) (.slice va ne vc))
      have Z6 := Lib.hid ((Zr.out.nw N6.out).sete (p := ⟨w.heap.size + 2, 5, none⟩) (by show w.heap.size + 2 ≠ w.heap.size + 1; omega) (.slice va ne vc))
      have Nz := Lib.hid ((Nr.out.trans N6.out).set (p := ⟨w.heap.size + 2, 5, none⟩) (by show w.heap.size ≤ w.heap.size + 2; omega) (.slice va ne vc))
      go_upto_region 9 with fail
      obtain ⟨w7, hw7⟩ : ∃ w7, w7 = w6.setCell ⟨w.heap.size + 2, 5, none⟩ (.slice va ne vc) := ⟨_, rfl⟩
      rw [← hw7] at K6 B6 E6 Z6 Nz ⊢
      clear hw7 e0 g0 e1 g1 e2 g2 e3 g3 e4 g4 e5 g5
      obtain ⟨⟨e0, -⟩, ⟨e1, -⟩, ⟨e2, -⟩, ⟨e3, -⟩, ⟨e4, -⟩, ⟨e5, -⟩⟩ := six_at K6.out
      obtain ⟨⟨r0, f0⟩, ⟨r1, f1⟩, ⟨r2, f2⟩, ⟨r3, f3⟩, ⟨r4, f4⟩, ⟨r5, f5⟩⟩ := six_at Z6.out
      have Fin := Lib.hid (rows_six B6.out (by rw [← Hn.out.2]; exact E6.out) (b := w.heap.size + 1) (by omega) (.int .i64 (L : Int)) (.int .i64 (V : Int)) (.float .f32 C) (.float .f32 R) (.slice (some ⟨w.heap.size + 3, 0, none⟩) k k) (.slice va ne vc))
      have Nfin := Lib.hid (nw_six Nz.out (b := w.heap.size + 1) (by omega) (.int .i64 (L : Int)) (.int .i64 (V : Int)) (.float .f32 C) (.float .f32 R) (.slice (some ⟨w.heap.size + 3, 0, none⟩) k k) (.slice va ne vc))
      go_wp2_with fail
      exact bodyPost_ret (v := .agg #[.int .i64 (L : Int), .int .i64 (V : Int), .float .f32 C, .float .f32 R, .slice (some ⟨w.heap.size + 3, 0, none⟩) k k, .slice va ne vc]) (by simp [results, Tryz.results37, go_sem, r0, r1, r2, r3, r4, r5, f0]) rfl
        ⟨_, _, rfl, Fin.out.1.base (by omega), own_base Fin.out.2 (by omega), Nfin.out⟩

/-! ### a score is shifted -/
/-- a box that is a score -/
def ScX (w : World) (b : Nat) : Prop := ∃ cs f, w.heap[b]? = some (.cells cs 27 f)
theorem ScX.new (w : World) (cs : Array Value) : ScX (w.alloc (.cells cs 27 (0, 0))) w.heap.size := ⟨cs, (0, 0), by show (w.heap.push _)[w.heap.size]? = _; simp⟩
theorem ScX.of {w w' : World} {b : Nat} (h : ScX w b) (hb : w'.heap[b]? = w.heap[b]?) : ScX w' b := by
  obtain ⟨cs, f, e⟩ := h
  exact ⟨cs, f, by rw [hb, e]⟩
theorem ScX.lt {w : World} {b : Nat} (h : ScX w b) : b < w.heap.size := by
  obtain ⟨cs, f, e⟩ := h
  exact (Array.getElem?_eq_some_iff.1 e).1
theorem ScX.nw {w w' : World} {b : Nat} (h : ScX w b) (k : Nw w w') : ScX w' b := h.of (k.block b h.lt (by simp))
theorem ScX.set {w : World} {b : Nat} (h : ScX w b) (c o : Nat) (u : Value) : ScX (w.setCell ⟨c, o, none⟩ u) b := by
  by_cases e : c = b
  · subst e
    obtain ⟨cs, f, e⟩ := h
    refine ⟨cs.setIfInBounds o u, f, ?_⟩
    simp [World.setCell, Array.getElem?_modify, e]
  · exact h.of (Below.heap_setCell _ _ _ _ (fun h => e h.symm))
theorem own_scx {w : World} {base : Nat} {E : TypeId} {size n c : Nat} {v : Value} {xs : List Value} (h : w.ownsRow base E size v n xs) (hB : ScX w c) (hE : E ≠ 27) : v.ownBlock = none ∨ v.ownBlock ≠ some c := by
  obtain ⟨cs, f, e⟩ := hB
  rcases h.2 with ⟨rfl, _⟩ | ⟨g, cap, cur, rfl, hb, hg, _⟩
  · exact .inl rfl
  · right
    intro e2
    simp [Value.ownBlock] at e2
    subst e2
    rw [hg] at e
    injection e with e
    injection e with e1 e2 e3
    exact hE e2
theorem ScX.grown {w w' : World} {base : Nat} {E : TypeId} {size n b : Nat} {v : Value} {xs : List Value} (h : ScX w b) (ho : w.ownsRow base E size v n xs) (hE : E ≠ 27) (hg : w.grownBy w' v.ownBlock) : ScX w' b :=
  h.of (hg.block b h.lt (fun e => by rcases own_scx ho h hE with h2 | h2; rw [h2] at e; cases e; exact h2 e.symm))
theorem own_sets {w : World} {base : Nat} {E : TypeId} {size n c : Nat} {v : Value} {xs : List Value} (h : w.ownsRow base E size v n xs) (hB : ScX w c) (hE : E ≠ 27) (o : Nat) (u : Value) : (w.setCell ⟨c, o, none⟩ u).ownsRow base E size v n xs :=
  h.kept ((Kp.refl c w).set o u) (own_scx h hB hE)

theorem BodsR.sets {w : World} {base c : Nat} {sv : Value} {bs : List (List M4)} (h : BodsR w base sv bs) (hB : ScX w c) (o : Nat) (u : Value) : BodsR (w.setCell ⟨c, o, none⟩ u) base sv bs := by
  obtain ⟨vs, k1, k2⟩ := h
  exact ⟨vs, own_sets k1 hB (by decide) o u, fun p r hp => by obtain ⟨v, a, b⟩ := k2 p r hp; exact ⟨v, a, own_sets b hB (by decide) o u⟩⟩

def lateL (by' : Nat) (es : List Ev6) (k : Nat) : List Ev6 := (es.take k).map (Ev6.late by') ++ es.drop k
theorem lateL_len (by' : Nat) (es : List Ev6) (k : Nat) : (lateL by' es k).length = es.length := by simp [lateL]; omega
theorem lateL_zero (by' : Nat) (es : List Ev6) : lateL by' es 0 = es := by simp [lateL]
theorem lateL_full (by' : Nat) (es : List Ev6) (n : Nat) (h : n = es.length) : lateL by' es n = es.map (Ev6.late by') := by
  subst h
  simp [lateL]
theorem lateL_at (by' : Nat) (es : List Ev6) (k : Nat) (e : Ev6) (h : es[k]? = some e) : (lateL by' es k)[k]? = some e := by
  obtain ⟨hk, he⟩ := List.getElem?_eq_some_iff.1 h
  unfold lateL
  rw [List.getElem?_append_right (by simp; omega)]
  simp only [List.length_map, List.length_take, Nat.min_eq_left (Nat.le_of_lt hk), Nat.sub_self, List.getElem?_drop, Nat.add_zero, h]
theorem lateL_set (by' : Nat) (es : List Ev6) (k : Nat) (e : Ev6) (h : es[k]? = some e) : (lateL by' es k).set k (e.late by') = lateL by' es (k + 1) := by
  obtain ⟨hk, he⟩ := List.getElem?_eq_some_iff.1 h
  unfold lateL
  rw [List.take_succ_eq_append_getElem hk, he, List.drop_eq_getElem_cons hk, he, List.set_append_right _ _ (by simp; omega)]
  simp [Nat.min_eq_left (Nat.le_of_lt hk)]
theorem cellsE_set : ∀ (l : List Ev6) (k : Nat) (e e' : Ev6), l[k]? = some e → e'.k = e.k → e'.b = e.b → e'.s = e.s → e'.m = e.m → e'.f = e.f → (cellsE l).set (k * 6) (.int .i64 e'.t) = cellsE (l.set k e')
  | [], k, e, e', h, _, _, _, _, _ => by simp at h
  | x :: l, 0, e, e', h, h1, h2, h3, h4, h5 => by
    simp at h
    subst h
    simp [cellsE, Ev6.cells, h1, h2, h3, h4, h5]
  | x :: l, k + 1, e, e', h, h1, h2, h3, h4, h5 => by
    have ih := cellsE_set l k e e' (by simpa using h) h1 h2 h3 h4 h5
    have hl : x.cells.length = 6 := rfl
    simp only [cellsE, List.flatMap_cons, List.set_cons_succ] at ih ⊢
    rw [List.set_append_right _ _ (by rw [hl]; omega), hl, show (k + 1) * 6 - 6 = k * 6 from by omega, ih]
theorem late_ok {L nb by' : Nat} {e : Ev6} (h : e.ok L nb) : (e.late by').ok (L + by') nb := by
  obtain ⟨t0, t1, b0, b1, hk⟩ := h
  exact ⟨by show 0 ≤ e.t + (by' : Int); omega, by show e.t + (by' : Int) ≤ ((L + by' : Nat) : Int); omega, b0, b1, hk⟩

def ShiftP (L by' V C R : Nat) (bs : List (List M4)) (es : List Ev6) (w : World) (e : Ending) (w' : World) : Prop :=
  ∃ (sv ev : Value) (L' : Nat), L' = L + by' ∧ e = .returned (.tuple #[.agg #[.int .i64 (L' : Int), .int .i64 (V : Int), .float .f32 C, .float .f32 R, sv, ev], .bool true]) ∧ ScoV w' w.heap.size L' V C R bs (es.map (Ev6.late by')) sv ev ∧ Nw w w'
end Go.Proofs.YtiakcibeobbonaaGreat

/- The walks of l8Same, FirstDifference and same: what they answer of two rows of samples that are numbers.
   Conditions: those that each statement names. -/
namespace Go.Proofs.YtiakcibeobbonaaGreat
set_option linter.unusedSimpArgs false
set_option linter.unusedVariables false
open Go Go.RowKit

/-- are two numbers the same: NaN and NaN, zeros of one sign, or equal ones -/
def sameB (a b : Nat) : Bool :=
  if (FloatKind.f64.decode a).isNaN || (FloatKind.f64.decode b).isNaN then (FloatKind.f64.decode a).isNaN && (FloatKind.f64.decode b).isNaN
  else if (FloatKind.f64.format.order a 0 == some .eq) && (FloatKind.f64.format.order b 0 == some .eq) then
    (FloatKind.f64.format.order (opB .quo .f64 4607182418800017408 a) 0 == some .gt) == (FloatKind.f64.format.order (opB .quo .f64 4607182418800017408 b) 0 == some .gt)
  else FloatKind.f64.format.order a b == some .eq

theorem one_quo (a : Nat) (h : (FloatKind.f64.decode a).isNaN = false) : Calm .quo .f64 4607182418800017408 a := by
  have h1 : Ieee.double.read 4607182418800017408 = .number false 4503599627370496 (-52) := by decide
  have hx : ∃ r, floatBits .quo .f64 4607182418800017408 a = some r := by
    unfold FloatKind.decode at h
    rw [show FloatKind.f64.format = Ieee.double from rfl] at h
    show ∃ r, Ieee.double.div 4607182418800017408 a = some r
    unfold Ieee.Format.div
    rw [h1]
    cases hd : Ieee.double.read a with
    | number s m p => by_cases hm : m = 0 <;> simp [Ieee.Datum.quotient, hm]
    | infinity s => exact ⟨_, rfl⟩
    | nan s f => rw [hd] at h; simp [Ieee.Datum.isNaN] at h
  obtain ⟨r, hr⟩ := hx
  exact (Calm.of hr).1

theorem l8Same_any (a b : Nat) (w : World) :
    Calls Tryz.prog 19 #[.float .f64 a, .float .f64 b] w fun e w' => e = .returned (.bool (sameB a b)) ∧ w = w' := by
  have o1 := order_self .f64 a
  have o2 := order_self .f64 b
  cases ha : (FloatKind.f64.decode a).isNaN
  all_goals cases hb : (FloatKind.f64.decode b).isNaN
  all_goals rw [ha] at o1; rw [hb] at o2
  case false.false =>
    have c1 := one_quo a ha
    have c2 := one_quo b hb
    have r1 := c1.res
    have r2 := c2.res
    have d1 := c1.fdr
    have d2 := c2.fdr
    go_enter Tryz.func19, Tryz.ntmps19
    go_wp2
    all_goals (go_ret; refine ⟨by simp_all [sameB], ?_⟩; first | rfl | (exfalso; simp_all))
  all_goals
    go_enter Tryz.func19, Tryz.ntmps19
    go_wp2
    all_goals (go_ret; refine ⟨by simp_all [sameB], ?_⟩; first | rfl | (exfalso; simp_all))

theorem sameB_self (a : Nat) : sameB a a = true := by
  unfold sameB
  cases ha : (FloatKind.f64.decode a).isNaN
  · have o1 := order_self .f64 a
    rw [ha] at o1
    simp only [Bool.or_self, Bool.false_eq_true, if_false, beq_self_eq_true]
    split
    · rfl
    · simpa using o1
  · simp

def SameI (n : Nat) (w : World) (i : Value) (wr : World) : Prop := ∃ k : Nat, k ≤ n ∧ i = .int .i64 (k : Int) ∧ Nw w wr

set_option maxRecDepth 100000 in
theorem firstDifference_eq (xs ys : List Nat) (n bx cy : Nat) (v u : Value) (hx : xs.length = n) (hy : ys.length = n) (hn : n ≤ 1048576) (w : World)
    (ox : w.ownsRow bx 23 1 v n (cellsS xs)) (oy : w.ownsRow cy 23 1 u n (cellsS ys)) (hsx : ∀ x ∈ xs, Sm x) (hsy : ∀ y ∈ ys, Sm y)
    (hs : ∀ (k : Nat) x y, xs[k]? = some x → ys[k]? = some y → sameB (wid x) (wid y) = true) :
    Calls Tryz.prog 21 #[v, u] w fun e w' => e = .returned (.int .i64 (-1)) ∧ Nw w w' := by
  obtain ⟨va, vc, rfl⟩ := own_shape' ox
  obtain ⟨ua, uc, rfl⟩ := own_shape' oy
  have Ox := Lib.hid ox
  have Oy := Lib.hid oy
  have Hx := Lib.hid hx
  have Hy := Lib.hid hy
  have Hsx := Lib.hid hsx
  have Hsy := Lib.hid hsy
  have Hs := Lib.hid hs
  clear ox oy hx hy hsx hsy hs
  go_enter Tryz.func21, Tryz.ntmps21
  go_wp2_with fail
  go_loopw [5] (fun i wr => SameI n w i wr) (fun i _ => n - (intOf i).toNat)
  case atStart => exact ⟨0, by omega, rfl, Nw.refl _⟩
  case round =>
    obtain ⟨k, hk, rfl, hN⟩ := hrel
    have Nr := Lib.hid hN
    clear hN
    by_cases hlt : k < n
    · obtain ⟨x, hxk⟩ : ∃ x, xs[k]? = some x := ⟨xs[k]'(by rw [Hx.out]; exact hlt), List.getElem?_eq_getElem _⟩
      obtain ⟨y, hyk⟩ : ∃ y, ys[k]? = some y := ⟨ys[k]'(by rw [Hy.out]; exact hlt), List.getElem?_eq_getElem _⟩
      obtain ⟨g1, cap1, hv1, hcap1, hmax1, -, e1⟩ := own_sample (own_nw Ox.out Nr.out) hxk Hx.out.symm
      obtain ⟨g2, cap2, hv2, hcap2, hmax2, -, e2⟩ := own_sample (own_nw Oy.out Nr.out) hyk Hy.out.symm
      cases hv1
      cases hv2
      have hb := Hs.out k x y hxk hyk
      have sx := Hsx.out x (List.mem_of_getElem? hxk)
      have sy := Hsy.out y (List.mem_of_getElem? hyk)
      have a1 := fcv_up sx
      have a2 := fcd_up sx
      have b1 := fcv_up sy
      have b2 := fcd_up sy
      unfold maxLen at hmax1 hmax2
      clear hxk hyk sx sy
      go_wp2_with fail
      go_quiet (first | (go_at_call 19; with_reducible exact quiet_eq (l8Same_any _ _ _)))
      have N2 := Lib.hid (Nr.out.draw nq)
      go_wp2_with fail
      go_roundw
      case rel => exact ⟨k + 1, by omega, by rw [show ((k + 1 : Nat) : Int) = (k : Int) + 1 from by omega], N2.out⟩
      case measure => simp only [intOf]; omega
    · obtain rfl : k = n := by omega
      go_wp2_with fail
      go_ret
      exact ⟨rfl, Nr.out⟩

theorem same_eq (xs ys : List Nat) (n bx cy : Nat) (v u : Value) (hx : xs.length = n) (hy : ys.length = n) (hn : n ≤ 1048576) (w : World)
    (ox : w.ownsRow bx 23 1 v n (cellsS xs)) (oy : w.ownsRow cy 23 1 u n (cellsS ys)) (hsx : ∀ x ∈ xs, Sm x) (hsy : ∀ y ∈ ys, Sm y)
    (hs : ∀ (k : Nat) x y, xs[k]? = some x → ys[k]? = some y → sameB (wid x) (wid y) = true) :
    Calls Tryz.prog 10 #[v, u] w fun e w' => e = .returned (.bool true) ∧ Nw w w' := by
  have Ox := Lib.hid ox
  have Oy := Lib.hid oy
  have Hs := Lib.hid (And.intro hx (And.intro hy (And.intro hsx (And.intro hsy hs))))
  clear ox oy hx hy hsx hsy hs
  go_enter Tryz.func10, Tryz.ntmps10
  go_wp2_with fail
  refine (firstDifference_eq xs ys n bx cy _ _ Hs.out.1 Hs.out.2.1 hn _ Ox.out Oy.out Hs.out.2.2.1 Hs.out.2.2.2.1 Hs.out.2.2.2.2).mono ?_
  rintro e w1 ⟨rfl, n1⟩
  have N1 := Lib.hid n1
  clear n1
  go_wp2
  go_ret
  exact ⟨rfl, N1.out⟩

end Go.Proofs.YtiakcibeobbonaaGreat

/- The walks of FirstDifference, the program's and the model's, for any numbers: the least place at which two rows of samples are not the same.
   Conditions: those that each statement names. -/
namespace Go.Proofs.YtiakcibeobbonaaGreat
set_option linter.unusedSimpArgs false
set_option linter.unusedVariables false
open Go Go.RowKit

theorem sameB_sameF (a b : Nat) : sameB a b = sameF a b := by
  unfold sameB sameF nan64
  have e : ∀ a, (FloatKind.f64.decode a).isNaN = false → opB .quo .f64 4607182418800017408 a = (floatBits .quo .f64 4607182418800017408 a).getD 0 := by
    intro a h
    rfl
  cases ha : (FloatKind.f64.decode a).isNaN <;> cases hb : (FloatKind.f64.decode b).isNaN <;> simp
  rw [e a ha, e b hb]
theorem run_bits32 (x : Nat) (w : World) : (callFunc 83 #[.float .f32 x]).run Tryz.prog w = .ok (.value (.int .u32 x)) w := by
  rw [run_callFunc_extern (P := Tryz.prog) (f := 83) Tryz.func83 (by kernel_rfl) (by kernel_rfl) (by kernel_rfl) (e := Extern.MathFloatBits.float32bits) (by kernel_rfl)]
  rfl

theorem sameSingle_any (x y : Nat) (w : World) :
    Calls Tryz.prog 56 #[.float .f32 x, .float .f32 y] w fun e w' => e = .returned (.bool (sameX x y)) ∧ ∃ n, w' = w.drewN n := by
  have h1 := run_bits32
  by_cases hxy : x = y
  · subst hxy
    rw [sameX_self]
    go_enter Tryz.func56, Tryz.ntmps56
    go_wp2
    all_goals (go_ret; exact ⟨rfl, 0, rfl⟩)
  · have hs : sameX x y = (nan32 x && nan32 y) := by unfold sameX; rw [show (x == y) = false from by simpa using hxy]; simp
    have hz : ¬ ((x : Int) = (y : Int)) := by omega
    have nn : ∀ x w, (FloatKind.f64.decode (fcv w .f32 x .f64)).isNaN = nan32 x := fun x w => by
      cases hx : nan32 x with
      | true => exact nan_wide hx w
      | false => rw [fcv_wide hx]; exact wid_nan hx
    rw [hs]
    have Nn := Lib.hid nn
    clear nn hs
    go_enter Tryz.func56, Tryz.ntmps56
    cases hx : nan32 x with
    | true =>
      go_wp2_with (first | (go_at_call 84; refine (isNaN_any _ _).mono ?_; rintro e w5 ⟨rfl, rfl⟩; rw [Nn.out]; try rw [hx]))
      all_goals (go_ret; exact ⟨by simp [hz], _, rfl⟩)
    | false =>
      go_wp2_with (first | (go_at_call 84; refine (isNaN_any _ _).mono ?_; rintro e w5 ⟨rfl, rfl⟩; rw [Nn.out]; try rw [hx]))
      all_goals (go_ret; exact ⟨by simp [hz], _, rfl⟩)

/-! ### the least place -/
def fdL : List Nat → List Nat → Nat → Int
  | [], [], _ => -1
  | [], _ :: _, k => (k : Int)
  | _ :: _, [], k => (k : Int)
  | x :: xs, y :: ys, k => if sameX x y then fdL xs ys (k + 1) else (k : Int)
theorem fdL_same {xs ys : List Nat} {k x y : Nat} (hx : xs[k]? = some x) (hy : ys[k]? = some y) (h : sameX x y = true) : fdL (xs.drop k) (ys.drop k) k = fdL (xs.drop (k + 1)) (ys.drop (k + 1)) (k + 1) := by
  obtain ⟨a, rfl⟩ := List.getElem?_eq_some_iff.1 hx
  obtain ⟨b, rfl⟩ := List.getElem?_eq_some_iff.1 hy
  rw [List.drop_eq_getElem_cons a, List.drop_eq_getElem_cons b]
  show (if sameX _ _ then _ else _) = _
  rw [h]; rfl
theorem fdL_differ {xs ys : List Nat} {k x y : Nat} (hx : xs[k]? = some x) (hy : ys[k]? = some y) (h : sameX x y = false) : fdL (xs.drop k) (ys.drop k) k = (k : Int) := by
  obtain ⟨a, rfl⟩ := List.getElem?_eq_some_iff.1 hx
  obtain ⟨b, rfl⟩ := List.getElem?_eq_some_iff.1 hy
  rw [List.drop_eq_getElem_cons a, List.drop_eq_getElem_cons b]
  show (if sameX _ _ then _ else _) = _
  rw [h]; rfl
theorem fdL_left {xs ys : List Nat} {k : Nat} (hx : k < xs.length) (hy : ys.length ≤ k) : fdL (xs.drop k) (ys.drop k) k = (k : Int) := by
  rw [List.drop_eq_getElem_cons hx, List.drop_eq_nil_of_le hy]; rfl
theorem fdL_right {xs ys : List Nat} {k : Nat} (hx : xs.length ≤ k) (hy : k < ys.length) : fdL (xs.drop k) (ys.drop k) k = (k : Int) := by
  rw [List.drop_eq_getElem_cons hy, List.drop_eq_nil_of_le hx]; rfl
theorem fdL_end {xs ys : List Nat} {k : Nat} (hx : xs.length ≤ k) (hy : ys.length ≤ k) : fdL (xs.drop k) (ys.drop k) k = -1 := by
  rw [List.drop_eq_nil_of_le hx, List.drop_eq_nil_of_le hy]; rfl
theorem fdL_self (xs : List Nat) : ∀ k, fdL xs xs k = -1 := by
  induction xs with
  | nil => intro k; rfl
  | cons x xs ih => intro k; show (if sameX x x then _ else _) = _; rw [sameX_self]; exact ih (k + 1)

def FdI (xs ys : List Nat) (n m : Nat) (w : World) (i : Value) (wr : World) : Prop :=
  ∃ k : Nat, (k ≤ n ∨ k ≤ m) ∧ i = .int .i64 (k : Int) ∧ fdL xs ys 0 = fdL (xs.drop k) (ys.drop k) k ∧ Nw w wr
def FdP (xs ys : List Nat) (w : World) (e : Ending) (w' : World) : Prop := e = .returned (.int .i64 (fdL xs ys 0)) ∧ Nw w w'

end Go.Proofs.YtiakcibeobbonaaGreat

/- A region that draws its order and holds conversions whose bits are not fixed (those of NaN): one walk of the lexical order serves every order, if at each conversion what follows is shown for every value that it may yield.
   Conditions: no conversion stands apart from a call (each call waits for each conversion). No program stands in it. -/
namespace Go.Proofs.YtiakcibeobbonaaGreat
set_option linter.unusedSimpArgs false
set_option linter.unusedVariables false
open Go

namespace Noise
section
variable {P : Program} {ops : Array Oper} {md : Region.Mode} {C : World → Prop}

/-- 0: a conversion; 2: a call of a function; 1: all else -/
def kind (o : Oper) : Nat :=
  match o.op with
  | .convert .. => 0
  | .call c => (match c.callee with | .builtin _ => 1 | _ => 2)
  | _ => 1

@[go_sem] def noisyUpon (C : World → Prop) (S : Value → Prop) : Result Next → Prop
  | .ok (.value u) w' => C w' ∧ S u
  | _ => False
@[go_sem] def plainUpon (w : World) (v : Value) : Result Next → Prop
  | .ok (.value u) w' => w' = w ∧ u = v
  | .ok .skip w' => w' = w ∧ v = undef
  | _ => False

def Yields (P : Program) (ops : Array Oper) (C : World → Prop) (o : Oper) (S : Value → Prop) (a : Act) : Prop :=
  (Region.wanted o (yielded ops a.tmps) = true ∧ kind o = 0 ∧ (∃ v, S v) ∧ ∀ w, C w → noisyUpon C S ((execOp a.eval o).run P w)) ∨
  (Region.wanted o (yielded ops a.tmps) = true ∧ kind o = 1 ∧ ∃ v, (∀ u, S u ↔ u = v) ∧ ∀ w, C w → plainUpon w v ((execOp a.eval o).run P w)) ∨
  (Region.wanted o (yielded ops a.tmps) = true ∧ kind o = 2 ∧ ∃ v, (∀ u, S u ↔ u = v) ∧ ∀ w, C w → o.quietAt P a C w v) ∨
  (Region.wanted o (yielded ops a.tmps) = false ∧ ∀ u, S u ↔ u = undef)

theorem Yields.some {o : Oper} {S : Value → Prop} {a : Act} (h : Yields P ops C o S a) : ∃ v, S v := by
  rcases h with ⟨-, -, h, -⟩ | ⟨-, -, v, h, -⟩ | ⟨-, -, v, h, -⟩ | ⟨-, h⟩
  · exact h
  · exact ⟨v, (h v).2 rfl⟩
  · exact ⟨v, (h v).2 rfl⟩
  · exact ⟨undef, (h _).2 rfl⟩
theorem Yields.of_same {o : Oper} {S : Value → Prop} {a a' : Act} (hy : Yields P ops C o S a) (he : execOp a'.eval o = execOp a.eval o)
    (hw : Region.wanted o (yielded ops a'.tmps) = Region.wanted o (yielded ops a.tmps)) : Yields P ops C o S a' := by
  unfold Yields Oper.quietAt at *
  rw [he, hw]
  exact hy

/-- THE LEXICAL WALK -/
def wpNoise (P : Program) (ops : Array Oper) (C : World → Prop) (Q : Act → Prop) : List Oper → Act → Prop
  | [], a => Q a
  | o :: rest, a => ∃ S, Yields P ops C o S a ∧ ∀ v, S v → wpNoise P ops C Q rest (a.put o.dst v)

def nOp (P : Program) (ops : Array Oper) (C : World → Prop) (i : Nat) (K : Act → Prop) (a : Act) : Prop :=
  match ops[i]? with
  | none => K a
  | some o => ∃ S, Yields P ops C o S a ∧ ∀ v, S v → K (a.put o.dst v)

theorem nOp_mono {i : Nat} {a : Act} {K K' : Act → Prop} (h : ∀ a, K a → K' a) (hh : nOp P ops C i K a) : nOp P ops C i K' a := by
  unfold nOp at *
  split
  · exact h _ (by simpa [*] using hh)
  · rename_i o ho
    simp only [ho] at hh
    obtain ⟨S, h1, h2⟩ := hh
    exact ⟨S, h1, fun v hv => h _ (h2 v hv)⟩

/-- Whatever order is picked from here on. -/
def wpAnyN (P : Program) (md : Region.Mode) (ops : Array Oper) (C : World → Prop) (Q : Act → Prop) : Nat → Array Bool → Act → Prop
  | 0, listed, a => Region.ready md ops listed = [] ∧ Q a
  | fuel + 1, listed, a =>
    (Region.ready md ops listed = [] → Q a) ∧
    ∀ i ∈ Region.ready md ops listed, nOp P ops C i (wpAnyN P md ops C Q fuel (listed.setIfInBounds i true)) a

theorem wp_of {o : Oper} {a : Act} {S : Value → Prop} {K' : Act → World → Prop} {Q' : Exit → Act → World → Prop} {w : World} (hwt : Region.wanted o (yielded ops a.tmps) = true) (hw : C w)
    (h : ∀ v w', C w' → S v → K' (a.put o.dst v) w') (hy : Yields P ops C o S a) : o.wp P a w K' Q' := by
  rcases hy with ⟨-, -, -, h1⟩ | ⟨-, -, v, hv, h1⟩ | ⟨-, -, v, hv, h1⟩ | ⟨h0, -⟩
  · have h3 := h1 w hw
    unfold Oper.wp
    generalize (execOp a.eval o).run P w = r at *
    cases r with
    | ok n w' =>
      cases n <;> simp only [noisyUpon] at h3 <;> simp only [Oper.upon]
      exact h _ _ h3.1 h3.2
    | halt x w' => simp only [noisyUpon] at h3
  · have h3 := h1 w hw
    unfold Oper.wp
    generalize (execOp a.eval o).run P w = r at *
    cases r with
    | ok n w' =>
      cases n <;> simp only [plainUpon] at h3 <;> simp only [Oper.upon]
      case value u =>
        obtain ⟨e1, e2⟩ := h3
        rw [e1, e2]
        exact h _ _ hw ((hv v).2 rfl)
      case skip =>
        obtain ⟨e1, e2⟩ := h3
        rw [e1, ← e2]
        exact h _ _ hw ((hv v).2 rfl)
    | halt x w' => simp only [plainUpon] at h3
  · have h3 := h1 w hw
    unfold Oper.quietAt at h3
    unfold Oper.wp
    generalize (execOp a.eval o).run P w = r at *
    cases r with
    | ok n w' =>
      cases n <;> simp only [Oper.quietUpon] at h3 <;> simp only [Oper.upon]
      case value u =>
        obtain ⟨e1, e2⟩ := h3
        rw [e1, e2]
        exact h _ _ hw ((hv v).2 rfl)
      case skip =>
        obtain ⟨e1, e2⟩ := h3
        rw [e1, ← e2]
        exact h _ _ hw ((hv v).2 rfl)
      case enter f args =>
        obtain ⟨e1, hc⟩ := h3
        rw [e1]
        exact hc.mono fun e w'' ⟨he, hw''⟩ => by subst he; exact h _ _ hw'' ((hv v).2 rfl)
    | halt x w' => simp only [Oper.quietUpon] at h3
  · rw [h0] at hwt; cases hwt

theorem wpOp_of_nOp {i : Nat} {a : Act} {K : Act → Prop} {K' : Act → World → Prop} {Q' : Exit → Act → World → Prop} {w : World} (hC : C w) (h : ∀ a w', C w' → K a → K' a w') (hh : nOp P ops C i K a) : wpOp P ops Q' i K' a w := by
  unfold nOp at hh
  unfold wpOp
  split
  · rename_i ho; simp only [ho] at hh; exact h _ _ hC hh
  · rename_i o ho
    simp only [ho] at hh
    obtain ⟨S, hy, hk⟩ := hh
    split
    · rename_i hw; exact .inl (wp_of hw hC (fun v w' hw' hv => h _ _ hw' (hk v hv)) hy)
    · rename_i hw
      rcases hy with ⟨h0, -⟩ | ⟨h0, -⟩ | ⟨h0, -⟩ | ⟨-, h0⟩
      · exact absurd h0 hw
      · exact absurd h0 hw
      · exact absurd h0 hw
      · exact h _ _ hC (hk _ ((h0 _).2 rfl))

theorem wpAny_of_noise {Q : Act → Prop} {Q' : Exit → Act → World → Prop} (hQ : ∀ a w, C w → Q a → Q' .normal a w) : ∀ (fuel : Nat) (listed : Array Bool) (a : Act) (w : World), C w →
    wpAnyN P md ops C Q fuel listed a → wpAny P md ops Q' fuel listed a w
  | 0, _, _, _, hw, h => ⟨h.1, hQ _ _ hw h.2⟩
  | fuel + 1, _, _, _, hw, h => ⟨fun h0 => hQ _ _ hw (h.1 h0), fun i hi => wpOp_of_nOp hw (fun a' w' hw' => wpAny_of_noise hQ fuel _ a' w' hw') (h.2 i hi)⟩

/-- one operation 'oj', apart from 'oi': the two may change places -/
theorem nOp_put {j : Nat} {oi oj : Oper} {S : Value → Prop} (hj : ops[j]? = some oj) (hap : oi.apart ops oj = true)
    (hsi : ∀ cs b, oi.op ≠ .select cs b) (hsj : ∀ cs b, oj.op ≠ .select cs b) (h0 : ∃ w, C w) (hcall : kind oi = 0 → kind oj ≠ 2) {K : Act → Prop} {a : Act}
    (hy : Yields P ops C oi S a) (h : ∀ v, S v → nOp P ops C j K (a.put oi.dst v)) :
    nOp P ops C j (fun a' => Yields P ops C oi S a' ∧ ∀ v, S v → K (a'.put oi.dst v)) a := by
  obtain ⟨h1, h2, h3⟩ := Oper.apart_spec hap
  have keep : ∀ (a : Act), Yields P ops C oi S a → ∀ u, Yields P ops C oi S (a.put oj.dst u) := fun a hy u =>
    hy.of_same (execOp_put oi hsi a oj.dst u h3) (wanted_put oi a oj.dst u h3)
  have back : ∀ v T, Yields P ops C oj T (a.put oi.dst v) → Yields P ops C oj T a := fun v T hT =>
    hT.of_same (execOp_put oj hsj a oi.dst v h1).symm (wanted_put oj a oi.dst v h1).symm
  unfold nOp at *
  simp only [hj] at *
  have h' : ∀ v, S v → ∃ T, Yields P ops C oj T a ∧ ∀ u, T u → K ((a.put oj.dst u).put oi.dst v) := by
    intro v hv
    obtain ⟨T, hT, hK⟩ := h v hv
    exact ⟨T, back v T hT, fun u hu => by rw [← Act.put_comm a v u h2]; exact hK u hu⟩
  obtain ⟨v0, hv0⟩ := hy.some
  obtain ⟨T0, hT0, hK0⟩ := h' v0 hv0
  have one : (∀ v, S v → v = v0) → ∃ T, Yields P ops C oj T a ∧ ∀ u, T u → Yields P ops C oi S (a.put oj.dst u) ∧ ∀ v, S v → K ((a.put oj.dst u).put oi.dst v) :=
    fun hone => ⟨T0, hT0, fun u hu => ⟨keep a hy u, fun v hv => by rw [hone v hv]; exact hK0 u hu⟩⟩
  rcases id hy with ⟨-, k0, -, -⟩ | ⟨-, -, x, hx, -⟩ | ⟨-, -, x, hx, -⟩ | ⟨-, hx⟩
  · obtain ⟨w0, hw0⟩ := h0
    rcases id hT0 with ⟨g0, g1, g2, g3⟩ | ⟨g0, g1, x, g2, g3⟩ | ⟨g0, g1, -⟩ | ⟨g0, g2⟩
    · refine ⟨fun u => ∃ w, C w ∧ ∃ w', (execOp a.eval oj).run P w = .ok (.value u) w', .inl ⟨g0, g1, ?_, fun w hw => ?_⟩, fun u hu => ⟨keep a hy u, fun v hv => ?_⟩⟩
      · have := g3 w0 hw0
        generalize hr : (execOp a.eval oj).run P w0 = r at this
        cases r with
        | ok n w' =>
          cases n <;> simp only [noisyUpon] at this
          exact ⟨_, w0, hw0, _, hr⟩
        | halt x w' => simp only [noisyUpon] at this
      · have := g3 w hw
        generalize hr : (execOp a.eval oj).run P w = r at this
        cases r with
        | ok n w' =>
          cases n <;> simp only [noisyUpon] at this ⊢
          exact ⟨this.1, w, hw, _, hr⟩
        | halt x w' => simp only [noisyUpon] at this
      · obtain ⟨w, hw, w', hr⟩ := hu
        obtain ⟨T, hT, hK⟩ := h' v hv
        refine hK u ?_
        rcases hT with ⟨-, -, -, t3⟩ | ⟨-, t1, -⟩ | ⟨-, t1, -⟩ | ⟨t0, -⟩
        · have := t3 w hw
          rw [hr] at this
          exact this.2
        · rw [g1] at t1; cases t1
        · rw [g1] at t1; cases t1
        · rw [g0] at t0; cases t0
    · refine ⟨T0, hT0, fun u hu => ⟨keep a hy u, fun v hv => ?_⟩⟩
      obtain ⟨T, hT, hK⟩ := h' v hv
      refine hK u ?_
      rcases hT with ⟨-, t1, -⟩ | ⟨-, t1, y, t2, t3⟩ | ⟨-, t1, -⟩ | ⟨t0, -⟩
      · rw [g1] at t1; cases t1
      · have e : x = y := by
          have a1 := g3 w0 hw0
          have a2 := t3 w0 hw0
          generalize (execOp a.eval oj).run P w0 = r at a1 a2
          cases r with
          | ok n w' =>
            cases n <;> simp only [plainUpon] at a1 a2
            · exact a1.2.symm.trans a2.2
            · exact a1.2.trans a2.2.symm
          | halt x w' => simp only [plainUpon] at a1
        exact (t2 u).2 (((g2 u).1 hu).trans e)
      · rw [g1] at t1; cases t1
      · rw [g0] at t0; cases t0
    · exact absurd g1 (hcall k0)
    · refine ⟨T0, hT0, fun u hu => ⟨keep a hy u, fun v hv => ?_⟩⟩
      obtain ⟨T, hT, hK⟩ := h' v hv
      refine hK u ?_
      rcases hT with ⟨t0, -⟩ | ⟨t0, -⟩ | ⟨t0, -⟩ | ⟨-, t2⟩
      · rw [g0] at t0; cases t0
      · rw [g0] at t0; cases t0
      · rw [g0] at t0; cases t0
      · exact (t2 u).2 ((g2 u).1 hu)
  · exact one fun v hv => by rw [(hx v).1 hv, (hx v0).1 hv0]
  · exact one fun v hv => by rw [(hx v).1 hv, (hx v0).1 hv0]
  · exact one fun v hv => by rw [(hx v).1 hv, (hx v0).1 hv0]

/-- each call waits for each conversion -/
def callsWait (md : Region.Mode) (ops : Array Oper) : Bool :=
  (List.range ops.size).all fun i => (List.range ops.size).all fun j =>
    match ops[i]?, ops[j]? with
    | some oi, some oj => !(kind oi == 0 && kind oj == 2) || oj.after.toList.any fun e => Region.binds md e && e.on == i
    | _, _ => true
theorem callsWait_spec (h : callsWait md ops = true) {i j : Nat} {oi oj : Oper} (hi : ops[i]? = some oi) (hj : ops[j]? = some oj) (k0 : kind oi = 0) (k2 : kind oj = 2) : ∃ e ∈ oj.after, Region.binds md e = true ∧ e.on = i := by
  unfold callsWait at h
  have li : i < ops.size := by
    rcases Nat.lt_or_ge i ops.size with h' | h'
    · exact h'
    · rw [Array.getElem?_eq_none h'] at hi; cases hi
  have lj : j < ops.size := by
    rcases Nat.lt_or_ge j ops.size with h' | h'
    · exact h'
    · rw [Array.getElem?_eq_none h'] at hj; cases hj
  have h1 := List.all_eq_true.1 (List.all_eq_true.1 h i (List.mem_range.2 li)) j (List.mem_range.2 lj)
  simp only [hi, hj, k0, k2] at h1
  have h2 : (oj.after.toList.any fun e => Region.binds md e && e.on == i) = true := by simpa using h1
  obtain ⟨e, he, hp⟩ := List.any_eq_true.1 h2
  simp only [Bool.and_eq_true, beq_iff_eq] at hp
  exact ⟨e, Array.mem_toList_iff.1 he, hp.1, hp.2⟩

theorem wpAnyN_first {Q : Act → Prop} {i : Nat} {oi : Oper} {S : Value → Prop} (hi : ops[i]? = some oi) (hsel : ∀ (j : Nat) (o : Oper) cs b, ops[j]? = some o → o.op ≠ .select cs b) (h0 : ∃ w, C w) (hwait : callsWait md ops = true) :
    ∀ (fuel : Nat) (listed : Array Bool) (a : Act),
      (∀ j oj, ops[j]? = some oj → j ≠ i → listed.getD j true = false → (∀ e ∈ oj.after, Region.binds md e = true → e.on ≠ i) → oi.apart ops oj = true) →
      i ∈ Region.ready md ops listed → Yields P ops C oi S a →
      (∀ v, S v → wpAnyN P md ops C Q fuel (listed.setIfInBounds i true) (a.put oi.dst v)) → wpAnyN P md ops C Q (fuel + 1) listed a := by
  intro fuel
  induction fuel with
  | zero =>
    intro listed a _ hr hy H
    refine ⟨fun h => (by rw [h] at hr; cases hr), fun j hj => ?_⟩
    by_cases hji : j = i
    · subst hji
      unfold nOp
      simp only [hi]
      exact ⟨S, hy, H⟩
    · obtain ⟨v, hv⟩ := hy.some
      have := ready_mono hj hji
      rw [(H v hv).1] at this
      cases this
  | succ fuel ih =>
    intro listed a hfree hr hy H
    refine ⟨fun h => (by rw [h] at hr; cases hr), fun j hj => ?_⟩
    by_cases hji : j = i
    · subst hji
      unfold nOp
      simp only [hi]
      exact ⟨S, hy, H⟩
    · have h1 : ∀ v, S v → _ := fun v hv => (H v hv).2 j (ready_mono hj hji)
      obtain ⟨hjun, oj, hoj, hall⟩ := mem_ready.1 hj
      have hnot : ∀ e ∈ oj.after, Region.binds md e = true → e.on ≠ i := fun e he hb heq => by
        have h1 := hall e he hb
        have h0 := (mem_ready.1 hr).1
        rw [heq] at h1
        rcases Nat.lt_or_ge i listed.size with h' | h'
        · simp [h'] at h0 h1; rw [h0] at h1; cases h1
        · simp [Array.getElem?_eq_none h'] at h1
      have hcall : kind oi = 0 → kind oj ≠ 2 := fun k0 k2 => by
        obtain ⟨e, he, hb, ho⟩ := callsWait_spec hwait hi hoj k0 k2
        exact hnot e he hb ho
      have h2 := nOp_put hoj (hfree j oj hoj hji hjun hnot) (fun cs b => hsel i oi cs b hi) (fun cs b => hsel j oj cs b hoj) h0 hcall hy h1
      have hfree' : ∀ k ok, ops[k]? = some ok → k ≠ i → (listed.setIfInBounds j true).getD k true = false →
          (∀ e ∈ ok.after, Region.binds md e = true → e.on ≠ i) → oi.apart ops ok = true := fun k ok hk hki hun hno => by
        refine hfree k ok hk hki ?_ hno
        by_cases hjk : j = k
        · subst hjk; exact hjun
        · rw [getD_set_ne true hjk] at hun; exact hun
      refine nOp_mono (fun a' h3 => ih (listed.setIfInBounds j true) a' hfree' (ready_mono hr (Ne.symm hji)) h3.1 (fun v hv => ?_)) h2
      rw [Array.setIfInBounds_comm _ _ hji]
      exact h3.2 v hv

theorem wpAnyN_lex {Q : Act → Prop} (hs : Region.noSelect ops = true) (h0 : ∃ w, C w) (hwait : callsWait md ops = true) : ∀ (l : List Oper) (k : Nat) (listed : Array Bool) (a : Act), (∀ j, l[j]? = ops[k + j]?) →
    Region.lexFrom md ops l.length k listed = true → wpNoise P ops C Q l a → wpAnyN P md ops C Q l.length listed a
  | [], _, _, _, _, hB, h => ⟨by simpa [Region.lexFrom] using hB, h⟩
  | o :: l, k, listed, a, hl, hB, h => by
    have hk : ops[k]? = some o := by simpa using (hl 0).symm
    simp only [List.length_cons, Region.lexFrom, Bool.and_eq_true] at hB
    obtain ⟨⟨hr, hf⟩, hB'⟩ := hB
    obtain ⟨S, hy, hK⟩ := h
    exact wpAnyN_first hk (Region.noSelect_spec hs) h0 hwait l.length listed a (Region.free_spec hk hf) (by simpa using hr) hy
      (fun v hv => wpAnyN_lex hs h0 hwait l (k + 1) _ _ (fun j => by have := hl (j + 1); simpa [Nat.add_assoc, Nat.add_comm 1 j] using this) hB' (hK v hv))

/-- ONE WALK OF THE LEXICAL ORDER SERVES EVERY ORDER -/
theorem wp_region_noise {id : Nat} {Q : Exit → Act → World → Prop} {a : Act} {w : World} {l : List Oper} (hm : P.follows .mixedOrders = true) (hB : Region.lexB .any l.toArray = true) (hwait : callsWait .any l.toArray = true)
    (h : wpNoise P l.toArray (fun w' => ∃ n, w' = w.drewN n) (fun a' => ∀ w', (∃ n, w' = w.drewN n) → Q .normal a' w') l a) : (Code.region id l.toArray true).wp P Q a w := by
  simp only [Region.lexB, Bool.and_eq_true] at hB
  refine wp_region_any hm (wpAny_of_noise (Q := fun a' => ∀ w', (∃ n, w' = w.drewN n) → Q .normal a' w') (fun _ w' hw' h => h w' hw') _ _ _ _ ⟨1, rfl⟩ ?_)
  have := wpAnyN_lex (C := fun w' => ∃ n, w' = w.drewN n) (md := .any) hB.1 ⟨w.drewN 1, 1, rfl⟩ hwait l 0 (Array.replicate l.toArray.size false) a (by simp) (by simpa using hB.2) h
  simpa using this

/-! ### the steps of the walk -/
theorem noise_nil {Q : Act → Prop} {a : Act} (h : Q a) : wpNoise P ops C Q [] a := h
theorem noise_plain {Q : Act → Prop} {a : Act} {o : Oper} {rest : List Oper} (hw : Region.wanted o (yielded ops a.tmps) = true) (hk : kind o = 1) (v : Value) (hv : ∀ w, C w → (execOp a.eval o).run P w = .ok (.value v) w)
    (h : wpNoise P ops C Q rest (a.put o.dst v)) : wpNoise P ops C Q (o :: rest) a :=
  ⟨fun u => u = v, .inr (.inl ⟨hw, hk, v, fun _ => Iff.rfl, fun w hw => by rw [hv w hw]; exact ⟨rfl, rfl⟩⟩), fun u hu => by rw [hu]; exact h⟩
theorem noise_skip {Q : Act → Prop} {a : Act} {o : Oper} {rest : List Oper} (hw : Region.wanted o (yielded ops a.tmps) = false) (h : wpNoise P ops C Q rest (a.put o.dst undef)) : wpNoise P ops C Q (o :: rest) a :=
  ⟨fun u => u = undef, .inr (.inr (.inr ⟨hw, fun _ => Iff.rfl⟩)), fun u hu => by rw [hu]; exact h⟩
theorem noise_conv {Q : Act → Prop} {a : Act} {o : Oper} {rest : List Oper} (hw : Region.wanted o (yielded ops a.tmps) = true) (hk : kind o = 0) (S : Value → Prop) (hs : ∃ v, S v)
    (hv : ∀ w, C w → ∃ v w', (execOp a.eval o).run P w = .ok (.value v) w' ∧ C w' ∧ S v) (h : ∀ v, S v → wpNoise P ops C Q rest (a.put o.dst v)) : wpNoise P ops C Q (o :: rest) a :=
  ⟨S, .inl ⟨hw, hk, hs, fun w hw => by obtain ⟨v, w', e, c, s⟩ := hv w hw; rw [e]; exact ⟨c, s⟩⟩, h⟩
theorem noise_call {Q : Act → Prop} {a : Act} {o : Oper} {rest : List Oper} (hw : Region.wanted o (yielded ops a.tmps) = true) (hk : kind o = 2) (v : Value) (hv : ∀ w, C w → o.quietAt P a C w v)
    (h : wpNoise P ops C Q rest (a.put o.dst v)) : wpNoise P ops C Q (o :: rest) a :=
  ⟨fun u => u = v, .inr (.inr (.inl ⟨hw, hk, v, fun _ => Iff.rfl, hv⟩)), fun u hu => by rw [hu]; exact h⟩
/-- a step of each kind, what follows behind a variable -/
@[go_sem] def plain (P : Program) (o : Oper) (a : Act) (C : World → Prop) (K : Act → Prop) : Prop := ∃ v, (∀ w, C w → plainUpon w v ((execOp a.eval o).run P w)) ∧ K (a.put o.dst v)
theorem noise_step1 {Q : Act → Prop} {a : Act} {o : Oper} {rest : List Oper} (hk : kind o = 1)
    (h : ∀ K : Act → Prop, (∀ a, wpNoise P ops C Q rest a → K a) → if Region.wanted o (yielded ops a.tmps) then plain P o a C K else K (a.put o.dst undef)) : wpNoise P ops C Q (o :: rest) a := by
  have h1 := h _ (fun _ h => h)
  split at h1
  · rename_i hw
    obtain ⟨v, hv, hK⟩ := h1
    exact ⟨fun u => u = v, .inr (.inl ⟨hw, hk, v, fun _ => Iff.rfl, hv⟩), fun u hu => by rw [hu]; exact hK⟩
  · rename_i hw
    exact noise_skip (by simpa using hw) h1
theorem noise_step2 {Q : Act → Prop} {a : Act} {o : Oper} {rest : List Oper} (hk : kind o = 2)
    (h : ∀ K : Act → Prop, (∀ a, wpNoise P ops C Q rest a → K a) → if Region.wanted o (yielded ops a.tmps) then o.quiet P a C K else K (a.put o.dst undef)) : wpNoise P ops C Q (o :: rest) a := by
  have h1 := h _ (fun _ h => h)
  split at h1
  · rename_i hw
    obtain ⟨v, hv, hK⟩ := h1
    exact noise_call hw hk v hv hK
  · rename_i hw
    exact noise_skip (by simpa using hw) h1
theorem noise_step0 {Q : Act → Prop} {a : Act} {o : Oper} {rest : List Oper} (hk : kind o = 0)
    (h : ∀ K : Act → Prop, (∀ a, wpNoise P ops C Q rest a → K a) → if Region.wanted o (yielded ops a.tmps) then (∃ S : Value → Prop, (∃ v, S v) ∧ (∀ w, C w → noisyUpon C S ((execOp a.eval o).run P w)) ∧ ∀ v, S v → K (a.put o.dst v)) else K (a.put o.dst undef)) : wpNoise P ops C Q (o :: rest) a := by
  have h1 := h _ (fun _ h => h)
  split at h1
  · rename_i hw
    obtain ⟨S, hs, hv, hK⟩ := h1
    exact ⟨S, .inl ⟨hw, hk, hs, hv⟩, hK⟩
  · rename_i hw
    exact noise_skip (by simpa using hw) h1
end
end Noise
end Go.Proofs.YtiakcibeobbonaaGreat

/- The walk of the model's FirstDifference.
   Conditions: those that each statement names. -/
namespace Go.Proofs.YtiakcibeobbonaaGreat
set_option linter.unusedSimpArgs false
set_option linter.unusedVariables false
open Go Go.RowKit

/-- what was widened, whatever the bits of NaN -/
theorem sameX_fab {x y b1 b2 : Nat} (lx : x < 2 ^ 32) (ly : y < 2 ^ 32) (h1 : fab .f64 b1 = wA x) (h2 : fab .f64 b2 = wA y) : sameF b1 b2 = sameX x y := by
  have nn : ∀ {b z : Nat}, fab .f64 b = wA z → nan64 b = nan32 z := by
    intro b z h
    unfold wA at h
    cases hz : nan32 z with
    | true =>
      rw [hz] at h
      cases hb : nan64 b with
      | true => rfl
      | false => rw [fab_some hb] at h; cases h
    | false =>
      rw [hz] at h
      cases hb : nan64 b with
      | false => rfl
      | true => rw [fab_none hb] at h; cases h
  have wd : ∀ {b z : Nat}, fab .f64 b = wA z → nan32 z = false → b = wid z := by
    intro b z h hz
    have hb := nn h
    rw [hz] at hb
    unfold wA at h
    rw [hz, fab_some hb] at h
    simpa using h
  cases hx : nan32 x with
  | true =>
    have e1 := nn h1
    have e2 := nn h2
    rw [hx] at e1
    unfold sameF sameX
    rw [e1, e2, hx]
    cases hy : nan32 y with
    | true => simp
    | false =>
      have : x ≠ y := by intro e; subst e; rw [hx] at hy; cases hy
      simp [this]
  | false =>
    cases hy : nan32 y with
    | true =>
      have e1 := nn h1
      have e2 := nn h2
      rw [hx] at e1
      rw [hy] at e2
      unfold sameF sameX
      rw [e1, e2, hx, hy]
      have : x ≠ y := by intro e; subst e; rw [hx] at hy; cases hy
      simp [this]
    | false => rw [wd h1 hx, wd h2 hy, sameX_wide hx hy lx ly]

set_option maxHeartbeats 4000000 in
set_option maxRecDepth 100000 in
theorem specFirst_ok (xs ys : List Nat) (n m bx cy : Nat) (v u : Value) (hx : xs.length = n) (hy : ys.length = m) (hn : n ≤ 1048576) (hm : m ≤ 1048576) (h32 : ∀ x ∈ xs, x < 2 ^ 32) (k32 : ∀ y ∈ ys, y < 2 ^ 32) (w : World)
    (ox : w.ownsRow bx 23 1 v n (cellsS xs)) (oy : w.ownsRow cy 23 1 u m (cellsS ys)) :
    Calls Tryz.prog 21 #[v, u] w (FdP xs ys w) := by
  obtain ⟨va, vc, rfl⟩ := own_shape' ox
  obtain ⟨ua, uc, rfl⟩ := own_shape' oy
  have Ox := Lib.hid ox
  have Oy := Lib.hid oy
  have Hx := Lib.hid hx
  have Hy := Lib.hid hy
  have Hl := Lib.hid (And.intro h32 k32)
  clear ox oy hx hy h32 k32
  go_enter Tryz.func21, Tryz.ntmps21
  go_wp2_with fail
  go_loopw [5] (fun i wr => FdI xs ys n m w i wr) (fun i _ => n + m - (intOf i).toNat)
  case atStart => exact ⟨0, .inl (by omega), rfl, rfl, Nw.refl _⟩
  case round =>
    obtain ⟨k, hk, rfl, hfd, hN⟩ := hrel
    have Nr := Lib.hid hN
    have Hf := Lib.hid hfd
    clear hN hfd
    by_cases hlt : k < n
    · obtain ⟨x, hxk⟩ : ∃ x, xs[k]? = some x := ⟨xs[k]'(by rw [Hx.out]; exact hlt), List.getElem?_eq_getElem _⟩
      obtain ⟨g1, cap1, hv1, hcap1, hmax1, -, e1⟩ := own_sample (own_nw Ox.out Nr.out) hxk Hx.out.symm
      cases hv1
      by_cases hlt2 : k < m
      · obtain ⟨y, hyk⟩ : ∃ y, ys[k]? = some y := ⟨ys[k]'(by rw [Hy.out]; exact hlt2), List.getElem?_eq_getElem _⟩
        obtain ⟨g2, cap2, hv2, hcap2, hmax2, -, e2⟩ := own_sample (own_nw Oy.out Nr.out) hyk Hy.out.symm
        cases hv2
        unfold maxLen at hmax1 hmax2
        have lx := Hl.out.1 x (List.mem_of_getElem? hxk)
        have ly := Hl.out.2 y (List.mem_of_getElem? hyk)
        have Hk := Lib.hid (And.intro hxk hyk)
        have Lxy := Lib.hid (And.intro lx ly)
        clear hxk hyk lx ly
        have d1 : decide (n ≤ k) = false := by simp; omega
        have d2 : decide (m ≤ k) = false := by simp; omega
        by_cases hnan : nan32 x = false ∧ nan32 y = false
        · obtain ⟨hnx, hny⟩ := hnan
          have a1 := fcv_wide hnx
          have a2 := fcd_wide hnx
          have b1 := fcv_wide hny
          have b2 := fcd_wide hny
          have hw := (sameB_sameF (wid x) (wid y)).trans (sameX_wide hnx hny Lxy.out.1 Lxy.out.2)
          cases hs : sameX x y with
          | true =>
            have Hs := Lib.hid (Hf.out.trans (fdL_same Hk.out.1 Hk.out.2 hs))
            rw [hs] at hw
            go_upto_region 4 with fail
            go_quiet (first | (go_at_call 19; with_reducible exact quiet_eq (l8Same_any _ _ _)))
            all_goals
              go_wp2_with fail
              go_roundw
              case rel => exact ⟨k + 1, .inl (by omega), by rw [show ((k + 1 : Nat) : Int) = (k : Int) + 1 from by omega], Hs.out, Nr.out.draw _⟩
              case measure => simp only [intOf]; omega
          | false =>
            have Hs := Lib.hid (Hf.out.trans (fdL_differ Hk.out.1 Hk.out.2 hs))
            rw [hs] at hw
            go_upto_region 4 with fail
            go_quiet (first | (go_at_call 19; with_reducible exact quiet_eq (l8Same_any _ _ _)))
            all_goals
              go_wp2_with fail
              go_ret
              exact ⟨by rw [Hs.out]; rfl, Nr.out.draw _⟩
        · clear hnan
          cases hs : sameX x y with
          | true =>
            have Hs := Lib.hid (Hf.out.trans (fdL_same Hk.out.1 Hk.out.2 hs))
            have Hs0 := Lib.hid hs
            clear hs
            go_upto_region 4 with fail
            refine Noise.wp_region_noise (by kernel_rfl) (by kernel_rfl) (by kernel_rfl) ?_
            repeat (refine Noise.noise_step1 rfl (fun K hK => ?_); go_simp; refine hK _ ?_; clear hK K)
            refine Noise.noise_step0 rfl (fun K hK => ?_)
            go_simp
            refine ⟨fun v => ∃ b, v = .float .f64 b ∧ fab .f64 b = wA x, ⟨_, fcv wr .f32 x .f64, rfl, fab_wide x wr⟩, fun n => ⟨⟨_, rfl⟩, _, rfl, fab_wide x _⟩, ?_⟩
            rintro _ ⟨b1, rfl, hb1⟩
            refine hK _ ?_
            clear hK K
            repeat (refine Noise.noise_step1 rfl (fun K hK => ?_); go_simp; refine hK _ ?_; clear hK K)
            refine Noise.noise_step0 rfl (fun K hK => ?_)
            go_simp
            refine ⟨fun v => ∃ b, v = .float .f64 b ∧ fab .f64 b = wA y, ⟨_, fcv wr .f32 y .f64, rfl, fab_wide y wr⟩, fun n => ⟨⟨_, rfl⟩, _, rfl, fab_wide y _⟩, ?_⟩
            rintro _ ⟨b2, rfl, hb2⟩
            refine hK _ ?_
            clear hK K
            have hsb := (sameB_sameF b1 b2).trans (sameX_fab Lxy.out.1 Lxy.out.2 hb1 hb2)
            rw [Hs0.out] at hsb
            refine Noise.noise_step2 rfl (fun K hK => ?_)
            go_simp
            apply Exists.intro
            refine ⟨fun _ => ?_, hK _ ?_⟩
            · go_at_call 19; with_reducible exact quiet_eq (l8Same_any _ _ _)
            clear hK K
            repeat (refine Noise.noise_step1 rfl (fun K hK => ?_); go_simp; refine hK _ ?_; clear hK K)
            refine Noise.noise_nil ?_
            intro _ hw'
            obtain ⟨nq, hw''⟩ := hw'
            subst hw''
            go_wp2_with fail
            go_roundw
            case rel => exact ⟨k + 1, .inl (by omega), by rw [show ((k + 1 : Nat) : Int) = (k : Int) + 1 from by omega], Hs.out, Nr.out.draw _⟩
            case measure => simp only [intOf]; omega
          | false =>
            have Hs := Lib.hid (Hf.out.trans (fdL_differ Hk.out.1 Hk.out.2 hs))
            have Hs0 := Lib.hid hs
            clear hs
            go_upto_region 4 with fail
            refine Noise.wp_region_noise (by kernel_rfl) (by kernel_rfl) (by kernel_rfl) ?_
            repeat (refine Noise.noise_step1 rfl (fun K hK => ?_); go_simp; refine hK _ ?_; clear hK K)
            refine Noise.noise_step0 rfl (fun K hK => ?_)
            go_simp
            refine ⟨fun v => ∃ b, v = .float .f64 b ∧ fab .f64 b = wA x, ⟨_, fcv wr .f32 x .f64, rfl, fab_wide x wr⟩, fun n => ⟨⟨_, rfl⟩, _, rfl, fab_wide x _⟩, ?_⟩
            rintro _ ⟨b1, rfl, hb1⟩
            refine hK _ ?_
            clear hK K
            repeat (refine Noise.noise_step1 rfl (fun K hK => ?_); go_simp; refine hK _ ?_; clear hK K)
            refine Noise.noise_step0 rfl (fun K hK => ?_)
            go_simp
            refine ⟨fun v => ∃ b, v = .float .f64 b ∧ fab .f64 b = wA y, ⟨_, fcv wr .f32 y .f64, rfl, fab_wide y wr⟩, fun n => ⟨⟨_, rfl⟩, _, rfl, fab_wide y _⟩, ?_⟩
            rintro _ ⟨b2, rfl, hb2⟩
            refine hK _ ?_
            clear hK K
            have hsb := (sameB_sameF b1 b2).trans (sameX_fab Lxy.out.1 Lxy.out.2 hb1 hb2)
            rw [Hs0.out] at hsb
            refine Noise.noise_step2 rfl (fun K hK => ?_)
            go_simp
            apply Exists.intro
            refine ⟨fun _ => ?_, hK _ ?_⟩
            · go_at_call 19; with_reducible exact quiet_eq (l8Same_any _ _ _)
            clear hK K
            repeat (refine Noise.noise_step1 rfl (fun K hK => ?_); go_simp; refine hK _ ?_; clear hK K)
            refine Noise.noise_nil ?_
            intro _ hw'
            obtain ⟨nq, hw''⟩ := hw'
            subst hw''
            go_wp2_with fail
            go_ret
            exact ⟨by rw [Hs.out]; rfl, Nr.out.draw _⟩
      · have Hs := Lib.hid (Hf.out.trans (fdL_left (by rw [Hx.out]; exact hlt) (by rw [Hy.out]; omega)))
        have d1 : decide (n ≤ k) = false := by simp; omega
        have d2 : decide (m ≤ k) = true := by simp; omega
        clear e1 hxk
        go_upto_region 4 with fail
        go_quiet (fail)
        all_goals go_wp2_with fail
        all_goals
          go_ret
          exact ⟨by rw [Hs.out]; rfl, Nr.out.draw _⟩
    · by_cases hlt2 : k < m
      · have d1 : decide (n ≤ k) = true := by simp; omega
        have Hs := Lib.hid (Hf.out.trans (fdL_right (by rw [Hx.out]; omega) (by rw [Hy.out]; exact hlt2)))
        go_upto_region 4 with fail
        go_quiet (fail)
        all_goals go_wp2_with fail
        all_goals
          go_ret
          exact ⟨by rw [Hs.out]; rfl, Nr.out.draw _⟩
      · have Hs := Lib.hid (Hf.out.trans (fdL_end (by rw [Hx.out]; omega) (by rw [Hy.out]; omega)))
        go_wp2_with fail
        all_goals
          go_ret
          exact ⟨by rw [Hs.out]; rfl, Nr.out⟩

end Go.Proofs.YtiakcibeobbonaaGreat

/- Samples that are seen from somewhere on, compared (FnShifted, FnCut).
   Conditions: those that each statement names. -/
namespace Go.Proofs.YtiakcibeobbonaaGreat
set_option linter.unusedSimpArgs false
set_option linter.unusedVariables false
open Go Go.RowKit

theorem sameX_of_fab {x y : Nat} (h : fab .f32 x = fab .f32 y) : sameX x y = true := by
  unfold sameX nan32
  unfold fab at h
  cases hx : (FloatKind.f32.decode x).isNaN <;> cases hy : (FloatKind.f32.decode y).isNaN <;> rw [hx, hy] at h <;> simp at h ⊢
  exact h
set_option maxHeartbeats 4000000 in
set_option maxRecDepth 100000 in
theorem specFirst_view (xs ys : List Nat) (n bx cy : Nat) (v u : Value) (hx : xs.length = n) (hy : ys.length = n) (hn : n ≤ 1048576) (h32 : ∀ x ∈ xs, x < 2 ^ 32) (k32 : ∀ y ∈ ys, y < 2 ^ 32) (w : World)
    (ox : View w bx v xs) (oy : View w cy u ys) (hsame : ∀ (k : Nat) x y, xs[k]? = some x → ys[k]? = some y → sameX x y = true) :
    Calls Tryz.prog 21 #[v, u] w fun e w' => e = .returned (.int .i64 (-1)) ∧ Nw w w' := by
  obtain ⟨g1, o1, c1, cu1, rfl, hc1, hm1, -, hh1, ex⟩ := ox
  obtain ⟨g2, o2, c2, cu2, rfl, hc2, hm2, -, hh2, ey⟩ := oy
  rw [hx] at hc1 ⊢
  rw [hy] at hc2 ⊢
  have hg1 : g1 < w.heap.size := (Array.getElem?_eq_some_iff.1 hh1).1
  have hg2 : g2 < w.heap.size := (Array.getElem?_eq_some_iff.1 hh2).1
  have Ex := Lib.hid ex
  have Ey := Lib.hid ey
  have Hx := Lib.hid hx
  have Hy := Lib.hid hy
  have Hl := Lib.hid (And.intro h32 k32)
  have Hs := Lib.hid hsame
  unfold maxLen at hm1 hm2
  clear ex ey hx hy h32 k32 hh1 hh2 hsame
  go_enter Tryz.func21, Tryz.ntmps21
  go_wp2_with fail
  go_loopw [5] (fun i wr => ∃ k : Nat, k ≤ n ∧ i = .int .i64 (k : Int) ∧ Nw w wr) (fun i _ => n - (intOf i).toNat)
  case atStart => exact ⟨0, by omega, rfl, Nw.refl _⟩
  case round =>
    obtain ⟨k, hk, rfl, hN⟩ := hrel
    have Nr := Lib.hid hN
    clear hN
    by_cases hlt : k < n
    · obtain ⟨x, hxk⟩ : ∃ x, xs[k]? = some x := ⟨xs[k]'(by rw [Hx.out]; exact hlt), List.getElem?_eq_getElem _⟩
      obtain ⟨y, hyk⟩ : ∃ y, ys[k]? = some y := ⟨ys[k]'(by rw [Hy.out]; exact hlt), List.getElem?_eq_getElem _⟩
      have e1 : wr.cell? ⟨g1, o1 + k, none⟩ = some (.float .f32 x) := (Nr.out.cell (p := ⟨g1, o1 + k, none⟩) hg1).trans (Ex.out k x hxk)
      have e2 : wr.cell? ⟨g2, o2 + k, none⟩ = some (.float .f32 y) := (Nr.out.cell (p := ⟨g2, o2 + k, none⟩) hg2).trans (Ey.out k y hyk)
      have lx := Hl.out.1 x (List.mem_of_getElem? hxk)
      have ly := Hl.out.2 y (List.mem_of_getElem? hyk)
      have hs := Hs.out k x y hxk hyk
      have Lxy := Lib.hid (And.intro lx ly)
      clear hxk hyk lx ly
      have d1 : decide (n ≤ k) = false := by simp; omega
      by_cases hnan : nan32 x = false ∧ nan32 y = false
      · obtain ⟨hnx, hny⟩ := hnan
        have a1 := fcv_wide hnx
        have a2 := fcd_wide hnx
        have b1 := fcv_wide hny
        have b2 := fcd_wide hny
        have hw := (sameB_sameF (wid x) (wid y)).trans (sameX_wide hnx hny Lxy.out.1 Lxy.out.2)
        rw [hs] at hw
        clear hs
        go_upto_region 4 with fail
        go_quiet (first | (go_at_call 19; with_reducible exact quiet_eq (l8Same_any _ _ _)))
        all_goals
          go_wp2_with fail
          go_roundw
          case rel => exact ⟨k + 1, by omega, by rw [show ((k + 1 : Nat) : Int) = (k : Int) + 1 from by omega], Nr.out.draw _⟩
          case measure => simp only [intOf]; omega
      · clear hnan
        have Hs0 := Lib.hid hs
        clear hs
        go_upto_region 4 with fail
        refine Noise.wp_region_noise (by kernel_rfl) (by kernel_rfl) (by kernel_rfl) ?_
        repeat (refine Noise.noise_step1 rfl (fun K hK => ?_); go_simp; refine hK _ ?_; clear hK K)
        refine Noise.noise_step0 rfl (fun K hK => ?_)
        go_simp
        refine ⟨fun v => ∃ b, v = .float .f64 b ∧ fab .f64 b = wA x, ⟨_, fcv wr .f32 x .f64, rfl, fab_wide x wr⟩, fun n => ⟨⟨_, rfl⟩, _, rfl, fab_wide x _⟩, ?_⟩
        rintro _ ⟨b1, rfl, hb1⟩
        refine hK _ ?_
        clear hK K
        repeat (refine Noise.noise_step1 rfl (fun K hK => ?_); go_simp; refine hK _ ?_; clear hK K)
        refine Noise.noise_step0 rfl (fun K hK => ?_)
        go_simp
        refine ⟨fun v => ∃ b, v = .float .f64 b ∧ fab .f64 b = wA y, ⟨_, fcv wr .f32 y .f64, rfl, fab_wide y wr⟩, fun n => ⟨⟨_, rfl⟩, _, rfl, fab_wide y _⟩, ?_⟩
        rintro _ ⟨b2, rfl, hb2⟩
        refine hK _ ?_
        clear hK K
        have hsb := (sameB_sameF b1 b2).trans (sameX_fab Lxy.out.1 Lxy.out.2 hb1 hb2)
        rw [Hs0.out] at hsb
        refine Noise.noise_step2 rfl (fun K hK => ?_)
        go_simp
        apply Exists.intro
        refine ⟨fun _ => ?_, hK _ ?_⟩
        · go_at_call 19; with_reducible exact quiet_eq (l8Same_any _ _ _)
        clear hK K
        repeat (refine Noise.noise_step1 rfl (fun K hK => ?_); go_simp; refine hK _ ?_; clear hK K)
        refine Noise.noise_nil ?_
        intro _ hw'
        obtain ⟨nq, hw''⟩ := hw'
        subst hw''
        go_wp2_with fail
        go_roundw
        case rel => exact ⟨k + 1, by omega, by rw [show ((k + 1 : Nat) : Int) = (k : Int) + 1 from by omega], Nr.out.draw _⟩
        case measure => simp only [intOf]; omega
    · obtain rfl : k = n := by omega
      go_wp2_with fail
      all_goals
        go_ret
        exact ⟨rfl, Nr.out⟩
theorem same_view (xs ys : List Nat) (n bx cy : Nat) (v u : Value) (hx : xs.length = n) (hy : ys.length = n) (hn : n ≤ 1048576) (h32 : ∀ x ∈ xs, x < 2 ^ 32) (k32 : ∀ y ∈ ys, y < 2 ^ 32) (w : World)
    (ox : View w bx v xs) (oy : View w cy u ys) (hsame : ∀ (k : Nat) x y, xs[k]? = some x → ys[k]? = some y → sameX x y = true) :
    Calls Tryz.prog 10 #[v, u] w fun e w' => e = .returned (.bool true) ∧ Nw w w' := by
  have Hc := Lib.hid (specFirst_view xs ys n bx cy v u hx hy hn h32 k32 w ox oy hsame)
  clear ox oy hsame h32 k32
  go_enter Tryz.func10, Tryz.ntmps10
  go_wp2_with fail
  refine Hc.out.mono ?_
  rintro e w1 ⟨rfl, n1⟩
  have N1 := Lib.hid n1
  clear n1
  go_wp2_with fail
  go_ret
  exact ⟨rfl, N1.out⟩
end Go.Proofs.YtiakcibeobbonaaGreat

/- A shifted score: silence, then the score's own samples: plain (FnShifted).
   Conditions: those that each statement names. -/
namespace Go.Proofs.YtiakcibeobbonaaGreat
set_option linter.unusedSimpArgs false
set_option linter.unusedVariables false
open Go Go.RowKit
theorem rel_sign {R : Nat} (h : Rel R) : ∃ m j, Ieee.single.read R = .number false m j := by
  obtain ⟨s, m, j, hr⟩ := h.1.1
  cases s with
  | false => exact ⟨m, j, hr⟩
  | true =>
    exfalso
    have h0 := h.1.range.1
    rw [show S R = _ from Flo.V_eq hr] at h0
    unfold Flo.val at h0
    simp only [if_true] at h0
    have hp := Flo.pw_pos j
    have hm : m = 0 := by
      rcases Nat.eq_zero_or_pos m with h1 | h1
      · exact h1
      · exfalso
        have h2 : (1 : Rat) ≤ m := by exact_mod_cast h1
        have h3 := Rat.mul_le_mul_of_nonneg_right h2 (Rat.le_of_lt hp)
        grind
    subst hm
    have k : Ieee.single.read 2147483648 = .number true 0 (-149) := by decide
    have esw : 2 * Ieee.single.signWeight = 2 ^ 32 := by decide
    exact h.2.2 (Flo.read_inj Ieee.single hr k (by rw [esw]; exact h.2.1) (by rw [esw]; decide) (by simp))
theorem zero_mul_rel {R : Nat} (h : Rel R) : floatBits .mul .f32 0 R = some 0 := by
  obtain ⟨m, j, hr⟩ := rel_sign h
  have h0 : Ieee.single.read 0 = .number false 0 (-149) := by decide
  show Ieee.single.mul 0 R = some 0
  unfold Ieee.Format.mul
  rw [h0, hr]
  simp [Ieee.Datum.product, Ieee.Format.write, Ieee.Format.nearest]
  decide
theorem fab_zero : fab .f32 0 = some 0 := by decide
theorem absA_zero : absA 0 = some 0 := by decide
theorem limE_silent {R : Nat} (h : Rel R) : limE (some 0) 0 R = some 0 := by
  have hR : fab .f32 R = some R := by
    obtain ⟨m, j, hr⟩ := rel_sign h
    refine fab_some ?_
    show (Ieee.single.read R).isNaN = false
    rw [hr]; rfl
  have hm : fA .mul .f32 (some 0) (fab .f32 R) = some 0 := by rw [hR]; exact zero_mul_rel h
  unfold limE
  rw [hm, absA_zero]
  split <;> rfl
theorem limY_silent {C R : Nat} (h : Rel R) (hC : Sm C ∧ (FloatKind.f32.format.order C 0 == some .gt) = true) : limY (some 0) 0 C R = some 0 := by
  have hc : fab .f32 C = some C := by
    obtain ⟨s, m, j, hr⟩ := hC.1
    refine fab_some ?_
    show (Ieee.single.read C).isNaN = false
    rw [show Ieee.single.read C = _ from hr]; rfl
  have hg : gtA (some 0) (some C) = false := by
    have o1 := Flo.order_num Ieee.single C 0 hC.1 zero_single.1
    have o2 := Flo.order_num Ieee.single 0 C zero_single.1 hC.1
    have h1 := hC.2
    rw [show FloatKind.f32.format = Ieee.single from rfl, beq_iff_eq, o1.2.2] at h1
    show (FloatKind.f32.format.order 0 C == some .gt) = false
    rw [beq_eq_false_iff_ne, show FloatKind.f32.format = Ieee.single from rfl]
    intro e
    have h2 := o2.2.2.1 e
    grind
  unfold limY
  rw [limE_silent h, hc, hg, fab_zero]
  rfl
section
variable (bs : List (List M4)) (V : Nat) (es : List Ev6) (C R y : Nat) (h0 : ∀ e ∈ es, 0 ≤ e.t) (hR : Rel R) (hC : Sm C ∧ (FloatKind.f32.format.order C 0 == some .gt) = true)
include h0 hR
theorem eAt_early : ∀ k, k ≤ y → eAt bs V (es.map (Ev6.late y)) R 0 (fab .f32 0) k = some 0
  | 0, _ => fab_zero
  | k + 1, h => by
    show limE (eAt bs V (es.map (Ev6.late y)) R 0 (fab .f32 0) k) (sumAt bs V (es.map (Ev6.late y)) (0 + k)) R = some 0
    rw [eAt_early k (by omega), Nat.zero_add, sumAt_early bs V es y k h0 (by omega), limE_silent hR]
theorem eAt_late : ∀ k, eAt bs V (es.map (Ev6.late y)) R 0 (fab .f32 0) (y + k) = eAt bs V es R 0 (fab .f32 0) k
  | 0 => by rw [Nat.add_zero, eAt_early bs V es R y h0 hR y (Nat.le_refl _)]; exact fab_zero.symm
  | k + 1 => by
    show limE (eAt bs V (es.map (Ev6.late y)) R 0 (fab .f32 0) (y + k)) (sumAt bs V (es.map (Ev6.late y)) (0 + (y + k))) R = limE (eAt bs V es R 0 (fab .f32 0) k) (sumAt bs V es (0 + k)) R
    rw [eAt_late k, Nat.zero_add, Nat.zero_add, sumAt_late bs V es y k h0]
theorem yAt_late (k : Nat) : yAt bs V (es.map (Ev6.late y)) C R 0 (fab .f32 0) (y + k) = yAt bs V es C R 0 (fab .f32 0) k := by
  unfold yAt
  rw [eAt_late bs V es R y h0 hR k, Nat.zero_add, Nat.zero_add, sumAt_late bs V es y k h0]
include hC
theorem yAt_early (k : Nat) (hk : k < y) : yAt bs V (es.map (Ev6.late y)) C R 0 (fab .f32 0) k = some 0 := by
  unfold yAt
  rw [eAt_early bs V es R y h0 hR k (by omega), Nat.zero_add, sumAt_early bs V es y k h0 hk, limY_silent hR hC]
end
/-- a piece of a row, seen -/
theorem View.cut {w : World} {base n g : Nat} {xs : List Nat} (h : w.ownsRow base 23 1 (.slice (some ⟨g, 0, none⟩) n n) n (cellsS xs)) (hx : xs.length = n) (a b : Nat) (hab : a ≤ b) (hb : b ≤ n) (cap : Nat) (hcap : b - a ≤ cap) (hcm : cap ≤ maxLen) :
    View w base (.slice (some ⟨g, a, none⟩) (b - a) cap) ((xs.take b).drop a) := by
  rcases h.2 with ⟨h1, _⟩ | ⟨g', cap', cur, h1, q1, q2, q3, q4, q5⟩
  · cases h1
  · cases h1
    have hl : ((xs.take b).drop a).length = b - a := by simp; omega
    refine ⟨g, a, cap, cur, by rw [hl], by rw [hl]; exact hcap, hcm, q1, q2, fun k x hk => ?_⟩
    have hkl := (List.getElem?_eq_some_iff.1 hk).1
    rw [hl] at hkl
    rw [List.getElem?_drop, List.getElem?_take_of_lt (by omega)] at hk
    rw [h.cellAt (a + k) (by omega)]
    simp [cellsS, hk]
end Go.Proofs.YtiakcibeobbonaaGreat

/- Plain facts on numbers of double precision that are integers times a power of two: their sums, differences and products, and quotients by a power of two, are exact. No program stands in it.
   Conditions: those that each statement names. -/
namespace Go.Proofs.YtiakcibeobbonaaGreat.Flo
set_option linter.unusedSimpArgs false
set_option linter.unusedVariables false
open Go Ieee

/-- a number that is n times 2^e -/
def Dy (e n : Int) (b : Nat) : Prop := Nm b ∧ W b = (n : Rat) * pw e

theorem natAbs_rat (n : Int) : ((n.natAbs : Nat) : Rat) = if n < 0 then -(n : Rat) else (n : Rat) := by
  split
  · rename_i h
    have : ((n.natAbs : Nat) : Int) = -n := by omega
    rw [← Rat.intCast_natCast, this]; push_cast; rfl
  · rename_i h
    have : ((n.natAbs : Nat) : Int) = n := by omega
    rw [← Rat.intCast_natCast, this]

theorem write_dy (s : Bool) (m : Nat) (p : Int) (e n : Int) (h : val s m p = (n : Rat) * pw e) (hn : n.natAbs < 9007199254740992) (he : -1074 ≤ e) (he2 : e ≤ 970) :
    Dy e n (Ieee.double.write (.number s m p)) := by
  have a1 : (0 : Rat) ≤ (m : Rat) * pw p := by
    have a1 : (0 : Rat) ≤ m := by exact_mod_cast Nat.zero_le m
    exact Rat.mul_nonneg a1 (Rat.le_of_lt (pw_pos p))
  have hk : (m : Rat) * pw p = ((n.natAbs : Nat) : Rat) * pw e := by
    rw [natAbs_rat]
    have pe := pw_pos e
    unfold val at h
    by_cases hn0 : n < 0
    · have hn1 : (n : Rat) < 0 := by exact_mod_cast hn0
      have := Rat.mul_pos (show 0 < -(n : Rat) by grind) pe
      rw [if_pos hn0]
      cases s <;> simp at h <;> grind
    · have hn1 : 0 ≤ (n : Rat) := by exact_mod_cast (show (0 : Int) ≤ n by omega)
      have := Rat.mul_nonneg hn1 (Rat.le_of_lt pe)
      rw [if_neg hn0]
      cases s <;> simp at h <;> grind
  have hB : (m : Rat) * pw p < pw (top Ieee.double) := by
    rw [hk, top_double]
    by_cases h0 : n.natAbs = 0
    · rw [h0]; have := pw_pos 1023; simp; grind
    · have b1 := (size_pw n.natAbs e h0).2
      have b2 : n.natAbs.log2 < 53 := (Nat.log2_lt h0).2 hn
      have b3 := pw_le (show e + (n.natAbs.log2 : Int) + 1 ≤ 1023 by omega)
      grind
  obtain ⟨m', p', w1, -, -, w4⟩ := write_exact Ieee.double (by decide) s m p n.natAbs e hk hn (by rw [lp_double]; omega) hB
  refine ⟨⟨_, _, _, w1⟩, ?_⟩
  rw [show W (Ieee.double.write (.number s m p)) = _ from V_eq w1, ← h]
  unfold val
  rw [w4]

theorem dy_int (n : Int) (hn : n.natAbs < 9007199254740992) : Dy 0 n (floatOfInt .f64 n) := by
  obtain ⟨h1, h2⟩ := int_double n hn
  exact ⟨h1, by rw [h2, pw_zero]; grind⟩

theorem dy_add {e m n : Int} {x y : Nat} (hx : Dy e m x) (hy : Dy e n y) (h : (m + n).natAbs < 9007199254740992) (he : -1074 ≤ e) (he2 : e ≤ 970) :
    ∃ r, floatBits .add .f64 x y = some r ∧ Dy e (m + n) r := by
  obtain ⟨⟨s, a, i, hx⟩, vx⟩ := hx
  obtain ⟨⟨t, b, j, hy⟩, vy⟩ := hy
  obtain ⟨q, k, c, h3, h4⟩ := sum_val s t a b i j
  rw [show W x = _ from V_eq hx] at vx
  rw [show W y = _ from V_eq hy] at vy
  show ∃ r, Ieee.double.add x y = some r ∧ _
  unfold Format.add
  rw [hx, hy, h3]
  exact ⟨_, rfl, write_dy q k c e (m + n) (by rw [h4, vx, vy]; push_cast; grind) h he he2⟩

theorem dy_sub {e m n : Int} {x y : Nat} (hx : Dy e m x) (hy : Dy e n y) (h : (m - n).natAbs < 9007199254740992) (he : -1074 ≤ e) (he2 : e ≤ 970) :
    ∃ r, floatBits .sub .f64 x y = some r ∧ Dy e (m - n) r := by
  obtain ⟨⟨s, a, i, hx⟩, vx⟩ := hx
  obtain ⟨⟨t, b, j, hy⟩, vy⟩ := hy
  obtain ⟨q, k, c, h3, h4⟩ := sum_val s (!t) a b i j
  rw [val_opp] at h4
  rw [show W x = _ from V_eq hx] at vx
  rw [show W y = _ from V_eq hy] at vy
  show ∃ r, Ieee.double.sub x y = some r ∧ _
  unfold Format.sub
  rw [hx, hy, show (Datum.number t b j).opposite = .number (!t) b j from rfl, h3]
  exact ⟨_, rfl, write_dy q k c e (m - n) (by rw [h4, vx, vy]; push_cast; grind) h he he2⟩

theorem dy_mul {e f m n : Int} {x y : Nat} (hx : Dy e m x) (hy : Dy f n y) (h : (m * n).natAbs < 9007199254740992) (he : -1074 ≤ e + f) (he2 : e + f ≤ 970) :
    ∃ r, floatBits .mul .f64 x y = some r ∧ Dy (e + f) (m * n) r := by
  obtain ⟨⟨s, a, i, hx⟩, vx⟩ := hx
  obtain ⟨⟨t, b, j, hy⟩, vy⟩ := hy
  rw [show W x = _ from V_eq hx] at vx
  rw [show W y = _ from V_eq hy] at vy
  show ∃ r, Ieee.double.mul x y = some r ∧ _
  unfold Format.mul
  rw [hx, hy, show Datum.product (.number s a i) (.number t b j) = some (.number (s ^^ t) (a * b) (i + j)) from rfl]
  exact ⟨_, rfl, write_dy _ _ _ _ _ (by rw [val_mul, vx, vy, pw_add]; push_cast; grind) h he he2⟩

/-- a quotient by 2^d -/
theorem dy_div {e n d : Int} {x y : Nat} (hx : Dy e n x) (hy : Ieee.double.read y = .number false 4503599627370496 (d - 52)) (hn : n.natAbs < 9007199254740992) (he : -1074 ≤ e - d) (he2 : e - d ≤ 970) :
    ∃ r, floatBits .quo .f64 x y = some r ∧ Dy (e - d) n r := by
  obtain ⟨⟨s, m, p, hx⟩, vx⟩ := hx
  rw [show W x = _ from V_eq hx] at vx
  obtain ⟨b1, b2, b3⟩ := read_bound Ieee.double (by decide) x s m p hx
  have hm53 : m < 9007199254740992 := b1
  unfold floatBits Ieee.Format.div
  show ∃ r, Option.map Ieee.double.write (Datum.quotient _ (Ieee.double.read x) (Ieee.double.read y)) = some r ∧ _
  rw [hx, hy]
  have hval : val s m (p - d) = (n : Rat) * pw (e - d) := by
    have e1 : val s m (p - d) = val s m p * pw (-d) := by unfold val; rw [show p - d = p + -d from by omega, pw_add]; grind
    rw [e1, vx, show e - d = e + -d from by omega, pw_add]; grind
  by_cases hm : m = 0
  · subst hm
    simp only [Datum.quotient]
    rw [if_neg (by decide)]
    simp only [Nat.zero_shiftLeft, Nat.zero_div, Nat.zero_mod, bne_self_eq_false, Bool.toNat_false, Option.map_some, Bool.xor_false]
    exact ⟨_, rfl, write_dy _ _ _ _ _ (by rw [← hval, val_zero, val_zero]) hn he he2⟩
  · have hl : m.log2 ≤ 52 := by
      have : m.log2 < 53 := (Nat.log2_lt hm).2 (by simpa using hm53)
      omega
    have hl2 : Nat.log2 4503599627370496 = 52 := by decide
    simp only [Datum.quotient]
    rw [if_neg (by decide), hl2]
    rw [show (FloatKind.f64.format.fractionBits + 2 + 52 - m.log2 : Nat) = 52 + (54 - m.log2) from by
      have : FloatKind.f64.format.fractionBits = 52 := rfl
      omega]
    generalize hk : 54 - m.log2 = k
    have e1 : m <<< (52 + k) = m * 2 ^ k * 4503599627370496 := by
      rw [Nat.shiftLeft_eq, Nat.add_comm, Nat.pow_add, Nat.mul_assoc]
    rw [e1, Nat.mul_div_cancel _ (by decide), Nat.mul_mod_left]
    simp only [bne_self_eq_false, Bool.toNat_false, Nat.add_zero, Option.map_some, Bool.xor_false]
    have hv : ((2 * (m * 2 ^ k) : Nat) : Rat) * pw (p - (d - 52) - ((52 + k : Nat) : Int) - 1) = (m : Rat) * pw (p - d) := by
      have e : pw (p - d) = pw ((k + 1 : Nat) : Int) * pw (p - (d - 52) - ((52 + k : Nat) : Int) - 1) := by rw [← pw_add]; congr 1; omega
      rw [e, pw_nat, Nat.pow_succ]
      push_cast
      grind
    refine ⟨_, rfl, write_dy _ _ _ _ _ ?_ hn he he2⟩
    rw [← hval]
    unfold val
    rw [hv]

end Go.Proofs.YtiakcibeobbonaaGreat.Flo

/- Plain: the bits of a number of double precision, taken apart and put together; odd parts.
   Conditions: those that each statement names. -/
namespace Go.Proofs.YtiakcibeobbonaaGreat
set_option linter.unusedSimpArgs false
set_option linter.unusedVariables false
open Go Go.RowKit

theorem read_sub (s x : Nat) (hs : s < 2) (hx : x < 4503599627370496) : Ieee.double.read (s * 9223372036854775808 + x) = .number (s == 1) x (-1074) := by
  unfold Ieee.Format.read
  simp only [show Ieee.double.signWeight = 9223372036854775808 from by decide, show Ieee.double.binade = 4503599627370496 from by decide]
  have h1 : (s * 9223372036854775808 + x) % 9223372036854775808 = x := by omega
  have h2 : (s * 9223372036854775808 + x) / 9223372036854775808 % 2 = s := by omega
  rw [h1, h2]
  rw [if_pos hx]
  rfl
theorem read_nor (s E F : Nat) (hs : s < 2) (h1 : 1 ≤ E) (h2 : E < 2047) (hF : F < 4503599627370496) : Ieee.double.read (s * 9223372036854775808 + (E * 4503599627370496 + F)) = .number (s == 1) (4503599627370496 + F) ((E : Int) - 1075) := by
  have hE : (-1074 : Int) + ((E - 1 : Nat) : Int) = (E : Int) - 1075 := by omega
  unfold Ieee.Format.read
  simp only [show Ieee.double.signWeight = 9223372036854775808 from by decide, show Ieee.double.binade = 4503599627370496 from by decide]
  have h5 : (E * 4503599627370496 + F) / 4503599627370496 = E := by omega
  have h6 : (E * 4503599627370496 + F) % 4503599627370496 = F := by omega
  have h3 : (s * 9223372036854775808 + (E * 4503599627370496 + F)) % 9223372036854775808 = E * 4503599627370496 + F := by clear h5 h6; omega
  have h4 : (s * 9223372036854775808 + (E * 4503599627370496 + F)) / 9223372036854775808 % 2 = s := by clear h3 h5 h6; omega
  rw [h3, h4, h5, h6]
  rw [if_neg (by omega), if_pos (by rw [show Ieee.double.infRung = 9218868437227405312 from by decide]; omega)]
  rw [show Ieee.double.leastPlace = -1074 from by decide]
  rw [hE]

/-- the words of numbers -/
theorem word_cases (x m : Nat) (sg : Bool) (p : Int) (hx : x < 18446744073709551616) (h : Ieee.double.read x = .number sg m p) :
    ∃ s, s < 2 ∧ sg = (s == 1) ∧ ((x = s * 9223372036854775808 + m ∧ m < 4503599627370496 ∧ p = -1074) ∨ (∃ E F : Nat, x = s * 9223372036854775808 + (E * 4503599627370496 + F) ∧ 1 ≤ E ∧ E < 2047 ∧ F < 4503599627370496 ∧ m = 4503599627370496 + F ∧ p = (E : Int) - 1075)) := by
  have e0 : x = x / 9223372036854775808 * 9223372036854775808 + x % 9223372036854775808 := by omega
  have hs : x / 9223372036854775808 < 2 := by omega
  generalize x / 9223372036854775808 = s at e0 hs
  have hr : x % 9223372036854775808 < 9223372036854775808 := by omega
  generalize x % 9223372036854775808 = r at e0 hr
  subst e0
  refine ⟨s, hs, ?_⟩
  by_cases hsub : r < 4503599627370496
  · rw [read_sub s r hs hsub] at h
    injection h with h0 h1 h2
    subst h1
    exact ⟨h0.symm, .inl ⟨rfl, hsub, h2.symm⟩⟩
  · have hfin : r < 9218868437227405312 := by
      rcases Nat.lt_or_ge r 9218868437227405312 with g | g
      · exact g
      · exfalso
        have h1 : (s * 9223372036854775808 + r) % 9223372036854775808 = r := by omega
        unfold Ieee.Format.read at h
        simp only [show Ieee.double.signWeight = 9223372036854775808 from by decide, show Ieee.double.infRung = 9218868437227405312 from by decide, show Ieee.double.binade = 4503599627370496 from by decide, h1] at h
        rw [if_neg (by omega), if_neg (by omega)] at h
        split at h <;> simp at h
    have e : r = r / 4503599627370496 * 4503599627370496 + r % 4503599627370496 := by omega
    have k := read_nor s (r / 4503599627370496) (r % 4503599627370496) hs (by omega) (by omega) (by omega)
    rw [← e, h] at k
    injection k with k0 k1 k2
    exact ⟨k0, .inr ⟨_, _, by rw [← e], by omega, by omega, by omega, k1, k2⟩⟩

theorem clr (x : Nat) (hx : x < 18446744073709551616) : bits .andNot .u64 (x : Int) 9218868437227405312 = ((x / 9223372036854775808 * 9223372036854775808 + x % 4503599627370496 : Nat) : Int) := by
  have e := u64_andNot_nat x 9218868437227405312 hx (by decide)
  rw [show ((9218868437227405312 : Nat) : Int) = 9218868437227405312 from rfl] at e
  rw [e]
  have j : (18446744073709551615 - 9218868437227405312 : Nat) = 9223372036854775808 ||| 4503599627370495 := by decide
  rw [j, Nat.and_or_distrib_left, nat_hi64_63, nat_mask52, Nat.mod_eq_of_lt hx]
  rw [nat_join52 _ _ (by omega) (by omega)]
theorem put (s F N : Nat) (hs : s < 2) (hF : F < 4503599627370496) (hN : N < 2048) : bits .or .u64 ((s * 9223372036854775808 + F : Nat) : Int) ((N * 4503599627370496 : Nat) : Int) = ((s * 9223372036854775808 + (N * 4503599627370496 + F) : Nat) : Int) := by
  rw [u64_or_nat _ _ (by omega) (by omega)]
  have j1 : s * 9223372036854775808 + F = (s * 9223372036854775808) ||| F := (nat_join52 _ _ (by omega) hF).symm
  rw [j1, Nat.or_assoc, nat_join52' _ _ (by omega) hF, nat_join63 _ _ (by omega) (by omega)]

/-- odd parts are unique -/
theorem odd_unique (a b : Nat) (q r : Int) (ha : a % 2 = 1) (hb : b % 2 = 1) (h : (a : Rat) * Flo.pw q = (b : Rat) * Flo.pw r) : a = b ∧ q = r := by
  have key : ∀ (a b : Nat) (q r : Int), a % 2 = 1 → b % 2 = 1 → (a : Rat) * Flo.pw q = (b : Rat) * Flo.pw r → q ≤ r → a = b ∧ q = r := by
    intro a b q r ha hb h hle
    obtain ⟨d, hd⟩ := Int.eq_ofNat_of_zero_le (show 0 ≤ r - q by omega)
    have e : r = q + (d : Int) := by omega
    rw [e, Flo.pw_add, Flo.pw_nat] at h
    have p0 := Flo.pw_pos q
    have h2 : (a : Rat) = (b : Rat) * ((2 ^ d : Nat) : Rat) := by
      have := Rat.mul_inv_cancel (Flo.pw q) (by grind)
      have k : (a : Rat) * Flo.pw q * (Flo.pw q)⁻¹ = (b : Rat) * (Flo.pw q * ((2 ^ d : Nat) : Rat)) * (Flo.pw q)⁻¹ := by rw [h]
      grind
    have h3 : a = b * 2 ^ d := by exact_mod_cast h2
    cases d with
    | zero => exact ⟨by rw [h3]; simp, by omega⟩
    | succ d =>
      exfalso
      rw [Nat.pow_succ, ← Nat.mul_assoc] at h3
      omega
  rcases Int.le_total q r with g | g
  · exact key a b q r ha hb h g
  · obtain ⟨k1, k2⟩ := key b a r q hb ha h.symm g
    exact ⟨k1.symm, k2.symm⟩

theorem log_double (x : Nat) : ∃ p, Flo.pw p = (2 : Rat) ^ x := ⟨x, by rw [Flo.pw_nat]; push_cast; rfl⟩

end Go.Proofs.YtiakcibeobbonaaGreat

/- The decimal texts: strconv.FormatUint and Itoa as told; texts alike.
   Conditions: those that each statement names. -/
namespace Go.Proofs.YtiakcibeobbonaaGreat
set_option linter.unusedSimpArgs false
set_option linter.unusedVariables false
open Go Go.RowKit

/-! ### digits -/
theorem digs_eq : ∀ (f u : Nat), u < 10 ^ (f + 1) → (Lib.decDigits u) = (dgs u).map fun n => UInt8.ofNat n.toNat
  | f, u, h => by
    by_cases h10 : u < 10
    · rw [Lib.decDigits, dif_pos h10, dgs_small h10]
      simp only [List.map_cons, List.map_nil, List.cons.injEq, and_true]
      congr 1
    · rw [Lib.decDigits, dif_neg h10, dgs_big h10, List.map_append]
      cases f with
      | zero => omega
      | succ f =>
        rw [digs_eq f (u / 10) (by rw [Nat.pow_succ] at h; omega)]
        simp only [List.map_cons, List.map_nil]
        congr 3
theorem digs_str (u : Nat) (h : u < 18446744073709551616) : (⟨(Lib.decDigits u).toArray⟩ : ByteArray) = strOfNums (dgs u) := by
  rw [digs_eq 19 u (by omega)]; rfl
theorem itoa_str (q : Int) (h : q.natAbs < 18446744073709551616) : (⟨(Lib.itoa q).toArray⟩ : ByteArray) = strOfNums (numL q) := by
  unfold Lib.itoa numL strOfNums
  split
  · rename_i hq
    rw [digs_eq 19 q.natAbs (by omega)]
    rfl
  · rename_i hq
    rw [show q.toNat = q.natAbs by omega, digs_eq 19 q.natAbs (by omega)]

theorem tab_nw {w w' : World} {nm : String} {k : IntKind} {zs : List Int} (h : Nw w w') (t : Lib.TabIs Tryz.prog w nm k zs) : Lib.TabIs Tryz.prog w' nm k zs := by
  unfold Lib.TabIs World.var? at *
  cases hg : Program.globalNamed Tryz.prog nm with
  | none => simp [hg] at t
  | some g =>
    simp only [hg, Option.bind_some] at t ⊢
    have hlt : g < w.heap.size := by
      rcases Nat.lt_or_ge g w.heap.size with h' | h'
      · exact h'
      · rw [Array.getElem?_eq_none h'] at t; simp at t
    rw [h.block g hlt (by simp)]
    exact t
theorem nw_grow (w : World) (os : Array Obj) : Nw w (Sort.grow w os) :=
  ⟨rfl, rfl, rfl, by simp [Sort.grow], fun k hk _ => Sort.heap_grow_old w os hk⟩

theorem holds_zero0 (w : World) (T : TypeId) (nd : Nat) (hs : nd ≤ 24) : Sort.Holds (fun (b : UInt8) => Value.int .u8 (b.toNat : Int)) (w.alloc (.cells Lib.zeros24 T)) w.heap.size 0 (Array.replicate nd (0 : UInt8)) := fun j hj => by
  have hj' : j < nd := by simpa using hj
  refine ⟨?_, World.frozen?_alloc_new _ _ _ _⟩
  rw [World.cell?_alloc_new, Lib.zeros24_at _ (by omega), getElem!_pos _ j hj]
  simp
theorem nw_put (w : World) (o : Obj) (dk : Array UInt8) (k : Nat) : Nw w ((Sort.putRow (fun (b : UInt8) => Value.int .u8 (b.toNat : Int)) (w.alloc o) w.heap.size 0 dk).drewN k) := by
  rw [Sort.alloc_eq_grow]
  obtain ⟨os', _, e⟩ := Sort.putRow_grow_new (fun (b : UInt8) => Value.int .u8 (b.toNat : Int)) w #[o] w.heap.size 0 dk (Nat.le_refl _)
  rw [e]
  exact (nw_grow w os').draw k

end Go.Proofs.YtiakcibeobbonaaGreat

/- math.Frexp and math.Ldexp(.., 53), bits.TrailingZeros64: the odd part of a number above 0.
   Conditions: those that each statement names. -/
namespace Go.Proofs.YtiakcibeobbonaaGreat
set_option linter.unusedSimpArgs false
set_option linter.unusedVariables false
open Go Go.RowKit

/-! ### normalize -/
def NorP (sg : Bool) (m : Nat) (p : Int) (w : World) (e : Ending) (w' : World) : Prop :=
  ∃ (X s E F : Nat) (z : Int), e = .returned (.tuple #[.float .f64 X, .int .i64 z]) ∧ X = s * 9223372036854775808 + (E * 4503599627370496 + F) ∧ s < 2 ∧ sg = (s == 1) ∧ 1 ≤ E ∧ E < 2047 ∧ F < 4503599627370496 ∧ (z = 0 ∨ z = -52) ∧
    ((4503599627370496 + F : Nat) : Rat) * Flo.pw ((E : Int) - 1075 + z) = (m : Rat) * Flo.pw p ∧ ∃ n, w' = w.drewN n

theorem read_min : Ieee.double.read 4503599627370496 = .number false 4503599627370496 (-1074) := by decide
theorem V_min : Flo.V Ieee.double 4503599627370496 = Flo.pw (-1022) := by
  rw [Flo.V_eq read_min]; unfold Flo.val
  rw [show (-1022 : Int) = -1074 + (52 : Nat) from by omega, Flo.pw_add, Flo.pw_nat]
  simp
  grind

theorem lt_min (x m : Nat) (sg : Bool) (p : Int) (h : Ieee.double.read x = .number sg m p) :
    (FloatKind.f64.format.order (x % signBit) 4503599627370496 == some .lt) = decide ((m : Rat) * Flo.pw p < Flo.pw (-1022)) := by
  have hr : Ieee.double.read (x % signBit) = .number false m p := by
    show FloatKind.f64.decode (x % signBit) = _
    rw [mod_read, show FloatKind.f64.decode x = _ from h]
  have o := Flo.order_num Ieee.double (x % signBit) 4503599627370496 ⟨_, _, _, hr⟩ ⟨_, _, _, read_min⟩
  have e1 : Flo.V Ieee.double (x % signBit) = (m : Rat) * Flo.pw p := by rw [Flo.V_eq hr]; unfold Flo.val; simp
  rw [e1, V_min] at o
  show (Ieee.double.order _ _ == some .lt) = _
  by_cases hlt : (m : Rat) * Flo.pw p < Flo.pw (-1022)
  · rw [decide_eq_true hlt, o.1.2 hlt]; rfl
  · rw [decide_eq_false hlt]
    cases hg : (Ieee.double.order (x % signBit) 4503599627370496 == some .lt) with
    | false => rfl
    | true => exact absurd (o.1.1 (by simpa using hg)) hlt

theorem scale_up (x m : Nat) (sg : Bool) (hx : Ieee.double.read x = .number sg m (-1074)) (hm : m ≠ 0) (hm2 : m < 4503599627370496) :
    ∃ s E F : Nat, floatBits .mul .f64 x 4841369599423283200 = some (s * 9223372036854775808 + (E * 4503599627370496 + F)) ∧ s < 2 ∧ sg = (s == 1) ∧ 1 ≤ E ∧ E < 2047 ∧ F < 4503599627370496 ∧ ((4503599627370496 + F : Nat) : Rat) * Flo.pw ((E : Int) - 1075 + -52) = (m : Rat) * Flo.pw (-1074) := by
  have r52 : Ieee.double.read 4841369599423283200 = .number false 4503599627370496 0 := by decide
  have e : floatBits .mul .f64 x 4841369599423283200 = some (Ieee.double.write (.number sg (m * 4503599627370496) (-1074 + 0))) := by
    show Ieee.double.mul x _ = _
    unfold Ieee.Format.mul
    rw [hx, r52]
    cases sg <;> rfl
  have hv : ((m * 4503599627370496 : Nat) : Rat) * Flo.pw (-1074 + 0) = (m : Rat) * Flo.pw (-1022) := by
    rw [show (-1022 : Int) = -1074 + 0 + (52 : Nat) from by omega, Flo.pw_add (-1074 + 0), Flo.pw_nat]
    have : ((2 ^ 52 : Nat) : Rat) = ((4503599627370496 : Nat) : Rat) := rfl
    rw [this]; push_cast; grind
  have hm3 : (m : Rat) < 4503599627370496 := by exact_mod_cast hm2
  have hm1 : (1 : Rat) ≤ (m : Rat) := by exact_mod_cast Nat.pos_of_ne_zero hm
  have p22 := Flo.pw_pos (-1022)
  obtain ⟨m', p', w1, w2, w3, w4⟩ := Flo.write_exact Ieee.double (by decide) sg _ _ m (-1022) hv (by
    have : 2 ^ (Ieee.double.fractionBits + 1) = 9007199254740992 := by decide
    omega) (by rw [Flo.lp_double]; omega) (by
    rw [hv, Flo.top_double]
    have l : Flo.pw (-1022 + (52 : Nat)) < Flo.pw 1023 := Flo.pw_lt (by omega)
    rw [Flo.pw_add, Flo.pw_nat] at l
    have e52 : ((2 ^ 52 : Nat) : Rat) = 4503599627370496 := rfl
    rw [e52] at l
    have := Rat.mul_lt_mul_of_pos_right hm3 p22
    grind)
  obtain ⟨s, hs, hsg, hc⟩ := word_cases _ m' sg p' (Ieee.Format.write_lt _ _) w1
  rcases hc with ⟨hx1, hs1, hs2⟩ | ⟨E, F, hx1, k1, k2, k3, k4, k5⟩
  · exfalso
    rw [hs2, hv] at w4
    have h1 : (m' : Rat) < 4503599627370496 := by exact_mod_cast hs1
    have p74 := Flo.pw_pos (-1074)
    have h2 := Rat.mul_lt_mul_of_pos_right h1 p74
    have h3 := Rat.mul_le_mul_of_nonneg_right hm1 (Rat.le_of_lt p22)
    have h4 : Flo.pw (-1022) = 4503599627370496 * Flo.pw (-1074) := by
      rw [show (-1022 : Int) = -1074 + (52 : Nat) from by omega, Flo.pw_add, Flo.pw_nat]
      rw [show ((2 ^ 52 : Nat) : Rat) = 4503599627370496 from rfl]; grind
    grind
  · refine ⟨s, E, F, by rw [e, hx1], hs, hsg, k1, k2, k3, ?_⟩
    rw [hv, k4, k5] at w4
    rw [Flo.pw_add ((E : Int) - 1075)]
    rw [show ((m : Nat) : Rat) * Flo.pw (-1074) = (m : Rat) * (Flo.pw (-1022) * Flo.pw (-52)) from by rw [← Flo.pw_add]; rfl]
    grind

/-! ### Frexp -/
theorem ne0_num (x m : Nat) (sg : Bool) (p : Int) (h : Ieee.double.read x = .number sg m p) (hm : m ≠ 0) : (FloatKind.f64.format.order x 0 == some .eq) = false := by
  have o := Flo.order_num Ieee.double x 0 ⟨_, _, _, h⟩ zero_num.1
  rw [show Flo.V Ieee.double 0 = 0 from zero_num.2, Flo.V_eq h] at o
  cases hg : (FloatKind.f64.format.order x 0 == some .eq) with
  | false => rfl
  | true =>
    exfalso
    have h0 := o.2.1.1 (show FloatKind.f64.format.order x 0 = some .eq by simpa using hg)
    apply hm
    apply Flo.mag_zero (p := p)
    unfold Flo.val at h0
    cases sg <;> simp at h0 <;> grind
theorem and_exp (s E F : Nat) (hs : s < 2) (hE : E < 2047) (hF : F < 4503599627370496) : bits .and .u64 (((s * 9223372036854775808 + (E * 4503599627370496 + F) : Nat) : Int) / 4503599627370496) 2047 = (E : Int) := by
  have k : (s * 2048 + E) % 2048 = E := by omega
  have e : ((s * 9223372036854775808 + (E * 4503599627370496 + F) : Nat) : Int) / 4503599627370496 = ((s * 2048 + E : Nat) : Int) := by omega
  have e2 := u64_and_nat (s * 2048 + E) 2047 (by omega) (by decide)
  rw [nat_mask11, k] at e2
  exact (congrArg (fun v => bits .and .u64 v 2047) e).trans e2
theorem clr_word (s E F : Nat) (hs : s < 2) (hE : E < 2047) (hF : F < 4503599627370496) : bits .andNot .u64 ((s * 9223372036854775808 + (E * 4503599627370496 + F) : Nat) : Int) 9218868437227405312 = ((s * 9223372036854775808 + F : Nat) : Int) := by
  rw [clr _ (by omega)]
  have h1 : (s * 9223372036854775808 + (E * 4503599627370496 + F)) / 9223372036854775808 = s := by omega
  have h2 : (s * 9223372036854775808 + (E * 4503599627370496 + F)) % 4503599627370496 = F := by clear h1; omega
  rw [h1, h2]

def FrxP (sg : Bool) (m : Nat) (p : Int) (w : World) (e : Ending) (w' : World) : Prop :=
  ∃ (X s E F : Nat) (z : Int), e = .returned (.tuple #[.float .f64 X, .int .i64 (z + ((E : Int) - 1023 + 1))]) ∧ X = s * 9223372036854775808 + (1022 * 4503599627370496 + F) ∧ s < 2 ∧ sg = (s == 1) ∧ 1 ≤ E ∧ E < 2047 ∧ F < 4503599627370496 ∧ (z = 0 ∨ z = -52) ∧
    ((4503599627370496 + F : Nat) : Rat) * Flo.pw ((E : Int) - 1075 + z) = (m : Rat) * Flo.pw p ∧ ∃ n, w' = w.drewN n

/-! ### Ldexp where the answer is a normal number -/
theorem one_mul_word (s E F : Nat) (hs : s < 2) (h1 : 1 ≤ E) (h2 : E < 2047) (hF : F < 4503599627370496) : floatBits .mul .f64 4607182418800017408 (s * 9223372036854775808 + (E * 4503599627370496 + F)) = some (s * 9223372036854775808 + (E * 4503599627370496 + F)) := by
  have r := read_nor s E F hs h1 h2 hF
  have r1 : Ieee.double.read 4607182418800017408 = .number false 4503599627370496 (-52) := by decide
  obtain ⟨X, hX⟩ : ∃ X : Nat, X = s * 9223372036854775808 + (E * 4503599627370496 + F) := ⟨_, rfl⟩
  rw [← hX] at r ⊢
  have e : floatBits .mul .f64 4607182418800017408 X = some (Ieee.double.write (.number (s == 1) (4503599627370496 * (4503599627370496 + F)) (-52 + ((E : Int) - 1075)))) := by
    show Ieee.double.mul _ X = _
    unfold Ieee.Format.mul
    rw [r, r1]
    cases (s == 1) <;> rfl
  rw [e]
  congr 1
  obtain ⟨M, hM⟩ : ∃ M : Nat, M = 4503599627370496 + F := ⟨_, rfl⟩
  rw [← hM]
  have hlog : (4503599627370496 * M).log2 = 104 := by
    have n0 : 4503599627370496 * M ≠ 0 := by omega
    rw [Nat.log2_eq_iff n0]
    constructor
    · show 20282409603651670423947251286016 ≤ _; omega
    · show _ < 40564819207303340847894502572032; omega
  show Ieee.double.nearest (s == 1) (4503599627370496 * M) (-52 + ((E : Int) - 1075)) = X
  unfold Ieee.Format.nearest
  rw [if_neg (by omega)]
  simp only [hlog, show (Ieee.double.fractionBits : Int) = 52 from rfl, show Ieee.double.leastPlace = -1074 from by decide]
  have m1 : max (-52 + ((E : Int) - 1075) + ((104 : Nat) : Int) - 52) (-1074) = (E : Int) - 1075 := by omega
  rw [m1]
  have m2 : (-52 + ((E : Int) - 1075) - ((E : Int) - 1075)).toNat = 0 := by omega
  have m3 : ((E : Int) - 1075 - (-52 + ((E : Int) - 1075))).toNat = 52 := by omega
  have m4 : ((E : Int) - 1075 - -1074).toNat = E - 1 := by omega
  rw [m2, m3, m4, Nat.shiftLeft_zero]
  have m5 : Ieee.Toward.even.cut (s == 1) (4503599627370496 * M) 52 = M := by
    unfold Ieee.Toward.cut
    simp only [hlog]
    have g1 : 1 <<< min 52 (104 + 2) = 4503599627370496 := by decide
    rw [g1, Nat.mul_div_cancel_left _ (by decide), Nat.mul_mod_right]
    simp
  rw [m5, show Ieee.double.binade = 4503599627370496 from by decide, show Ieee.double.infRung = 9218868437227405312 from by decide]
  have m6 : min ((E - 1) * 4503599627370496 + M) 9218868437227405312 = E * 4503599627370496 + F := by
    clear hlog m1 m2 m3 m4 m5 e r r1 hX
    have m7 : (E - 1) * 4503599627370496 + M = E * 4503599627370496 + F := by omega
    rw [m7]
    exact Nat.min_eq_left (by omega)
  rw [m6]
  unfold Ieee.Format.word
  rw [show Ieee.double.signWeight = 9223372036854775808 from by decide, hX]
  rcases Nat.lt_or_ge s 1 with g | g
  · rw [show s = 0 by omega]; simp
  · rw [show s = 1 by omega]; simp

end Go.Proofs.YtiakcibeobbonaaGreat

/- math.Ldexp where the answer is a normal number.
   Conditions: those that each statement names. -/
namespace Go.Proofs.YtiakcibeobbonaaGreat
set_option linter.unusedSimpArgs false
set_option linter.unusedVariables false
open Go Go.RowKit

def LdP (sg : Bool) (m : Nat) (p k : Int) (w : World) (e : Ending) (w' : World) : Prop :=
  ∃ (Y s N F : Nat), e = .returned (.float .f64 Y) ∧ Y = s * 9223372036854775808 + (N * 4503599627370496 + F) ∧ s < 2 ∧ sg = (s == 1) ∧ 1 ≤ N ∧ N < 2047 ∧ F < 4503599627370496 ∧
    ((4503599627370496 + F : Nat) : Rat) * Flo.pw ((N : Int) - 1075) = (m : Rat) * Flo.pw (p + k) ∧ ∃ n, w' = w.drewN n

/-- the exponent of the answer lies in the range of normal numbers -/
theorem exp_range (F m : Nat) (q p k : Int) (hF : F < 4503599627370496) (h : ((4503599627370496 + F : Nat) : Rat) * Flo.pw q = (m : Rat) * Flo.pw p) (h1 : Flo.pw (-1022) ≤ (m : Rat) * Flo.pw (p + k)) (h2 : (m : Rat) * Flo.pw (p + k) < Flo.pw 1024) :
    -1022 ≤ q + 52 + k ∧ q + 52 + k ≤ 1023 := by
  have e : ((4503599627370496 + F : Nat) : Rat) * Flo.pw (q + k) = (m : Rat) * Flo.pw (p + k) := by
    rw [Flo.pw_add q, Flo.pw_add p]; grind
  rw [← e] at h1 h2
  have f1 : ((4503599627370496 + F : Nat) : Rat) < 9007199254740992 := by exact_mod_cast (show 4503599627370496 + F < 9007199254740992 by omega)
  have f2 : (4503599627370496 : Rat) ≤ ((4503599627370496 + F : Nat) : Rat) := by exact_mod_cast Nat.le_add_right _ F
  have g1 := Rat.mul_lt_mul_of_pos_right f1 (Flo.pw_pos (q + k))
  have g2 := Rat.mul_le_mul_of_nonneg_right f2 (Rat.le_of_lt (Flo.pw_pos (q + k)))
  have p53 : (9007199254740992 : Rat) * Flo.pw (q + k) = Flo.pw (q + k + (53 : Nat)) := by rw [Flo.pw_add (q + k), Flo.pw_nat, show ((2 ^ 53 : Nat) : Rat) = 9007199254740992 from rfl]; grind
  have p52 : (4503599627370496 : Rat) * Flo.pw (q + k) = Flo.pw (q + k + (52 : Nat)) := by rw [Flo.pw_add (q + k), Flo.pw_nat, show ((2 ^ 52 : Nat) : Rat) = 4503599627370496 from rfl]; grind
  rw [p53] at g1
  rw [p52] at g2
  constructor
  · rcases Int.lt_or_le (q + 52 + k) (-1022) with g | g
    · exfalso
      have := Flo.pw_le (show q + k + (53 : Nat) ≤ -1022 by omega)
      grind
    · exact g
  · rcases Int.lt_or_le 1023 (q + 52 + k) with g | g
    · exfalso
      have := Flo.pw_le (show 1024 ≤ q + k + (52 : Nat) by omega)
      grind
    · exact g

theorem i64_low11 (a : Nat) (ha : a < 4096) : bits .and .i64 (a : Int) 2047 = ((a % 2048 : Nat) : Int) := by
  have hb : (BitVec.ofInt 64 2047).toNat = 2047 := by decide
  have hr : (BitVec.ofInt 64 (a : Int) &&& BitVec.ofInt 64 2047).toNat = a % 2048 := by
    rw [BitVec.toNat_and, hb, ofInt_u64 a (by omega), nat_mask11]
  show IntKind.i64.wrap ((BitVec.ofInt 64 (a : Int) &&& BitVec.ofInt 64 2047).toNat : Int) = _
  rw [hr, IntKind.wrap_i64]
  omega
theorem and_exp_i (s E F : Nat) (hs : s < 2) (hE : E < 2047) (hF : F < 4503599627370496) : bits .and .i64 (((s * 9223372036854775808 + (E * 4503599627370496 + F) : Nat) : Int) / 4503599627370496) 2047 = (E : Int) := by
  have k : (s * 2048 + E) % 2048 = E := by omega
  have e : ((s * 9223372036854775808 + (E * 4503599627370496 + F) : Nat) : Int) / 4503599627370496 = ((s * 2048 + E : Nat) : Int) := by omega
  have e2 := i64_low11 (s * 2048 + E) (by omega)
  rw [k] at e2
  exact (congrArg (fun v => bits .and .i64 v 2047) e).trans e2

/-! ### whole numbers of 64 bits, without a sign -/
theorem trunc_u64 {x : Nat} {iv : Nat} (h : floatToIntVal .f64 x .i64 = some (iv : Int)) : floatToIntVal .f64 x .u64 = some (iv : Int) := by
  unfold floatToIntVal at h ⊢
  cases hd : (FloatKind.f64.decode x).toInt .zero with
  | none => rw [hd] at h; simp at h
  | some n =>
    rw [hd] at h
    simp only at h ⊢
    have hmin : IntKind.i64.min = -9223372036854775808 := by decide
    have hmax : IntKind.i64.max = 9223372036854775807 := by decide
    have umin : IntKind.u64.min = 0 := by decide
    have umax : IntKind.u64.max = 18446744073709551615 := by decide
    rw [hmin, hmax] at h
    rw [umin, umax]
    split at h
    · rename_i hc
      injection h with h
      rw [if_pos (by omega), h]
    · simp at h

/-! ### TrailingZeros64 -/
end Go.Proofs.YtiakcibeobbonaaGreat

/- The model's l1Parts, of any number above 0.
   Conditions: those that each statement names. -/
namespace Go.Proofs.YtiakcibeobbonaaGreat
set_option linter.unusedSimpArgs false
set_option linter.unusedVariables false
open Go Go.RowKit

theorem half_exact (m : Nat) (p : Int) (hp : -1073 ≤ p) (hm0 : m ≠ 0) (hm : m < 9007199254740992) (hp2 : p ≤ 971) (y : Nat) (n : Nat) (q : Int) (hy : Ieee.double.read y = .number false n q) (hv : (n : Rat) * Flo.pw q = (m : Rat) * Flo.pw p) :
    ∃ z n' q', floatBits .quo .f64 y 4611686018427387904 = some z ∧ Ieee.double.read z = .number false n' q' ∧ (n' : Rat) * Flo.pw q' = (m : Rat) * Flo.pw (p - 1) := by
  have hD : Flo.Dy p (m : Int) y := ⟨⟨_, _, _, hy⟩, by
    rw [show Flo.W y = _ from Flo.V_eq hy]
    unfold Flo.val
    simp only [Bool.false_eq_true, if_false]
    rw [hv]
    push_cast
    grind⟩
  obtain ⟨z, z1, z2⟩ := Flo.dy_div hD (y := 4611686018427387904) (d := 1) (by decide) (by simpa using hm) (by omega) (by omega)
  obtain ⟨⟨s, n', q', hz⟩, vz⟩ := z2
  have hpos : (0 : Rat) ≤ (m : Rat) * Flo.pw (p - 1) := Flo.mag_nonneg m (p - 1)
  rw [show Flo.W z = _ from Flo.V_eq hz] at vz
  have ec : (((m : Nat) : Int) : Rat) = (m : Rat) := by exact_mod_cast rfl
  rw [ec] at vz
  refine ⟨z, n', q', z1, ?_, ?_⟩
  · cases s with
    | false => exact hz
    | true =>
      exfalso
      have p0 := Flo.pw_pos (p - 1)
      have m1 : (1 : Rat) ≤ (m : Rat) := by exact_mod_cast Nat.pos_of_ne_zero hm0
      have := Rat.mul_le_mul_of_nonneg_right m1 (Rat.le_of_lt p0)
      have := Flo.mag_nonneg n' q'
      unfold Flo.val at vz; simp at vz; grind
  · cases s with
    | false => unfold Flo.val at vz; simp at vz; exact vz
    | true =>
      have := Flo.mag_nonneg n' q'
      unfold Flo.val at vz; simp at vz; grind

def P1I (m : Nat) (p : Int) (w : World) (x e : Value) (wr : World) : Prop :=
  ∃ (j y m' : Nat) (p' : Int), e = .int .i64 (j : Int) ∧ x = .float .f64 y ∧ Ieee.double.read y = .number false m' p' ∧ (m' : Rat) * Flo.pw p' = (m : Rat) * Flo.pw (p - j) ∧ (j : Int) ≤ p ∧ w = wr
theorem ge_53 {y : Nat} (hy : Flo.Nm y) : (FloatKind.f64.format.order y 4845873199050653696 == some .gt || FloatKind.f64.format.order y 4845873199050653696 == some .eq) = decide (Flo.pw 53 ≤ Flo.W y) := by
  have h53 : Ieee.double.read 4845873199050653696 = .number false 4503599627370496 1 := by decide
  have o := Flo.order_num Ieee.double y 4845873199050653696 hy ⟨_, _, _, h53⟩
  have e2 : Flo.V Ieee.double 4845873199050653696 = Flo.pw 53 := by
    rw [Flo.V_eq h53]; unfold Flo.val
    have : Flo.pw 1 = 2 := Flo.pw_one
    rw [this, Flo.p53]
    have : ((4503599627370496 : Nat) : Rat) = 4503599627370496 := rfl
    rw [this]; simp; grind
  rw [e2] at o
  rw [show FloatKind.f64.format = Ieee.double from rfl]
  by_cases h : Flo.pw 53 ≤ Flo.W y
  · rw [decide_eq_true h, Bool.or_eq_true, beq_iff_eq, beq_iff_eq, o.2.2, o.2.1]
    rcases Rat.le_iff_lt_or_eq.1 h with g | g
    · exact .inl g
    · exact .inr g.symm
  · rw [decide_eq_false h]
    have : Ieee.double.order y 4845873199050653696 = some .lt := o.1.2 (by show Flo.W y < _; grind)
    rw [this]; rfl

set_option maxRecDepth 100000 in
set_option maxHeartbeats 1600000 in
theorem l1Parts_big (x m0 : Nat) (p0 : Int) (h : Ieee.double.read x = .number false m0 p0) (hm : m0 ≠ 0) (hB : ¬ (m0 : Rat) * Flo.pw p0 < Flo.pw 53) (w : World) :
    Calls Tryz.prog 97 #[.float .f64 x] w (PartP ((m0 : Rat) * Flo.pw p0) w) := by
  obtain ⟨b1, b2, b3⟩ := Flo.read_bound Ieee.double (by decide) x false m0 p0 h
  have b3' : p0 ≤ 971 := by
    have e1 : (2 ^ Ieee.double.exponentBits : Nat) = 2048 := by decide
    rw [Flo.lp_double, e1] at b3; omega
  have hp0 : 0 < p0 := by
    rcases Int.lt_or_le 0 p0 with g | g
    · exact g
    · exfalso
      have l := Flo.pw_le g
      rw [Flo.pw_zero] at l
      have hm : (m0 : Rat) < 9007199254740992 := by exact_mod_cast b1
      have h0 : (0 : Rat) ≤ (m0 : Rat) := by exact_mod_cast Nat.zero_le m0
      have := Rat.mul_le_mul_of_nonneg_left l h0
      rw [Flo.p53] at hB
      grind
  have H0 := Lib.hid (And.intro h hm)
  have M0 := Lib.hid (show m0 < 9007199254740992 from b1)
  clear h hm b1 b2 b3 hB
  go_enter Tryz.func97, Tryz.ntmps97
  go_wp2_with fail
  go_loopw [0, 4] (fun y e wr => P1I m0 p0 w y e wr) (fun _ e _ => (p0 - intOf e).toNat)
  case atStart => exact ⟨0, x, m0, p0, rfl, rfl, H0.out.1, by simp, by omega, rfl⟩
  case round =>
    obtain ⟨J, y0, m, p, rfl, rfl, hy0, hv0, hj0, rfl⟩ := hrel
    have Hy0 := Lib.hid (And.intro hy0 hv0)
    have ey0 : Flo.W y0 = (m0 : Rat) * Flo.pw (p0 - J) := by rw [show Flo.W y0 = _ from Flo.V_eq hy0]; unfold Flo.val; simp; exact hv0
    have hge := ge_53 (y := y0) ⟨_, _, _, hy0⟩
    have hJ : (J : Int) ≤ 2000 := by omega
    by_cases hbig : Flo.pw 53 ≤ Flo.W y0
    · rw [decide_eq_true hbig] at hge
      have hlt : (J : Int) < p0 := by
        rcases Int.lt_or_le (J : Int) p0 with g | g
        · exact g
        · exfalso
          rw [ey0] at hbig
          have l := Flo.pw_le (show p0 - J ≤ 0 by omega)
          rw [Flo.pw_zero] at l
          have hm : (m0 : Rat) < 9007199254740992 := by exact_mod_cast M0.out
          have h0 : (0 : Rat) ≤ (m0 : Rat) := by exact_mod_cast Nat.zero_le m0
          have := Rat.mul_le_mul_of_nonneg_left l h0
          rw [Flo.p53] at hbig
          grind
      obtain ⟨z, n', q', z1, z2, z3⟩ := half_exact m0 (p0 - J) (by omega) H0.out.2 M0.out (by omega) y0 m p hy0 hv0
      have r1 : ∀ w, fres w .quo .f64 y0 4611686018427387904 = z := fun w => by unfold fres; rw [z1]
      have r2 : fdr .quo .f64 y0 4611686018427387904 = 0 := by unfold fdr; rw [z1]; rfl
      have Z := Lib.hid (And.intro z2 z3)
      clear hy0 hv0 ey0 hbig z1 z2 z3
      go_wp2_with fail
      go_roundw
      case rel => exact ⟨J + 1, z, n', q', by rw [show ((J + 1 : Nat) : Int) = (J : Int) + 1 from by omega], rfl, Z.out.1, by rw [Z.out.2]; congr 2; omega, by omega, rfl⟩
      case measure => simp only [intOf]; omega
    · rw [decide_eq_false hbig] at hge
      have hB : (m : Rat) * Flo.pw p < Flo.pw 53 := by rw [hv0, ← ey0]; grind
      obtain ⟨iv, t1, t2, t3⟩ := Flo.trunc_ok y0 m p hy0 hB
      have hi := Flo.trunc_lt t2 (by grind)
      have ho := order_int (x := y0) (iv := iv) ⟨_, _, _, hy0⟩ hi
      obtain ⟨d, hd⟩ := Int.eq_ofNat_of_zero_le (show 0 ≤ p0 - J by omega)
      have eN : Flo.W y0 = ((m0 * 2 ^ d : Nat) : Rat) := by rw [ey0, hd, Flo.pw_nat]; push_cast; rfl
      have heq : Flo.W y0 = (iv : Rat) := by
        have k := Flo.int_eq (a := iv) (b := m0 * 2 ^ d) (by rw [← eN]; exact t2) (by rw [← eN]; exact t3)
        rw [eN, k]
      have cv := fun w => run_convert_float_int (P := Tryz.prog) w 54 3 .f64 .i64 y0 (iv : Int) (by kernel_rfl) Tryz.underlying3 t1
      rw [decide_eq_true heq] at ho
      have ho2 : (FloatKind.f64.format.order y0 (floatOfInt .f64 (iv : Int)) != some .eq) = false := by unfold bne; rw [ho]; rfl
      have hiv1 : 1 ≤ iv := by
        rcases Nat.eq_zero_or_pos iv with h0 | h0
        · exfalso
          rw [h0, ey0] at heq
          exact H0.out.2 (Flo.mag_zero (by rw [heq]; exact Rat.le_refl))
        · exact h0
      have Hv := Lib.hid (show (iv : Rat) * Flo.pw ((J : Int) + (0 : Nat)) = (m0 : Rat) * Flo.pw p0 from by
        rw [← heq, ey0, Rat.mul_assoc, ← Flo.pw_add]
        congr 2
        omega)
      clear hy0 hv0 ey0 hbig t2 t3 eN heq hB t1 hd
      go_wp2_with fail
      clear hge
      go_loopw [0, 4] (fun y e wr => y = .float .f64 y0 ∧ e = .int .i64 (J : Int) ∧ w = wr) (fun _ _ _ => 0)
      case atStart => exact ⟨rfl, rfl, rfl⟩
      case round =>
        obtain ⟨rfl, rfl, rfl⟩ := hrel
        go_wp2_with fail
        clear ho ho2
        go_loopw [4, 5] (fun e a wr => P3I ((m0 : Rat) * Flo.pw p0) (J : Int) w e a wr) (fun _ a _ => (intOf a).toNat)
        case atStart => exact ⟨0, iv, by simp, rfl, hiv1, by simpa using hi, Hv.out, rfl⟩
        case round =>
          obtain ⟨t, b, rfl, rfl, hb1, hbt, hbv, rfl⟩ := hrel
          have ht := pow_t hb1 hbt
          have Hb := Lib.hid (And.intro hbt hbv)
          have hb53 : b < 9007199254740992 := Nat.lt_of_le_of_lt (Nat.le_mul_of_pos_right b (Nat.two_pow_pos t)) hbt
          clear hbt hbv
          by_cases h2 : b % 2 = 0
          · have hm2 : (b : Int) % 2 = 0 := by omega
            go_wp2_with fail
            go_roundw
            case rel =>
              refine ⟨t + 1, b / 2, by rw [show (J : Int) + ((t + 1 : Nat) : Int) = (J : Int) + (t : Int) + 1 from by omega], by rw [show ((b / 2 : Nat) : Int) = (b : Int) / 2 from by omega], by omega, ?_, ?_, rfl⟩
              · have := Hb.out.1
                rw [Nat.pow_succ, Nat.mul_comm (2 ^ t) 2, ← Nat.mul_assoc, show b / 2 * 2 = b by omega]; exact this
              · rw [← Hb.out.2, show (J : Int) + ((t + 1 : Nat) : Int) = (J : Int) + (t : Int) + 1 from by omega, Flo.pw_succ]
                have e : (b : Rat) = 2 * ((b / 2 : Nat) : Rat) := by
                  have : ((2 * (b / 2) : Nat) : Rat) = (b : Rat) := by rw [show 2 * (b / 2) = b by omega]
                  rw [← this]; push_cast; rfl
                rw [e]; grind
            case measure => simp only [intOf]; omega
          · have hm2 : (b : Int) % 2 = 1 := by omega
            go_wp2_with fail
            go_ret2
            exact ⟨b, _, rfl, by omega, hb53, Hb.out.2, by omega, by omega, rfl⟩
theorem l1Parts_any (x m : Nat) (p : Int) (h : Ieee.double.read x = .number false m p) (hm : m ≠ 0) (w : World) :
    Calls Tryz.prog 97 #[.float .f64 x] w (PartP ((m : Rat) * Flo.pw p) w) := by
  by_cases hB : (m : Rat) * Flo.pw p < Flo.pw 53
  · exact l1Parts_ok x m p h hm hB w
  · exact l1Parts_big x m p h hm hB w

end Go.Proofs.YtiakcibeobbonaaGreat

/- impl.oddPart, and impl.FormatDouble of a number that is not 0.
   Conditions: those that each statement names. -/
namespace Go.Proofs.YtiakcibeobbonaaGreat
set_option linter.unusedSimpArgs false
set_option linter.unusedVariables false
open Go Go.RowKit

theorem tabAt_nw {g : Nat} {tab : List Nat} {w w' : World} (h : Nw w w') (hg : g < w.heap.size) (t : TabAt g tab w) : TabAt g tab w' := fun j hj => by
  rw [h.cell (p := ⟨g, j, none⟩) hg]; exact t j hj

theorem odd_split (M : Nat) (h0 : M ≠ 0) (h : M < 18446744073709551616) : ∃ a, a % 2 = 1 ∧ M = 2 ^ Lib.ctz 64 M * a ∧ Lib.ctz 64 M < 64 := by
  unfold Lib.ctz
  rw [if_neg h0]
  obtain ⟨j, hj, hl⟩ := Lib.ctzFrom_spec 64 M (Nat.pos_of_ne_zero h0) h
  exact ⟨2 * j + 1, by omega, hj, hl⟩

def OddP (V : Rat) (w : World) (e : Ending) (w' : World) : Prop :=
  ∃ (a : Nat) (q : Int), e = .returned (.tuple #[.int .u64 (a : Int), .int .i64 q]) ∧ a % 2 = 1 ∧ a < 9007199254740992 ∧ (a : Rat) * Flo.pw q = V ∧ -2000 ≤ q ∧ q ≤ 2000 ∧ ∃ n, w' = w.drewN n

end Go.Proofs.YtiakcibeobbonaaGreat

/- FormatDouble, the program's and the model's, of any number.
   Conditions: those that each statement names. -/
namespace Go.Proofs.YtiakcibeobbonaaGreat
set_option linter.unusedSimpArgs false
set_option linter.unusedVariables false
open Go Go.RowKit

def sgn (sg : Bool) : List Int := if sg then [45] else []
/-- the text of a number that is not 0 -/
def FmtT (sg : Bool) (V : Rat) (w : World) (e : Ending) (w' : World) : Prop :=
  ∃ (a : Nat) (q : Int), a % 2 = 1 ∧ a < 9007199254740992 ∧ (a : Rat) * Flo.pw q = V ∧ -2000 ≤ q ∧ q ≤ 2000 ∧ e = .returned (.string (strOfNums (sgn sg ++ (dgs a ++ 112 :: numL q)))) ∧ Nw w w'

theorem add_str (xs ys : List Int) (hx : xs.length ≤ 100) (hy : ys.length ≤ 100) (w : World) : (Op.stringOp .add (strOfNums xs) (strOfNums ys)).run Tryz.prog w = .ok (.string (strOfNums (xs ++ ys))) w := by
  rw [run_string_add _ _ _ (by rw [strOfNums_size]; omega) (by rw [strOfNums_size]; omega), str_app]

theorem tabs_draw {w w' : World} (h : Nw w w') (t : Lib.TabIs Tryz.prog w "internal/strconv.uint64pow10" .u64 Lib.pow10Tab) : Lib.TabIs Tryz.prog w' "internal/strconv.uint64pow10" .u64 Lib.pow10Tab := tab_nw h t

theorem abs_rd (x m : Nat) (sg : Bool) (p : Int) (h : Ieee.double.read x = .number sg m p) : Ieee.double.read (x % signBit) = .number false m p := by
  show FloatKind.f64.decode (x % signBit) = _
  rw [mod_read, show FloatKind.f64.decode x = _ from h]
theorem sign_bit (x m : Nat) (sg : Bool) (p : Int) (hx : x < 18446744073709551616) (h : Ieee.double.read x = .number sg m p) : decide (2 ^ 63 ≤ x) = sg := by
  obtain ⟨s, hs, hsg, hc⟩ := word_cases x m sg p hx h
  rcases Nat.lt_or_ge s 1 with g | g
  · obtain rfl : s = 0 := by omega
    rw [hsg]
    rcases hc with ⟨hx1, hm2, hp⟩ | ⟨E, F, hx1, k1, k2, k3, k4, k5⟩
    · simp; omega
    · simp; omega
  · obtain rfl : s = 1 := by omega
    rw [hsg]
    rcases hc with ⟨hx1, hm2, hp⟩ | ⟨E, F, hx1, k1, k2, k3, k4, k5⟩
    · simp; omega
    · simp; omega

set_option maxRecDepth 100000 in
theorem specFormat_ok (x m : Nat) (sg : Bool) (p : Int) (hx : x < 18446744073709551616) (h : Ieee.double.read x = .number sg m p) (hm : m ≠ 0) (w : World) :
    Calls Tryz.prog 66 #[.float .f64 x] w (FmtT sg ((m : Rat) * Flo.pw p) w) := by
  have hx' : x < 2 ^ 64 := hx
  have hf : fin .f64 x = true := fin_num ⟨_, _, _, h⟩
  have e1 := ne0_num x m sg p h hm
  have hmp : 0 < (m : Rat) * Flo.pw p := by
    have h1 : (0 : Rat) < (m : Rat) := by exact_mod_cast Nat.pos_of_ne_zero hm
    exact Rat.mul_pos h1 (Flo.pw_pos p)
  have o := Flo.order_num Ieee.double x 0 ⟨_, _, _, h⟩ zero_num.1
  rw [show Flo.V Ieee.double 0 = 0 from zero_num.2] at o
  have hV := Flo.V_eq h
  have e2 : (FloatKind.f64.format.order x 0 == some .lt) = sg := by
    cases sg
    · have : FloatKind.f64.format.order x 0 = some .gt := o.2.2.2 (by rw [hV]; unfold Flo.val; simp; exact hmp)
      rw [this]; rfl
    · have : FloatKind.f64.format.order x 0 = some .lt := o.1.2 (by rw [hV]; unfold Flo.val; simp; grind)
      rw [this]; rfl
  have hl : ∃ m' p', Ieee.double.read (labs x) = .number false m' p' ∧ m' ≠ 0 ∧ (m' : Rat) * Flo.pw p' = (m : Rat) * Flo.pw p := by
    obtain ⟨⟨s', m', p', r⟩, v⟩ := labs_num x hx' ⟨_, _, _, h⟩
    have v1 : ra (Flo.W x) = (m : Rat) * Flo.pw p := by
      rw [show Flo.W x = _ from hV]
      unfold Flo.val ra
      cases sg
      · simp; grind
      · simp; grind
    rw [v1, show Flo.W (labs x) = _ from Flo.V_eq r] at v
    have nn := Flo.mag_nonneg m' p'
    cases s'
    · unfold Flo.val at v
      simp at v
      refine ⟨m', p', r, ?_, v⟩
      rintro rfl
      simp at v
      grind
    · exfalso
      unfold Flo.val at v
      simp at v
      grind
  obtain ⟨m', p', r, hm', hv⟩ := hl
  have H := Lib.hid (And.intro r (And.intro hm' hv))
  clear h hm o hV hmp r hm' hv
  cases sg
  all_goals
    go_enter Tryz.func66, Tryz.ntmps66
    go_wp2_with fail
    refine (l1Finite_any _ _).mono ?_
    rintro e w1 ⟨rfl, n1, rfl⟩
    rw [hf]
    go_wp2_with fail
    refine (l1Abs_any _ _).mono ?_
    rintro e w2 ⟨rfl, rfl⟩
    go_wp2_with fail
    refine (l1Parts_any _ m' p' H.out.1 H.out.2.1 _).mono ?_
    rw [H.out.2.2]
    rintro e w3 ⟨a, q, rfl, ha, ha53, hv, hq1, hq2, rfl⟩
    have A := Lib.hid (And.intro ha (And.intro ha53 hv))
    have l1 := dgs_len 17 a (by omega)
    have l2 := numL_len q ⟨hq1, hq2⟩
    have s0 : (⟨#[]⟩ : ByteArray) = strOfNums [] := rfl
    have s1 : (⟨#[45]⟩ : ByteArray) = strOfNums [45] := rfl
    have s2 : (⟨#[112]⟩ : ByteArray) = strOfNums [112] := rfl
    have c1 : ∀ w, (Op.stringOp .add (⟨#[]⟩ : ByteArray) (strOfNums (dgs a))).run Tryz.prog w = .ok (.string (strOfNums (dgs a))) w := fun w => by rw [s0, add_str _ _ (by simp) (by omega)]; rfl
    have c1' : ∀ w, (Op.stringOp .add (⟨#[45]⟩ : ByteArray) (strOfNums (dgs a))).run Tryz.prog w = .ok (.string (strOfNums (45 :: dgs a))) w := fun w => by rw [s1, add_str _ _ (by simp) (by omega)]; rfl
    have c2 : ∀ w, (Op.stringOp .add (strOfNums (dgs a)) (⟨#[112]⟩ : ByteArray)).run Tryz.prog w = .ok (.string (strOfNums (dgs a ++ [112]))) w := fun w => by rw [s2, add_str _ _ (by omega) (by simp)]
    have c2' : ∀ w, (Op.stringOp .add (strOfNums (45 :: dgs a)) (⟨#[112]⟩ : ByteArray)).run Tryz.prog w = .ok (.string (strOfNums (45 :: (dgs a ++ [112])))) w := fun w => by rw [s2, add_str _ _ (by simp; omega) (by simp)]; rfl
    have c3 : ∀ w, (Op.stringOp .add (strOfNums (dgs a ++ [112])) (strOfNums (numL q))).run Tryz.prog w = .ok (.string (strOfNums (dgs a ++ 112 :: numL q))) w := fun w => by rw [add_str _ _ (by simp; omega) (by omega)]; simp
    have c3' : ∀ w, (Op.stringOp .add (strOfNums (45 :: (dgs a ++ [112]))) (strOfNums (numL q))).run Tryz.prog w = .ok (.string (strOfNums (45 :: (dgs a ++ 112 :: numL q)))) w := fun w => by rw [add_str _ _ (by simp; omega) (by omega)]; simp
    clear ha ha53 hv l1 l2 s0 s1 s2
    go_wp2_with fail
    refine (l1Number_ok a (by have := A.out.2.1; omega) _).mono ?_
    rintro e w4 ⟨rfl, n4⟩
    have N4 := Lib.hid (((Nw.refl w).draw _).trans n4)
    clear n4
    go_wp2_with fail
    refine (l1Num_any q ⟨hq1, hq2⟩ _).mono ?_
    rintro e w5 ⟨rfl, n5⟩
    have N5 := Lib.hid (N4.out.trans n5)
    clear n5
    go_wp2_with fail
    go_ret
    exact ⟨a, q, A.out.1, A.out.2.1, A.out.2.2, hq1, hq2, rfl, N5.out⟩

end Go.Proofs.YtiakcibeobbonaaGreat

/- FormatDouble of any double at all; the laws FnExactFormatDouble, FnExactFormatSingle as calls.
   Conditions: those that each statement names. -/
namespace Go.Proofs.YtiakcibeobbonaaGreat
set_option linter.unusedSimpArgs false
set_option linter.unusedVariables false
open Go Go.RowKit

def TxtOf (x : Nat) (xs : List Int) : Prop :=
  (fin .f64 x = false ∧ xs = []) ∨ (x = 0 ∧ xs = [48]) ∨ (x = 9223372036854775808 ∧ xs = [45, 48]) ∨
  ∃ (sg : Bool) (m : Nat) (p : Int) (a : Nat) (q : Int), Ieee.double.read x = .number sg m p ∧ m ≠ 0 ∧ a % 2 = 1 ∧ a < 9007199254740992 ∧ (a : Rat) * Flo.pw q = (m : Rat) * Flo.pw p ∧ -2000 ≤ q ∧ q ≤ 2000 ∧ xs = sgn sg ++ (dgs a ++ 112 :: numL q)
def TxtP (x : Nat) (w : World) (e : Ending) (w' : World) : Prop := ∃ xs, e = .returned (.string (strOfNums xs)) ∧ TxtOf x xs ∧ Nw w w'

theorem txt_cases (x : Nat) (hx : x < 18446744073709551616) : fin .f64 x = false ∨ x = 0 ∨ x = 9223372036854775808 ∨ ∃ sg m p, Ieee.double.read x = .number sg m p ∧ m ≠ 0 := by
  cases h : FloatKind.f64.decode x with
  | infinity s => left; unfold fin; rw [h]
  | nan s f => left; unfold fin; rw [h]
  | number sg m p =>
    by_cases hm : m = 0
    · subst hm
      obtain ⟨s, hs, hsg, hc⟩ := word_cases x 0 sg p hx h
      rcases hc with ⟨hx1, hm2, hp⟩ | ⟨E, F, hx1, k1, k2, k3, k4, k5⟩
      · rcases Nat.lt_or_ge s 1 with g | g
        · exact .inr (.inl (by omega))
        · exact .inr (.inr (.inl (by omega)))
      · omega
    · exact .inr (.inr (.inr ⟨sg, m, p, h, hm⟩))

theorem txt_unique {x : Nat} {xs ys : List Int} (h1 : TxtOf x xs) (h2 : TxtOf x ys) : xs = ys := by
  have f0 : fin .f64 0 = true := by decide
  have f1 : fin .f64 9223372036854775808 = true := by decide
  have r0 : Ieee.double.read 0 = .number false 0 (-1074) := by decide
  have r1 : Ieee.double.read 9223372036854775808 = .number true 0 (-1074) := by decide
  rcases h1 with ⟨a1, rfl⟩ | ⟨rfl, rfl⟩ | ⟨rfl, rfl⟩ | ⟨sg, m, p, a, q, b1, b2, b3, b4, b5, b6, b7, rfl⟩
  · rcases h2 with ⟨_, rfl⟩ | ⟨rfl, rfl⟩ | ⟨rfl, rfl⟩ | ⟨sg, m, p, a, q, b1, b2, _⟩
    · rfl
    · rw [f0] at a1; simp at a1
    · rw [f1] at a1; simp at a1
    · rw [fin_num ⟨_, _, _, b1⟩] at a1; simp at a1
  · rcases h2 with ⟨a1, rfl⟩ | ⟨_, rfl⟩ | ⟨h, rfl⟩ | ⟨sg, m, p, a, q, b1, b2, _⟩
    · rw [f0] at a1; simp at a1
    · rfl
    · simp at h
    · rw [r0] at b1; injection b1 with _ e _; exact absurd e.symm b2
  · rcases h2 with ⟨a1, rfl⟩ | ⟨h, rfl⟩ | ⟨_, rfl⟩ | ⟨sg, m, p, a, q, b1, b2, _⟩
    · rw [f1] at a1; simp at a1
    · simp at h
    · rfl
    · rw [r1] at b1; injection b1 with _ e _; exact absurd e.symm b2
  · rcases h2 with ⟨a1, rfl⟩ | ⟨rfl, rfl⟩ | ⟨rfl, rfl⟩ | ⟨sg', m', p', a', q', c1, c2, c3, c4, c5, c6, c7, rfl⟩
    · rw [fin_num ⟨_, _, _, b1⟩] at a1; simp at a1
    · rw [r0] at b1; injection b1 with _ e _; exact absurd e.symm b2
    · rw [r1] at b1; injection b1 with _ e _; exact absurd e.symm b2
    · rw [b1] at c1
      injection c1 with e1 e2 e3
      subst e1 e2 e3
      obtain ⟨rfl, rfl⟩ := odd_unique a a' q q' b3 c3 (by rw [b5, c5])
      rfl

set_option maxRecDepth 100000 in
theorem specText (x : Nat) (hx : x < 18446744073709551616) (w : World) : Calls Tryz.prog 66 #[.float .f64 x] w (TxtP x w) := by
  rcases txt_cases x hx with hf | rfl | rfl | ⟨sg, m, p, h, hm⟩
  · have hP : ∀ n, TxtP x w (.returned (.string ⟨#[]⟩)) (w.drewN n) := fun n => ⟨[], rfl, .inl ⟨hf, rfl⟩, (Nw.refl w).draw n⟩
    go_enter Tryz.func66, Tryz.ntmps66
    go_wp2_with fail
    refine (l1Finite_any _ _).mono ?_
    rintro e w1 ⟨rfl, n1, rfl⟩
    rw [hf]
    go_wp2_with fail
    go_ret
    exact hP _
  · exact (specFormat_zero w).mono fun e w' h => ⟨[48], by rw [h.1]; rfl, .inr (.inl ⟨rfl, rfl⟩), h.2⟩
  · exact (specFormat_minus w).mono fun e w' h => ⟨[45, 48], by rw [h.1]; rfl, .inr (.inr (.inl ⟨rfl, rfl⟩)), h.2⟩
  · refine (specFormat_ok x m sg p hx h hm w).mono ?_
    rintro e w' ⟨a, q, b1, b2, b3, b4, b5, rfl, n⟩
    exact ⟨_, rfl, .inr (.inr (.inr ⟨sg, m, p, a, q, h, hm, b1, b2, b3, b4, b5, rfl⟩)), n⟩

end Go.Proofs.YtiakcibeobbonaaGreat

/- The model's texts as functions: numbers, lines of modes, bodies; of any words (FnCut).
   Conditions: those that each statement names. -/
namespace Go.Proofs.YtiakcibeobbonaaGreat
set_option linter.unusedSimpArgs false
set_option linter.unusedVariables false
open Go Go.RowKit

def bytF (xs : List Int) : List UInt8 := xs.map fun n => UInt8.ofNat n.toNat
theorem bytF_str (xs : List Int) : strOfNums xs = ⟨(bytF xs).toArray⟩ := rfl
theorem numL_lenF (z : Int) (hz : -2000 ≤ z ∧ z ≤ 2000) : (numL z).length ≤ 19 := by
  unfold numL
  have := dgs_len 17 z.natAbs (by omega)
  split
  · simp; omega
  · omega
theorem text_lenF (sg : Bool) (a : Nat) (q : Int) (ha : a < 10 ^ 17) (hq : -2000 ≤ q ∧ q ≤ 2000) : 3 ≤ (sgn sg ++ (dgs a ++ 112 :: numL q)).length ∧ (sgn sg ++ (dgs a ++ 112 :: numL q)).length ≤ 60 := by
  have l1 := dgs_len 17 a (by omega)
  have l2 := numL_lenF q hq
  obtain ⟨d, r, e, -, -⟩ := dgs_head a
  have l3 : 1 ≤ (dgs a).length := by rw [e]; simp
  have l4 : 1 ≤ (numL q).length := by
    obtain ⟨d, r, e, -, -⟩ := dgs_head q.natAbs
    unfold numL
    split
    · simp
    · rw [e]; simp
  have l5 : (sgn sg).length ≤ 1 := by cases sg <;> simp [sgn]
  simp only [List.length_append, List.length_cons]
  omega
theorem txt_len60 {y : Nat} {xs : List Int} (h : TxtOf y xs) : xs.length ≤ 60 := by
  rcases h with ⟨_, rfl⟩ | ⟨_, rfl⟩ | ⟨_, rfl⟩ | ⟨sg, m, p, a, q, b1, b2, b3, b4, b5, b6, b7, rfl⟩
  · simp
  · simp
  · simp
  · exact (text_lenF sg a q (by omega) ⟨b6, b7⟩).2
open Classical in
/-- the text of a double -/
noncomputable def dblL (x : Nat) : List UInt8 := if h : ∃ xs, TxtOf x xs then bytF h.choose else []
theorem dblL_of {x : Nat} {xs : List Int} (h : TxtOf x xs) : dblL x = bytF xs := by
  have hx : ∃ xs, TxtOf x xs := ⟨xs, h⟩
  unfold dblL
  rw [dif_pos hx, txt_unique hx.choose_spec h]
theorem dblL_len (x : Nat) : (dblL x).length ≤ 60 := by
  unfold dblL
  split
  · rename_i h
    unfold bytF
    rw [List.length_map]
    exact txt_len60 h.choose_spec
  · simp
def StrF (l : List UInt8) (w : World) (e : Ending) (w' : World) : Prop := e = .returned (.string ⟨l.toArray⟩) ∧ Nw w w'
theorem specDbl_f (x : Nat) (hx : x < 18446744073709551616) (w : World) : Calls Tryz.prog 66 #[.float .f64 x] w (StrF (dblL x) w) := by
  refine (specText x hx w).mono ?_
  rintro e w' ⟨xs, rfl, ht, hn⟩
  exact ⟨by rw [dblL_of ht, bytF_str], hn⟩
theorem specSgl_f (x : Nat) (hf : Sm x) (w : World) : Calls Tryz.prog 39 #[.float .f32 x] w (StrF (dblL (wid x)) w) := by
  have u1 := fun w => fcv_up hf w
  have u2 := fcd_up hf
  clear hf
  go_enter Tryz.func39, Tryz.ntmps39
  go_wp2_with fail
  refine (specDbl_f _ (wid_lt x) _).mono ?_
  rintro e w1 ⟨rfl, n1⟩
  have N1 := Lib.hid n1
  clear n1
  go_wp2_with fail
  go_ret
  exact ⟨rfl, N1.out⟩
noncomputable def lineF (word : List UInt8) (a b c d : Nat) : List UInt8 := word ++ [32] ++ dblL a ++ [32] ++ dblL b ++ [32] ++ dblL c ++ [32] ++ dblL d ++ [10]
set_option maxRecDepth 100000 in
theorem l6Line_f (word : List UInt8) (hl : word.length ≤ 100) (a b c d : Nat) (ha : a < 18446744073709551616) (hb : b < 18446744073709551616) (hc : c < 18446744073709551616) (hd : d < 18446744073709551616) (w : World) :
    Calls Tryz.prog 99 #[.string ⟨word.toArray⟩, .complex .f64 a b, .complex .f64 c d] w (StrF (lineF word a b c d) w) := by
  have T1 := Lib.hid (fun w => specDbl_f a ha w)
  have T2 := Lib.hid (fun w => specDbl_f b hb w)
  have T3 := Lib.hid (fun w => specDbl_f c hc w)
  have T4 := Lib.hid (fun w => specDbl_f d hd w)
  have g1 := dblL_len a
  have g2 := dblL_len b
  have g3 := dblL_len c
  have g4 := dblL_len d
  have Ht := Lib.hid (show lineF word a b c d = word ++ [32] ++ dblL a ++ [32] ++ dblL b ++ [32] ++ dblL c ++ [32] ++ dblL d ++ [10] from rfl)
  clear ha hb hc hd
  generalize dblL a = t1 at *
  generalize dblL b = t2 at *
  generalize dblL c = t3 at *
  generalize dblL d = t4 at *
  go_enter Tryz.func99, Tryz.ntmps99
  go_wp2_with fail
  refine (T1.out _).mono ?_
  rintro e w1 ⟨rfl, n1⟩
  have N1 := Lib.hid n1
  clear n1
  go_wp2_with fail
  refine (T2.out _).mono ?_
  rintro e w2 ⟨rfl, n2⟩
  have N2 := Lib.hid (N1.out.trans n2)
  clear n2
  go_wp2_with fail
  refine (T3.out _).mono ?_
  rintro e w3 ⟨rfl, n3⟩
  have N3 := Lib.hid (N2.out.trans n3)
  clear n3
  go_wp2_with fail
  refine (T4.out _).mono ?_
  rintro e w4 ⟨rfl, n4⟩
  have N4 := Lib.hid (N3.out.trans n4)
  clear n4
  go_wp2_with fail
  go_ret
  exact ⟨congrArg Ending.returned (congrArg Value.string (by rw [Ht.out]; apply ByteArray.ext; simp)), N4.out⟩
theorem lineF_len (word : List UInt8) (a b c d : Nat) : (lineF word a b c d).length ≤ word.length + 245 := by
  have g1 := dblL_len a
  have g2 := dblL_len b
  have g3 := dblL_len c
  have g4 := dblL_len d
  simp [lineF]
  omega
def wModeF : List UInt8 := [109, 111, 100, 101]
noncomputable def modeF (m : M4) : List UInt8 := lineF wModeF (wid m.pr) (wid m.pi) (wid m.gr) (wid m.gi)
noncomputable def modesF (ms : List M4) : List UInt8 := ms.flatMap modeF
theorem modeF_len (m : M4) : (modeF m).length ≤ 249 := lineF_len _ _ _ _ _
theorem modesF_len (ms : List M4) : (modesF ms).length ≤ ms.length * 249 := by
  induction ms with
  | nil => simp [modesF]
  | cons m l ih =>
    have := modeF_len m
    simp only [modesF, List.flatMap_cons, List.length_append, List.length_cons] at *
    omega
theorem modesF_snoc (ms : List M4) (k : Nat) (m : M4) (h : ms[k]? = some m) : modesF (ms.take (k + 1)) = modesF (ms.take k) ++ modeF m := by
  unfold modesF
  rw [List.take_add_one, h, List.flatMap_append]
  simp
set_option maxRecDepth 100000 in
theorem l6Modes_f (ms : List M4) (hf : ∀ m ∈ ms, m.ok) (n bm : Nat) (v : Value) (hn : ms.length = n) (hn16 : n ≤ 16) (w : World) (hm : w.ownsRow bm 93 2 v n (cellsM ms)) :
    Calls Tryz.prog 67 #[v] w (StrF (modesF ms) w) := by
  obtain ⟨va, vc, rfl⟩ := own_shape' hm
  have H := Lib.hid hm
  have Hf := Lib.hid hf
  have Hn := Lib.hid hn
  clear hm hf hn
  go_enter Tryz.func67, Tryz.ntmps67
  go_wp2_with fail
  go_loopw [3, 8] (fun o i wr => ∃ (k : Nat) (l : List UInt8), k ≤ n ∧ l = modesF (ms.take k) ∧ i = .int .i64 (k : Int) ∧ o = .string ⟨l.toArray⟩ ∧ l.length ≤ k * 249 ∧ Nw w wr) (fun _ i _ => n - (intOf i).toNat)
  case atStart => exact ⟨0, [], by omega, rfl, rfl, rfl, by simp, Nw.refl _⟩
  case round =>
    obtain ⟨k, l, hk, hT, rfl, rfl, hl, hN⟩ := hrel
    have Nr := Lib.hid hN
    have T := Lib.hid hT
    clear hN hT
    by_cases hlt : k < n
    · obtain ⟨m, hmk⟩ : ∃ m, ms[k]? = some m := ⟨ms[k]'(by rw [Hn.out]; exact hlt), List.getElem?_eq_getElem _⟩
      obtain ⟨g, cap, hv, hcap, hmax, hgs, e1, e2⟩ := own_mode (own_nw H.out Nr.out) hmk Hn.out.symm
      cases hv
      unfold maxLen at hmax
      obtain ⟨s1, s2, s3, s4⟩ := (Hf.out m (List.mem_of_getElem? hmk)).nums
      have Hk := Lib.hid hmk
      have u1 := fun w => fcv_up s1 w
      have u2 := fun w => fcv_up s2 w
      have u3 := fun w => fcv_up s3 w
      have u4 := fun w => fcv_up s4 w
      have v1 := fcd_up s1
      have v2 := fcd_up s2
      have v3 := fcd_up s3
      have v4 := fcd_up s4
      clear hmk s1 s2 s3 s4
      have C := Lib.hid (fun w => l6Line_f wModeF (by decide) (wid m.pr) (wid m.pi) (wid m.gr) (wid m.gi) (wid_lt _) (wid_lt _) (wid_lt _) (wid_lt _) w)
      have hpl := modeF_len m
      have Hp := Lib.hid (show modeF m = lineF wModeF (wid m.pr) (wid m.pi) (wid m.gr) (wid m.gi) from rfl)
      rw [← Hp.out] at C
      have N0 := Lib.hid (Nr.out.alloc (.cells #[.complex .f32 m.pr m.pi, .complex .f32 m.gr m.gi] 93 (0, 0)))
      go_wp2_with fail
      refine (C.out _).mono ?_
      rintro e w1 ⟨rfl, n1⟩
      have N1 := Lib.hid (N0.out.trans n1)
      clear n1
      have Sn := Lib.hid (modesF_snoc ms k m Hk.out)
      generalize modeF m = p at *
      go_wp2_with fail
      go_roundw
      case rel => exact ⟨k + 1, l ++ p, by omega, by rw [Sn.out, T.out], by rw [show ((k + 1 : Nat) : Int) = (k : Int) + 1 from by omega], rfl, by simp; omega, N1.out⟩
      case measure => simp only [intOf]; omega
    · obtain rfl : k = n := by omega
      have hfin : l = modesF ms := by rw [T.out, List.take_of_length_le (by have := Hn.out; omega)]
      have Hfin := Lib.hid hfin
      clear hfin
      go_wp2_with fail
      go_ret
      exact ⟨congrArg (fun l : List UInt8 => Ending.returned (Value.string ⟨l.toArray⟩)) Hfin.out, Nr.out⟩
set_option maxRecDepth 100000 in
theorem specFormatBody_f (ms : List M4) (hf : ∀ m ∈ ms, m.ok) (n bm : Nat) (v : Value) (hn : ms.length = n) (hn16 : n ≤ 16) (w : World) (hm : w.ownsRow bm 93 2 v n (cellsM ms)) :
    Calls Tryz.prog 40 #[.agg #[v]] w (StrF (modesF ms) w) := by
  obtain ⟨va, vc, rfl⟩ := own_shape' hm
  have hok : bodyB ms = true := (bodyB_iff ms).2 ⟨by omega, hf⟩
  have H := Lib.hid (hm.alloc (.cells #[.slice va n vc] 65 (0, 0)))
  have N0 := Lib.hid ((Nw.refl w).alloc (.cells #[.slice va n vc] 65 (0, 0)))
  have Hf := Lib.hid hf
  have Hn := Lib.hid hn
  have Ho := Lib.hid hok
  have B := Lib.hid (Has1.new w 65 (.slice va n vc))
  clear hm hf hn hok
  go_enter Tryz.func40, Tryz.ntmps40
  go_wp2_with fail
  refine (specIsBody_fin ms n bm _ Hn.out (by omega) _ H.out).mono ?_
  rintro e w1 ⟨rfl, n1⟩
  rw [Ho.out]
  have N1 := Lib.hid (N0.out.trans n1)
  have H1 := Lib.hid (own_nw H.out n1)
  have B1 := Lib.hid (B.out.nw n1)
  clear n1
  obtain ⟨b0, b1, b2⟩ := B1.out
  go_wp2_with fail
  refine (l6Modes_f ms Hf.out n bm _ Hn.out hn16 _ H1.out).mono ?_
  rintro e w2 ⟨rfl, n2⟩
  have N2 := Lib.hid (N1.out.trans n2)
  clear n2
  go_wp2_with fail
  go_ret
  exact ⟨rfl, N2.out⟩
end Go.Proofs.YtiakcibeobbonaaGreat

/- The walks of StrikeShape of the model, of StrikeShape for all arguments, and of the marks that the exact laws set.
   Conditions: those that each statement names. -/
namespace Go.Proofs.YtiakcibeobbonaaGreat
set_option linter.unusedSimpArgs false
set_option linter.unusedVariables false
open Go Go.RowKit

def ShapeV (zs : List Nat) (ok : Bool) (w : World) (e : Ending) (w' : World) : Prop :=
  ∃ v : Value, e = .returned (.tuple #[v, .bool ok]) ∧ w'.ownsRow w.heap.size 23 1 v zs.length (cellsS zs) ∧ Nw w w'
def StrS (kind n : Nat) (w : World) (v i : Value) (wr : World) : Prop :=
  ∃ k : Nat, k ≤ n ∧ i = .int .i64 (k : Int) ∧ wr.ownsRow w.heap.size 23 1 v k (cellsS ((List.range k).map (shapeAt kind n))) ∧ Nw w wr
theorem shapeL_len (kind n : Nat) : (shapeL kind n).length = n := by unfold shapeL; simp
theorem row_snoc (kind n k : Nat) : cellsS ((List.range k).map (shapeAt kind n)) ++ cellsS [shapeAt kind n k] = cellsS ((List.range (k + 1)).map (shapeAt kind n)) := by
  rw [List.range_succ]; simp [cellsS]

theorem nw_grow2 {a w w1 : World} {row : Option Nat} (h : Nw a w) (hg : w.grownBy w1 row) (hr : ∀ q, row = some q → a.heap.size ≤ q) : Nw a w1 :=
  ⟨hg.os.trans h.os, hg.tape.trans h.tape, hg.output.trans h.output, Nat.le_trans h.size hg.size, fun k hk hne => (hg.block k (Nat.lt_of_lt_of_le hk h.size) (fun e => by have := hr k e.symm; omega)).trans (h.block k hk hne)⟩

theorem l1In_any (x a b : Int) (w : World) :
    Calls Tryz.prog 26 #[.int .i64 x, .int .i64 a, .int .i64 b] w fun e w' => e = .returned (.bool (decide (a ≤ x ∧ x ≤ b))) ∧ w = w' := by
  by_cases h1 : a ≤ x
  all_goals by_cases h2 : x ≤ b
  all_goals
    go_enter Tryz.func26, Tryz.ntmps26
    go_wp2
    go_ret
    exact ⟨by simp [h1, h2], rfl⟩

set_option maxRecDepth 100000 in
set_option maxHeartbeats 6400000 in
theorem specStrike_ok (kind n : Nat) (hk : kind ≤ 2) (h1 : 1 ≤ n) (hn : n ≤ 64) (w : World) :
    Calls Tryz.prog 48 #[.int .i64 (kind : Int), .int .i64 (n : Int)] w (ShapeV (shapeL kind n) true w) := by
  obtain ⟨i0, hi, hz0, hz1, hz2⟩ := info_parts info_f32
  have hk3 : kind = 0 ∨ kind = 1 ∨ kind = 2 := by omega
  rcases hk3 with rfl | rfl | rfl
  all_goals
    go_enter Tryz.func48, Tryz.ntmps48
  · go_wp2_with (first | (go_at_call 26; refine (l1In_any _ _ _ _).mono ?_; rintro e w' ⟨rfl, rfl⟩; rw [decide_eq_true (by omega)]))
    go_loopw [6, 7] (fun v i wr => StrS 0 n w v i wr) (fun _ i _ => n - (intOf i).toNat)
    case atStart => exact ⟨0, by omega, rfl, World.ownsRow_lit (base := w.heap.size) (e := 23) (size := 1) w #[] 0 (Nat.le_refl _) (by decide) rfl, (Nw.refl w).alloc _⟩
    case round =>
      obtain ⟨k, hk', rfl, how, hnw⟩ := hrel
      obtain ⟨sa, sc, rfl⟩ := own_shape' how
      have Ow := Lib.hid how
      have Nr := Lib.hid hnw
      clear how hnw
      by_cases hlt : k < n
      · skip
        by_cases hk0 : k = 0
        · subst hk0
          go_wp2_with (at_builtin; refine wpList_append_own _ rfl _ _ 35 rfl w.heap.size 23 i0 (.float .f32 0) 1 4 Tryz.underlying35 hi hz0 hz1 hz2 rfl (by decide) _ _ _ rfl (Ow.out.alloc _) ⟨wr.heap.size, 0, none⟩ 1 1 [.float .f32 1065353216] rfl rfl ?c1 ?c2 ?c3 ?c4 ?c5 ?_)
          case c1 =>
            intro j u hj
            match j, hj with
            | 0, hj => simp at hj; subst hj; simp [Addr.add]
          case c2 => intro u hu; simp at hu; subst hu; rfl
          case c3 => unfold maxLen; omega
          case c4 => omega
          case c5 => have := Nr.out.size; simp; omega
          · intro v' w4 hown4 hgrow _
            have hrow : ∀ q, (Value.slice sa 0 sc).ownBlock = some q → w.heap.size ≤ q := fun q hq => own_ge Ow.out q hq
            have N4 := Lib.hid (nw_grow2 (Nr.out.alloc (.cells #[.float .f32 1065353216] 23 (0, 0))) hgrow hrow)
            have O4 := Lib.hid (show w4.ownsRow w.heap.size 23 1 v' 1 (cellsS ((List.range 1).map (shapeAt 0 n))) from by simpa [cellsS, shapeAt, clickAt] using hown4)
            clear hown4 hgrow hrow
            go_wp2_with fail
            go_roundw
            case rel => exact ⟨1, by omega, rfl, O4.out, N4.out⟩
            case measure => simp only [intOf]; omega
        · skip
          go_wp2_with (at_builtin; refine wpList_append_own _ rfl _ _ 35 rfl w.heap.size 23 i0 (.float .f32 0) 1 4 Tryz.underlying35 hi hz0 hz1 hz2 rfl (by decide) _ _ _ rfl (Ow.out.alloc _) ⟨wr.heap.size, 0, none⟩ 1 1 [.float .f32 0] rfl rfl ?c1 ?c2 ?c3 ?c4 ?c5 ?_)
          case c1 =>
            intro j u hj
            match j, hj with
            | 0, hj => simp at hj; subst hj; simp [Addr.add]
          case c2 => intro u hu; simp at hu; subst hu; rfl
          case c3 => unfold maxLen; omega
          case c4 => omega
          case c5 => have := Nr.out.size; simp; omega
          · intro v' w4 hown4 hgrow _
            have hrow : ∀ q, (Value.slice sa k sc).ownBlock = some q → w.heap.size ≤ q := fun q hq => own_ge Ow.out q hq
            have N4 := Lib.hid (nw_grow2 (Nr.out.alloc (.cells #[.float .f32 0] 23 (0, 0))) hgrow hrow)
            rw [show [Value.float .f32 0] = cellsS [shapeAt 0 n k] from by simp [cellsS, shapeAt, clickAt, hk0], row_snoc] at hown4
            have O4 := Lib.hid hown4
            clear hown4 hgrow hrow
            go_wp2_with fail
            go_roundw
            case rel => exact ⟨k + 1, by omega, by rw [show ((k + 1 : Nat) : Int) = (k : Int) + 1 from by omega], O4.out, N4.out⟩
            case measure => simp only [intOf]; omega
      · obtain rfl : k = n := by omega
        go_wp2_with fail
        go_ret2
        exact ⟨_, rfl, by rw [shapeL_len]; exact Ow.out, Nr.out⟩
  · go_wp2_with (first | (go_at_call 26; refine (l1In_any _ _ _ _).mono ?_; rintro e w' ⟨rfl, rfl⟩; rw [decide_eq_true (by omega)]))
    go_loopw [6, 7] (fun v i wr => StrS 1 n w v i wr) (fun _ i _ => n - (intOf i).toNat)
    case atStart => exact ⟨0, by omega, rfl, World.ownsRow_lit (base := w.heap.size) (e := 23) (size := 1) w #[] 0 (Nat.le_refl _) (by decide) rfl, (Nw.refl w).alloc _⟩
    case round =>
      obtain ⟨k, hk', rfl, how, hnw⟩ := hrel
      obtain ⟨sa, sc, rfl⟩ := own_shape' how
      have Ow := Lib.hid how
      have Nr := Lib.hid hnw
      clear how hnw
      by_cases hlt : k < n
      · skip
        have hb := all_pairs ramp_all n k hn hlt
        rw [rampB_eq] at hb
        simp only [Bool.and_eq_true] at hb
        have hc := calm_of hb.1.1.1
        have r1 := hc.res
        have d1 := hc.fdr
        clear hb hc
        go_wp2_with (at_builtin; refine wpList_append_own _ rfl _ _ 35 rfl w.heap.size 23 i0 (.float .f32 0) 1 4 Tryz.underlying35 hi hz0 hz1 hz2 rfl (by decide) _ _ _ rfl (Ow.out.alloc _) ⟨wr.heap.size, 0, none⟩ 1 1 [.float .f32 (opB .quo .f32 (floatOfInt .f32 ((k : Int) + 1)) (floatOfInt .f32 (n : Int)))] rfl rfl ?c1 ?c2 ?c3 ?c4 ?c5 ?_)
        case c1 =>
          intro j u hj
          match j, hj with
          | 0, hj => simp at hj; subst hj; simp [Addr.add]
        case c2 => intro u hu; simp at hu; subst hu; rfl
        case c3 => unfold maxLen; omega
        case c4 => omega
        case c5 => have := Nr.out.size; simp; omega
        · intro v' w4 hown4 hgrow _
          have hrow : ∀ q, (Value.slice sa k sc).ownBlock = some q → w.heap.size ≤ q := fun q hq => own_ge Ow.out q hq
          have N4 := Lib.hid (nw_grow2 (Nr.out.alloc (.cells #[.float .f32 (opB .quo .f32 (floatOfInt .f32 ((k : Int) + 1)) (floatOfInt .f32 (n : Int)))] 23 (0, 0))) hgrow hrow)
          rw [show [Value.float .f32 (opB .quo .f32 (floatOfInt .f32 ((k : Int) + 1)) (floatOfInt .f32 (n : Int)))] = cellsS [shapeAt 1 n k] from by simp [cellsS, shapeAt, rampAt], row_snoc] at hown4
          have O4 := Lib.hid hown4
          clear hown4 hgrow hrow
          go_wp2_with fail
          go_roundw
          case rel => exact ⟨k + 1, by omega, by rw [show ((k + 1 : Nat) : Int) = (k : Int) + 1 from by omega], O4.out, N4.out⟩
          case measure => simp only [intOf]; omega
      · obtain rfl : k = n := by omega
        go_wp2_with fail
        go_ret2
        exact ⟨_, rfl, by rw [shapeL_len]; exact Ow.out, Nr.out⟩
  · go_wp2_with (first | (go_at_call 26; refine (l1In_any _ _ _ _).mono ?_; rintro e w' ⟨rfl, rfl⟩; rw [decide_eq_true (by omega)]))
    go_loopw [6, 7] (fun v i wr => StrS 2 n w v i wr) (fun _ i _ => n - (intOf i).toNat)
    case atStart => exact ⟨0, by omega, rfl, World.ownsRow_lit (base := w.heap.size) (e := 23) (size := 1) w #[] 0 (Nat.le_refl _) (by decide) rfl, (Nw.refl w).alloc _⟩
    case round =>
      obtain ⟨k, hk', rfl, how, hnw⟩ := hrel
      obtain ⟨sa, sc, rfl⟩ := own_shape' how
      have Ow := Lib.hid how
      have Nr := Lib.hid hnw
      clear how hnw
      by_cases hlt : k < n
      · skip
        have hb := all_pairs arch_all n k hn hlt
        rw [archB_eq] at hb
        simp only [Bool.and_eq_true] at hb
        have c1 := calm_of hb.1.1.1.1
        have c2 := calm_of hb.1.1.1.2
        have c3 := calm_of hb.1.1.2
        have c4 := calm_of hb.1.2
        have r1 := c1.res
        have d1 := c1.fdr
        have r2 := c2.res
        have d2 := c2.fdr
        have r3 := c3.res
        have d3 := c3.fdr
        have r4 := c4.res
        have d4 := c4.fdr
        clear hb c1 c2 c3 c4
        unfold archP archM archT at r4 d4
        unfold archT at r2 d2 r3 d3
        go_wp2_with (at_builtin; refine wpList_append_own _ rfl _ _ 35 rfl w.heap.size 23 i0 (.float .f32 0) 1 4 Tryz.underlying35 hi hz0 hz1 hz2 rfl (by decide) _ _ _ rfl (Ow.out.alloc _) ⟨wr.heap.size, 0, none⟩ 1 1 [.float .f32 (opB .mul .f32 (opB .mul .f32 1082130432 (opB .quo .f32 (floatOfInt .f32 (2 * (k : Int) + 1)) (floatOfInt .f32 (2 * (n : Int))))) (opB .sub .f32 1065353216 (opB .quo .f32 (floatOfInt .f32 (2 * (k : Int) + 1)) (floatOfInt .f32 (2 * (n : Int))))))] rfl rfl ?c1 ?c2 ?c3 ?c4 ?c5 ?_)
        case c1 =>
          intro j u hj
          match j, hj with
          | 0, hj => simp at hj; subst hj; simp [Addr.add]
        case c2 => intro u hu; simp at hu; subst hu; rfl
        case c3 => unfold maxLen; omega
        case c4 => omega
        case c5 => have := Nr.out.size; simp; omega
        · intro v' w4 hown4 hgrow _
          have hrow : ∀ q, (Value.slice sa k sc).ownBlock = some q → w.heap.size ≤ q := fun q hq => own_ge Ow.out q hq
          have N4 := Lib.hid (nw_grow2 (Nr.out.alloc (.cells #[.float .f32 (opB .mul .f32 (opB .mul .f32 1082130432 (opB .quo .f32 (floatOfInt .f32 (2 * (k : Int) + 1)) (floatOfInt .f32 (2 * (n : Int))))) (opB .sub .f32 1065353216 (opB .quo .f32 (floatOfInt .f32 (2 * (k : Int) + 1)) (floatOfInt .f32 (2 * (n : Int))))))] 23 (0, 0))) hgrow hrow)
          rw [show [Value.float .f32 (opB .mul .f32 (opB .mul .f32 1082130432 (opB .quo .f32 (floatOfInt .f32 (2 * (k : Int) + 1)) (floatOfInt .f32 (2 * (n : Int))))) (opB .sub .f32 1065353216 (opB .quo .f32 (floatOfInt .f32 (2 * (k : Int) + 1)) (floatOfInt .f32 (2 * (n : Int))))))] = cellsS [shapeAt 2 n k] from by simp [cellsS, shapeAt, archAt, archP, archM, archT], row_snoc] at hown4
          have O4 := Lib.hid hown4
          clear hown4 hgrow hrow
          go_wp2_with fail
          go_roundw
          case rel => exact ⟨k + 1, by omega, by rw [show ((k + 1 : Nat) : Int) = (k : Int) + 1 from by omega], O4.out, N4.out⟩
          case measure => simp only [intOf]; omega
      · obtain rfl : k = n := by omega
        go_wp2_with fail
        go_ret2
        exact ⟨_, rfl, by rw [shapeL_len]; exact Ow.out, Nr.out⟩

end Go.Proofs.YtiakcibeobbonaaGreat

/- The model's IsScore over a score that is drawn (FnCut).
   Conditions: those that each statement names. -/
namespace Go.Proofs.YtiakcibeobbonaaGreat
set_option linter.unusedSimpArgs false
set_option linter.unusedVariables false
open Go Go.RowKit

theorem dblL_zero : dblL 0 = [48] := by
  have h : TxtOf 0 [48] := .inr (.inl ⟨rfl, rfl⟩)
  rw [dblL_of h]
  decide
theorem wid_zeroF : wid 0 = 0 := by decide
theorem fin_widF {x : Nat} (h : Sm x) : fin .f64 (wid x) = true := by
  exact (fin_iff' .f64 _).2 (wid_num h).1
theorem l7Zero_v (w : World) : Calls Tryz.prog 49 #[.float .f32 0] w (TestP true w) := by
  have P := Lib.hid (fun w => specSgl_f 0 zero_single.1 w)
  go_enter Tryz.func49, Tryz.ntmps49
  go_wp2_with fail
  refine (P.out _).mono ?_
  rintro e w1 ⟨rfl, n1⟩
  rw [wid_zeroF, dblL_zero]
  have hz : ((⟨([48] : List UInt8).toArray⟩ : ByteArray).toList == [48]) = true := by rw [ByteArray.toList_eq]; rfl
  have N1 := Lib.hid n1
  clear n1
  go_wp2_with fail
  go_ret
  exact ⟨rfl, N1.out⟩
set_option maxHeartbeats 3200000 in
set_option maxRecDepth 100000 in
theorem l7Event_v (L V : Int) (C R nb Ln : Nat) (sa : Option Addr) (sc : Nat) (ev : Value) (e : Ev6) (h : e.ok Ln nb) (hLn : Ln ≤ 2000) (hnb : nb ≤ 1000) (w : World) :
    Calls Tryz.prog 29 #[.agg #[.int .i64 L, .int .i64 V, .float .f32 C, .float .f32 R, .slice sa nb sc, ev], .agg #[.int .i64 e.t, .int .i64 e.k, .int .i64 e.b, .int .i64 e.s, .int .i64 e.m, .float .f32 e.f]] w (TestP true w) := by
  obtain ⟨t, k, b, s, m, f⟩ := e
  have h : EvOk Ln nb t k b s m f := h
  obtain ⟨t0, t1, b0, b1, hk⟩ := h
  simp only
  have S0 := Lib.hid ((HasC.new w 27 (.int .i64 L) (.int .i64 V) (.float .f32 C) (.float .f32 R) (.slice sa nb sc) ev).nw ((Nw.refl _).alloc (.cells #[.int .i64 t, .int .i64 k, .int .i64 b, .int .i64 s, .int .i64 m, .float .f32 f] 68 (0, 0))))
  have X := Lib.hid (HasC.new (w.alloc (.cells #[.int .i64 L, .int .i64 V, .float .f32 C, .float .f32 R, .slice sa nb sc, ev] 27 (0, 0))) 68 (.int .i64 t) (.int .i64 k) (.int .i64 b) (.int .i64 s) (.int .i64 m) (.float .f32 f))
  have N := Lib.hid (((Nw.refl w).alloc (.cells #[.int .i64 L, .int .i64 V, .float .f32 C, .float .f32 R, .slice sa nb sc, ev] 27 (0, 0))).alloc (.cells #[.int .i64 t, .int .i64 k, .int .i64 b, .int .i64 s, .int .i64 m, .float .f32 f] 68 (0, 0)))
  have hw1 : (w.alloc (.cells #[.int .i64 L, .int .i64 V, .float .f32 C, .float .f32 R, .slice sa nb sc, ev] 27 (0, 0))).heap.size = w.heap.size + 1 := by simp
  rw [hw1] at X
  clear hw1
  have d1 : decide (0 ≤ t ∧ t ≤ 2000) = true := decide_eq_true (by omega)
  have d2 : decide (0 ≤ b ∧ b ≤ (nb : Int) - 1) = true := decide_eq_true (by omega)
  rcases hk with ⟨rfl, s0, s1, m0, m1, f0, -⟩ | ⟨rfl, rfl, rfl, hf⟩ | ⟨rfl, rfl, rfl, rfl⟩
  · obtain ⟨s', rfl⟩ := Int.eq_ofNat_of_zero_le s0
    obtain ⟨m', rfl⟩ := Int.eq_ofNat_of_zero_le (show 0 ≤ m by omega)
    have a1 := fun w => fcv_up f0 w
    have a2 := fcd_up f0
    have a3 := fin_widF f0
    go_enter Tryz.func29, Tryz.ntmps29
    go_wp2_with (go_at_call 26; refine (l1In_any _ _ _ _).mono ?_; rintro e w1 ⟨rfl, rfl⟩; first | rw [d1] | rw [d2])
    refine (specStrike_ok s' m' (by omega) (by omega) (by omega) _).mono ?_
    rintro e w2 ⟨g, rfl, own2, n2⟩
    have N2 := Lib.hid (N.out.trans n2)
    obtain ⟨⟨e0, -⟩, ⟨e1, -⟩, ⟨e2, -⟩, ⟨e3, -⟩, ⟨e4, -⟩, e5, -⟩ := six_at (X.out.nw n2)
    clear own2 n2
    go_wp2_with fail
    refine (l1Finite_any _ _).mono ?_
    rintro e w3 ⟨rfl, n3, rfl⟩
    rw [a3]
    go_wp2_with fail
    go_ret
    exact ⟨rfl, N2.out.draw n3⟩
  · have h0' : (FloatKind.f32.format.order f 0 == some .gt || FloatKind.f32.format.order f 0 == some .eq) = true := hf.2.1
    have h1' : (FloatKind.f32.format.order f 1065353216 == some .lt || FloatKind.f32.format.order f 1065353216 == some .eq) = true := hf.2.2
    go_enter Tryz.func29, Tryz.ntmps29
    go_wp2_with (go_at_call 26; refine (l1In_any _ _ _ _).mono ?_; rintro e w1 ⟨rfl, rfl⟩; first | rw [d1] | rw [d2])
    all_goals
      go_ret
      exact ⟨rfl, N.out⟩
  · go_enter Tryz.func29, Tryz.ntmps29
    go_wp2_with (go_at_call 26; refine (l1In_any _ _ _ _).mono ?_; rintro e w1 ⟨rfl, rfl⟩; first | rw [d1] | rw [d2])
    refine (l7Zero_v _).mono ?_
    rintro e w2 ⟨rfl, n2⟩
    have N2 := Lib.hid (N.out.trans n2)
    clear n2
    go_wp2_with fail
    go_ret
    exact ⟨rfl, N2.out⟩
set_option maxHeartbeats 3200000 in
set_option maxRecDepth 100000 in
theorem specScore_v (base L V C R : Nat) (bs : List (List M4)) (es : List Ev6) (sv ev : Value) (w : World) (h : ScoV w base L V C R bs es sv ev) :
    Calls Tryz.prog 13 #[.agg #[.int .i64 (L : Int), .int .i64 (V : Int), .float .f32 C, .float .f32 R, sv, ev]] w (TestP true w) := by
  obtain ⟨nb, hnb⟩ : ∃ nb, nb = bs.length := ⟨_, rfl⟩
  obtain ⟨ne, hne⟩ : ∃ ne, ne = es.length := ⟨_, rfl⟩
  obtain ⟨⟨sa, sc, rfl⟩, ea, ec, rfl⟩ := h.shape
  rw [← hnb, ← hne] at h ⊢
  have hL := h.hL
  have hV := h.hV
  have hb3 := h.hb
  have he13 := h.he
  rw [← hnb] at hb3
  rw [← hne] at he13
  have H := Lib.hid h
  have Hn := Lib.hid (And.intro hnb hne)
  have S0 := Lib.hid (HasC.new w 27 (.int .i64 (L : Int)) (.int .i64 (V : Int)) (.float .f32 C) (.float .f32 R) (.slice sa nb sc) (.slice ea ne ec))
  have N0 := Lib.hid ((Nw.refl w).alloc (.cells #[.int .i64 (L : Int), .int .i64 (V : Int), .float .f32 C, .float .f32 R, .slice sa nb sc, .slice ea ne ec] 27 (0, 0)))
  have hR' := h.hR.2.1
  have hl : lim C R = true := by
    have hgc : (gt0 C && fin .f32 C) = true := by rw [Bool.and_eq_true]; exact ⟨h.hC.2, (fin_iff' .f32 C).2 h.hC.1⟩
    have h1 : ge0 R = true := h.hR.1.2.1
    have h2 : le1 R = true := h.hR.1.2.2
    have h3 := h.hR.2.2
    unfold lim
    rw [hgc, h1, h2]; simpa using h3
  have Hl := Lib.hid hl
  have d1 : decide (0 ≤ (L : Int) ∧ (L : Int) ≤ 2000) = true := decide_eq_true (by omega)
  have d2 : decide (1 ≤ (V : Int) ∧ (V : Int) ≤ 8) = true := decide_eq_true (by omega)
  clear h hnb hne hl
  go_enter Tryz.func13, Tryz.ntmps13
  go_wp2_with (go_at_call 26; refine (l1In_any _ _ _ _).mono ?_; rintro e w1 ⟨rfl, rfl⟩; first | rw [d1] | rw [d2])
  refine (l7Limits_any C R hR' _).mono ?_
  rintro e w1 ⟨rfl, n1⟩
  rw [Hl.out]
  have N1 := Lib.hid (N0.out.trans n1)
  have S1 := Lib.hid (S0.out.nw n1)
  clear n1
  obtain ⟨⟨e0, g0⟩, ⟨e1, g1⟩, ⟨e2, g2⟩, ⟨e3, g3⟩, ⟨e4, g4⟩, ⟨e5, g5⟩⟩ := six_at S1.out
  go_wp2_with fail
  clear e0 g0 e1 g1 e2 g2 e3 g3 e4 g4 e5 g5
  go_loopw [38] (fun i wr => ∃ k : Nat, k ≤ nb ∧ i = .int .i64 (k : Int) ∧ Nw w1 wr) (fun i _ => nb - (intOf i).toNat)
  case atStart => exact ⟨0, by omega, rfl, Nw.refl _⟩
  case round =>
    obtain ⟨k, hk, rfl, hN⟩ := hrel
    have Nr := Lib.hid hN
    clear hN
    by_cases hlt : k < nb
    · obtain ⟨ms, hmk⟩ : ∃ ms, bs[k]? = some ms := ⟨bs[k]'(by rw [← Hn.out.1]; exact hlt), List.getElem?_eq_getElem _⟩
      obtain ⟨g, cap, a, c, hv, hcap, hmax, hgs, e1, own⟩ := ((H.out.bods.nw N1.out).nw Nr.out).at Hn.out.1 hmk
      cases hv
      have Own := Lib.hid (own.alloc (.cells #[.slice a ms.length c] 65 (0, 0)))
      have hbk := H.out.bok ms (List.mem_of_getElem? hmk)
      have Hbb := Lib.hid (show bodyB ms = true from (bodyB_iff ms).2 ⟨by omega, hbk.2⟩)
      have hml := hbk.1
      have N4 := Lib.hid (Nr.out.alloc (.cells #[.slice a ms.length c] 65 (0, 0)))
      unfold maxLen at hmax
      clear own hmk hbk
      go_wp2_with fail
      refine (specIsBody_fin ms ms.length base _ rfl (by omega) _ Own.out).mono ?_
      rintro e w5 ⟨rfl, n5⟩
      rw [Hbb.out]
      have N5 := Lib.hid (N4.out.trans n5)
      clear n5 e1
      go_wp2_with fail
      go_roundw
      case rel => exact ⟨k + 1, by omega, by rw [show ((k + 1 : Nat) : Int) = (k : Int) + 1 from by omega], N5.out⟩
      case measure => simp only [intOf]; omega
    · obtain rfl : k = nb := by omega
      obtain ⟨w2, hw2⟩ : ∃ w2, w2 = wr := ⟨_, rfl⟩
      subst hw2
      have S2 := Lib.hid (S1.out.nw Nr.out)
      have N2 := Lib.hid (N1.out.trans Nr.out)
      obtain ⟨⟨e0, g0⟩, ⟨e1, g1⟩, ⟨e2, g2⟩, ⟨e3, g3⟩, ⟨e4, g4⟩, ⟨e5, g5⟩⟩ := six_at S2.out
      go_wp2_with fail
      clear e0 g0 e1 g1 e2 g2 e3 g3 e4 g4 e5 g5
      go_loopw [49] (fun i wr => ∃ j : Nat, j ≤ ne ∧ i = .int .i64 (j : Int) ∧ Nw w2 wr) (fun i _ => ne - (intOf i).toNat)
      case atStart => exact ⟨0, by omega, rfl, Nw.refl _⟩
      case round =>
        obtain ⟨j, hj, rfl, hN⟩ := hrel
        have Nj := Lib.hid hN
        clear hN
        by_cases hlt2 : j < ne
        · obtain ⟨x, hxk⟩ : ∃ x, es[j]? = some x := ⟨es[j]'(by rw [← Hn.out.2]; exact hlt2), List.getElem?_eq_getElem _⟩
          have oe := own_nw (own_nw H.out.evs N2.out) Nj.out
          rw [← Hn.out.2] at oe
          obtain ⟨g, cap, hv, hcap, hmax, hgs, x0, x1, x2, x3, x4, x5⟩ := own_event oe Hn.out.2.symm hxk
          cases hv
          have He := Lib.hid (H.out.eok x (List.mem_of_getElem? hxk))
          obtain ⟨wd, hwd⟩ : ∃ wd, wd = wr.alloc (.cells #[.int .i64 x.t, .int .i64 x.k, .int .i64 x.b, .int .i64 x.s, .int .i64 x.m, .float .f32 x.f] 68 (0, 0)) := ⟨_, rfl⟩
          have Nd := Lib.hid (show Nw wr wd from by rw [hwd]; exact (Nw.refl wr).alloc _)
          have Bx := Lib.hid (show HasC wd wr.heap.size [.int .i64 x.t, .int .i64 x.k, .int .i64 x.b, .int .i64 x.s, .int .i64 x.m, .float .f32 x.f] from by rw [hwd]; exact HasC.new wr _ _ _ _ _ _ _)
          have Hwd := Lib.hid hwd
          unfold maxLen at hmax
          clear oe hxk hwd
          go_upto_region 14 with fail
          rw [← Hwd.out]
          clear Hwd x0 x1 x2 x3 x4 x5
          obtain ⟨⟨e0, g0⟩, ⟨e1, g1⟩, ⟨e2, g2⟩, ⟨e3, g3⟩, ⟨e4, g4⟩, ⟨e5, g5⟩⟩ := six_at ((S2.out.nw Nj.out).nw Nd.out)
          obtain ⟨⟨x0, -⟩, ⟨x1, -⟩, ⟨x2, -⟩, ⟨x3, -⟩, ⟨x4, -⟩, ⟨x5, -⟩⟩ := six_at Bx.out
          go_wp2_with fail
          refine (l7Event_v (L : Int) (V : Int) C R k L sa sc _ x (by rw [Hn.out.1]; exact He.out) (by omega) (by omega) _).mono ?_
          rintro e w5 ⟨rfl, n5⟩
          have N5 := Lib.hid ((Nj.out.trans Nd.out).trans n5)
          clear n5 e0 g0 e1 g1 e2 g2 e3 g3 e4 g4 e5 g5 x0 x1 x2 x3 x4 x5
          go_wp2_with fail
          go_roundw
          case rel => exact ⟨j + 1, by omega, by rw [show ((j + 1 : Nat) : Int) = (j : Int) + 1 from by omega], N5.out⟩
          case measure => simp only [intOf]; omega
        · obtain rfl : j = ne := by omega
          go_wp2_with fail
          go_ret
          exact ⟨rfl, N2.out.trans Nj.out⟩
end Go.Proofs.YtiakcibeobbonaaGreat
