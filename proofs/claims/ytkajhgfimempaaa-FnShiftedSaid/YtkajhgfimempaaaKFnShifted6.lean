/- Texts of a proof, put together: ScoM, PlayR, Same, First, Noise, FirstS, PlayP, PlayS.
   Conditions: those that each statement names. -/
import Derived.Test.YtkajhgfimempaaaKFnShifted5
import Derived.Deep.QuietTactic
/- The walk of MakeScore: a score that is valid, in memory of its own.
   Conditions: those that each statement names. -/
namespace Go.Proofs.Ytkajhgfimempaaa
set_option linter.unusedSimpArgs false
set_option linter.unusedVariables false
open Go Go.RowKit

def MadeSco (M : Nat) (w : World) (e : Ending) (w' : World) : Prop :=
  ∃ (L V C R : Nat) (bs : List (List M4)) (es : List Ev6) (sv ev : Value), e = .returned (.agg #[.int .i64 (L : Int), .int .i64 (V : Int), .float .f32 C, .float .f32 R, sv, ev]) ∧ L ≤ M ∧ ScoV w' w.heap.size L V C R bs es sv ev ∧ Nw w w'
theorem nw_six {w w' : World} {b : Nat} (h : Nw w w') (hb : w.heap.size ≤ b) (v0 v1 v2 v3 v4 v5 : Value) : Nw w ((((((w'.setCell ⟨b, 0, none⟩ v0).setCell ⟨b, 1, none⟩ v1).setCell ⟨b, 2, none⟩ v2).setCell ⟨b, 3, none⟩ v3).setCell ⟨b, 4, none⟩ v4).setCell ⟨b, 5, none⟩ v5) :=
  (((((h.set (p := ⟨b, 0, none⟩) hb _).set (p := ⟨b, 1, none⟩) hb _).set (p := ⟨b, 2, none⟩) hb _).set (p := ⟨b, 3, none⟩) hb _).set (p := ⟨b, 4, none⟩) hb _).set (p := ⟨b, 5, none⟩) hb _
theorem rows_six {w : World} {base b : Nat} {sv ev : Value} {bs : List (List M4)} {es : List Ev6} (h1 : BodsR w base sv bs) (h2 : w.ownsRow base 45 6 ev es.length (cellsE es)) (hb : b < base) (v0 v1 v2 v3 v4 v5 : Value) :
    BodsR ((((((w.setCell ⟨b, 0, none⟩ v0).setCell ⟨b, 1, none⟩ v1).setCell ⟨b, 2, none⟩ v2).setCell ⟨b, 3, none⟩ v3).setCell ⟨b, 4, none⟩ v4).setCell ⟨b, 5, none⟩ v5) base sv bs ∧
    ((((((w.setCell ⟨b, 0, none⟩ v0).setCell ⟨b, 1, none⟩ v1).setCell ⟨b, 2, none⟩ v2).setCell ⟨b, 3, none⟩ v3).setCell ⟨b, 4, none⟩ v4).setCell ⟨b, 5, none⟩ v5).ownsRow base 45 6 ev es.length (cellsE es) :=
  ⟨(((((h1.set (p := ⟨b, 0, none⟩) hb _).set (p := ⟨b, 1, none⟩) hb _).set (p := ⟨b, 2, none⟩) hb _).set (p := ⟨b, 3, none⟩) hb _).set (p := ⟨b, 4, none⟩) hb _).set (p := ⟨b, 5, none⟩) hb _,
   own_set (p := ⟨b, 5, none⟩) (own_set (p := ⟨b, 4, none⟩) (own_set (p := ⟨b, 3, none⟩) (own_set (p := ⟨b, 2, none⟩) (own_set (p := ⟨b, 1, none⟩) (own_set (p := ⟨b, 0, none⟩) h2 hb _) hb _) hb _) hb _) hb _) hb _⟩

set_option maxRecDepth 100000 in
set_option maxHeartbeats 1600000 in
theorem makeScore_any (a : Option Addr) (len cap M : Nat) (hM0 : 1 ≤ M) (hM : M ≤ 500) (w : World) (hb : Bys w.heap.size a len w) :
    Calls Try.prog 4 #[.slice a len cap, .int .i64 (M : Int)] w (MadeSco M w) := by
  have Hb := Lib.hid hb
  clear hb
  have hsz : ∀ o, (w.alloc o).heap.size = w.heap.size + 1 := fun o => by simp
  have Hsz := Lib.hid hsz
  clear hsz
  go_enter Try.func4, Try.ntmps4
  go_wp2_with fail
  refine (l01New_any _ _ _ _ ((Hb.out.below ((Below.refl _ _).alloc (Nat.le_refl _) _)).mono (by simp))).mono ?_
  rintro e w1 ⟨rfl, hat⟩
  rw [Hsz.out] at hat
  have Hr1 := Lib.hid ((HasC.new w 27 (.int .i64 0) (.int .i64 0) (.float .f32 0) (.float .f32 0) (.slice none 0 0) (.slice none 0 0)).kp hat.2 (by omega))
  have Hn1 := Lib.hid ((((Nw.refl w).alloc (.cells #[.int .i64 0, .int .i64 0, .float .f32 0, .float .f32 0, .slice none 0 0, .slice none 0 0] 27 (0, 0))).trans (hat.2.nw (by simp))))
  have Hat := Lib.hid hat
  clear hat
  have hmin : min (M : Int) 500 = M := by omega
  have hmax : max 0 (M : Int) = M := by omega
  go_wp2_with fail
  refine (l7Score_at _ _ _ _ _ _ M hM _ Hat.out.here).mono ?_
  rintro e w2 ⟨L, V, C, R, bs, es, sv, ev, rfl, k1, k2, k3, k4, k5, k6, k7, k8, k9, hbods, hevs, hc2⟩
  have Hr2 := Lib.hid (Hr1.out.kp hc2.2 (by omega))
  have Hn2 := Lib.hid (show Nw w w2 from ⟨hc2.2.os.trans Hn1.out.os, hc2.2.tape.trans Hn1.out.tape, hc2.2.output.trans Hn1.out.output, Nat.le_trans Hn1.out.size hc2.2.size,
    fun k hk hne => (hc2.2.block k (Nat.lt_of_lt_of_le hk Hn1.out.size) (fun e => by cases e; omega)).trans (Hn1.out.block k hk hne)⟩)
  have hs1 : w.heap.size + 1 ≤ w1.heap.size := by have := Hat.out.2.size; rw [Hsz.out] at this; exact this
  obtain ⟨sa, sc, rfl⟩ := hbods.shape
  obtain ⟨ea, ec, rfl⟩ := own_shape' hevs
  obtain ⟨z1, z2⟩ := rows_six hbods hevs (b := w.heap.size) (by omega) (.int .i64 (L : Int)) (.int .i64 (V : Int)) (.float .f32 C) (.float .f32 R) (.slice sa bs.length sc) (.slice ea es.length ec)
  have hfin : MadeSco M w (.returned (.agg #[.int .i64 (L : Int), .int .i64 (V : Int), .float .f32 C, .float .f32 R, .slice sa bs.length sc, .slice ea es.length ec])) _ :=
    ⟨L, V, C, R, bs, es, _, _, rfl, k1, ⟨by omega, ⟨k2, k3⟩, k4, k5, k6, k7, k8, k9, z1.base (by omega), own_base z2 (by omega)⟩, nw_six Hn2.out (Nat.le_refl _) _ _ _ _ _ _⟩
  have Hfin := Lib.hid hfin
  clear hc2 hfin z1 z2 hbods hevs k4 k5 k8 k9
  obtain ⟨⟨r0, f0⟩, ⟨r1, f1⟩, ⟨r2, f2⟩, ⟨r3, f3⟩, ⟨r4, f4⟩, ⟨r5, f5⟩⟩ := six_at Hr2.out
  go_wp2_with fail
  exact bodyPost_ret (v := .agg #[.int .i64 (L : Int), .int .i64 (V : Int), .float .f32 C, .float .f32 R, .slice sa bs.length sc, .slice ea es.length ec]) (by simp [results, Try.results4, go_sem, r0, r1, r2, r3, r4, r5, f0]) rfl Hfin.out

end Go.Proofs.Ytkajhgfimempaaa

/- A score is copied and shifted: copyScore, ShiftScore (FnShifted).
   Conditions: those that each statement names. -/
namespace Go.Proofs.Ytkajhgfimempaaa
set_option linter.unusedSimpArgs false
set_option linter.unusedVariables false
open Go Go.RowKit

def CpsP (L V C R : Nat) (bs : List (List M4)) (es : List Ev6) (w : World) (e : Ending) (w' : World) : Prop :=
  ∃ (sv ev : Value), e = .returned (.agg #[.int .i64 (L : Int), .int .i64 (V : Int), .float .f32 C, .float .f32 R, sv, ev]) ∧ BodsR w' w.heap.size sv bs ∧ w'.ownsRow w.heap.size 45 6 ev es.length (cellsE es) ∧ Nw w w'
set_option maxHeartbeats 6400000 in
set_option maxRecDepth 100000 in
theorem copyScore_ok (base L V C R : Nat) (bs : List (List M4)) (es : List Ev6) (sv ev : Value) (w : World) (h : ScoV w base L V C R bs es sv ev) :
    Calls Try.prog 14 #[.agg #[.int .i64 (L : Int), .int .i64 (V : Int), .float .f32 C, .float .f32 R, sv, ev]] w (CpsP L V C R bs es w) := by
  obtain ⟨nb, hnb⟩ : ∃ nb, nb = bs.length := ⟨_, rfl⟩
  obtain ⟨ne, hne⟩ : ∃ ne, ne = es.length := ⟨_, rfl⟩
  obtain ⟨⟨sa, sc, rfl⟩, ea, ec, rfl⟩ := h.shape
  obtain ⟨j0, hj, hjz0, hjz1, hjz2⟩ := info_parts info_body
  have hb3 := h.hb
  have he13 := h.he
  rw [← hnb] at hb3
  rw [← hne] at he13
  rw [← hnb, ← hne] at h ⊢
  have H := Lib.hid h
  have Hn := Lib.hid (And.intro hnb hne)
  have hA : ∀ (w : World) o, (w.alloc o).heap.size = w.heap.size + 1 := fun w o => by simp
  obtain ⟨w1, hw1⟩ : ∃ w1, w1 = w.alloc (.cells #[.int .i64 (L : Int), .int .i64 (V : Int), .float .f32 C, .float .f32 R, .slice sa nb sc, .slice ea ne ec] 27 (0, 0)) := ⟨_, rfl⟩
  obtain ⟨w2, hw2⟩ : ∃ w2, w2 = w1.alloc (.cells #[.int .i64 0, .int .i64 0, .float .f32 0, .float .f32 0, .slice none 0 0, .slice none 0 0] 27 (0, 0)) := ⟨_, rfl⟩
  obtain ⟨w3, hw3⟩ : ∃ w3, w3 = w2.alloc (.cells #[.int .i64 (L : Int), .int .i64 (V : Int), .float .f32 C, .float .f32 R, .slice sa nb sc, .slice ea ne ec] 27 (0, 0)) := ⟨_, rfl⟩
  have s1 : w1.heap.size = w.heap.size + 1 := by rw [hw1, hA]
  have s2 : w2.heap.size = w.heap.size + 2 := by rw [hw2, hA, s1]
  have s3 : w3.heap.size = w.heap.size + 3 := by rw [hw3, hA, s2]
  have n3 : Nw w w3 := by rw [hw3, hw2, hw1]; exact (((Nw.refl w).alloc _).alloc _).alloc _
  have x1 : HasC w3 w.heap.size [.int .i64 (L : Int), .int .i64 (V : Int), .float .f32 C, .float .f32 R, .slice sa nb sc, .slice ea ne ec] := by
    rw [hw3, hw2, hw1]; exact ((HasC.new w _ _ _ _ _ _ _).alloc _).alloc _
  have x2 : HasC w3 (w.heap.size + 1) [.int .i64 0, .int .i64 0, .float .f32 0, .float .f32 0, .slice none 0 0, .slice none 0 0] := by
    rw [hw3, hw2, ← s1]; exact (HasC.new w1 _ _ _ _ _ _ _).alloc _
  have x3 : HasC w3 (w.heap.size + 2) [.int .i64 (L : Int), .int .i64 (V : Int), .float .f32 C, .float .f32 R, .slice sa nb sc, .slice ea ne ec] := by
    rw [hw3, ← s2]; exact HasC.new w2 _ _ _ _ _ _ _
  have N3 := Lib.hid n3
  have X1 := Lib.hid x1
  have X2 := Lib.hid x2
  have X3 := Lib.hid x3
  have Hw := Lib.hid (And.intro hw1 (And.intro hw2 hw3))
  have S3 := Lib.hid (And.intro s1 (And.intro s2 s3))
  clear h hnb hne hw1 hw2 hw3 s1 s2 s3 n3 x1 x2 x3 hA
  go_enter Try.func14, Try.ntmps14
  go_upto_region 2 with fail
  rw [← Hw.out.1, ← Hw.out.2.1, ← Hw.out.2.2, show w.heap.size + 1 + 1 = w.heap.size + 2 from rfl]
  obtain ⟨⟨e0, g0⟩, ⟨e1, g1⟩, ⟨e2, g2⟩, ⟨e3, g3⟩, ⟨e4, g4⟩, ⟨e5, g5⟩⟩ := six_at X1.out
  go_wp2_with (at_make; refine wpList_make_full _ rfl _ _ 24 rfl (w.heap.size + 3) 55 j0 (.agg #[.slice none 0 0]) 1 Try.underlying24 hj hjz0 hjz1 _ _ _ _ nb rfl rfl rfl rfl (by rw [hjz2]; omega) (by unfold maxLen; omega) (by have := S3.out.2.2; omega) ?_)
  intro w4 hown4 hgrow4
  rw [S3.out.2.2] at hown4 ⊢
  have R4 := Lib.hid (show w4.ownsRow (w.heap.size + 3) 55 1 (.slice (some ⟨w.heap.size + 3, 0, none⟩) nb nb) nb (List.replicate nb (.slice none 0 0)) from by
    have h : w4.ownsRow (w.heap.size + 3) 55 1 (.slice (some ⟨w.heap.size + 3, 0, none⟩) nb nb) nb (madeCells #[Value.slice none 0 0] nb).toList := hown4
    rw [toList_madeCells_one] at h
    exact h)
  have N4 := Lib.hid (show Nw w3 w4 from hgrow4)
  obtain ⟨⟨e0, g0⟩, ⟨e1, g1⟩, ⟨e2, g2⟩, ⟨e3, g3⟩, ⟨e4, g4⟩, ⟨e5, g5⟩⟩ := six_at (X3.out.nw N4.out)
  clear hown4 hgrow4
  go_upto_region 3 with fail
  obtain ⟨w5, hw5⟩ : ∃ w5, w5 = w4.setCell ⟨w.heap.size + 2, 4, none⟩ (.slice (some ⟨w.heap.size + 3, 0, none⟩) nb nb) := ⟨_, rfl⟩
  have Rw := Lib.hid (show w5.ownsRow (w.heap.size + 3) 55 1 (.slice (some ⟨w.heap.size + 3, 0, none⟩) nb nb) nb (List.replicate nb (.slice none 0 0)) from by rw [hw5]; exact own_set (p := ⟨w.heap.size + 2, 4, none⟩) R4.out (by show w.heap.size + 2 < w.heap.size + 3; omega) _)
  have K5 := Lib.hid (show HasC w5 (w.heap.size + 2) [.int .i64 (L : Int), .int .i64 (V : Int), .float .f32 C, .float .f32 R, .slice (some ⟨w.heap.size + 3, 0, none⟩) nb nb, .slice ea ne ec] from by rw [hw5]; exact (X3.out.nw N4.out).set 4 _)
  have X5 := Lib.hid (show HasC w5 w.heap.size [.int .i64 (L : Int), .int .i64 (V : Int), .float .f32 C, .float .f32 R, .slice sa nb sc, .slice ea ne ec] from by rw [hw5]; exact (X1.out.nw N4.out).sete (p := ⟨w.heap.size + 2, 4, none⟩) (by show w.heap.size + 2 ≠ w.heap.size; omega) _)
  have Z5 := Lib.hid (show HasC w5 (w.heap.size + 1) [.int .i64 0, .int .i64 0, .float .f32 0, .float .f32 0, .slice none 0 0, .slice none 0 0] from by rw [hw5]; exact (X2.out.nw N4.out).sete (p := ⟨w.heap.size + 2, 4, none⟩) (by show w.heap.size + 2 ≠ w.heap.size + 1; omega) _)
  have N5 := Lib.hid (show Nw w w5 from by rw [hw5]; exact (N3.out.trans N4.out).set (p := ⟨w.heap.size + 2, 4, none⟩) (by show w.heap.size ≤ w.heap.size + 2; omega) _)
  rw [← hw5]
  clear hw5 R4 N4 e0 g0 e1 g1 e2 g2 e3 g3 e4 g4 e5 g5 X1 X2 X3 N3 Hw
  obtain ⟨⟨e0, g0⟩, ⟨e1, g1⟩, ⟨e2, g2⟩, ⟨e3, g3⟩, ⟨e4, g4⟩, ⟨e5, g5⟩⟩ := six_at X5.out
  go_wp2_with fail
  clear e0 g0 e1 g1 e2 g2 e3 g3 e4 g4 e5 g5
  go_loopw [15] (fun c wr => ∃ (k : Nat) (vs : List Value), k ≤ nb ∧ c = .int .i64 (k : Int) ∧ wr.ownsRow (w.heap.size + 3) 55 1 (.slice (some ⟨w.heap.size + 3, 0, none⟩) nb nb) nb vs ∧ (∀ (p : Nat) ms, p < k → bs[p]? = some ms → ∃ v, vs[p]? = some v ∧ wr.ownsRow (w.heap.size + 3) 66 2 v ms.length (cellsM ms)) ∧
    (∀ (p : Nat), k ≤ p → p < nb → vs[p]? = some (.slice none 0 0)) ∧ HasC wr (w.heap.size + 2) [.int .i64 (L : Int), .int .i64 (V : Int), .float .f32 C, .float .f32 R, .slice (some ⟨w.heap.size + 3, 0, none⟩) nb nb, .slice ea ne ec] ∧ HasC wr w.heap.size [.int .i64 (L : Int), .int .i64 (V : Int), .float .f32 C, .float .f32 R, .slice sa nb sc, .slice ea ne ec] ∧ HasC wr (w.heap.size + 1) [.int .i64 0, .int .i64 0, .float .f32 0, .float .f32 0, .slice none 0 0, .slice none 0 0] ∧ Nw w wr) (fun c _ => nb - (intOf c).toNat)
  case atStart => exact ⟨0, _, by omega, rfl, Rw.out, fun p ms h => by omega, fun p _ h => by rw [List.getElem?_replicate]; simp [h], K5.out, X5.out, Z5.out, N5.out⟩
  case round =>
    obtain ⟨k, vs, hk, rfl, hR, hM, hV, hK, hX, hZ, hN⟩ := hrel
    have Rr := Lib.hid hR
    have Mr := Lib.hid hM
    have Vr := Lib.hid hV
    have Kr := Lib.hid hK
    have Xr := Lib.hid hX
    have Zr := Lib.hid hZ
    have Nr := Lib.hid hN
    clear hR hM hV hK hX hZ hN Rw K5 X5 Z5 N5
    by_cases hlt : k < nb
    · obtain ⟨ms, hms⟩ : ∃ ms, bs[k]? = some ms := ⟨bs[k]'(by rw [← Hn.out.1]; exact hlt), List.getElem?_eq_getElem _⟩
      have hml : ms.length ≤ 4 := (H.out.bok ms (List.mem_of_getElem? hms)).1
      obtain ⟨sg, scap, ma, mc, hsv, hs1, hs2, hs3, hsc, hso⟩ := (H.out.bods.nw Nr.out).at Hn.out.1 hms
      cases hsv
      have vk := Vr.out k (Nat.le_refl _) hlt
      have Mo' := Lib.hid hso
      have Hms := Lib.hid hms
      have hlw : w.heap.size < wr.heap.size := Xr.out.1
      have hlk : w.heap.size + 2 < wr.heap.size := Kr.out.1
      have hrw : w.heap.size + 3 < wr.heap.size := (Rr.out.lt _ rfl).2
      obtain ⟨wd, hwd⟩ : ∃ wd, wd = wr.alloc (.cells #[.slice ma ms.length mc] 55 (0, 0)) := ⟨_, rfl⟩
      have Na := Lib.hid (show Nw wr wd from by rw [hwd]; exact (Nw.refl wr).alloc _)
      have B4 := Lib.hid (show Has1 wd wr.heap.size (.slice ma ms.length mc) from by rw [hwd]; exact Has1.new wr _ _)
      have Hwd := Lib.hid hwd
      clear hso hms hwd
      go_upto_region 6 with fail
      rw [← Hwd.out]
      clear hsc Hwd
      have R4 := Lib.hid (own_nw Rr.out Na.out)
      have K4 := Lib.hid (Kr.out.nw Na.out)
      have Mo := Lib.hid (own_nw Mo'.out Na.out)
      have KeepS := Lib.hid (show ∀ W', HasC W' (w.heap.size + 2) [.int .i64 (L : Int), .int .i64 (V : Int), .float .f32 C, .float .f32 R, .slice (some ⟨w.heap.size + 3, 0, none⟩) nb nb, .slice ea ne ec] → Has1 W' wr.heap.size (.slice ma ms.length mc) → W'.cell? ⟨w.heap.size + 2, 4, none⟩ = some (.slice (some ⟨w.heap.size + 3, 0, none⟩) nb nb) ∧ W'.cell? ⟨wr.heap.size, 0, none⟩ = some (.slice ma ms.length mc) from fun W' h1 h2 => ⟨(h1.2 4 _ rfl).1, h2.2.1⟩)
      refine wp_region_held_drew (S := fun W' => W'.cell? ⟨w.heap.size + 2, 4, none⟩ = some (.slice (some ⟨w.heap.size + 3, 0, none⟩) nb nb) ∧ W'.cell? ⟨wr.heap.size, 0, none⟩ = some (.slice ma ms.length mc)) (by kernel_rfl) (KeepS.out _ (K4.out.nw ((Nw.refl wd).draw 1)) (B4.out.nw ((Nw.refl wd).draw 1))) (fun hHeld => ?_)
      refine wpAnyH_take (i := 0) (oi := _) (v := ?_) rfl (by kernel_rfl) (by kernel_rfl) (by kernel_rfl) (fun _ _ _ h => h) (_root_.Or.inl ⟨by rfl, ?_⟩) (by assumption) ?_
      rotate_left
      · intro w hSw
        (try dsimp only at hSw)
        go_simp
        all_goals with_reducible rfl
      try simp only [List.getElem_toArray, List.getElem_cons_succ, List.getElem_cons_zero, Act.put, List.setIfInBounds_toArray, List.set_cons_zero, List.set_cons_succ]
      refine wpAnyH_take (i := 1) (oi := _) (v := ?_) rfl (by kernel_rfl) (by kernel_rfl) (by kernel_rfl) (fun _ _ _ h => h) (_root_.Or.inl ⟨by rfl, ?_⟩) (by assumption) ?_
      rotate_left
      · intro w hSw
        (try dsimp only at hSw)
        go_simp
        all_goals with_reducible rfl
      try simp only [List.getElem_toArray, List.getElem_cons_succ, List.getElem_cons_zero, Act.put, List.setIfInBounds_toArray, List.set_cons_zero, List.set_cons_succ]
      refine wpAnyH_take (i := 2) (oi := _) (v := ?_) rfl (by kernel_rfl) (by kernel_rfl) (by kernel_rfl) (fun _ _ _ h => h) (_root_.Or.inl ⟨by rfl, ?_⟩) (by assumption) ?_
      rotate_left
      · intro w hSw
        (try dsimp only at hSw)
        go_simp
        all_goals with_reducible rfl
      try simp only [List.getElem_toArray, List.getElem_cons_succ, List.getElem_cons_zero, Act.put, List.setIfInBounds_toArray, List.set_cons_zero, List.set_cons_succ]
      refine wpAnyH_take (i := 3) (oi := _) (v := ?_) rfl (by kernel_rfl) (by kernel_rfl) (by kernel_rfl) (fun _ _ _ h => h) (_root_.Or.inl ⟨by rfl, ?_⟩) (by assumption) ?_
      rotate_left
      · intro w hSw
        (try dsimp only at hSw)
        go_simp
        all_goals with_reducible rfl
      try simp only [List.getElem_toArray, List.getElem_cons_succ, List.getElem_cons_zero, Act.put, List.setIfInBounds_toArray, List.set_cons_zero, List.set_cons_succ]
      refine wpAnyH_take (i := 4) (oi := _) (v := ?_) rfl (by kernel_rfl) (by kernel_rfl) (by kernel_rfl) (fun _ _ _ h => h) (_root_.Or.inl ⟨by rfl, ?_⟩) (by assumption) ?_
      rotate_left
      · intro w hSw
        (try dsimp only at hSw)
        go_simp
        all_goals with_reducible rfl
      try simp only [List.getElem_toArray, List.getElem_cons_succ, List.getElem_cons_zero, Act.put, List.setIfInBounds_toArray, List.set_cons_zero, List.set_cons_succ]
      refine wpAnyH_ready (rs := [5]) (by kernel_rfl) (by simp) ?_
      refine AllReadyH.cons (o := _) rfl (fun K hK => ?_) AllReadyH.nil
      go_simp
      go_at_call 26
      refine (clone_modes ms ms.length base (.slice ma ms.length mc) rfl (by omega) _ (own_nw Mo.out ((Nw.refl wd).draw 1))).mono ?_
      rintro e w5 ⟨v5, rfl, o5, d⟩
      obtain ⟨v5a, v5c, rfl⟩ := own_shape' o5
      have M5 := Lib.hid (((Nw.refl wd).draw 1).trans d)
      have O5 := Lib.hid (own_base o5 (show w.heap.size + 3 ≤ wd.drew.heap.size from by have := K4.out.1; show w.heap.size + 3 ≤ wd.heap.size; omega))
      clear d o5 hHeld
      go_wp2_with fail
      refine hK.out _ _ ?_ (fun hHeld => ?_)
      · exact KeepS.out _ (K4.out.nw M5.out) (B4.out.nw M5.out)
      clear hK K
      try simp only [List.getElem_toArray, List.getElem_cons_succ, List.getElem_cons_zero, Act.put, List.setIfInBounds_toArray, List.set_cons_zero, List.set_cons_succ]
      refine wpAnyH_take (i := 6) (oi := _) (v := ?_) rfl (by kernel_rfl) (by kernel_rfl) (by kernel_rfl) (fun _ _ _ h => h) (_root_.Or.inl ⟨by rfl, ?_⟩) (by assumption) ?_
      rotate_left
      · intro w hSw
        (try dsimp only at hSw)
        go_simp
        all_goals with_reducible rfl
      try simp only [List.getElem_toArray, List.getElem_cons_succ, List.getElem_cons_zero, Act.put, List.setIfInBounds_toArray, List.set_cons_zero, List.set_cons_succ]
      refine wpAnyH_take (i := 7) (oi := _) (v := ?_) rfl (by kernel_rfl) (by kernel_rfl) (by kernel_rfl) (fun _ _ _ h => h) (_root_.Or.inl ⟨by rfl, ?_⟩) (by assumption) ?_
      rotate_left
      · intro w hSw
        (try dsimp only at hSw)
        go_simp
        all_goals with_reducible rfl
      try simp only [List.getElem_toArray, List.getElem_cons_succ, List.getElem_cons_zero, Act.put, List.setIfInBounds_toArray, List.set_cons_zero, List.set_cons_succ]
      refine wpAnyH_ready (rs := [8]) (by kernel_rfl) (by simp) ?_
      refine AllReadyH.cons (o := _) rfl (fun K hK => ?_) AllReadyH.nil
      have R5 := Lib.hid (own_nw R4.out M5.out)
      have t5 := R5.out.cellAt k (by omega)
      rw [vk] at t5
      have f5 := R5.out.frozenAt k
      have hr5 : w.heap.size + 3 < w5.heap.size := (R5.out.lt _ rfl).2
      obtain ⟨s1, s2⟩ := R5.out.stored k (.slice v5a ms.length v5c)
      have S1 := Lib.hid (And.intro s1 s2)
      clear s1 s2
      go_simp
      clear t5 f5
      refine hK.out _ _ ?_ (fun hHeld => ?_)
      · exact KeepS.out _ ((K4.out.nw M5.out).sete (p := ⟨w.heap.size + 3, k, none⟩) (by show w.heap.size + 3 ≠ w.heap.size + 2; omega) _) ((B4.out.nw M5.out).set (p := ⟨w.heap.size + 3, k, none⟩) (by show w.heap.size + 3 ≠ wr.heap.size; omega) _)
      clear hK K hHeld
      try simp only [List.getElem_toArray, List.getElem_cons_succ, List.getElem_cons_zero, Act.put, List.setIfInBounds_toArray, List.set_cons_zero, List.set_cons_succ]
      refine wpAnyH_done (by kernel_rfl) ?_ _
      have Nf := Lib.hid ((Na.out.trans M5.out))
      have Kf := Lib.hid ((K4.out.nw M5.out).sete (p := ⟨w.heap.size + 3, k, none⟩) (by show w.heap.size + 3 ≠ w.heap.size + 2; omega) (.slice v5a ms.length v5c))
      have Xf := Lib.hid ((Xr.out.nw Nf.out).sete (p := ⟨w.heap.size + 3, k, none⟩) (by show w.heap.size + 3 ≠ w.heap.size; omega) (.slice v5a ms.length v5c))
      have Zf := Lib.hid ((Zr.out.nw Nf.out).sete (p := ⟨w.heap.size + 3, k, none⟩) (by show w.heap.size + 3 ≠ w.heap.size + 1; omega) (.slice v5a ms.length v5c))
      have Nz := Lib.hid ((Nr.out.trans Nf.out).set (p := ⟨w.heap.size + 3, k, none⟩) (by show w.heap.size ≤ w.heap.size + 3; omega) (.slice v5a ms.length v5c))
      go_wp2_with fail
      go_roundw
      case rel =>
        refine ⟨k + 1, vs.set k (.slice v5a ms.length v5c), by omega, by rw [show ((k + 1 : Nat) : Int) = (k : Int) + 1 from by omega], S1.out.1, fun p ms' hp hpm => ?_, fun p hp1 hp2 => ?_, Kf.out, Xf.out, Zf.out, Nz.out⟩
        · by_cases hpk : p = k
          · subst hpk
            rw [Hms.out] at hpm
            cases hpm
            have hvl : p < vs.length := (List.getElem?_eq_some_iff.1 vk).1
            exact ⟨_, List.getElem?_set_self hvl, O5.out.kept S1.out.2 (rows_apart O5.out R5.out (by decide))⟩
          · obtain ⟨v, hv1, hv2⟩ := Mr.out p ms' (by omega) hpm
            have hv3 := own_nw hv2 Nf.out
            exact ⟨v, by rw [List.getElem?_set_ne (by omega)]; exact hv1, hv3.kept S1.out.2 (rows_apart hv3 R5.out (by decide))⟩
        · rw [List.getElem?_set_ne (by omega)]
          exact Vr.out p (by omega) hp2
      case measure => simp only [intOf]; omega
    · obtain rfl : k = nb := by omega
      obtain ⟨⟨e0, g0⟩, ⟨e1, g1⟩, ⟨e2, g2⟩, ⟨e3, g3⟩, ⟨e4, g4⟩, ⟨e5, g5⟩⟩ := six_at Xr.out
      have Bd := Lib.hid (show BodsR wr (w.heap.size + 3) (.slice (some ⟨w.heap.size + 3, 0, none⟩) k k) bs from ⟨vs, by have o := Rr.out; rw [Hn.out.1] at o ⊢; exact o, fun p ms hp => Mr.out p ms (by have := (List.getElem?_eq_some_iff.1 hp).1; rw [Hn.out.1]; exact this) hp⟩)
      go_wp2_with fail
      refine (clone_events es ne base _ Hn.out.2.symm (by omega) _ (by have o := own_nw H.out.evs Nr.out; rwa [← Hn.out.2] at o)).mono ?_
      rintro e w6 ⟨v6, rfl, o6, n6⟩
      rw [← Hn.out.2] at o6
      obtain ⟨va, vc, rfl⟩ := own_shape' o6
      have N6 := Lib.hid n6
      have O6 := Lib.hid (own_base o6 (show w.heap.size + 3 ≤ wr.heap.size from by have := Kr.out.1; omega))
      clear n6 o6 e0 g0 e1 g1 e2 g2 e3 g3 e4 g4 e5 g5
      have K6 := Lib.hid ((Kr.out.nw N6.out).set 5 (.slice va ne vc))
      obtain ⟨⟨e0, g0⟩, ⟨e1, g1⟩, ⟨e2, g2⟩, ⟨e3, g3⟩, ⟨e4, g4⟩, ⟨e5, g5⟩⟩ := six_at (Kr.out.nw N6.out)
      have B6 := Lib.hid ((Bd.out.nw N6.out).set (p := ⟨w.heap.size + 2, 5, none⟩) (by show w.heap.size + 2 < w.heap.size + 3; omega) (.slice va ne vc))
      have E6 := Lib.hid (own_set (p := ⟨w.heap.size + 2, 5, none⟩) O6.out (by show w.heap.size + 2 < w.heap.size + 3; omega) (.slice va ne vc))
      have Z6 := Lib.hid ((Zr.out.nw N6.out).sete (p := ⟨w.heap.size + 2, 5, none⟩) (by show w.heap.size + 2 ≠ w.heap.size + 1; omega) (.slice va ne vc))
      have Nz := Lib.hid ((Nr.out.trans N6.out).set (p := ⟨w.heap.size + 2, 5, none⟩) (by show w.heap.size ≤ w.heap.size + 2; omega) (.slice va ne vc))
      go_upto_region 9 with fail
      obtain ⟨w7, hw7⟩ : ∃ w7, w7 = w6.setCell ⟨w.heap.size + 2, 5, none⟩ (.slice va ne vc) := ⟨_, rfl⟩
      rw [← hw7] at K6 B6 E6 Z6 Nz ⊢
      clear hw7 e0 g0 e1 g1 e2 g2 e3 g3 e4 g4 e5 g5
      obtain ⟨⟨e0, -⟩, ⟨e1, -⟩, ⟨e2, -⟩, ⟨e3, -⟩, ⟨e4, -⟩, ⟨e5, -⟩⟩ := six_at K6.out
      obtain ⟨⟨r0, f0⟩, ⟨r1, f1⟩, ⟨r2, f2⟩, ⟨r3, f3⟩, ⟨r4, f4⟩, ⟨r5, f5⟩⟩ := six_at Z6.out
      have Fin := Lib.hid (rows_six B6.out (by rw [← Hn.out.2]; exact E6.out) (b := w.heap.size + 1) (by omega) (.int .i64 (L : Int)) (.int .i64 (V : Int)) (.float .f32 C) (.float .f32 R) (.slice (some ⟨w.heap.size + 3, 0, none⟩) k k) (.slice va ne vc))
      have Nfin := Lib.hid (nw_six Nz.out (b := w.heap.size + 1) (by omega) (.int .i64 (L : Int)) (.int .i64 (V : Int)) (.float .f32 C) (.float .f32 R) (.slice (some ⟨w.heap.size + 3, 0, none⟩) k k) (.slice va ne vc))
      go_wp2_with fail
      exact bodyPost_ret (v := .agg #[.int .i64 (L : Int), .int .i64 (V : Int), .float .f32 C, .float .f32 R, .slice (some ⟨w.heap.size + 3, 0, none⟩) k k, .slice va ne vc]) (by simp [results, Try.results14, go_sem, r0, r1, r2, r3, r4, r5, f0]) rfl
        ⟨_, _, rfl, Fin.out.1.base (by omega), own_base Fin.out.2 (by omega), Nfin.out⟩

/-! ### a score is shifted -/
/-- a box that is a score -/
def ScX (w : World) (b : Nat) : Prop := ∃ cs f, w.heap[b]? = some (.cells cs 27 f)
theorem ScX.new (w : World) (cs : Array Value) : ScX (w.alloc (.cells cs 27 (0, 0))) w.heap.size := ⟨cs, (0, 0), by show (w.heap.push _)[w.heap.size]? = _; simp⟩
theorem ScX.of {w w' : World} {b : Nat} (h : ScX w b) (hb : w'.heap[b]? = w.heap[b]?) : ScX w' b := by
  obtain ⟨cs, f, e⟩ := h
  exact ⟨cs, f, by rw [hb, e]⟩
theorem ScX.lt {w : World} {b : Nat} (h : ScX w b) : b < w.heap.size := by
  obtain ⟨cs, f, e⟩ := h
  exact (Array.getElem?_eq_some_iff.1 e).1
theorem ScX.nw {w w' : World} {b : Nat} (h : ScX w b) (k : Nw w w') : ScX w' b := h.of (k.block b h.lt (by simp))
theorem ScX.set {w : World} {b : Nat} (h : ScX w b) (c o : Nat) (u : Value) : ScX (w.setCell ⟨c, o, none⟩ u) b := by
  by_cases e : c = b
  · subst e
    obtain ⟨cs, f, e⟩ := h
    refine ⟨cs.setIfInBounds o u, f, ?_⟩
    simp [World.setCell, Array.getElem?_modify, e]
  · exact h.of (Below.heap_setCell _ _ _ _ (fun h => e h.symm))
theorem own_scx {w : World} {base : Nat} {E : TypeId} {size n c : Nat} {v : Value} {xs : List Value} (h : w.ownsRow base E size v n xs) (hB : ScX w c) (hE : E ≠ 27) : v.ownBlock = none ∨ v.ownBlock ≠ some c := by
  obtain ⟨cs, f, e⟩ := hB
  rcases h.2 with ⟨rfl, _⟩ | ⟨g, cap, cur, rfl, hb, hg, _⟩
  · exact .inl rfl
  · right
    intro e2
    simp [Value.ownBlock] at e2
    subst e2
    rw [hg] at e
    injection e with e
    injection e with e1 e2 e3
    exact hE e2
theorem ScX.grown {w w' : World} {base : Nat} {E : TypeId} {size n b : Nat} {v : Value} {xs : List Value} (h : ScX w b) (ho : w.ownsRow base E size v n xs) (hE : E ≠ 27) (hg : w.grownBy w' v.ownBlock) : ScX w' b :=
  h.of (hg.block b h.lt (fun e => by rcases own_scx ho h hE with h2 | h2; rw [h2] at e; cases e; exact h2 e.symm))
theorem own_sets {w : World} {base : Nat} {E : TypeId} {size n c : Nat} {v : Value} {xs : List Value} (h : w.ownsRow base E size v n xs) (hB : ScX w c) (hE : E ≠ 27) (o : Nat) (u : Value) : (w.setCell ⟨c, o, none⟩ u).ownsRow base E size v n xs :=
  h.kept ((Kp.refl c w).set o u) (own_scx h hB hE)

theorem BodsR.sets {w : World} {base c : Nat} {sv : Value} {bs : List (List M4)} (h : BodsR w base sv bs) (hB : ScX w c) (o : Nat) (u : Value) : BodsR (w.setCell ⟨c, o, none⟩ u) base sv bs := by
  obtain ⟨vs, k1, k2⟩ := h
  exact ⟨vs, own_sets k1 hB (by decide) o u, fun p r hp => by obtain ⟨v, a, b⟩ := k2 p r hp; exact ⟨v, a, own_sets b hB (by decide) o u⟩⟩

def lateL (by' : Nat) (es : List Ev6) (k : Nat) : List Ev6 := (es.take k).map (Ev6.late by') ++ es.drop k
theorem lateL_len (by' : Nat) (es : List Ev6) (k : Nat) : (lateL by' es k).length = es.length := by simp [lateL]; omega
theorem lateL_zero (by' : Nat) (es : List Ev6) : lateL by' es 0 = es := by simp [lateL]
theorem lateL_full (by' : Nat) (es : List Ev6) (n : Nat) (h : n = es.length) : lateL by' es n = es.map (Ev6.late by') := by
  subst h
  simp [lateL]
theorem lateL_at (by' : Nat) (es : List Ev6) (k : Nat) (e : Ev6) (h : es[k]? = some e) : (lateL by' es k)[k]? = some e := by
  obtain ⟨hk, he⟩ := List.getElem?_eq_some_iff.1 h
  unfold lateL
  rw [List.getElem?_append_right (by simp; omega)]
  simp only [List.length_map, List.length_take, Nat.min_eq_left (Nat.le_of_lt hk), Nat.sub_self, List.getElem?_drop, Nat.add_zero, h]
theorem lateL_set (by' : Nat) (es : List Ev6) (k : Nat) (e : Ev6) (h : es[k]? = some e) : (lateL by' es k).set k (e.late by') = lateL by' es (k + 1) := by
  obtain ⟨hk, he⟩ := List.getElem?_eq_some_iff.1 h
  unfold lateL
  rw [List.take_succ_eq_append_getElem hk, he, List.drop_eq_getElem_cons hk, he, List.set_append_right _ _ (by simp; omega)]
  simp [Nat.min_eq_left (Nat.le_of_lt hk)]
theorem cellsE_set : ∀ (l : List Ev6) (k : Nat) (e e' : Ev6), l[k]? = some e → e'.k = e.k → e'.b = e.b → e'.s = e.s → e'.m = e.m → e'.f = e.f → (cellsE l).set (k * 6) (.int .i64 e'.t) = cellsE (l.set k e')
  | [], k, e, e', h, _, _, _, _, _ => by simp at h
  | x :: l, 0, e, e', h, h1, h2, h3, h4, h5 => by
    simp at h
    subst h
    simp [cellsE, Ev6.cells, h1, h2, h3, h4, h5]
  | x :: l, k + 1, e, e', h, h1, h2, h3, h4, h5 => by
    have ih := cellsE_set l k e e' (by simpa using h) h1 h2 h3 h4 h5
    have hl : x.cells.length = 6 := rfl
    simp only [cellsE, List.flatMap_cons, List.set_cons_succ] at ih ⊢
    rw [List.set_append_right _ _ (by rw [hl]; omega), hl, show (k + 1) * 6 - 6 = k * 6 from by omega, ih]
theorem late_ok {L nb by' : Nat} {e : Ev6} (h : e.ok L nb) : (e.late by').ok (L + by') nb := by
  obtain ⟨t0, t1, b0, b1, hk⟩ := h
  exact ⟨by show 0 ≤ e.t + (by' : Int); omega, by show e.t + (by' : Int) ≤ ((L + by' : Nat) : Int); omega, b0, b1, hk⟩

def ShiftP (L by' V C R : Nat) (bs : List (List M4)) (es : List Ev6) (w : World) (e : Ending) (w' : World) : Prop :=
  ∃ (sv ev : Value) (L' : Nat), L' = L + by' ∧ e = .returned (.tuple #[.agg #[.int .i64 (L' : Int), .int .i64 (V : Int), .float .f32 C, .float .f32 R, sv, ev], .bool true]) ∧ ScoV w' w.heap.size L' V C R bs (es.map (Ev6.late by')) sv ev ∧ Nw w w'
set_option maxHeartbeats 6400000 in
set_option maxRecDepth 100000 in
theorem shiftScore_ok (base L V C R by' : Nat) (bs : List (List M4)) (es : List Ev6) (sv ev : Value) (w : World) (h : ScoV w base L V C R bs es sv ev) (hby : L + by' ≤ 500) :
    Calls Try.prog 6 #[.agg #[.int .i64 (L : Int), .int .i64 (V : Int), .float .f32 C, .float .f32 R, sv, ev], .int .i64 (by' : Int)] w (ShiftP L by' V C R bs es w) := by
  obtain ⟨nb, hnb⟩ : ∃ nb, nb = bs.length := ⟨_, rfl⟩
  obtain ⟨ne, hne⟩ : ∃ ne, ne = es.length := ⟨_, rfl⟩
  obtain ⟨⟨sa, sc, rfl⟩, ea, ec, rfl⟩ := h.shape
  have he13 := h.he
  rw [← hne] at he13
  rw [← hnb, ← hne] at h ⊢
  have H := Lib.hid h
  have Hn := Lib.hid (And.intro hnb hne)
  have hA : ∀ (w : World) o, (w.alloc o).heap.size = w.heap.size + 1 := fun w o => by simp
  obtain ⟨w1, hw1⟩ : ∃ w1, w1 = w.alloc (.cells #[.int .i64 (L : Int), .int .i64 (V : Int), .float .f32 C, .float .f32 R, .slice sa nb sc, .slice ea ne ec] 27 (0, 0)) := ⟨_, rfl⟩
  obtain ⟨w2, hw2⟩ : ∃ w2, w2 = w1.alloc (.cells #[.int .i64 0, .int .i64 0, .float .f32 0, .float .f32 0, .slice none 0 0, .slice none 0 0] 27 (0, 0)) := ⟨_, rfl⟩
  have s1 : w1.heap.size = w.heap.size + 1 := by rw [hw1, hA]
  have s2 : w2.heap.size = w.heap.size + 2 := by rw [hw2, hA, s1]
  have n2 : Nw w w2 := by rw [hw2, hw1]; exact ((Nw.refl w).alloc _).alloc _
  have x1 : HasC w2 w.heap.size [.int .i64 (L : Int), .int .i64 (V : Int), .float .f32 C, .float .f32 R, .slice sa nb sc, .slice ea ne ec] := by
    rw [hw2, hw1]; exact (HasC.new w _ _ _ _ _ _ _).alloc _
  have x2 : HasC w2 (w.heap.size + 1) [.int .i64 0, .int .i64 0, .float .f32 0, .float .f32 0, .slice none 0 0, .slice none 0 0] := by
    rw [hw2, ← s1]; exact HasC.new w1 _ _ _ _ _ _ _
  have N2 := Lib.hid n2
  have X1 := Lib.hid x1
  have X2 := Lib.hid x2
  have Hw := Lib.hid (And.intro hw1 hw2)
  have S2 := Lib.hid s2
  clear h hnb hne hw1 hw2 s1 s2 n2 x1 x2 hA
  go_enter Try.func6, Try.ntmps6
  go_upto_region 1 with fail
  rw [← Hw.out.1, ← Hw.out.2]
  obtain ⟨⟨e0, g0⟩, ⟨e1, g1⟩, ⟨e2, g2⟩, ⟨e3, g3⟩, ⟨e4, g4⟩, ⟨e5, g5⟩⟩ := six_at X1.out
  go_wp2_with (first | (go_at_call 13; refine (isSteps_ok by' (by omega) _).mono ?_; rintro e w5 ⟨rfl, rfl⟩))
  refine (isScore_ok base L V C R nb ne bs es _ _ _ (H.out.nw N2.out) Hn.out.1 Hn.out.2).mono ?_
  rintro e w3 ⟨rfl, n3⟩
  have N3 := Lib.hid (N2.out.trans n3)
  have X3 := Lib.hid (X1.out.nw n3)
  have Z3 := Lib.hid (X2.out.nw n3)
  clear n3 e0 g0 e1 g1 e2 g2 e3 g3 e4 g4 e5 g5 X1 X2 N2 Hw
  obtain ⟨⟨e0, g0⟩, ⟨e1, g1⟩, ⟨e2, g2⟩, ⟨e3, g3⟩, ⟨e4, g4⟩, ⟨e5, g5⟩⟩ := six_at X3.out
  go_wp2_with (first | (go_at_call 13; refine (isSteps_ok by' (by omega) _).mono ?_; rintro e w5 ⟨rfl, rfl⟩))
  refine (copyScore_ok base L V C R bs es _ _ _ (H.out.nw N3.out)).mono ?_
  rintro e w4 ⟨sv4, ev4, rfl, hb4, he4, n4⟩
  obtain ⟨ba, bc, hsv4⟩ := hb4.shape
  rw [← Hn.out.1] at hsv4
  subst hsv4
  rw [← Hn.out.2] at he4
  obtain ⟨va, vc, rfl⟩ := own_shape' he4
  have hs3 : w.heap.size + 2 ≤ w3.heap.size := by have := Z3.out.1; omega
  have Bd4 := Lib.hid (hb4.base hs3)
  have Ev4 := Lib.hid (own_base he4 hs3)
  have N4 := Lib.hid (N3.out.trans n4)
  have Z4 := Lib.hid (Z3.out.nw n4)
  have hs4 : w.heap.size + 2 ≤ w4.heap.size := Nat.le_trans hs3 n4.size
  clear hb4 he4 n4 e0 g0 e1 g1 e2 g2 e3 g3 e4 g4 e5 g5 X3 Z3 N3
  go_upto_region 4 with fail
  obtain ⟨w5, hw5⟩ : ∃ w5, w5 = w4.alloc (.cells #[.int .i64 (L : Int), .int .i64 (V : Int), .float .f32 C, .float .f32 R, .slice ba nb bc, .slice va ne vc] 27 (0, 0)) := ⟨_, rfl⟩
  have Kx := Lib.hid (show HasC w5 w4.heap.size [.int .i64 (L : Int), .int .i64 (V : Int), .float .f32 C, .float .f32 R, .slice ba nb bc, .slice va ne vc] from by rw [hw5]; exact HasC.new w4 _ _ _ _ _ _ _)
  have Sx := Lib.hid (show ScX w5 w4.heap.size from by rw [hw5]; exact ScX.new w4 _)
  have Na := Lib.hid (show Nw w4 w5 from by rw [hw5]; exact (Nw.refl w4).alloc _)
  rw [← hw5]
  clear hw5
  obtain ⟨⟨e0, g0⟩, ⟨e1, g1⟩, ⟨e2, g2⟩, ⟨e3, g3⟩, ⟨e4, g4⟩, ⟨e5, g5⟩⟩ := six_at Kx.out
  go_upto_region 5 with fail
  obtain ⟨w6, hw6⟩ : ∃ w6, w6 = w5.setCell ⟨w4.heap.size, 0, none⟩ (.int .i64 ((L : Int) + (by' : Int))) := ⟨_, rfl⟩
  have K6 := Lib.hid (show HasC w6 w4.heap.size [.int .i64 ((L : Int) + (by' : Int)), .int .i64 (V : Int), .float .f32 C, .float .f32 R, .slice ba nb bc, .slice va ne vc] from by rw [hw6]; exact Kx.out.set 0 _)
  have S6 := Lib.hid (show ScX w6 w4.heap.size from by rw [hw6]; exact Sx.out.set _ 0 _)
  have B6 := Lib.hid (show BodsR w6 (w.heap.size + 2) (.slice ba nb bc) bs from by rw [hw6]; exact (Bd4.out.nw Na.out).sets Sx.out 0 _)
  have E6 := Lib.hid (show w6.ownsRow (w.heap.size + 2) 45 6 (.slice va ne vc) ne (cellsE es) from by rw [hw6]; exact own_sets (own_nw Ev4.out Na.out) Sx.out (by decide) 0 _)
  have Z6 := Lib.hid (show HasC w6 (w.heap.size + 1) [.int .i64 0, .int .i64 0, .float .f32 0, .float .f32 0, .slice none 0 0, .slice none 0 0] from by rw [hw6]; exact (Z4.out.nw Na.out).sete (p := ⟨w4.heap.size, 0, none⟩) (by show w4.heap.size ≠ w.heap.size + 1; omega) _)
  have N6 := Lib.hid (show Nw w w6 from by rw [hw6]; exact (N4.out.trans Na.out).set (p := ⟨w4.heap.size, 0, none⟩) (by show w.heap.size ≤ w4.heap.size; omega) _)
  rw [← hw6]
  clear hw6 e0 g0 e1 g1 e2 g2 e3 g3 e4 g4 e5 g5 Kx Sx Na Bd4 Ev4 N4 Z4
  obtain ⟨b6, hb6⟩ : ∃ b6, b6 = w4.heap.size := ⟨_, rfl⟩
  rw [← hb6] at K6 S6 hs4 ⊢
  clear hb6
  obtain ⟨⟨e0, g0⟩, ⟨e1, g1⟩, ⟨e2, g2⟩, ⟨e3, g3⟩, ⟨e4, g4⟩, ⟨e5, g5⟩⟩ := six_at K6.out
  go_wp2_with fail
  clear e0 g0 e1 g1 e2 g2 e3 g3 e4 g4 e5 g5
  go_loopw [27] (fun c wr => ∃ k : Nat, k ≤ ne ∧ c = .int .i64 (k : Int) ∧ HasC wr b6 [.int .i64 ((L : Int) + (by' : Int)), .int .i64 (V : Int), .float .f32 C, .float .f32 R, .slice ba nb bc, .slice va ne vc] ∧ ScX wr b6 ∧ BodsR wr (w.heap.size + 2) (.slice ba nb bc) bs ∧ wr.ownsRow (w.heap.size + 2) 45 6 (.slice va ne vc) ne (cellsE (lateL by' es k)) ∧ HasC wr (w.heap.size + 1) [.int .i64 0, .int .i64 0, .float .f32 0, .float .f32 0, .slice none 0 0, .slice none 0 0] ∧ Nw w wr) (fun c _ => ne - (intOf c).toNat)
  case atStart => exact ⟨0, by omega, rfl, K6.out, S6.out, B6.out, by rw [lateL_zero]; exact E6.out, Z6.out, N6.out⟩
  case round =>
    obtain ⟨k, hk, rfl, hK, hS, hB, hE, hZ, hN⟩ := hrel
    have Kr := Lib.hid hK
    have Sr := Lib.hid hS
    have Br := Lib.hid hB
    have Er := Lib.hid hE
    have Zr := Lib.hid hZ
    have Nr := Lib.hid hN
    clear hK hS hB hE hZ hN K6 S6 B6 E6 Z6 N6
    obtain ⟨⟨e0, g0⟩, ⟨e1, g1⟩, ⟨e2, g2⟩, ⟨e3, g3⟩, ⟨e4, g4⟩, ⟨e5, g5⟩⟩ := six_at Kr.out
    have hbr := Kr.out.1
    by_cases hlt : k < ne
    · obtain ⟨x, hxk⟩ : ∃ x, es[k]? = some x := ⟨es[k]'(by rw [← Hn.out.2]; exact hlt), List.getElem?_eq_getElem _⟩
      obtain ⟨g, cap, hv, hcap, hmax, hgs, x0, x1, x2, x3, x4, x5⟩ := own_event Er.out (by rw [lateL_len, Hn.out.2]) (lateL_at by' es k x hxk)
      cases hv
      have hx0 : 0 ≤ x.t := (H.out.eok x (List.mem_of_getElem? hxk)).1
      have hx1 : x.t ≤ (L : Int) := (H.out.eok x (List.mem_of_getElem? hxk)).2.1
      have xf := Er.out.frozenAt (k * 6)
      obtain ⟨s1, s2⟩ := Er.out.stored (k * 6) (.int .i64 (x.late by').t)
      rw [cellsE_set (lateL by' es k) k x (x.late by') (lateL_at by' es k x hxk) rfl rfl rfl rfl rfl, lateL_set by' es k x hxk] at s1
      have hgb : g ≠ b6 := by
        rcases own_scx Er.out Sr.out (by decide) with h | h
        · cases h
        · intro e; exact h (by rw [e]; rfl)
      have hgz : w.heap.size + 2 ≤ g := (Er.out.lt g rfl).1
      have E7 := Lib.hid s1
      have K7 := Lib.hid (Kr.out.sete (p := ⟨g, k * 6, none⟩) hgb (.int .i64 (x.late by').t))
      have S7 := Lib.hid (Sr.out.set g (k * 6) (.int .i64 (x.late by').t))
      have B7 := Lib.hid (Br.out.grown Er.out (by decide) (by decide) s2)
      have Z7 := Lib.hid (Zr.out.sete (p := ⟨g, k * 6, none⟩) (by show g ≠ w.heap.size + 1; omega) (.int .i64 (x.late by').t))
      have N7 := Lib.hid (Nr.out.set (p := ⟨g, k * 6, none⟩) (by show w.heap.size ≤ g; omega) (.int .i64 (x.late by').t))
      clear s1 s2 hxk
      go_wp2_with fail
      go_roundw
      case rel => exact ⟨k + 1, by omega, by rw [show ((k + 1 : Nat) : Int) = (k : Int) + 1 from by omega], K7.out, S7.out, B7.out, E7.out, Z7.out, N7.out⟩
      case measure => simp only [intOf]; omega
    · obtain rfl : k = ne := by omega
      have hEf := Er.out
      rw [lateL_full by' es k Hn.out.2] at hEf
      have Sc := Lib.hid (show ScoV wr (w.heap.size + 2) (L + by') V C R bs (es.map (Ev6.late by')) (.slice ba nb bc) (.slice va k vc) from
        ⟨hby, H.out.hV, H.out.hC, H.out.hR, H.out.hb, by rw [List.length_map]; exact H.out.he, H.out.bok, fun x hx => by obtain ⟨y, hy, rfl⟩ := List.mem_map.1 hx; exact late_ok (H.out.eok y hy), Br.out, by rw [List.length_map, ← Hn.out.2]; exact hEf⟩)
      clear hEf
      go_wp2_with fail
      rw [show (L : Int) + (by' : Int) = ((L + by' : Nat) : Int) from by omega]
      refine (isScore_ok (w.heap.size + 2) (L + by') V C R nb k bs (es.map (Ev6.late by')) _ _ _ Sc.out Hn.out.1 (by rw [List.length_map]; exact Hn.out.2)).mono ?_
      rintro e w7 ⟨rfl, n7⟩
      have Sc7 := Lib.hid (Sc.out.nw n7)
      have Z7 := Lib.hid (Zr.out.nw n7)
      have N7 := Lib.hid (Nr.out.trans n7)
      have K7 := Lib.hid (Kr.out.nw n7)
      clear n7 e0 g0 e1 g1 e2 g2 e3 g3 e4 g4 e5 g5
      obtain ⟨⟨e0, -⟩, ⟨e1, -⟩, ⟨e2, -⟩, ⟨e3, -⟩, ⟨e4, -⟩, ⟨e5, -⟩⟩ := six_at K7.out
      obtain ⟨⟨r0, f0⟩, ⟨r1, f1⟩, ⟨r2, f2⟩, ⟨r3, f3⟩, ⟨r4, f4⟩, ⟨r5, f5⟩⟩ := six_at Z7.out
      have Fin := Lib.hid (rows_six Sc7.out.bods Sc7.out.evs (b := w.heap.size + 1) (by omega) (.int .i64 ((L : Int) + (by' : Int))) (.int .i64 (V : Int)) (.float .f32 C) (.float .f32 R) (.slice ba nb bc) (.slice va k vc))
      have Nfin := Lib.hid (nw_six N7.out (b := w.heap.size + 1) (by omega) (.int .i64 ((L : Int) + (by' : Int))) (.int .i64 (V : Int)) (.float .f32 C) (.float .f32 R) (.slice ba nb bc) (.slice va k vc))
      go_wp2_with fail
      exact bodyPost_ret (v := .tuple #[.agg #[.int .i64 ((L : Int) + (by' : Int)), .int .i64 (V : Int), .float .f32 C, .float .f32 R, .slice ba nb bc, .slice va k vc], .bool true]) (by simp [results, Try.results6, go_sem, r0, r1, r2, r3, r4, r5, f0]) rfl
        ⟨_, _, L + by', rfl, by rw [show ((L + by' : Nat) : Int) = (L : Int) + (by' : Int) from by omega], ⟨hby, Sc7.out.hV, Sc7.out.hC, Sc7.out.hR, Sc7.out.hb, Sc7.out.he, Sc7.out.bok, Sc7.out.eok, Fin.out.1.base (by omega), own_base Fin.out.2 (by omega)⟩, Nfin.out⟩
end Go.Proofs.Ytkajhgfimempaaa

/- The walks of l8Same, FirstDifference and same: what they answer of two rows of samples that are numbers.
   Conditions: those that each statement names. -/
namespace Go.Proofs.Ytkajhgfimempaaa
set_option linter.unusedSimpArgs false
set_option linter.unusedVariables false
open Go Go.RowKit

/-- are two numbers the same: NaN and NaN, zeros of one sign, or equal ones -/
def sameB (a b : Nat) : Bool :=
  if (FloatKind.f64.decode a).isNaN || (FloatKind.f64.decode b).isNaN then (FloatKind.f64.decode a).isNaN && (FloatKind.f64.decode b).isNaN
  else if (FloatKind.f64.format.order a 0 == some .eq) && (FloatKind.f64.format.order b 0 == some .eq) then
    (FloatKind.f64.format.order (opB .quo .f64 4607182418800017408 a) 0 == some .gt) == (FloatKind.f64.format.order (opB .quo .f64 4607182418800017408 b) 0 == some .gt)
  else FloatKind.f64.format.order a b == some .eq

theorem one_quo (a : Nat) (h : (FloatKind.f64.decode a).isNaN = false) : Calm .quo .f64 4607182418800017408 a := by
  have h1 : Ieee.double.read 4607182418800017408 = .number false 4503599627370496 (-52) := by decide
  have hx : ∃ r, floatBits .quo .f64 4607182418800017408 a = some r := by
    unfold FloatKind.decode at h
    rw [show FloatKind.f64.format = Ieee.double from rfl] at h
    show ∃ r, Ieee.double.div 4607182418800017408 a = some r
    unfold Ieee.Format.div
    rw [h1]
    cases hd : Ieee.double.read a with
    | number s m p => by_cases hm : m = 0 <;> simp [Ieee.Datum.quotient, hm]
    | infinity s => exact ⟨_, rfl⟩
    | nan s f => rw [hd] at h; simp [Ieee.Datum.isNaN] at h
  obtain ⟨r, hr⟩ := hx
  exact (Calm.of hr).1

theorem l8Same_any (a b : Nat) (w : World) :
    Calls Try.prog 32 #[.float .f64 a, .float .f64 b] w fun e w' => e = .returned (.bool (sameB a b)) ∧ w = w' := by
  have o1 := order_self .f64 a
  have o2 := order_self .f64 b
  cases ha : (FloatKind.f64.decode a).isNaN
  all_goals cases hb : (FloatKind.f64.decode b).isNaN
  all_goals rw [ha] at o1; rw [hb] at o2
  case false.false =>
    have c1 := one_quo a ha
    have c2 := one_quo b hb
    have r1 := c1.res
    have r2 := c2.res
    have d1 := c1.fdr
    have d2 := c2.fdr
    go_enter Try.func32, Try.ntmps32
    go_wp2
    all_goals (go_ret; refine ⟨by simp_all [sameB], ?_⟩; first | rfl | (exfalso; simp_all))
  all_goals
    go_enter Try.func32, Try.ntmps32
    go_wp2
    all_goals (go_ret; refine ⟨by simp_all [sameB], ?_⟩; first | rfl | (exfalso; simp_all))

theorem sameB_self (a : Nat) : sameB a a = true := by
  unfold sameB
  cases ha : (FloatKind.f64.decode a).isNaN
  · have o1 := order_self .f64 a
    rw [ha] at o1
    simp only [Bool.or_self, Bool.false_eq_true, if_false, beq_self_eq_true]
    split
    · rfl
    · simpa using o1
  · simp

def SameI (n : Nat) (w : World) (i : Value) (wr : World) : Prop := ∃ k : Nat, k ≤ n ∧ i = .int .i64 (k : Int) ∧ Nw w wr

set_option maxRecDepth 100000 in
theorem firstDifference_eq (xs ys : List Nat) (n bx cy : Nat) (v u : Value) (hx : xs.length = n) (hy : ys.length = n) (hn : n ≤ 1048576) (w : World)
    (ox : w.ownsRow bx 23 1 v n (cellsS xs)) (oy : w.ownsRow cy 23 1 u n (cellsS ys)) (hsx : ∀ x ∈ xs, Sm x) (hsy : ∀ y ∈ ys, Sm y)
    (hs : ∀ (k : Nat) x y, xs[k]? = some x → ys[k]? = some y → sameB (wid x) (wid y) = true) :
    Calls Try.prog 17 #[v, u] w fun e w' => e = .returned (.int .i64 (-1)) ∧ Nw w w' := by
  obtain ⟨va, vc, rfl⟩ := own_shape' ox
  obtain ⟨ua, uc, rfl⟩ := own_shape' oy
  have Ox := Lib.hid ox
  have Oy := Lib.hid oy
  have Hx := Lib.hid hx
  have Hy := Lib.hid hy
  have Hsx := Lib.hid hsx
  have Hsy := Lib.hid hsy
  have Hs := Lib.hid hs
  clear ox oy hx hy hsx hsy hs
  go_enter Try.func17, Try.ntmps17
  go_wp2_with fail
  go_loopw [5] (fun i wr => SameI n w i wr) (fun i _ => n - (intOf i).toNat)
  case atStart => exact ⟨0, by omega, rfl, Nw.refl _⟩
  case round =>
    obtain ⟨k, hk, rfl, hN⟩ := hrel
    have Nr := Lib.hid hN
    clear hN
    by_cases hlt : k < n
    · obtain ⟨x, hxk⟩ : ∃ x, xs[k]? = some x := ⟨xs[k]'(by rw [Hx.out]; exact hlt), List.getElem?_eq_getElem _⟩
      obtain ⟨y, hyk⟩ : ∃ y, ys[k]? = some y := ⟨ys[k]'(by rw [Hy.out]; exact hlt), List.getElem?_eq_getElem _⟩
      obtain ⟨g1, cap1, hv1, hcap1, hmax1, -, e1⟩ := own_sample (own_nw Ox.out Nr.out) hxk Hx.out.symm
      obtain ⟨g2, cap2, hv2, hcap2, hmax2, -, e2⟩ := own_sample (own_nw Oy.out Nr.out) hyk Hy.out.symm
      cases hv1
      cases hv2
      have hb := Hs.out k x y hxk hyk
      have sx := Hsx.out x (List.mem_of_getElem? hxk)
      have sy := Hsy.out y (List.mem_of_getElem? hyk)
      have a1 := fcv_up sx
      have a2 := fcd_up sx
      have b1 := fcv_up sy
      have b2 := fcd_up sy
      unfold maxLen at hmax1 hmax2
      clear hxk hyk sx sy
      go_wp2_with fail
      go_quiet (first | (go_at_call 32; with_reducible exact quiet_eq (l8Same_any _ _ _)))
      have N2 := Lib.hid (Nr.out.draw nq)
      go_wp2_with fail
      go_roundw
      case rel => exact ⟨k + 1, by omega, by rw [show ((k + 1 : Nat) : Int) = (k : Int) + 1 from by omega], N2.out⟩
      case measure => simp only [intOf]; omega
    · obtain rfl : k = n := by omega
      go_wp2_with fail
      go_ret
      exact ⟨rfl, Nr.out⟩

theorem same_eq (xs ys : List Nat) (n bx cy : Nat) (v u : Value) (hx : xs.length = n) (hy : ys.length = n) (hn : n ≤ 1048576) (w : World)
    (ox : w.ownsRow bx 23 1 v n (cellsS xs)) (oy : w.ownsRow cy 23 1 u n (cellsS ys)) (hsx : ∀ x ∈ xs, Sm x) (hsy : ∀ y ∈ ys, Sm y)
    (hs : ∀ (k : Nat) x y, xs[k]? = some x → ys[k]? = some y → sameB (wid x) (wid y) = true) :
    Calls Try.prog 8 #[v, u] w fun e w' => e = .returned (.bool true) ∧ Nw w w' := by
  have Ox := Lib.hid ox
  have Oy := Lib.hid oy
  have Hs := Lib.hid (And.intro hx (And.intro hy (And.intro hsx (And.intro hsy hs))))
  clear ox oy hx hy hsx hsy hs
  go_enter Try.func8, Try.ntmps8
  go_wp2_with fail
  refine (firstDifference_eq xs ys n bx cy _ _ Hs.out.1 Hs.out.2.1 hn _ Ox.out Oy.out Hs.out.2.2.1 Hs.out.2.2.2.1 Hs.out.2.2.2.2).mono ?_
  rintro e w1 ⟨rfl, n1⟩
  have N1 := Lib.hid n1
  clear n1
  go_wp2
  go_ret
  exact ⟨rfl, N1.out⟩

end Go.Proofs.Ytkajhgfimempaaa

/- The walks of FirstDifference, the program's and the model's, for any numbers: the least place at which two rows of samples are not the same.
   Conditions: those that each statement names. -/
namespace Go.Proofs.Ytkajhgfimempaaa
set_option linter.unusedSimpArgs false
set_option linter.unusedVariables false
open Go Go.RowKit

theorem sameB_sameF (a b : Nat) : sameB a b = sameF a b := by
  unfold sameB sameF nan64
  have e : ∀ a, (FloatKind.f64.decode a).isNaN = false → opB .quo .f64 4607182418800017408 a = (floatBits .quo .f64 4607182418800017408 a).getD 0 := by
    intro a h
    rfl
  cases ha : (FloatKind.f64.decode a).isNaN <;> cases hb : (FloatKind.f64.decode b).isNaN <;> simp
  rw [e a ha, e b hb]
/-! ### the least place -/
def fdL : List Nat → List Nat → Nat → Int
  | [], [], _ => -1
  | [], _ :: _, k => (k : Int)
  | _ :: _, [], k => (k : Int)
  | x :: xs, y :: ys, k => if sameX x y then fdL xs ys (k + 1) else (k : Int)
theorem fdL_same {xs ys : List Nat} {k x y : Nat} (hx : xs[k]? = some x) (hy : ys[k]? = some y) (h : sameX x y = true) : fdL (xs.drop k) (ys.drop k) k = fdL (xs.drop (k + 1)) (ys.drop (k + 1)) (k + 1) := by
  obtain ⟨a, rfl⟩ := List.getElem?_eq_some_iff.1 hx
  obtain ⟨b, rfl⟩ := List.getElem?_eq_some_iff.1 hy
  rw [List.drop_eq_getElem_cons a, List.drop_eq_getElem_cons b]
  show (if sameX _ _ then _ else _) = _
  rw [h]; rfl
theorem fdL_differ {xs ys : List Nat} {k x y : Nat} (hx : xs[k]? = some x) (hy : ys[k]? = some y) (h : sameX x y = false) : fdL (xs.drop k) (ys.drop k) k = (k : Int) := by
  obtain ⟨a, rfl⟩ := List.getElem?_eq_some_iff.1 hx
  obtain ⟨b, rfl⟩ := List.getElem?_eq_some_iff.1 hy
  rw [List.drop_eq_getElem_cons a, List.drop_eq_getElem_cons b]
  show (if sameX _ _ then _ else _) = _
  rw [h]; rfl
theorem fdL_left {xs ys : List Nat} {k : Nat} (hx : k < xs.length) (hy : ys.length ≤ k) : fdL (xs.drop k) (ys.drop k) k = (k : Int) := by
  rw [List.drop_eq_getElem_cons hx, List.drop_eq_nil_of_le hy]; rfl
theorem fdL_right {xs ys : List Nat} {k : Nat} (hx : xs.length ≤ k) (hy : k < ys.length) : fdL (xs.drop k) (ys.drop k) k = (k : Int) := by
  rw [List.drop_eq_getElem_cons hy, List.drop_eq_nil_of_le hx]; rfl
theorem fdL_end {xs ys : List Nat} {k : Nat} (hx : xs.length ≤ k) (hy : ys.length ≤ k) : fdL (xs.drop k) (ys.drop k) k = -1 := by
  rw [List.drop_eq_nil_of_le hx, List.drop_eq_nil_of_le hy]; rfl
theorem fdL_self (xs : List Nat) : ∀ k, fdL xs xs k = -1 := by
  induction xs with
  | nil => intro k; rfl
  | cons x xs ih => intro k; show (if sameX x x then _ else _) = _; rw [sameX_self]; exact ih (k + 1)

def FdI (xs ys : List Nat) (n m : Nat) (w : World) (i : Value) (wr : World) : Prop :=
  ∃ k : Nat, (k ≤ n ∨ k ≤ m) ∧ i = .int .i64 (k : Int) ∧ fdL xs ys 0 = fdL (xs.drop k) (ys.drop k) k ∧ Nw w wr
def FdP (xs ys : List Nat) (w : World) (e : Ending) (w' : World) : Prop := e = .returned (.int .i64 (fdL xs ys 0)) ∧ Nw w w'

end Go.Proofs.Ytkajhgfimempaaa

/- A region that draws its order and holds conversions whose bits are not fixed (those of NaN): one walk of the lexical order serves every order, if at each conversion what follows is shown for every value that it may yield.
   Conditions: no conversion stands apart from a call (each call waits for each conversion). No program stands in it. -/
namespace Go.Proofs.Ytkajhgfimempaaa
set_option linter.unusedSimpArgs false
set_option linter.unusedVariables false
open Go

namespace Noise
section
variable {P : Program} {ops : Array Oper} {md : Region.Mode} {C : World → Prop}

/-- 0: a conversion; 2: a call of a function; 1: all else -/
def kind (o : Oper) : Nat :=
  match o.op with
  | .convert .. => 0
  | .call c => (match c.callee with | .builtin _ => 1 | _ => 2)
  | _ => 1

@[go_sem] def noisyUpon (C : World → Prop) (S : Value → Prop) : Result Next → Prop
  | .ok (.value u) w' => C w' ∧ S u
  | _ => False
@[go_sem] def plainUpon (w : World) (v : Value) : Result Next → Prop
  | .ok (.value u) w' => w' = w ∧ u = v
  | .ok .skip w' => w' = w ∧ v = undef
  | _ => False

def Yields (P : Program) (ops : Array Oper) (C : World → Prop) (o : Oper) (S : Value → Prop) (a : Act) : Prop :=
  (Region.wanted o (yielded ops a.tmps) = true ∧ kind o = 0 ∧ (∃ v, S v) ∧ ∀ w, C w → noisyUpon C S ((execOp a.eval o).run P w)) ∨
  (Region.wanted o (yielded ops a.tmps) = true ∧ kind o = 1 ∧ ∃ v, (∀ u, S u ↔ u = v) ∧ ∀ w, C w → plainUpon w v ((execOp a.eval o).run P w)) ∨
  (Region.wanted o (yielded ops a.tmps) = true ∧ kind o = 2 ∧ ∃ v, (∀ u, S u ↔ u = v) ∧ ∀ w, C w → o.quietAt P a C w v) ∨
  (Region.wanted o (yielded ops a.tmps) = false ∧ ∀ u, S u ↔ u = undef)

theorem Yields.some {o : Oper} {S : Value → Prop} {a : Act} (h : Yields P ops C o S a) : ∃ v, S v := by
  rcases h with ⟨-, -, h, -⟩ | ⟨-, -, v, h, -⟩ | ⟨-, -, v, h, -⟩ | ⟨-, h⟩
  · exact h
  · exact ⟨v, (h v).2 rfl⟩
  · exact ⟨v, (h v).2 rfl⟩
  · exact ⟨undef, (h _).2 rfl⟩
theorem Yields.of_same {o : Oper} {S : Value → Prop} {a a' : Act} (hy : Yields P ops C o S a) (he : execOp a'.eval o = execOp a.eval o)
    (hw : Region.wanted o (yielded ops a'.tmps) = Region.wanted o (yielded ops a.tmps)) : Yields P ops C o S a' := by
  unfold Yields Oper.quietAt at *
  rw [he, hw]
  exact hy

/-- THE LEXICAL WALK -/
def wpNoise (P : Program) (ops : Array Oper) (C : World → Prop) (Q : Act → Prop) : List Oper → Act → Prop
  | [], a => Q a
  | o :: rest, a => ∃ S, Yields P ops C o S a ∧ ∀ v, S v → wpNoise P ops C Q rest (a.put o.dst v)

def nOp (P : Program) (ops : Array Oper) (C : World → Prop) (i : Nat) (K : Act → Prop) (a : Act) : Prop :=
  match ops[i]? with
  | none => K a
  | some o => ∃ S, Yields P ops C o S a ∧ ∀ v, S v → K (a.put o.dst v)

theorem nOp_mono {i : Nat} {a : Act} {K K' : Act → Prop} (h : ∀ a, K a → K' a) (hh : nOp P ops C i K a) : nOp P ops C i K' a := by
  unfold nOp at *
  split
  · exact h _ (by simpa [*] using hh)
  · rename_i o ho
    simp only [ho] at hh
    obtain ⟨S, h1, h2⟩ := hh
    exact ⟨S, h1, fun v hv => h _ (h2 v hv)⟩

/-- Whatever order is picked from here on. -/
def wpAnyN (P : Program) (md : Region.Mode) (ops : Array Oper) (C : World → Prop) (Q : Act → Prop) : Nat → Array Bool → Act → Prop
  | 0, listed, a => Region.ready md ops listed = [] ∧ Q a
  | fuel + 1, listed, a =>
    (Region.ready md ops listed = [] → Q a) ∧
    ∀ i ∈ Region.ready md ops listed, nOp P ops C i (wpAnyN P md ops C Q fuel (listed.setIfInBounds i true)) a

theorem wp_of {o : Oper} {a : Act} {S : Value → Prop} {K' : Act → World → Prop} {Q' : Exit → Act → World → Prop} {w : World} (hwt : Region.wanted o (yielded ops a.tmps) = true) (hw : C w)
    (h : ∀ v w', C w' → S v → K' (a.put o.dst v) w') (hy : Yields P ops C o S a) : o.wp P a w K' Q' := by
  rcases hy with ⟨-, -, -, h1⟩ | ⟨-, -, v, hv, h1⟩ | ⟨-, -, v, hv, h1⟩ | ⟨h0, -⟩
  · have h3 := h1 w hw
    unfold Oper.wp
    generalize (execOp a.eval o).run P w = r at *
    cases r with
    | ok n w' =>
      cases n <;> simp only [noisyUpon] at h3 <;> simp only [Oper.upon]
      exact h _ _ h3.1 h3.2
    | halt x w' => simp only [noisyUpon] at h3
  · have h3 := h1 w hw
    unfold Oper.wp
    generalize (execOp a.eval o).run P w = r at *
    cases r with
    | ok n w' =>
      cases n <;> simp only [plainUpon] at h3 <;> simp only [Oper.upon]
      case value u =>
        obtain ⟨e1, e2⟩ := h3
        rw [e1, e2]
        exact h _ _ hw ((hv v).2 rfl)
      case skip =>
        obtain ⟨e1, e2⟩ := h3
        rw [e1, ← e2]
        exact h _ _ hw ((hv v).2 rfl)
    | halt x w' => simp only [plainUpon] at h3
  · have h3 := h1 w hw
    unfold Oper.quietAt at h3
    unfold Oper.wp
    generalize (execOp a.eval o).run P w = r at *
    cases r with
    | ok n w' =>
      cases n <;> simp only [Oper.quietUpon] at h3 <;> simp only [Oper.upon]
      case value u =>
        obtain ⟨e1, e2⟩ := h3
        rw [e1, e2]
        exact h _ _ hw ((hv v).2 rfl)
      case skip =>
        obtain ⟨e1, e2⟩ := h3
        rw [e1, ← e2]
        exact h _ _ hw ((hv v).2 rfl)
      case enter f args =>
        obtain ⟨e1, hc⟩ := h3
        rw [e1]
        exact hc.mono fun e w'' ⟨he, hw''⟩ => by subst he; exact h _ _ hw'' ((hv v).2 rfl)
    | halt x w' => simp only [Oper.quietUpon] at h3
  · rw [h0] at hwt; cases hwt

theorem wpOp_of_nOp {i : Nat} {a : Act} {K : Act → Prop} {K' : Act → World → Prop} {Q' : Exit → Act → World → Prop} {w : World} (hC : C w) (h : ∀ a w', C w' → K a → K' a w') (hh : nOp P ops C i K a) : wpOp P ops Q' i K' a w := by
  unfold nOp at hh
  unfold wpOp
  split
  · rename_i ho; simp only [ho] at hh; exact h _ _ hC hh
  · rename_i o ho
    simp only [ho] at hh
    obtain ⟨S, hy, hk⟩ := hh
    split
    · rename_i hw; exact .inl (wp_of hw hC (fun v w' hw' hv => h _ _ hw' (hk v hv)) hy)
    · rename_i hw
      rcases hy with ⟨h0, -⟩ | ⟨h0, -⟩ | ⟨h0, -⟩ | ⟨-, h0⟩
      · exact absurd h0 hw
      · exact absurd h0 hw
      · exact absurd h0 hw
      · exact h _ _ hC (hk _ ((h0 _).2 rfl))

theorem wpAny_of_noise {Q : Act → Prop} {Q' : Exit → Act → World → Prop} (hQ : ∀ a w, C w → Q a → Q' .normal a w) : ∀ (fuel : Nat) (listed : Array Bool) (a : Act) (w : World), C w →
    wpAnyN P md ops C Q fuel listed a → wpAny P md ops Q' fuel listed a w
  | 0, _, _, _, hw, h => ⟨h.1, hQ _ _ hw h.2⟩
  | fuel + 1, _, _, _, hw, h => ⟨fun h0 => hQ _ _ hw (h.1 h0), fun i hi => wpOp_of_nOp hw (fun a' w' hw' => wpAny_of_noise hQ fuel _ a' w' hw') (h.2 i hi)⟩

/-- one operation 'oj', apart from 'oi': the two may change places -/
theorem nOp_put {j : Nat} {oi oj : Oper} {S : Value → Prop} (hj : ops[j]? = some oj) (hap : oi.apart ops oj = true)
    (hsi : ∀ cs b, oi.op ≠ .select cs b) (hsj : ∀ cs b, oj.op ≠ .select cs b) (h0 : ∃ w, C w) (hcall : kind oi = 0 → kind oj ≠ 2) {K : Act → Prop} {a : Act}
    (hy : Yields P ops C oi S a) (h : ∀ v, S v → nOp P ops C j K (a.put oi.dst v)) :
    nOp P ops C j (fun a' => Yields P ops C oi S a' ∧ ∀ v, S v → K (a'.put oi.dst v)) a := by
  obtain ⟨h1, h2, h3⟩ := Oper.apart_spec hap
  have keep : ∀ (a : Act), Yields P ops C oi S a → ∀ u, Yields P ops C oi S (a.put oj.dst u) := fun a hy u =>
    hy.of_same (execOp_put oi hsi a oj.dst u h3) (wanted_put oi a oj.dst u h3)
  have back : ∀ v T, Yields P ops C oj T (a.put oi.dst v) → Yields P ops C oj T a := fun v T hT =>
    hT.of_same (execOp_put oj hsj a oi.dst v h1).symm (wanted_put oj a oi.dst v h1).symm
  unfold nOp at *
  simp only [hj] at *
  have h' : ∀ v, S v → ∃ T, Yields P ops C oj T a ∧ ∀ u, T u → K ((a.put oj.dst u).put oi.dst v) := by
    intro v hv
    obtain ⟨T, hT, hK⟩ := h v hv
    exact ⟨T, back v T hT, fun u hu => by rw [← Act.put_comm a v u h2]; exact hK u hu⟩
  obtain ⟨v0, hv0⟩ := hy.some
  obtain ⟨T0, hT0, hK0⟩ := h' v0 hv0
  have one : (∀ v, S v → v = v0) → ∃ T, Yields P ops C oj T a ∧ ∀ u, T u → Yields P ops C oi S (a.put oj.dst u) ∧ ∀ v, S v → K ((a.put oj.dst u).put oi.dst v) :=
    fun hone => ⟨T0, hT0, fun u hu => ⟨keep a hy u, fun v hv => by rw [hone v hv]; exact hK0 u hu⟩⟩
  rcases id hy with ⟨-, k0, -, -⟩ | ⟨-, -, x, hx, -⟩ | ⟨-, -, x, hx, -⟩ | ⟨-, hx⟩
  · obtain ⟨w0, hw0⟩ := h0
    rcases id hT0 with ⟨g0, g1, g2, g3⟩ | ⟨g0, g1, x, g2, g3⟩ | ⟨g0, g1, -⟩ | ⟨g0, g2⟩
    · refine ⟨fun u => ∃ w, C w ∧ ∃ w', (execOp a.eval oj).run P w = .ok (.value u) w', .inl ⟨g0, g1, ?_, fun w hw => ?_⟩, fun u hu => ⟨keep a hy u, fun v hv => ?_⟩⟩
      · have := g3 w0 hw0
        generalize hr : (execOp a.eval oj).run P w0 = r at this
        cases r with
        | ok n w' =>
          cases n <;> simp only [noisyUpon] at this
          exact ⟨_, w0, hw0, _, hr⟩
        | halt x w' => simp only [noisyUpon] at this
      · have := g3 w hw
        generalize hr : (execOp a.eval oj).run P w = r at this
        cases r with
        | ok n w' =>
          cases n <;> simp only [noisyUpon] at this ⊢
          exact ⟨this.1, w, hw, _, hr⟩
        | halt x w' => simp only [noisyUpon] at this
      · obtain ⟨w, hw, w', hr⟩ := hu
        obtain ⟨T, hT, hK⟩ := h' v hv
        refine hK u ?_
        rcases hT with ⟨-, -, -, t3⟩ | ⟨-, t1, -⟩ | ⟨-, t1, -⟩ | ⟨t0, -⟩
        · have := t3 w hw
          rw [hr] at this
          exact this.2
        · rw [g1] at t1; cases t1
        · rw [g1] at t1; cases t1
        · rw [g0] at t0; cases t0
    · refine ⟨T0, hT0, fun u hu => ⟨keep a hy u, fun v hv => ?_⟩⟩
      obtain ⟨T, hT, hK⟩ := h' v hv
      refine hK u ?_
      rcases hT with ⟨-, t1, -⟩ | ⟨-, t1, y, t2, t3⟩ | ⟨-, t1, -⟩ | ⟨t0, -⟩
      · rw [g1] at t1; cases t1
      · have e : x = y := by
          have a1 := g3 w0 hw0
          have a2 := t3 w0 hw0
          generalize (execOp a.eval oj).run P w0 = r at a1 a2
          cases r with
          | ok n w' =>
            cases n <;> simp only [plainUpon] at a1 a2
            · exact a1.2.symm.trans a2.2
            · exact a1.2.trans a2.2.symm
          | halt x w' => simp only [plainUpon] at a1
        exact (t2 u).2 (((g2 u).1 hu).trans e)
      · rw [g1] at t1; cases t1
      · rw [g0] at t0; cases t0
    · exact absurd g1 (hcall k0)
    · refine ⟨T0, hT0, fun u hu => ⟨keep a hy u, fun v hv => ?_⟩⟩
      obtain ⟨T, hT, hK⟩ := h' v hv
      refine hK u ?_
      rcases hT with ⟨t0, -⟩ | ⟨t0, -⟩ | ⟨t0, -⟩ | ⟨-, t2⟩
      · rw [g0] at t0; cases t0
      · rw [g0] at t0; cases t0
      · rw [g0] at t0; cases t0
      · exact (t2 u).2 ((g2 u).1 hu)
  · exact one fun v hv => by rw [(hx v).1 hv, (hx v0).1 hv0]
  · exact one fun v hv => by rw [(hx v).1 hv, (hx v0).1 hv0]
  · exact one fun v hv => by rw [(hx v).1 hv, (hx v0).1 hv0]

/-- each call waits for each conversion -/
def callsWait (md : Region.Mode) (ops : Array Oper) : Bool :=
  (List.range ops.size).all fun i => (List.range ops.size).all fun j =>
    match ops[i]?, ops[j]? with
    | some oi, some oj => !(kind oi == 0 && kind oj == 2) || oj.after.toList.any fun e => Region.binds md e && e.on == i
    | _, _ => true
theorem callsWait_spec (h : callsWait md ops = true) {i j : Nat} {oi oj : Oper} (hi : ops[i]? = some oi) (hj : ops[j]? = some oj) (k0 : kind oi = 0) (k2 : kind oj = 2) : ∃ e ∈ oj.after, Region.binds md e = true ∧ e.on = i := by
  unfold callsWait at h
  have li : i < ops.size := by
    rcases Nat.lt_or_ge i ops.size with h' | h'
    · exact h'
    · rw [Array.getElem?_eq_none h'] at hi; cases hi
  have lj : j < ops.size := by
    rcases Nat.lt_or_ge j ops.size with h' | h'
    · exact h'
    · rw [Array.getElem?_eq_none h'] at hj; cases hj
  have h1 := List.all_eq_true.1 (List.all_eq_true.1 h i (List.mem_range.2 li)) j (List.mem_range.2 lj)
  simp only [hi, hj, k0, k2] at h1
  have h2 : (oj.after.toList.any fun e => Region.binds md e && e.on == i) = true := by simpa using h1
  obtain ⟨e, he, hp⟩ := List.any_eq_true.1 h2
  simp only [Bool.and_eq_true, beq_iff_eq] at hp
  exact ⟨e, Array.mem_toList_iff.1 he, hp.1, hp.2⟩

theorem wpAnyN_first {Q : Act → Prop} {i : Nat} {oi : Oper} {S : Value → Prop} (hi : ops[i]? = some oi) (hsel : ∀ (j : Nat) (o : Oper) cs b, ops[j]? = some o → o.op ≠ .select cs b) (h0 : ∃ w, C w) (hwait : callsWait md ops = true) :
    ∀ (fuel : Nat) (listed : Array Bool) (a : Act),
      (∀ j oj, ops[j]? = some oj → j ≠ i → listed.getD j true = false → (∀ e ∈ oj.after, Region.binds md e = true → e.on ≠ i) → oi.apart ops oj = true) →
      i ∈ Region.ready md ops listed → Yields P ops C oi S a →
      (∀ v, S v → wpAnyN P md ops C Q fuel (listed.setIfInBounds i true) (a.put oi.dst v)) → wpAnyN P md ops C Q (fuel + 1) listed a := by
  intro fuel
  induction fuel with
  | zero =>
    intro listed a _ hr hy H
    refine ⟨fun h => (by rw [h] at hr; cases hr), fun j hj => ?_⟩
    by_cases hji : j = i
    · subst hji
      unfold nOp
      simp only [hi]
      exact ⟨S, hy, H⟩
    · obtain ⟨v, hv⟩ := hy.some
      have := ready_mono hj hji
      rw [(H v hv).1] at this
      cases this
  | succ fuel ih =>
    intro listed a hfree hr hy H
    refine ⟨fun h => (by rw [h] at hr; cases hr), fun j hj => ?_⟩
    by_cases hji : j = i
    · subst hji
      unfold nOp
      simp only [hi]
      exact ⟨S, hy, H⟩
    · have h1 : ∀ v, S v → _ := fun v hv => (H v hv).2 j (ready_mono hj hji)
      obtain ⟨hjun, oj, hoj, hall⟩ := mem_ready.1 hj
      have hnot : ∀ e ∈ oj.after, Region.binds md e = true → e.on ≠ i := fun e he hb heq => by
        have h1 := hall e he hb
        have h0 := (mem_ready.1 hr).1
        rw [heq] at h1
        rcases Nat.lt_or_ge i listed.size with h' | h'
        · simp [h'] at h0 h1; rw [h0] at h1; cases h1
        · simp [Array.getElem?_eq_none h'] at h1
      have hcall : kind oi = 0 → kind oj ≠ 2 := fun k0 k2 => by
        obtain ⟨e, he, hb, ho⟩ := callsWait_spec hwait hi hoj k0 k2
        exact hnot e he hb ho
      have h2 := nOp_put hoj (hfree j oj hoj hji hjun hnot) (fun cs b => hsel i oi cs b hi) (fun cs b => hsel j oj cs b hoj) h0 hcall hy h1
      have hfree' : ∀ k ok, ops[k]? = some ok → k ≠ i → (listed.setIfInBounds j true).getD k true = false →
          (∀ e ∈ ok.after, Region.binds md e = true → e.on ≠ i) → oi.apart ops ok = true := fun k ok hk hki hun hno => by
        refine hfree k ok hk hki ?_ hno
        by_cases hjk : j = k
        · subst hjk; exact hjun
        · rw [getD_set_ne true hjk] at hun; exact hun
      refine nOp_mono (fun a' h3 => ih (listed.setIfInBounds j true) a' hfree' (ready_mono hr (Ne.symm hji)) h3.1 (fun v hv => ?_)) h2
      rw [Array.setIfInBounds_comm _ _ hji]
      exact h3.2 v hv

theorem wpAnyN_lex {Q : Act → Prop} (hs : Region.noSelect ops = true) (h0 : ∃ w, C w) (hwait : callsWait md ops = true) : ∀ (l : List Oper) (k : Nat) (listed : Array Bool) (a : Act), (∀ j, l[j]? = ops[k + j]?) →
    Region.lexFrom md ops l.length k listed = true → wpNoise P ops C Q l a → wpAnyN P md ops C Q l.length listed a
  | [], _, _, _, _, hB, h => ⟨by simpa [Region.lexFrom] using hB, h⟩
  | o :: l, k, listed, a, hl, hB, h => by
    have hk : ops[k]? = some o := by simpa using (hl 0).symm
    simp only [List.length_cons, Region.lexFrom, Bool.and_eq_true] at hB
    obtain ⟨⟨hr, hf⟩, hB'⟩ := hB
    obtain ⟨S, hy, hK⟩ := h
    exact wpAnyN_first hk (Region.noSelect_spec hs) h0 hwait l.length listed a (Region.free_spec hk hf) (by simpa using hr) hy
      (fun v hv => wpAnyN_lex hs h0 hwait l (k + 1) _ _ (fun j => by have := hl (j + 1); simpa [Nat.add_assoc, Nat.add_comm 1 j] using this) hB' (hK v hv))

/-- ONE WALK OF THE LEXICAL ORDER SERVES EVERY ORDER -/
theorem wp_region_noise {id : Nat} {Q : Exit → Act → World → Prop} {a : Act} {w : World} {l : List Oper} (hm : P.follows .mixedOrders = true) (hB : Region.lexB .any l.toArray = true) (hwait : callsWait .any l.toArray = true)
    (h : wpNoise P l.toArray (fun w' => ∃ n, w' = w.drewN n) (fun a' => ∀ w', (∃ n, w' = w.drewN n) → Q .normal a' w') l a) : (Code.region id l.toArray true).wp P Q a w := by
  simp only [Region.lexB, Bool.and_eq_true] at hB
  refine wp_region_any hm (wpAny_of_noise (Q := fun a' => ∀ w', (∃ n, w' = w.drewN n) → Q .normal a' w') (fun _ w' hw' h => h w' hw') _ _ _ _ ⟨1, rfl⟩ ?_)
  have := wpAnyN_lex (C := fun w' => ∃ n, w' = w.drewN n) (md := .any) hB.1 ⟨w.drewN 1, 1, rfl⟩ hwait l 0 (Array.replicate l.toArray.size false) a (by simp) (by simpa using hB.2) h
  simpa using this

/-! ### the steps of the walk -/
theorem noise_nil {Q : Act → Prop} {a : Act} (h : Q a) : wpNoise P ops C Q [] a := h
theorem noise_plain {Q : Act → Prop} {a : Act} {o : Oper} {rest : List Oper} (hw : Region.wanted o (yielded ops a.tmps) = true) (hk : kind o = 1) (v : Value) (hv : ∀ w, C w → (execOp a.eval o).run P w = .ok (.value v) w)
    (h : wpNoise P ops C Q rest (a.put o.dst v)) : wpNoise P ops C Q (o :: rest) a :=
  ⟨fun u => u = v, .inr (.inl ⟨hw, hk, v, fun _ => Iff.rfl, fun w hw => by rw [hv w hw]; exact ⟨rfl, rfl⟩⟩), fun u hu => by rw [hu]; exact h⟩
theorem noise_skip {Q : Act → Prop} {a : Act} {o : Oper} {rest : List Oper} (hw : Region.wanted o (yielded ops a.tmps) = false) (h : wpNoise P ops C Q rest (a.put o.dst undef)) : wpNoise P ops C Q (o :: rest) a :=
  ⟨fun u => u = undef, .inr (.inr (.inr ⟨hw, fun _ => Iff.rfl⟩)), fun u hu => by rw [hu]; exact h⟩
theorem noise_conv {Q : Act → Prop} {a : Act} {o : Oper} {rest : List Oper} (hw : Region.wanted o (yielded ops a.tmps) = true) (hk : kind o = 0) (S : Value → Prop) (hs : ∃ v, S v)
    (hv : ∀ w, C w → ∃ v w', (execOp a.eval o).run P w = .ok (.value v) w' ∧ C w' ∧ S v) (h : ∀ v, S v → wpNoise P ops C Q rest (a.put o.dst v)) : wpNoise P ops C Q (o :: rest) a :=
  ⟨S, .inl ⟨hw, hk, hs, fun w hw => by obtain ⟨v, w', e, c, s⟩ := hv w hw; rw [e]; exact ⟨c, s⟩⟩, h⟩
theorem noise_call {Q : Act → Prop} {a : Act} {o : Oper} {rest : List Oper} (hw : Region.wanted o (yielded ops a.tmps) = true) (hk : kind o = 2) (v : Value) (hv : ∀ w, C w → o.quietAt P a C w v)
    (h : wpNoise P ops C Q rest (a.put o.dst v)) : wpNoise P ops C Q (o :: rest) a :=
  ⟨fun u => u = v, .inr (.inr (.inl ⟨hw, hk, v, fun _ => Iff.rfl, hv⟩)), fun u hu => by rw [hu]; exact h⟩
/-- a step of each kind, what follows behind a variable -/
@[go_sem] def plain (P : Program) (o : Oper) (a : Act) (C : World → Prop) (K : Act → Prop) : Prop := ∃ v, (∀ w, C w → plainUpon w v ((execOp a.eval o).run P w)) ∧ K (a.put o.dst v)
theorem noise_step1 {Q : Act → Prop} {a : Act} {o : Oper} {rest : List Oper} (hk : kind o = 1)
    (h : ∀ K : Act → Prop, (∀ a, wpNoise P ops C Q rest a → K a) → if Region.wanted o (yielded ops a.tmps) then plain P o a C K else K (a.put o.dst undef)) : wpNoise P ops C Q (o :: rest) a := by
  have h1 := h _ (fun _ h => h)
  split at h1
  · rename_i hw
    obtain ⟨v, hv, hK⟩ := h1
    exact ⟨fun u => u = v, .inr (.inl ⟨hw, hk, v, fun _ => Iff.rfl, hv⟩), fun u hu => by rw [hu]; exact hK⟩
  · rename_i hw
    exact noise_skip (by simpa using hw) h1
theorem noise_step2 {Q : Act → Prop} {a : Act} {o : Oper} {rest : List Oper} (hk : kind o = 2)
    (h : ∀ K : Act → Prop, (∀ a, wpNoise P ops C Q rest a → K a) → if Region.wanted o (yielded ops a.tmps) then o.quiet P a C K else K (a.put o.dst undef)) : wpNoise P ops C Q (o :: rest) a := by
  have h1 := h _ (fun _ h => h)
  split at h1
  · rename_i hw
    obtain ⟨v, hv, hK⟩ := h1
    exact noise_call hw hk v hv hK
  · rename_i hw
    exact noise_skip (by simpa using hw) h1
theorem noise_step0 {Q : Act → Prop} {a : Act} {o : Oper} {rest : List Oper} (hk : kind o = 0)
    (h : ∀ K : Act → Prop, (∀ a, wpNoise P ops C Q rest a → K a) → if Region.wanted o (yielded ops a.tmps) then (∃ S : Value → Prop, (∃ v, S v) ∧ (∀ w, C w → noisyUpon C S ((execOp a.eval o).run P w)) ∧ ∀ v, S v → K (a.put o.dst v)) else K (a.put o.dst undef)) : wpNoise P ops C Q (o :: rest) a := by
  have h1 := h _ (fun _ h => h)
  split at h1
  · rename_i hw
    obtain ⟨S, hs, hv, hK⟩ := h1
    exact ⟨S, .inl ⟨hw, hk, hs, hv⟩, hK⟩
  · rename_i hw
    exact noise_skip (by simpa using hw) h1
end
end Noise
end Go.Proofs.Ytkajhgfimempaaa

/- The walk of the model's FirstDifference.
   Conditions: those that each statement names. -/
namespace Go.Proofs.Ytkajhgfimempaaa
set_option linter.unusedSimpArgs false
set_option linter.unusedVariables false
open Go Go.RowKit

/-- what was widened, whatever the bits of NaN -/
theorem sameX_fab {x y b1 b2 : Nat} (lx : x < 2 ^ 32) (ly : y < 2 ^ 32) (h1 : fab .f64 b1 = wA x) (h2 : fab .f64 b2 = wA y) : sameF b1 b2 = sameX x y := by
  have nn : ∀ {b z : Nat}, fab .f64 b = wA z → nan64 b = nan32 z := by
    intro b z h
    unfold wA at h
    cases hz : nan32 z with
    | true =>
      rw [hz] at h
      cases hb : nan64 b with
      | true => rfl
      | false => rw [fab_some hb] at h; cases h
    | false =>
      rw [hz] at h
      cases hb : nan64 b with
      | false => rfl
      | true => rw [fab_none hb] at h; cases h
  have wd : ∀ {b z : Nat}, fab .f64 b = wA z → nan32 z = false → b = wid z := by
    intro b z h hz
    have hb := nn h
    rw [hz] at hb
    unfold wA at h
    rw [hz, fab_some hb] at h
    simpa using h
  cases hx : nan32 x with
  | true =>
    have e1 := nn h1
    have e2 := nn h2
    rw [hx] at e1
    unfold sameF sameX
    rw [e1, e2, hx]
    cases hy : nan32 y with
    | true => simp
    | false =>
      have : x ≠ y := by intro e; subst e; rw [hx] at hy; cases hy
      simp [this]
  | false =>
    cases hy : nan32 y with
    | true =>
      have e1 := nn h1
      have e2 := nn h2
      rw [hx] at e1
      rw [hy] at e2
      unfold sameF sameX
      rw [e1, e2, hx, hy]
      have : x ≠ y := by intro e; subst e; rw [hx] at hy; cases hy
      simp [this]
    | false => rw [wd h1 hx, wd h2 hy, sameX_wide hx hy lx ly]

set_option maxHeartbeats 4000000 in
set_option maxRecDepth 100000 in
theorem specFirst_ok (xs ys : List Nat) (n m bx cy : Nat) (v u : Value) (hx : xs.length = n) (hy : ys.length = m) (hn : n ≤ 1048576) (hm : m ≤ 1048576) (h32 : ∀ x ∈ xs, x < 2 ^ 32) (k32 : ∀ y ∈ ys, y < 2 ^ 32) (w : World)
    (ox : w.ownsRow bx 23 1 v n (cellsS xs)) (oy : w.ownsRow cy 23 1 u m (cellsS ys)) :
    Calls Try.prog 17 #[v, u] w (FdP xs ys w) := by
  obtain ⟨va, vc, rfl⟩ := own_shape' ox
  obtain ⟨ua, uc, rfl⟩ := own_shape' oy
  have Ox := Lib.hid ox
  have Oy := Lib.hid oy
  have Hx := Lib.hid hx
  have Hy := Lib.hid hy
  have Hl := Lib.hid (And.intro h32 k32)
  clear ox oy hx hy h32 k32
  go_enter Try.func17, Try.ntmps17
  go_wp2_with fail
  go_loopw [5] (fun i wr => FdI xs ys n m w i wr) (fun i _ => n + m - (intOf i).toNat)
  case atStart => exact ⟨0, .inl (by omega), rfl, rfl, Nw.refl _⟩
  case round =>
    obtain ⟨k, hk, rfl, hfd, hN⟩ := hrel
    have Nr := Lib.hid hN
    have Hf := Lib.hid hfd
    clear hN hfd
    by_cases hlt : k < n
    · obtain ⟨x, hxk⟩ : ∃ x, xs[k]? = some x := ⟨xs[k]'(by rw [Hx.out]; exact hlt), List.getElem?_eq_getElem _⟩
      obtain ⟨g1, cap1, hv1, hcap1, hmax1, -, e1⟩ := own_sample (own_nw Ox.out Nr.out) hxk Hx.out.symm
      cases hv1
      by_cases hlt2 : k < m
      · obtain ⟨y, hyk⟩ : ∃ y, ys[k]? = some y := ⟨ys[k]'(by rw [Hy.out]; exact hlt2), List.getElem?_eq_getElem _⟩
        obtain ⟨g2, cap2, hv2, hcap2, hmax2, -, e2⟩ := own_sample (own_nw Oy.out Nr.out) hyk Hy.out.symm
        cases hv2
        unfold maxLen at hmax1 hmax2
        have lx := Hl.out.1 x (List.mem_of_getElem? hxk)
        have ly := Hl.out.2 y (List.mem_of_getElem? hyk)
        have Hk := Lib.hid (And.intro hxk hyk)
        have Lxy := Lib.hid (And.intro lx ly)
        clear hxk hyk lx ly
        have d1 : decide (n ≤ k) = false := by simp; omega
        have d2 : decide (m ≤ k) = false := by simp; omega
        by_cases hnan : nan32 x = false ∧ nan32 y = false
        · obtain ⟨hnx, hny⟩ := hnan
          have a1 := fcv_wide hnx
          have a2 := fcd_wide hnx
          have b1 := fcv_wide hny
          have b2 := fcd_wide hny
          have hw := (sameB_sameF (wid x) (wid y)).trans (sameX_wide hnx hny Lxy.out.1 Lxy.out.2)
          cases hs : sameX x y with
          | true =>
            have Hs := Lib.hid (Hf.out.trans (fdL_same Hk.out.1 Hk.out.2 hs))
            rw [hs] at hw
            go_upto_region 4 with fail
            go_quiet (first | (go_at_call 32; with_reducible exact quiet_eq (l8Same_any _ _ _)))
            all_goals
              go_wp2_with fail
              go_roundw
              case rel => exact ⟨k + 1, .inl (by omega), by rw [show ((k + 1 : Nat) : Int) = (k : Int) + 1 from by omega], Hs.out, Nr.out.draw _⟩
              case measure => simp only [intOf]; omega
          | false =>
            have Hs := Lib.hid (Hf.out.trans (fdL_differ Hk.out.1 Hk.out.2 hs))
            rw [hs] at hw
            go_upto_region 4 with fail
            go_quiet (first | (go_at_call 32; with_reducible exact quiet_eq (l8Same_any _ _ _)))
            all_goals
              go_wp2_with fail
              go_ret
              exact ⟨by rw [Hs.out]; rfl, Nr.out.draw _⟩
        · clear hnan
          cases hs : sameX x y with
          | true =>
            have Hs := Lib.hid (Hf.out.trans (fdL_same Hk.out.1 Hk.out.2 hs))
            have Hs0 := Lib.hid hs
            clear hs
            go_upto_region 4 with fail
            refine Noise.wp_region_noise (by kernel_rfl) (by kernel_rfl) (by kernel_rfl) ?_
            repeat (refine Noise.noise_step1 rfl (fun K hK => ?_); go_simp; refine hK _ ?_; clear hK K)
            refine Noise.noise_step0 rfl (fun K hK => ?_)
            go_simp
            refine ⟨fun v => ∃ b, v = .float .f64 b ∧ fab .f64 b = wA x, ⟨_, fcv wr .f32 x .f64, rfl, fab_wide x wr⟩, fun n => ⟨⟨_, rfl⟩, _, rfl, fab_wide x _⟩, ?_⟩
            rintro _ ⟨b1, rfl, hb1⟩
            refine hK _ ?_
            clear hK K
            repeat (refine Noise.noise_step1 rfl (fun K hK => ?_); go_simp; refine hK _ ?_; clear hK K)
            refine Noise.noise_step0 rfl (fun K hK => ?_)
            go_simp
            refine ⟨fun v => ∃ b, v = .float .f64 b ∧ fab .f64 b = wA y, ⟨_, fcv wr .f32 y .f64, rfl, fab_wide y wr⟩, fun n => ⟨⟨_, rfl⟩, _, rfl, fab_wide y _⟩, ?_⟩
            rintro _ ⟨b2, rfl, hb2⟩
            refine hK _ ?_
            clear hK K
            have hsb := (sameB_sameF b1 b2).trans (sameX_fab Lxy.out.1 Lxy.out.2 hb1 hb2)
            rw [Hs0.out] at hsb
            refine Noise.noise_step2 rfl (fun K hK => ?_)
            go_simp
            apply Exists.intro
            refine ⟨fun _ => ?_, hK _ ?_⟩
            · go_at_call 32; with_reducible exact quiet_eq (l8Same_any _ _ _)
            clear hK K
            repeat (refine Noise.noise_step1 rfl (fun K hK => ?_); go_simp; refine hK _ ?_; clear hK K)
            refine Noise.noise_nil ?_
            intro _ hw'
            obtain ⟨nq, hw''⟩ := hw'
            subst hw''
            go_wp2_with fail
            go_roundw
            case rel => exact ⟨k + 1, .inl (by omega), by rw [show ((k + 1 : Nat) : Int) = (k : Int) + 1 from by omega], Hs.out, Nr.out.draw _⟩
            case measure => simp only [intOf]; omega
          | false =>
            have Hs := Lib.hid (Hf.out.trans (fdL_differ Hk.out.1 Hk.out.2 hs))
            have Hs0 := Lib.hid hs
            clear hs
            go_upto_region 4 with fail
            refine Noise.wp_region_noise (by kernel_rfl) (by kernel_rfl) (by kernel_rfl) ?_
            repeat (refine Noise.noise_step1 rfl (fun K hK => ?_); go_simp; refine hK _ ?_; clear hK K)
            refine Noise.noise_step0 rfl (fun K hK => ?_)
            go_simp
            refine ⟨fun v => ∃ b, v = .float .f64 b ∧ fab .f64 b = wA x, ⟨_, fcv wr .f32 x .f64, rfl, fab_wide x wr⟩, fun n => ⟨⟨_, rfl⟩, _, rfl, fab_wide x _⟩, ?_⟩
            rintro _ ⟨b1, rfl, hb1⟩
            refine hK _ ?_
            clear hK K
            repeat (refine Noise.noise_step1 rfl (fun K hK => ?_); go_simp; refine hK _ ?_; clear hK K)
            refine Noise.noise_step0 rfl (fun K hK => ?_)
            go_simp
            refine ⟨fun v => ∃ b, v = .float .f64 b ∧ fab .f64 b = wA y, ⟨_, fcv wr .f32 y .f64, rfl, fab_wide y wr⟩, fun n => ⟨⟨_, rfl⟩, _, rfl, fab_wide y _⟩, ?_⟩
            rintro _ ⟨b2, rfl, hb2⟩
            refine hK _ ?_
            clear hK K
            have hsb := (sameB_sameF b1 b2).trans (sameX_fab Lxy.out.1 Lxy.out.2 hb1 hb2)
            rw [Hs0.out] at hsb
            refine Noise.noise_step2 rfl (fun K hK => ?_)
            go_simp
            apply Exists.intro
            refine ⟨fun _ => ?_, hK _ ?_⟩
            · go_at_call 32; with_reducible exact quiet_eq (l8Same_any _ _ _)
            clear hK K
            repeat (refine Noise.noise_step1 rfl (fun K hK => ?_); go_simp; refine hK _ ?_; clear hK K)
            refine Noise.noise_nil ?_
            intro _ hw'
            obtain ⟨nq, hw''⟩ := hw'
            subst hw''
            go_wp2_with fail
            go_ret
            exact ⟨by rw [Hs.out]; rfl, Nr.out.draw _⟩
      · have Hs := Lib.hid (Hf.out.trans (fdL_left (by rw [Hx.out]; exact hlt) (by rw [Hy.out]; omega)))
        have d1 : decide (n ≤ k) = false := by simp; omega
        have d2 : decide (m ≤ k) = true := by simp; omega
        clear e1 hxk
        go_upto_region 4 with fail
        go_quiet (fail)
        all_goals go_wp2_with fail
        all_goals
          go_ret
          exact ⟨by rw [Hs.out]; rfl, Nr.out.draw _⟩
    · by_cases hlt2 : k < m
      · have d1 : decide (n ≤ k) = true := by simp; omega
        have Hs := Lib.hid (Hf.out.trans (fdL_right (by rw [Hx.out]; omega) (by rw [Hy.out]; exact hlt2)))
        go_upto_region 4 with fail
        go_quiet (fail)
        all_goals go_wp2_with fail
        all_goals
          go_ret
          exact ⟨by rw [Hs.out]; rfl, Nr.out.draw _⟩
      · have Hs := Lib.hid (Hf.out.trans (fdL_end (by rw [Hx.out]; omega) (by rw [Hy.out]; omega)))
        go_wp2_with fail
        all_goals
          go_ret
          exact ⟨by rw [Hs.out]; rfl, Nr.out⟩

end Go.Proofs.Ytkajhgfimempaaa

/- Samples that are seen from somewhere on, compared (FnShifted, FnCut).
   Conditions: those that each statement names. -/
namespace Go.Proofs.Ytkajhgfimempaaa
set_option linter.unusedSimpArgs false
set_option linter.unusedVariables false
open Go Go.RowKit

theorem sameX_of_fab {x y : Nat} (h : fab .f32 x = fab .f32 y) : sameX x y = true := by
  unfold sameX nan32
  unfold fab at h
  cases hx : (FloatKind.f32.decode x).isNaN <;> cases hy : (FloatKind.f32.decode y).isNaN <;> rw [hx, hy] at h <;> simp at h ⊢
  exact h
set_option maxHeartbeats 4000000 in
set_option maxRecDepth 100000 in
theorem specFirst_view (xs ys : List Nat) (n bx cy : Nat) (v u : Value) (hx : xs.length = n) (hy : ys.length = n) (hn : n ≤ 1048576) (h32 : ∀ x ∈ xs, x < 2 ^ 32) (k32 : ∀ y ∈ ys, y < 2 ^ 32) (w : World)
    (ox : View w bx v xs) (oy : View w cy u ys) (hsame : ∀ (k : Nat) x y, xs[k]? = some x → ys[k]? = some y → sameX x y = true) :
    Calls Try.prog 17 #[v, u] w fun e w' => e = .returned (.int .i64 (-1)) ∧ Nw w w' := by
  obtain ⟨g1, o1, c1, cu1, rfl, hc1, hm1, -, hh1, ex⟩ := ox
  obtain ⟨g2, o2, c2, cu2, rfl, hc2, hm2, -, hh2, ey⟩ := oy
  rw [hx] at hc1 ⊢
  rw [hy] at hc2 ⊢
  have hg1 : g1 < w.heap.size := (Array.getElem?_eq_some_iff.1 hh1).1
  have hg2 : g2 < w.heap.size := (Array.getElem?_eq_some_iff.1 hh2).1
  have Ex := Lib.hid ex
  have Ey := Lib.hid ey
  have Hx := Lib.hid hx
  have Hy := Lib.hid hy
  have Hl := Lib.hid (And.intro h32 k32)
  have Hs := Lib.hid hsame
  unfold maxLen at hm1 hm2
  clear ex ey hx hy h32 k32 hh1 hh2 hsame
  go_enter Try.func17, Try.ntmps17
  go_wp2_with fail
  go_loopw [5] (fun i wr => ∃ k : Nat, k ≤ n ∧ i = .int .i64 (k : Int) ∧ Nw w wr) (fun i _ => n - (intOf i).toNat)
  case atStart => exact ⟨0, by omega, rfl, Nw.refl _⟩
  case round =>
    obtain ⟨k, hk, rfl, hN⟩ := hrel
    have Nr := Lib.hid hN
    clear hN
    by_cases hlt : k < n
    · obtain ⟨x, hxk⟩ : ∃ x, xs[k]? = some x := ⟨xs[k]'(by rw [Hx.out]; exact hlt), List.getElem?_eq_getElem _⟩
      obtain ⟨y, hyk⟩ : ∃ y, ys[k]? = some y := ⟨ys[k]'(by rw [Hy.out]; exact hlt), List.getElem?_eq_getElem _⟩
      have e1 : wr.cell? ⟨g1, o1 + k, none⟩ = some (.float .f32 x) := (Nr.out.cell (p := ⟨g1, o1 + k, none⟩) hg1).trans (Ex.out k x hxk)
      have e2 : wr.cell? ⟨g2, o2 + k, none⟩ = some (.float .f32 y) := (Nr.out.cell (p := ⟨g2, o2 + k, none⟩) hg2).trans (Ey.out k y hyk)
      have lx := Hl.out.1 x (List.mem_of_getElem? hxk)
      have ly := Hl.out.2 y (List.mem_of_getElem? hyk)
      have hs := Hs.out k x y hxk hyk
      have Lxy := Lib.hid (And.intro lx ly)
      clear hxk hyk lx ly
      have d1 : decide (n ≤ k) = false := by simp; omega
      by_cases hnan : nan32 x = false ∧ nan32 y = false
      · obtain ⟨hnx, hny⟩ := hnan
        have a1 := fcv_wide hnx
        have a2 := fcd_wide hnx
        have b1 := fcv_wide hny
        have b2 := fcd_wide hny
        have hw := (sameB_sameF (wid x) (wid y)).trans (sameX_wide hnx hny Lxy.out.1 Lxy.out.2)
        rw [hs] at hw
        clear hs
        go_upto_region 4 with fail
        go_quiet (first | (go_at_call 32; with_reducible exact quiet_eq (l8Same_any _ _ _)))
        all_goals
          go_wp2_with fail
          go_roundw
          case rel => exact ⟨k + 1, by omega, by rw [show ((k + 1 : Nat) : Int) = (k : Int) + 1 from by omega], Nr.out.draw _⟩
          case measure => simp only [intOf]; omega
      · clear hnan
        have Hs0 := Lib.hid hs
        clear hs
        go_upto_region 4 with fail
        refine Noise.wp_region_noise (by kernel_rfl) (by kernel_rfl) (by kernel_rfl) ?_
        repeat (refine Noise.noise_step1 rfl (fun K hK => ?_); go_simp; refine hK _ ?_; clear hK K)
        refine Noise.noise_step0 rfl (fun K hK => ?_)
        go_simp
        refine ⟨fun v => ∃ b, v = .float .f64 b ∧ fab .f64 b = wA x, ⟨_, fcv wr .f32 x .f64, rfl, fab_wide x wr⟩, fun n => ⟨⟨_, rfl⟩, _, rfl, fab_wide x _⟩, ?_⟩
        rintro _ ⟨b1, rfl, hb1⟩
        refine hK _ ?_
        clear hK K
        repeat (refine Noise.noise_step1 rfl (fun K hK => ?_); go_simp; refine hK _ ?_; clear hK K)
        refine Noise.noise_step0 rfl (fun K hK => ?_)
        go_simp
        refine ⟨fun v => ∃ b, v = .float .f64 b ∧ fab .f64 b = wA y, ⟨_, fcv wr .f32 y .f64, rfl, fab_wide y wr⟩, fun n => ⟨⟨_, rfl⟩, _, rfl, fab_wide y _⟩, ?_⟩
        rintro _ ⟨b2, rfl, hb2⟩
        refine hK _ ?_
        clear hK K
        have hsb := (sameB_sameF b1 b2).trans (sameX_fab Lxy.out.1 Lxy.out.2 hb1 hb2)
        rw [Hs0.out] at hsb
        refine Noise.noise_step2 rfl (fun K hK => ?_)
        go_simp
        apply Exists.intro
        refine ⟨fun _ => ?_, hK _ ?_⟩
        · go_at_call 32; with_reducible exact quiet_eq (l8Same_any _ _ _)
        clear hK K
        repeat (refine Noise.noise_step1 rfl (fun K hK => ?_); go_simp; refine hK _ ?_; clear hK K)
        refine Noise.noise_nil ?_
        intro _ hw'
        obtain ⟨nq, hw''⟩ := hw'
        subst hw''
        go_wp2_with fail
        go_roundw
        case rel => exact ⟨k + 1, by omega, by rw [show ((k + 1 : Nat) : Int) = (k : Int) + 1 from by omega], Nr.out.draw _⟩
        case measure => simp only [intOf]; omega
    · obtain rfl : k = n := by omega
      go_wp2_with fail
      all_goals
        go_ret
        exact ⟨rfl, Nr.out⟩
theorem same_view (xs ys : List Nat) (n bx cy : Nat) (v u : Value) (hx : xs.length = n) (hy : ys.length = n) (hn : n ≤ 1048576) (h32 : ∀ x ∈ xs, x < 2 ^ 32) (k32 : ∀ y ∈ ys, y < 2 ^ 32) (w : World)
    (ox : View w bx v xs) (oy : View w cy u ys) (hsame : ∀ (k : Nat) x y, xs[k]? = some x → ys[k]? = some y → sameX x y = true) :
    Calls Try.prog 8 #[v, u] w fun e w' => e = .returned (.bool true) ∧ Nw w w' := by
  have Hc := Lib.hid (specFirst_view xs ys n bx cy v u hx hy hn h32 k32 w ox oy hsame)
  clear ox oy hsame h32 k32
  go_enter Try.func8, Try.ntmps8
  go_wp2_with fail
  refine Hc.out.mono ?_
  rintro e w1 ⟨rfl, n1⟩
  have N1 := Lib.hid n1
  clear n1
  go_wp2_with fail
  go_ret
  exact ⟨rfl, N1.out⟩
end Go.Proofs.Ytkajhgfimempaaa

/- A shifted score: silence, then the score's own samples: plain (FnShifted).
   Conditions: those that each statement names. -/
namespace Go.Proofs.Ytkajhgfimempaaa
set_option linter.unusedSimpArgs false
set_option linter.unusedVariables false
open Go Go.RowKit
theorem rel_sign {R : Nat} (h : Rel R) : ∃ m j, Ieee.single.read R = .number false m j := by
  obtain ⟨s, m, j, hr⟩ := h.1.1
  cases s with
  | false => exact ⟨m, j, hr⟩
  | true =>
    exfalso
    have h0 := h.1.range.1
    rw [show S R = _ from Flo.V_eq hr] at h0
    unfold Flo.val at h0
    simp only [if_true] at h0
    have hp := Flo.pw_pos j
    have hm : m = 0 := by
      rcases Nat.eq_zero_or_pos m with h1 | h1
      · exact h1
      · exfalso
        have h2 : (1 : Rat) ≤ m := by exact_mod_cast h1
        have h3 := Rat.mul_le_mul_of_nonneg_right h2 (Rat.le_of_lt hp)
        grind
    subst hm
    have k : Ieee.single.read 2147483648 = .number true 0 (-149) := by decide
    have esw : 2 * Ieee.single.signWeight = 2 ^ 32 := by decide
    exact h.2.2 (Flo.read_inj Ieee.single hr k (by rw [esw]; exact h.2.1) (by rw [esw]; decide) (by simp))
theorem zero_mul_rel {R : Nat} (h : Rel R) : floatBits .mul .f32 0 R = some 0 := by
  obtain ⟨m, j, hr⟩ := rel_sign h
  have h0 : Ieee.single.read 0 = .number false 0 (-149) := by decide
  show Ieee.single.mul 0 R = some 0
  unfold Ieee.Format.mul
  rw [h0, hr]
  simp [Ieee.Datum.product, Ieee.Format.write, Ieee.Format.nearest]
  decide
theorem fab_zero : fab .f32 0 = some 0 := by decide
theorem absA_zero : absA 0 = some 0 := by decide
theorem limE_silent {R : Nat} (h : Rel R) : limE (some 0) 0 R = some 0 := by
  have hR : fab .f32 R = some R := by
    obtain ⟨m, j, hr⟩ := rel_sign h
    refine fab_some ?_
    show (Ieee.single.read R).isNaN = false
    rw [hr]; rfl
  have hm : fA .mul .f32 (some 0) (fab .f32 R) = some 0 := by rw [hR]; exact zero_mul_rel h
  unfold limE
  rw [hm, absA_zero]
  split <;> rfl
theorem limY_silent {C R : Nat} (h : Rel R) (hC : Sm C ∧ (FloatKind.f32.format.order C 0 == some .gt) = true) : limY (some 0) 0 C R = some 0 := by
  have hc : fab .f32 C = some C := by
    obtain ⟨s, m, j, hr⟩ := hC.1
    refine fab_some ?_
    show (Ieee.single.read C).isNaN = false
    rw [show Ieee.single.read C = _ from hr]; rfl
  have hg : gtA (some 0) (some C) = false := by
    have o1 := Flo.order_num Ieee.single C 0 hC.1 zero_single.1
    have o2 := Flo.order_num Ieee.single 0 C zero_single.1 hC.1
    have h1 := hC.2
    rw [show FloatKind.f32.format = Ieee.single from rfl, beq_iff_eq, o1.2.2] at h1
    show (FloatKind.f32.format.order 0 C == some .gt) = false
    rw [beq_eq_false_iff_ne, show FloatKind.f32.format = Ieee.single from rfl]
    intro e
    have h2 := o2.2.2.1 e
    grind
  unfold limY
  rw [limE_silent h, hc, hg, fab_zero]
  rfl
section
variable (bs : List (List M4)) (V : Nat) (es : List Ev6) (C R y : Nat) (h0 : ∀ e ∈ es, 0 ≤ e.t) (hR : Rel R) (hC : Sm C ∧ (FloatKind.f32.format.order C 0 == some .gt) = true)
include h0 hR
theorem eAt_early : ∀ k, k ≤ y → eAt bs V (es.map (Ev6.late y)) R 0 (fab .f32 0) k = some 0
  | 0, _ => fab_zero
  | k + 1, h => by
    show limE (eAt bs V (es.map (Ev6.late y)) R 0 (fab .f32 0) k) (sumAt bs V (es.map (Ev6.late y)) (0 + k)) R = some 0
    rw [eAt_early k (by omega), Nat.zero_add, sumAt_early bs V es y k h0 (by omega), limE_silent hR]
theorem eAt_late : ∀ k, eAt bs V (es.map (Ev6.late y)) R 0 (fab .f32 0) (y + k) = eAt bs V es R 0 (fab .f32 0) k
  | 0 => by rw [Nat.add_zero, eAt_early bs V es R y h0 hR y (Nat.le_refl _)]; exact fab_zero.symm
  | k + 1 => by
    show limE (eAt bs V (es.map (Ev6.late y)) R 0 (fab .f32 0) (y + k)) (sumAt bs V (es.map (Ev6.late y)) (0 + (y + k))) R = limE (eAt bs V es R 0 (fab .f32 0) k) (sumAt bs V es (0 + k)) R
    rw [eAt_late k, Nat.zero_add, Nat.zero_add, sumAt_late bs V es y k h0]
theorem yAt_late (k : Nat) : yAt bs V (es.map (Ev6.late y)) C R 0 (fab .f32 0) (y + k) = yAt bs V es C R 0 (fab .f32 0) k := by
  unfold yAt
  rw [eAt_late bs V es R y h0 hR k, Nat.zero_add, Nat.zero_add, sumAt_late bs V es y k h0]
include hC
theorem yAt_early (k : Nat) (hk : k < y) : yAt bs V (es.map (Ev6.late y)) C R 0 (fab .f32 0) k = some 0 := by
  unfold yAt
  rw [eAt_early bs V es R y h0 hR k (by omega), Nat.zero_add, sumAt_early bs V es y k h0 hk, limY_silent hR hC]
end
/-- a piece of a row, seen -/
theorem View.cut {w : World} {base n g : Nat} {xs : List Nat} (h : w.ownsRow base 23 1 (.slice (some ⟨g, 0, none⟩) n n) n (cellsS xs)) (hx : xs.length = n) (a b : Nat) (hab : a ≤ b) (hb : b ≤ n) (cap : Nat) (hcap : b - a ≤ cap) (hcm : cap ≤ maxLen) :
    View w base (.slice (some ⟨g, a, none⟩) (b - a) cap) ((xs.take b).drop a) := by
  rcases h.2 with ⟨h1, _⟩ | ⟨g', cap', cur, h1, q1, q2, q3, q4, q5⟩
  · cases h1
  · cases h1
    have hl : ((xs.take b).drop a).length = b - a := by simp; omega
    refine ⟨g, a, cap, cur, by rw [hl], by rw [hl]; exact hcap, hcm, q1, q2, fun k x hk => ?_⟩
    have hkl := (List.getElem?_eq_some_iff.1 hk).1
    rw [hl] at hkl
    rw [List.getElem?_drop, List.getElem?_take_of_lt (by omega)] at hk
    rw [h.cellAt (a + k) (by omega)]
    simp [cellsS, hk]
end Go.Proofs.Ytkajhgfimempaaa
