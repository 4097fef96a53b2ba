/- The walk of MakeScore: a score that is valid, in memory of its own.
   Conditions: those that each statement names. -/
import Derived.Test.YtcodiiajmffdoaaScoI
import Derived.Test.YtcodiiajmffdoaaMake
namespace Go.Proofs.Ytcodiiajmffdoaa
open Go Go.RowKit

def MadeSco (M : Nat) (w : World) (e : Ending) (w' : World) : Prop :=
  ∃ (L V C R : Nat) (bs : List (List M4)) (es : List Ev6) (sv ev : Value), e = .returned (.agg #[.int .i64 (L : Int), .int .i64 (V : Int), .float .f32 C, .float .f32 R, sv, ev]) ∧ L ≤ M ∧ ScoV w' w.heap.size L V C R bs es sv ev ∧ Nw w w'
theorem nw_six {w w' : World} {b : Nat} (h : Nw w w') (hb : w.heap.size ≤ b) (v0 v1 v2 v3 v4 v5 : Value) : Nw w ((((((w'.setCell ⟨b, 0, none⟩ v0).setCell ⟨b, 1, none⟩ v1).setCell ⟨b, 2, none⟩ v2).setCell ⟨b, 3, none⟩ v3).setCell ⟨b, 4, none⟩ v4).setCell ⟨b, 5, none⟩ v5) :=
  (((((h.set (p := ⟨b, 0, none⟩) hb _).set (p := ⟨b, 1, none⟩) hb _).set (p := ⟨b, 2, none⟩) hb _).set (p := ⟨b, 3, none⟩) hb _).set (p := ⟨b, 4, none⟩) hb _).set (p := ⟨b, 5, none⟩) hb _
theorem rows_six {w : World} {base b : Nat} {sv ev : Value} {bs : List (List M4)} {es : List Ev6} (h1 : BodsR w base sv bs) (h2 : w.ownsRow base 57 6 ev es.length (cellsE es)) (hb : b < base) (v0 v1 v2 v3 v4 v5 : Value) :
    BodsR ((((((w.setCell ⟨b, 0, none⟩ v0).setCell ⟨b, 1, none⟩ v1).setCell ⟨b, 2, none⟩ v2).setCell ⟨b, 3, none⟩ v3).setCell ⟨b, 4, none⟩ v4).setCell ⟨b, 5, none⟩ v5) base sv bs ∧
    ((((((w.setCell ⟨b, 0, none⟩ v0).setCell ⟨b, 1, none⟩ v1).setCell ⟨b, 2, none⟩ v2).setCell ⟨b, 3, none⟩ v3).setCell ⟨b, 4, none⟩ v4).setCell ⟨b, 5, none⟩ v5).ownsRow base 57 6 ev es.length (cellsE es) :=
  ⟨(((((h1.set (p := ⟨b, 0, none⟩) hb _).set (p := ⟨b, 1, none⟩) hb _).set (p := ⟨b, 2, none⟩) hb _).set (p := ⟨b, 3, none⟩) hb _).set (p := ⟨b, 4, none⟩) hb _).set (p := ⟨b, 5, none⟩) hb _,
   own_set (p := ⟨b, 5, none⟩) (own_set (p := ⟨b, 4, none⟩) (own_set (p := ⟨b, 3, none⟩) (own_set (p := ⟨b, 2, none⟩) (own_set (p := ⟨b, 1, none⟩) (own_set (p := ⟨b, 0, none⟩) h2 hb _) hb _) hb _) hb _) hb _) hb _⟩

set_option maxRecDepth 100000 in
set_option maxHeartbeats 1600000 in
theorem makeScore_any (a : Option Addr) (len cap M : Nat) (hM0 : 1 ≤ M) (hM : M ≤ 500) (w : World) (hb : Bys w.heap.size a len w) :
    Calls Try.prog 32 #[.slice a len cap, .int .i64 (M : Int)] w (MadeSco M w) := by
  have Hb := Lib.hid hb
  clear hb
  have hsz : ∀ o, (w.alloc o).heap.size = w.heap.size + 1 := fun o => by simp
  have Hsz := Lib.hid hsz
  clear hsz
  go_enter Try.func32, Try.ntmps32
  go_wp2_with fail
  refine (l01New_any _ _ _ _ ((Hb.out.below ((Below.refl _ _).alloc (Nat.le_refl _) _)).mono (by simp))).mono ?_
  rintro e w1 ⟨rfl, hat⟩
  rw [Hsz.out] at hat
  have Hr1 := Lib.hid ((HasC.new w 53 (.int .i64 0) (.int .i64 0) (.float .f32 0) (.float .f32 0) (.slice none 0 0) (.slice none 0 0)).kp hat.2 (by omega))
  have Hn1 := Lib.hid ((((Nw.refl w).alloc (.cells #[.int .i64 0, .int .i64 0, .float .f32 0, .float .f32 0, .slice none 0 0, .slice none 0 0] 53 (0, 0))).trans (hat.2.nw (by simp))))
  have Hat := Lib.hid hat
  clear hat
  have hmin : min (M : Int) 500 = M := by omega
  have hmax : max 0 (M : Int) = M := by omega
  go_wp2_with fail
  refine (l7Score_at _ _ _ _ _ _ M hM _ Hat.out.here).mono ?_
  rintro e w2 ⟨L, V, C, R, bs, es, sv, ev, rfl, k1, k2, k3, k4, k5, k6, k7, k8, k9, hbods, hevs, hc2⟩
  have Hr2 := Lib.hid (Hr1.out.kp hc2.2 (by omega))
  have Hn2 := Lib.hid (show Nw w w2 from ⟨hc2.2.os.trans Hn1.out.os, hc2.2.tape.trans Hn1.out.tape, hc2.2.output.trans Hn1.out.output, Nat.le_trans Hn1.out.size hc2.2.size,
    fun k hk hne => (hc2.2.block k (Nat.lt_of_lt_of_le hk Hn1.out.size) (fun e => by cases e; omega)).trans (Hn1.out.block k hk hne)⟩)
  have hs1 : w.heap.size + 1 ≤ w1.heap.size := by have := Hat.out.2.size; rw [Hsz.out] at this; exact this
  obtain ⟨sa, sc, rfl⟩ := hbods.shape
  obtain ⟨ea, ec, rfl⟩ := own_shape' hevs
  obtain ⟨z1, z2⟩ := rows_six hbods hevs (b := w.heap.size) (by omega) (.int .i64 (L : Int)) (.int .i64 (V : Int)) (.float .f32 C) (.float .f32 R) (.slice sa bs.length sc) (.slice ea es.length ec)
  have hfin : MadeSco M w (.returned (.agg #[.int .i64 (L : Int), .int .i64 (V : Int), .float .f32 C, .float .f32 R, .slice sa bs.length sc, .slice ea es.length ec])) _ :=
    ⟨L, V, C, R, bs, es, _, _, rfl, k1, ⟨by omega, ⟨k2, k3⟩, k4, k5, k6, k7, k8, k9, z1.base (by omega), own_base z2 (by omega)⟩, nw_six Hn2.out (Nat.le_refl _) _ _ _ _ _ _⟩
  have Hfin := Lib.hid hfin
  clear hc2 hfin z1 z2 hbods hevs k4 k5 k8 k9
  obtain ⟨⟨r0, f0⟩, ⟨r1, f1⟩, ⟨r2, f2⟩, ⟨r3, f3⟩, ⟨r4, f4⟩, ⟨r5, f5⟩⟩ := six_at Hr2.out
  go_wp2_with fail
  exact bodyPost_ret (v := .agg #[.int .i64 (L : Int), .int .i64 (V : Int), .float .f32 C, .float .f32 R, .slice sa bs.length sc, .slice ea es.length ec]) (by simp [results, Try.results32, go_sem, r0, r1, r2, r3, r4, r5, f0]) rfl Hfin.out

end Go.Proofs.Ytcodiiajmffdoaa
