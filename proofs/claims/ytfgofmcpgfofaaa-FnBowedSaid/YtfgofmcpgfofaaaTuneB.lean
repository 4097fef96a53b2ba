/- The walk of TuneBody over a valid body and the number 1.
   Conditions: those that each statement names. -/
import Derived.Test.YtfgofmcpgfofaaaLess
import Derived.Deep.RegionHeld3
import Derived.StillTailTactics
namespace Go.Proofs.Ytfgofmcpgfofaaa
open Go Go.RowKit

theorem tune_part1 (m : M4) (h : m.ok) : PartOk .sub m.pr 1065353216 m.pi 0 (S m.pr * S 1065353216 - S m.pi * S 0) 4 4 := by
  obtain ⟨s1, s2, s3, s4⟩ := h.nums
  obtain ⟨p1, p2⟩ := h.pole
  have l1 : (4 : Rat) ≤ Flo.pw 120 := by
    have : Flo.pw 2 ≤ Flo.pw 120 := Flo.pw_le (by omega)
    rw [show Flo.pw 2 = 4 from Flo.pw_nat 2] at this
    exact this
  have l2 : (4 : Rat) ≤ Flo.pw 125 := by
    have : Flo.pw 2 ≤ Flo.pw 125 := Flo.pw_le (by omega)
    rw [show Flo.pw 2 = 4 from Flo.pw_nat 2] at this
    exact this
  refine part_sub m.pr 1065353216 m.pi 0 s1 one_s.1 s2 nil_s.1 4 4 ?_ ?_ ?_ l1 l2
  all_goals (try rw [one_s.2]) <;> (try rw [nil_s.2])
  all_goals (unfold Flo.Ab at *; constructor <;> grind)
theorem tune_part2 (m : M4) (h : m.ok) : PartOk .add m.pr 0 m.pi 1065353216 (S m.pr * S 0 + S m.pi * S 1065353216) 4 4 := by
  obtain ⟨s1, s2, s3, s4⟩ := h.nums
  obtain ⟨p1, p2⟩ := h.pole
  have l1 : (4 : Rat) ≤ Flo.pw 120 := by
    have : Flo.pw 2 ≤ Flo.pw 120 := Flo.pw_le (by omega)
    rw [show Flo.pw 2 = 4 from Flo.pw_nat 2] at this
    exact this
  have l2 : (4 : Rat) ≤ Flo.pw 125 := by
    have : Flo.pw 2 ≤ Flo.pw 125 := Flo.pw_le (by omega)
    rw [show Flo.pw 2 = 4 from Flo.pw_nat 2] at this
    exact this
  refine part_add m.pr 0 m.pi 1065353216 s1 nil_s.1 s2 one_s.1 4 4 ?_ ?_ ?_ l1 l2
  all_goals (try rw [one_s.2]) <;> (try rw [nil_s.2])
  all_goals (unfold Flo.Ab at *; constructor <;> grind)

def tuneL (ms : List M4) (k : Nat) : List M4 := (ms.take k).map tuneM ++ ms.drop k
theorem tuneL_len (ms : List M4) (k : Nat) : (tuneL ms k).length = ms.length := by simp [tuneL]; omega
theorem tuneL_zero (ms : List M4) : tuneL ms 0 = ms := by simp [tuneL]
theorem tuneL_full (ms : List M4) (n : Nat) (h : ms.length = n) : tuneL ms n = ms.map tuneM := by
  simp [tuneL, List.take_of_length_le (Nat.le_of_eq h), List.drop_of_length_le (Nat.le_of_eq h)]
theorem tuneL_at (ms : List M4) (k : Nat) (m : M4) (h : ms[k]? = some m) : (tuneL ms k)[k]? = some m := by
  obtain ⟨hk, he⟩ := List.getElem?_eq_some_iff.1 h
  unfold tuneL
  rw [List.getElem?_append_right (by simp; omega)]
  simp only [List.length_map, List.length_take, Nat.min_eq_left (Nat.le_of_lt hk), Nat.sub_self, List.getElem?_drop, Nat.add_zero, h]
theorem tuneL_set (ms : List M4) (k : Nat) (m : M4) (h : ms[k]? = some m) : (tuneL ms k).set k (tuneM m) = tuneL ms (k + 1) := by
  obtain ⟨hk, he⟩ := List.getElem?_eq_some_iff.1 h
  unfold tuneL
  rw [List.take_succ_eq_append_getElem hk, he, List.drop_eq_getElem_cons hk, he, List.set_append_right _ _ (by simp; omega)]
  simp [Nat.min_eq_left (Nat.le_of_lt hk)]

def TuneI (ms : List M4) (n base D E : Nat) (v : Value) (w : World) (i : Value) (wr : World) : Prop :=
  ∃ k : Nat, k ≤ n ∧ i = .int .i64 (k : Int) ∧ wr.ownsRow base 38 2 v n (cellsM (tuneL ms k)) ∧ Has1 wr D (.slice none 0 0) ∧ Has1 wr E v ∧ Nw w wr

set_option maxRecDepth 100000 in
theorem tuneBody_ok (ms : List M4) (hms : ∀ m ∈ ms, m.ok) (n bm : Nat) (v : Value) (hn : ms.length = n) (hn16 : n ≤ 16) (w : World)
    (hm : w.ownsRow bm 38 2 v n (cellsM ms)) :
    Calls Try.prog 40 #[.agg #[v], .complex .f32 1065353216 0] w (DampP n (ms.map tuneM) w) := by
  obtain ⟨va, vc, rfl⟩ := own_shape' hm
  have Hm := Lib.hid ((hm.alloc (.cells #[.slice va n vc] 45 (0, 0))).alloc (.cells #[.slice none 0 0] 45 (0, 0)))
  have Hms := Lib.hid hms
  have Hn := Lib.hid hn
  have N0 := Lib.hid (((Nw.refl w).alloc (.cells #[.slice va n vc] 45 (0, 0))).alloc (.cells #[.slice none 0 0] 45 (0, 0)))
  have B0 := Lib.hid ((Has1.new w 45 (.slice va n vc)).alloc (.cells #[.slice none 0 0] 45 (0, 0)))
  have D0 := Lib.hid (Has1.new (w.alloc (.cells #[.slice va n vc] 45 (0, 0))) 45 (.slice none 0 0))
  rw [show (w.alloc (.cells #[.slice va n vc] 45 (0, 0))).heap.size = w.heap.size + 1 from by simp] at D0
  clear hm hms hn
  go_enter Try.func40, Try.ntmps40
  go_wp2_with fail
  refine (implIsBody_ok ms Hms.out n bm _ Hn.out hn16 _ Hm.out).mono ?_
  rintro e w1 ⟨rfl, n1⟩
  have N1 := Lib.hid (N0.out.trans n1)
  have M1 := Lib.hid (own_nw Hm.out n1)
  have B1 := Lib.hid (B0.out.nw n1)
  have D1 := Lib.hid (D0.out.nw n1)
  clear n1
  obtain ⟨b0, b1, b2⟩ := B1.out
  go_wp2_with fail
  refine (clone_modes ms n bm _ Hn.out (by omega) _ M1.out).mono ?_
  rintro e w3 ⟨v3, rfl, own3, n3⟩
  obtain ⟨va3, vc3, rfl⟩ := own_shape' own3
  rw [Hn.out] at own3 ⊢
  have N3 := Lib.hid ((N1.out.trans n3).alloc (.cells #[.slice va3 n vc3] 45 (0, 0)))
  have Hlt3 := Lib.hid (fun q hq => (own3.lt q hq).2)
  have O3 := Lib.hid (own3.alloc (.cells #[.slice va3 n vc3] 45 (0, 0)))
  have D3 := Lib.hid ((D1.out.nw n3).alloc (.cells #[.slice va3 n vc3] 45 (0, 0)))
  have E3 := Lib.hid (Has1.new w3 45 (.slice va3 n vc3))
  have hs3 := Lib.hid (show w.heap.size + 2 ≤ w3.heap.size from by have h1 := (D1.out.nw n3).1; omega)
  have hs1 := Lib.hid (show w.heap.size + 2 ≤ w1.heap.size from by have h1 := D1.out.1; omega)
  clear own3 n3 b0 b1 b2
  obtain ⟨d0, d1, d2⟩ := D3.out
  go_wp2_with fail
  go_loopw [20] (fun i wr => TuneI ms n w1.heap.size (w.heap.size + 1) w3.heap.size (.slice va3 n vc3) w i wr) (fun i _ => n - (intOf i).toNat)
  case atStart => exact ⟨0, by omega, rfl, by rw [tuneL_zero]; exact O3.out, D3.out, E3.out, N3.out⟩
  case round =>
    obtain ⟨k, hk, rfl, own, hD, hE, hN⟩ := hrel
    have Ow := Lib.hid own
    have Dw := Lib.hid hD
    have Ew := Lib.hid hE
    have Nr := Lib.hid hN
    clear own hD hE hN d0 d1 d2
    by_cases hlt : k < n
    · obtain ⟨m, hmk⟩ : ∃ m, ms[k]? = some m := ⟨ms[k]'(by rw [Hn.out]; exact hlt), List.getElem?_eq_getElem _⟩
      obtain ⟨g, cap, hv, hcap, hmax, hgs, e1, e2⟩ := own_mode Ow.out (tuneL_at ms k m hmk) (by rw [tuneL_len, Hn.out])
      cases hv
      have Hmk := Lib.hid hmk
      have Hmo := Lib.hid (Hms.out m (List.mem_of_getElem? hmk))
      unfold maxLen at hmax
      clear hmk
      have K1 := Lib.hid (HasMode.new wr 38 m.pr m.pi m.gr m.gi)
      have K2 := Lib.hid (Ow.out.alloc (.cells #[.complex .f32 m.pr m.pi, .complex .f32 m.gr m.gi] 38 (0, 0)))
      have K3 := Lib.hid (Dw.out.alloc (.cells #[.complex .f32 m.pr m.pi, .complex .f32 m.gr m.gi] 38 (0, 0)))
      have K4 := Lib.hid (Ew.out.alloc (.cells #[.complex .f32 m.pr m.pi, .complex .f32 m.gr m.gi] 38 (0, 0)))
      have K5 := Lib.hid (Nr.out.alloc (.cells #[.complex .f32 m.pr m.pi, .complex .f32 m.gr m.gi] 38 (0, 0)))
      go_wp2_with fail
      obtain ⟨w4, hw4⟩ : ∃ w4, w4 = wr.alloc (.cells #[.complex .f32 m.pr m.pi, .complex .f32 m.gr m.gi] 38 (0, 0)) := ⟨_, rfl⟩
      rw [← hw4] at K1 K2 K3 K4 K5
      rw [← hw4]
      clear hw4 e1 e2
      obtain ⟨l0, l1, l2, l3, l4⟩ := K1.out
      obtain ⟨f0, f1, f2⟩ := K4.out
      obtain ⟨s1, s2, s3, s4⟩ := Hmo.out.nums
      obtain ⟨p1, p2⟩ := Hmo.out.pole
      have P1 := Lib.hid (tune_part1 m Hmo.out)
      have P2 := Lib.hid (tune_part2 m Hmo.out)
      refine wp_region_still_tail 7 (by kernel_rfl) (by kernel_rfl) ?_
      simp only [List.take_succ_cons, List.take_zero, List.drop_succ_cons, List.drop_zero]
      repeat still_step
      still_call ((implMulSingle_ok _ _ _ _ _ s1 s2 one_s.1 nil_s.1 ⟨_, _, _, P1.out⟩ ⟨_, _, _, P2.out⟩).mono fun _ _ h => ⟨h.1, h.2.symm⟩)
      refine wpStill_nil ?_
      change wpList _ _ _ _ _ (w4.drewN 1)
      have G2 := Lib.hid (own_nw K2.out ((Nw.refl w4).draw 1))
      have G3 := Lib.hid (K3.out.draw 1)
      have G4 := Lib.hid (K4.out.draw 1)
      have G5 := Lib.hid (K5.out.draw 1)
      have hs4 := (K2.out.lt _ rfl)
      clear l0 l1 l2 l3 l4 f0 f1 f2
      generalize w4.drewN 1 = w5 at *
      have e3 := G2.out.cellAt (k * 2) (by omega)
      have hc := (cellsM_at _ k m (tuneL_at ms k m Hmk.out)).1
      rw [Nat.mul_comm] at hc
      rw [hc] at e3
      have e4 := G2.out.frozenAt (k * 2)
      have hset := G2.out.stored (k * 2) (.complex .f32 (tuneM m).pr (tuneM m).pi)
      rw [cellsM_set (tuneL ms k) k m (tuneM m) (tuneL_at ms k m Hmk.out) ⟨rfl, rfl⟩, tuneL_set ms k m Hmk.out] at hset
      have hs1' := hs1.out
      have hs3' := hs3.out
      have hg1 : w1.heap.size ≤ g := (K2.out.lt g rfl).1
      have hg3 : g < w3.heap.size := Hlt3.out g rfl
      have hne : g ≠ w3.heap.size := by omega
      have hfin : TuneI ms n w1.heap.size (w.heap.size + 1) w3.heap.size (.slice (some ⟨g, 0, none⟩) n vc3) w (.int .i64 ((k : Int) + 1)) (w5.setCell ⟨g, k * 2, none⟩ (.complex .f32 (tuneM m).pr (tuneM m).pi)) :=
        ⟨k + 1, by omega, by rw [show ((k + 1 : Nat) : Int) = (k : Int) + 1 from by omega], hset.1, G3.out.set (by show g ≠ w.heap.size + 1; omega) _, G4.out.set hne _, G5.out.set (by show w.heap.size ≤ g; omega) _⟩
      have Hfin := Lib.hid hfin
      clear hfin hset hc
      go_wp2_with fail
      go_roundw
      case rel => exact Hfin.out
      case measure => simp only [intOf]; omega
    · obtain rfl : k = n := by omega
      obtain ⟨f0, f1, f2⟩ := Ew.out
      obtain ⟨d0, d1, d2⟩ := Dw.out
      go_wp2_with fail
      have Of := Lib.hid (show wr.ownsRow w1.heap.size 38 2 (.slice va3 k vc3) k (cellsM (ms.map tuneM)) from by rw [← tuneL_full ms k Hn.out]; exact Ow.out)
      refine (implIsBody_ok (ms.map tuneM) (fun m hm => by obtain ⟨m0, h0, rfl⟩ := List.mem_map.1 hm; exact (tuneM_ok m0 (Hms.out m0 h0)).1) k _ _ (by rw [List.length_map]; exact Hn.out) hn16 _ Of.out).mono ?_
      rintro e w6 ⟨rfl, n6⟩
      have O6 := Lib.hid (own_nw Of.out n6)
      have D6 := Lib.hid (Dw.out.nw n6)
      have E6 := Lib.hid (Ew.out.nw n6)
      have N6 := Lib.hid (Nr.out.trans n6)
      clear f0 f1 f2 d0 d1 d2 n6
      obtain ⟨f0, f1, f2⟩ := E6.out
      obtain ⟨d0, d1, d2⟩ := D6.out
      go_wp2_with fail
      exact bodyPost_ret (v := .tuple #[.agg #[.slice va3 k vc3], .bool true]) (by simp [results, Try.results40, go_sem, d0, d1, d2]) rfl ⟨_, rfl, own_base (own_set O6.out (by show w.heap.size + 1 < w1.heap.size; have := hs1.out; omega) _) (by have := hs1.out; omega), N6.out.set (by show w.heap.size ≤ w.heap.size + 1; omega) _⟩

end Go.Proofs.Ytfgofmcpgfofaaa
