/- The walk of DampBody over a valid body and a factor from 0 to 1.
   Conditions: those that each statement names. -/
import Derived.Test.YtfgofmcpgfofaaaClone
import Derived.Test.YtfgofmcpgfofaaaDamp
import Derived.Test.YtfgofmcpgfofaaaTrajS
import Derived.Deep.RegionHeld3
import Derived.StillTailTactics
namespace Go.Proofs.Ytfgofmcpgfofaaa
open Go Go.RowKit

def dampM (t : Nat) (m : M4) : M4 := ⟨opB .mul .f32 m.pr t, opB .mul .f32 m.pi t, m.gr, m.gi⟩

/-- 'x >= 0 && x <= 1', where it holds -/
theorem isFactor_ok (t : Nat) (w : World) (ht : Sm t) (h0 : 0 ≤ S t) (h1 : S t ≤ 1) :
    Calls Try.prog 82 #[.float .f32 t] w fun e w' => e = .returned (.bool true) ∧ w = w' := by
  have n1 : Sm 1065353216 ∧ S 1065353216 = 1 := by
    have h : Ieee.single.read 1065353216 = .number false 8388608 (-23) := by decide
    refine ⟨⟨_, _, _, h⟩, ?_⟩
    rw [show S 1065353216 = _ from Flo.V_eq h]
    unfold Flo.val
    have := Flo.pw_neg_mul 23
    rw [show Flo.pw 23 = 8388608 from Flo.pw_nat 23] at this
    simp only [Bool.false_eq_true, if_false]
    have e2 : ((8388608 : Nat) : Rat) = 8388608 := rfl
    rw [e2]; grind
  have o0 := Flo.order_num Ieee.single t 0 ht zero_single.1
  have o1 := Flo.order_num Ieee.single t 1065353216 ht n1.1
  have z : Flo.V Ieee.single 0 = 0 := zero_single.2
  have z1 : Flo.V Ieee.single 1065353216 = 1 := n1.2
  have k0 : (FloatKind.f32.format.order t 0 == some .gt || FloatKind.f32.format.order t 0 == some .eq) = true := by
    rw [show FloatKind.f32.format = Ieee.single from rfl, Bool.or_eq_true, beq_iff_eq, beq_iff_eq, o0.2.2, o0.2.1, z]
    show 0 < S t ∨ S t = 0
    grind
  have k1 : (FloatKind.f32.format.order t 1065353216 == some .lt || FloatKind.f32.format.order t 1065353216 == some .eq) = true := by
    rw [show FloatKind.f32.format = Ieee.single from rfl, Bool.or_eq_true, beq_iff_eq, beq_iff_eq, o1.1, o1.2.1, z1]
    show S t < 1 ∨ S t = 1
    grind
  clear o0 o1 z z1 ht h0 h1
  go_enter Try.func82, Try.ntmps82
  go_wp2
  go_ret
  exact ⟨rfl, rfl⟩

def dampL (ms : List M4) (t k : Nat) : List M4 := (ms.take k).map (dampM t) ++ ms.drop k
theorem dampL_len (ms : List M4) (t k : Nat) : (dampL ms t k).length = ms.length := by simp [dampL]; omega
theorem dampL_zero (ms : List M4) (t : Nat) : dampL ms t 0 = ms := by simp [dampL]
theorem dampL_full (ms : List M4) (t n : Nat) (h : ms.length = n) : dampL ms t n = ms.map (dampM t) := by
  simp [dampL, List.take_of_length_le (Nat.le_of_eq h), List.drop_of_length_le (Nat.le_of_eq h)]
theorem dampL_at (ms : List M4) (t k : Nat) (m : M4) (h : ms[k]? = some m) : (dampL ms t k)[k]? = some m := by
  obtain ⟨hk, he⟩ := List.getElem?_eq_some_iff.1 h
  unfold dampL
  rw [List.getElem?_append_right (by simp; omega)]
  simp only [List.length_map, List.length_take, Nat.min_eq_left (Nat.le_of_lt hk), Nat.sub_self, List.getElem?_drop, Nat.add_zero, h]
theorem cellsM_set (l : List M4) (k : Nat) (m m' : M4) (h : l[k]? = some m) (hg : m'.gr = m.gr ∧ m'.gi = m.gi) :
    (cellsM l).set (k * 2) (.complex .f32 m'.pr m'.pi) = cellsM (l.set k m') := by
  induction l generalizing k with
  | nil => simp at h
  | cons x l ih =>
    cases k with
    | zero =>
      simp at h
      subst h
      simp [cellsM, M4.cells, hg.1, hg.2]
    | succ k =>
      have hk := ih k (by simpa using h)
      simp only [cellsM, List.flatMap_cons, List.set_cons_succ] at *
      rw [show (k + 1) * 2 = k * 2 + 2 from by omega]
      simp only [M4.cells, List.cons_append, List.nil_append, List.set_cons_succ]
      rw [hk]
theorem dampL_set (ms : List M4) (t k : Nat) (m : M4) (h : ms[k]? = some m) : (dampL ms t k).set k (dampM t m) = dampL ms t (k + 1) := by
  obtain ⟨hk, he⟩ := List.getElem?_eq_some_iff.1 h
  unfold dampL
  rw [List.take_succ_eq_append_getElem hk, he, List.drop_eq_getElem_cons hk, he, List.set_append_right _ _ (by simp; omega)]
  simp [Nat.min_eq_left (Nat.le_of_lt hk)]

def DampP (n : Nat) (ms : List M4) (w : World) (e : Ending) (w' : World) : Prop :=
  ∃ v : Value, e = .returned (.tuple #[.agg #[v], .bool true]) ∧ w'.ownsRow w.heap.size 38 2 v n (cellsM ms) ∧ Nw w w'
def DampI (ms : List M4) (t n base D E : Nat) (v : Value) (w : World) (i : Value) (wr : World) : Prop :=
  ∃ k : Nat, k ≤ n ∧ i = .int .i64 (k : Int) ∧ wr.ownsRow base 38 2 v n (cellsM (dampL ms t k)) ∧ Has1 wr D (.slice none 0 0) ∧ Has1 wr E v ∧ Nw w wr

set_option maxRecDepth 100000 in
/-- the damped modes in the place of the others; what the caller holds beside them stays -/
theorem dampModes_ok (ms : List M4) (hms : ∀ m ∈ ms, m.ok) (n t base D E : Nat) (va : Option Addr) (vc : Nat) (hn : ms.length = n) (ht : Sm t) (h0 : 0 ≤ S t) (h1 : S t ≤ 1) (w w0 : World)
    (hm : w.ownsRow base 38 2 (.slice va n vc) n (cellsM ms)) (hD : Has1 w D (.slice none 0 0)) (hE : Has1 w E (.slice va n vc)) (hN : Nw w0 w)
    (hd : D < base) (he : ∀ q, (Value.slice va n vc).ownBlock = some q → q < E) (hb : w0.heap.size ≤ base) :
    Calls Try.prog 84 #[.slice va n vc, .float .f32 t] w fun e w' =>
      e = .returned (.tuple #[]) ∧ w'.ownsRow base 38 2 (.slice va n vc) n (cellsM (ms.map (dampM t))) ∧ Has1 w' D (.slice none 0 0) ∧ Has1 w' E (.slice va n vc) ∧ Nw w0 w' := by
  have O3 := Lib.hid hm
  have D3 := Lib.hid hD
  have E3 := Lib.hid hE
  have N3 := Lib.hid hN
  have Hd := Lib.hid hd
  have He := Lib.hid he
  have Hb := Lib.hid hb
  have Hms := Lib.hid hms
  have Hn := Lib.hid hn
  have Ht := Lib.hid (And.intro ht (And.intro h0 h1))
  clear hm hD hE hN hd he hb hms hn ht h0 h1
  go_enter Try.func84, Try.ntmps84
  go_wp2_with fail
  go_loopw [8] (fun i wr => DampI ms t n base D E (.slice va n vc) w0 i wr) (fun i _ => n - (intOf i).toNat)
  case atStart => exact ⟨0, by omega, rfl, by rw [dampL_zero]; exact O3.out, D3.out, E3.out, N3.out⟩
  case round =>
    obtain ⟨k, hk, rfl, own, hD, hE, hN⟩ := hrel
    have Ow := Lib.hid own
    have Dw := Lib.hid hD
    have Ew := Lib.hid hE
    have Nr := Lib.hid hN
    clear own hD hE hN
    by_cases hlt : k < n
    · obtain ⟨m, hmk⟩ : ∃ m, ms[k]? = some m := ⟨ms[k]'(by rw [Hn.out]; exact hlt), List.getElem?_eq_getElem _⟩
      obtain ⟨g, cap, hv, hcap, hmax, hgs, e1, e2⟩ := own_mode Ow.out (dampL_at ms t k m hmk) (by rw [dampL_len, Hn.out])
      cases hv
      have Hmk := Lib.hid hmk
      have Hmo := Lib.hid (Hms.out m (List.mem_of_getElem? hmk))
      unfold maxLen at hmax
      clear hmk
      have K1 := Lib.hid (HasMode.new wr 38 m.pr m.pi m.gr m.gi)
      have K2 := Lib.hid (Ow.out.alloc (.cells #[.complex .f32 m.pr m.pi, .complex .f32 m.gr m.gi] 38 (0, 0)))
      have K3 := Lib.hid (Dw.out.alloc (.cells #[.complex .f32 m.pr m.pi, .complex .f32 m.gr m.gi] 38 (0, 0)))
      have K4 := Lib.hid (Ew.out.alloc (.cells #[.complex .f32 m.pr m.pi, .complex .f32 m.gr m.gi] 38 (0, 0)))
      have K5 := Lib.hid (Nr.out.alloc (.cells #[.complex .f32 m.pr m.pi, .complex .f32 m.gr m.gi] 38 (0, 0)))
      go_wp2_with fail
      obtain ⟨w4, hw4⟩ : ∃ w4, w4 = wr.alloc (.cells #[.complex .f32 m.pr m.pi, .complex .f32 m.gr m.gi] 38 (0, 0)) := ⟨_, rfl⟩
      rw [← hw4] at K1 K2 K3 K4 K5
      rw [← hw4]
      clear hw4 e1 e2
      obtain ⟨l0, l1, l2, l3, l4⟩ := K1.out
      obtain ⟨s1, s2, s3, s4⟩ := Hmo.out.nums
      obtain ⟨p1, p2⟩ := Hmo.out.pole
      have D1' := Lib.hid (damp_part m.pr t s1 Ht.out.1 Ht.out.2.1 Ht.out.2.2 (by have := ra_le p1; grind))
      have D2' := Lib.hid (damp_part m.pi t s2 Ht.out.1 Ht.out.2.1 Ht.out.2.2 (by have := ra_le p2; grind))
      refine (implScale_ok _ _ _ _ D1'.out.1 D2'.out.1).mono ?_
      rintro e w5 ⟨rfl, rfl⟩
      have G2 := K2
      have G3 := K3
      have G4 := K4
      have G5 := K5
      have hs4 := (K2.out.lt _ rfl)
      clear l0 l1 l2 l3 l4
      have e3 := G2.out.cellAt (k * 2) (by omega)
      have hc := (cellsM_at _ k m (dampL_at ms t k m Hmk.out)).1
      rw [Nat.mul_comm] at hc
      rw [hc] at e3
      have e4 := G2.out.frozenAt (k * 2)
      have hset := G2.out.stored (k * 2) (.complex .f32 (dampM t m).pr (dampM t m).pi)
      rw [cellsM_set (dampL ms t k) k m (dampM t m) (dampL_at ms t k m Hmk.out) ⟨rfl, rfl⟩, dampL_set ms t k m Hmk.out] at hset
      have hs1' := Hd.out
      have hb' := Hb.out
      have hg1 : base ≤ g := (K2.out.lt g rfl).1
      have hne : g < E := He.out g rfl
      have hfin : DampI ms t n base D E (.slice (some ⟨g, 0, none⟩) n vc) w0 (.int .i64 ((k : Int) + 1)) (w4.setCell ⟨g, k * 2, none⟩ (.complex .f32 (opB .mul .f32 m.pr t) (opB .mul .f32 m.pi t))) :=
        ⟨k + 1, by omega, by rw [show ((k + 1 : Nat) : Int) = (k : Int) + 1 from by omega], hset.1, G3.out.set (by show g ≠ D; omega) _, G4.out.set (by show g ≠ E; omega) _, G5.out.set (by show w0.heap.size ≤ g; omega) _⟩
      have Hfin := Lib.hid hfin
      clear hfin hset hc
      go_wp2_with fail
      go_roundw
      case rel => exact Hfin.out
      case measure => simp only [intOf]; omega
    · obtain rfl : k = n := by omega
      go_wp2_with fail
      go_end0
      exact ⟨rfl, by rw [← dampL_full ms t k Hn.out]; exact Ow.out, Dw.out, Ew.out, Nr.out⟩

set_option maxRecDepth 100000 in
theorem dampBody_ok (ms : List M4) (hms : ∀ m ∈ ms, m.ok) (n bm t : Nat) (v : Value) (hn : ms.length = n) (hn16 : n ≤ 16) (ht : Sm t) (h0 : 0 ≤ S t) (h1 : S t ≤ 1) (w : World)
    (hm : w.ownsRow bm 38 2 v n (cellsM ms)) :
    Calls Try.prog 35 #[.agg #[v], .float .f32 t] w (DampP n (ms.map (dampM t)) w) := by
  obtain ⟨va, vc, rfl⟩ := own_shape' hm
  have Hm := Lib.hid ((hm.alloc (.cells #[.slice va n vc] 45 (0, 0))).alloc (.cells #[.slice none 0 0] 45 (0, 0)))
  have Hms := Lib.hid hms
  have Hn := Lib.hid hn
  have Ht := Lib.hid (And.intro ht (And.intro h0 h1))
  have N0 := Lib.hid (((Nw.refl w).alloc (.cells #[.slice va n vc] 45 (0, 0))).alloc (.cells #[.slice none 0 0] 45 (0, 0)))
  have B0 := Lib.hid ((Has1.new w 45 (.slice va n vc)).alloc (.cells #[.slice none 0 0] 45 (0, 0)))
  have D0 := Lib.hid (Has1.new (w.alloc (.cells #[.slice va n vc] 45 (0, 0))) 45 (.slice none 0 0))
  rw [show (w.alloc (.cells #[.slice va n vc] 45 (0, 0))).heap.size = w.heap.size + 1 from by simp] at D0
  clear hm hms hn ht h0 h1
  go_enter Try.func35, Try.ntmps35
  go_wp2_with fail
  refine (implIsBody_ok ms Hms.out n bm _ Hn.out hn16 _ Hm.out).mono ?_
  rintro e w1 ⟨rfl, n1⟩
  have N1 := Lib.hid (N0.out.trans n1)
  have M1 := Lib.hid (own_nw Hm.out n1)
  have B1 := Lib.hid (B0.out.nw n1)
  have D1 := Lib.hid (D0.out.nw n1)
  clear n1
  obtain ⟨b0, b1, b2⟩ := B1.out
  go_wp2_with fail
  refine (isFactor_ok t _ Ht.out.1 Ht.out.2.1 Ht.out.2.2).mono ?_
  rintro e w2 ⟨rfl, rfl⟩
  go_wp2_with fail
  refine (clone_modes ms n bm _ Hn.out (by omega) _ M1.out).mono ?_
  rintro e w3 ⟨v3, rfl, own3, n3⟩
  obtain ⟨va3, vc3, rfl⟩ := own_shape' own3
  rw [Hn.out] at own3 ⊢
  have N3 := Lib.hid ((N1.out.trans n3).alloc (.cells #[.slice va3 n vc3] 45 (0, 0)))
  have Hlt3 := Lib.hid (fun q hq => (own3.lt q hq).2)
  have O3 := Lib.hid (own3.alloc (.cells #[.slice va3 n vc3] 45 (0, 0)))
  have D3 := Lib.hid ((D1.out.nw n3).alloc (.cells #[.slice va3 n vc3] 45 (0, 0)))
  have E3 := Lib.hid (Has1.new w3 45 (.slice va3 n vc3))
  have hs1 := Lib.hid (show w.heap.size + 2 ≤ w1.heap.size from by have h1 := D1.out.1; omega)
  clear own3 n3 b0 b1 b2
  obtain ⟨f0, f1, f2⟩ := E3.out
  go_wp2_with fail
  refine (dampModes_ok ms Hms.out n t w1.heap.size (w.heap.size + 1) w3.heap.size va3 vc3 Hn.out Ht.out.1 Ht.out.2.1 Ht.out.2.2 _ w O3.out D3.out E3.out N3.out (by have := hs1.out; omega) Hlt3.out (by have := hs1.out; omega)).mono ?_
  rintro e w4 ⟨rfl, own, hD, hE, hN⟩
  have Ow := Lib.hid own
  have Dw := Lib.hid hD
  have Nr := Lib.hid hN
  clear own f0 f1 f2
  obtain ⟨f0, f1, f2⟩ := hE
  obtain ⟨d0, d1, d2⟩ := hD
  go_wp2_with fail
  exact bodyPost_ret (v := .tuple #[.agg #[.slice va3 n vc3], .bool true]) (by simp [results, Try.results35, go_sem, d0, d1, d2]) rfl ⟨_, rfl, own_base (own_set Ow.out (by show w.heap.size + 1 < w1.heap.size; have := hs1.out; omega) _) (by have := hs1.out; omega), Nr.out.set (by show w.heap.size ≤ w.heap.size + 1; omega) _⟩

end Go.Proofs.Ytfgofmcpgfofaaa
