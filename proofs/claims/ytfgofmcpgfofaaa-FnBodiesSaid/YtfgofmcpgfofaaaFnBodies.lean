/- The law FnBodies, proved: merged bodies have no pole twice, and as many modes at most as both; damping keeps bodies valid and makes no part of a pole greater; tuning by 1 changes no pole.
   Conditions: none beyond the statement's own. -/
import Derived.Test.YtfgofmcpgfofaaaSpecM
import Derived.Test.YtfgofmcpgfofaaaTuneB
import Derived.Test.YtfgofmcpgfofaaaFac
import Derived.Test.YtfgofmcpgfofaaaRow
import Derived.Test.YtfgofmcpgfofaaaRows
namespace Go.Proofs.Ytfgofmcpgfofaaa.fnBodies
open Go.ChangeShapes Go.WideShapes Go.ChangeAt Go.RowKit
open Go.ChangeMaps (open_string shut_string)
set_option linter.unusedVariables false

theorem bys_step {w w1 : World} {a : Option Addr} {len : Nat} (h : Bys w.heap.size a len w) (hb : Nw w w1) : Bys w1.heap.size a len w1 :=
  (h.below ⟨hb.os, hb.tape, hb.output, hb.size, fun k hk => hb.block k hk (by simp)⟩).mono hb.size
theorem nw_of_below {w w1 : World} (h : Below w.heap.size w w1) : Nw w w1 := ⟨h.os, h.tape, h.output, h.size, fun k hk _ => h.block k hk⟩
theorem nw_below {w w' : World} (hb : Nw w w') : Below w.heap.size w w' := ⟨hb.os, hb.tape, hb.output, hb.size, fun k hk => hb.block k hk (by simp)⟩

/-! ### no pole twice -/
theorem eqB_symm {a b : Nat} (h : eqB a b = true) : eqB b a = true := by
  unfold eqB at *
  rw [show FloatKind.f32.format = Ieee.single from rfl, beq_iff_eq] at *
  cases ha : Ieee.single.read a with
  | nan s f => unfold Ieee.Format.order at h; rw [ha] at h; cases h
  | infinity s =>
    cases hb : Ieee.single.read b with
    | nan s f => unfold Ieee.Format.order at h; rw [ha, hb] at h; cases h
    | infinity t => unfold Ieee.Format.order at h ⊢; rw [ha, hb] at h; rw [ha, hb]; cases s <;> cases t <;> first | rfl | cases h
    | number t n j => unfold Ieee.Format.order at h; rw [ha, hb] at h; cases s <;> cases h
  | number s m i =>
    cases hb : Ieee.single.read b with
    | nan s f => unfold Ieee.Format.order at h; rw [ha, hb] at h; cases h
    | infinity t => unfold Ieee.Format.order at h; rw [ha, hb] at h; cases t <;> cases h
    | number t n j =>
      have e1 := Flo.order_num Ieee.single a b ⟨_, _, _, ha⟩ ⟨_, _, _, hb⟩
      have e2 := Flo.order_num Ieee.single b a ⟨_, _, _, hb⟩ ⟨_, _, _, ha⟩
      exact e2.2.1.2 (e1.2.1.1 h).symm
/-- the poles of a list differ from one another -/
def Apart (l : List M4) : Prop := ∀ (i k : Nat) x y, k < i → l[i]? = some x → l[k]? = some y → poleEq x y = false
theorem poleEq_left {x x' y : M4} (h : x'.pr = x.pr ∧ x'.pi = x.pi) : poleEq x' y = poleEq x y := by unfold poleEq; rw [h.1, h.2]
theorem poleEq_right {x y y' : M4} (h : y'.pr = y.pr ∧ y'.pi = y.pi) : poleEq x y' = poleEq x y := by unfold poleEq; rw [h.1, h.2]
theorem poleEq_symm {x y : M4} (h : poleEq x y = true) : poleEq y x = true := by
  unfold poleEq at *
  rw [Bool.and_eq_true] at *
  exact ⟨eqB_symm h.1, eqB_symm h.2⟩
theorem poleEq_symm' {x y : M4} (h : poleEq x y = false) : poleEq y x = false := by
  cases hb : poleEq y x
  · rfl
  · rw [poleEq_symm hb] at h; cases h
theorem put1_cases (l : List M4) (m : M4) : (∃ (k : Nat) (x : M4), l[k]? = some x ∧ put1 l m = l.set k (addG x m)) ∨ ((∀ x ∈ l, poleEq x m = false) ∧ put1 l m = l ++ [m]) := by
  induction l with
  | nil => right; exact ⟨fun x hx => by simp at hx, rfl⟩
  | cons y l ih =>
    cases hy : poleEq y m with
    | true => left; exact ⟨0, y, rfl, by simp [put1, hy]⟩
    | false =>
      rcases ih with ⟨k, x, h1, h2⟩ | ⟨h1, h2⟩
      · left; exact ⟨k + 1, x, by simpa using h1, by simp [put1, hy, h2]⟩
      · right
        refine ⟨fun x hx => ?_, by simp [put1, hy, h2]⟩
        rcases List.mem_cons.1 hx with rfl | hx
        · exact hy
        · exact h1 x hx
theorem apart_put (l : List M4) (m : M4) (h : Apart l) : Apart (put1 l m) := by
  rcases put1_cases l m with ⟨j, z, h1, h2⟩ | ⟨h1, h2⟩
  · rw [h2]
    intro i k x y hk hx hy
    have hjl := (List.getElem?_eq_some_iff.1 h1).1
    have look : ∀ (i : Nat) x, (l.set j (addG z m))[i]? = some x → ∃ x', l[i]? = some x' ∧ x.pr = x'.pr ∧ x.pi = x'.pi := by
      intro i x hx
      rw [List.getElem?_set] at hx
      split at hx
      · rename_i e; subst e
        cases hx
        exact ⟨z, h1, rfl, rfl⟩
      · exact ⟨x, hx, rfl, rfl⟩
    obtain ⟨x', a1, a2⟩ := look i x hx
    obtain ⟨y', b1, b2⟩ := look k y hy
    rw [poleEq_left a2, poleEq_right b2]
    exact h i k x' y' hk a1 b1
  · rw [h2]
    intro i k x y hk hx hy
    have hi := (List.getElem?_eq_some_iff.1 hx).1
    simp at hi
    have hkl : k < l.length := by omega
    rw [List.getElem?_append_left hkl] at hy
    by_cases hil : i < l.length
    · rw [List.getElem?_append_left hil] at hx
      exact h i k x y hk hx hy
    · rw [List.getElem?_append_right (by omega)] at hx
      obtain rfl : i = l.length := by omega
      simp at hx
      subst hx
      exact poleEq_symm' (h1 y (List.mem_of_getElem? hy))
theorem apart_fold : ∀ (l acc : List M4), Apart acc → Apart (l.foldl put1 acc)
  | [], _, h => h
  | m :: l, acc, h => apart_fold l _ (apart_put acc m h)
theorem apart_merge (l : List M4) : Apart (mergeL l) := apart_fold l [] (fun i k x y _ hx _ => by simp at hx)

theorem square_gt (p q : Nat) (hp : Sm p) (hq : Sm q) (h : ra (S p) ≤ ra (S q)) (hb : ra (S q) ≤ 4) :
    Calm .mul .f32 p p ∧ Calm .mul .f32 q q ∧ (FloatKind.f32.format.order (opB .mul .f32 p p) (opB .mul .f32 q q) == some .gt) = false := by
  obtain ⟨c1, c2, n1, n2, hr⟩ := square_part p q hp hq h hb
  refine ⟨c1, c2, ?_⟩
  have hB : ra (Flo.V Ieee.single q * Flo.V Ieee.single q) < Flo.pw (Flo.top Ieee.single) := by
    rw [ra_mul]
    have h0 := ra_nonneg (S q)
    have h16 := Rat.mul_le_mul_of_nonneg_left hb h0
    have l1 : Flo.pw 10 ≤ Flo.pw (Flo.top Ieee.single) := Flo.pw_le (by decide)
    rw [show Flo.pw 10 = 1024 from Flo.pw_nat 10] at l1
    show ra (S q) * ra (S q) < _
    grind
  obtain ⟨r, r1, r2⟩ := Flo.self_pos Ieee.single (by decide) q hq hB
  have e : opB .mul .f32 q q = r := by
    have h2 : floatBits .mul .f32 q q = some r := r1
    unfold opB; rw [h2]; rfl
  rw [show FloatKind.f32.format = Ieee.single from rfl]
  have o := (Flo.order_num Ieee.single (opB .mul .f32 p p) (opB .mul .f32 q q) n1 n2).2.2
  cases hg : (Ieee.single.order (opB .mul .f32 p p) (opB .mul .f32 q q) == some .gt)
  · rfl
  · exfalso
    rw [beq_iff_eq] at hg
    have hlt := o.1 hg
    have hq0 : 0 ≤ S (opB .mul .f32 q q) := by rw [e]; exact r2
    have h1 : ra (S (opB .mul .f32 q q)) = S (opB .mul .f32 q q) := ra_pos hq0
    have h2 : S (opB .mul .f32 p p) ≤ ra (S (opB .mul .f32 p p)) := (ra_ab _).2
    have hlt' : S (opB .mul .f32 q q) < S (opB .mul .f32 p p) := hlt
    grind
theorem tune_eq (m : M4) (h : m.ok) : (eqB (tuneM m).pr m.pr && eqB (tuneM m).pi m.pi) = true := by
  obtain ⟨h1, h2, h3⟩ := tuneM_ok m h
  obtain ⟨n1, n2, -, -⟩ := h1.nums
  obtain ⟨m1, m2, -, -⟩ := h.nums
  unfold eqB
  rw [show FloatKind.f32.format = Ieee.single from rfl, Bool.and_eq_true, beq_iff_eq, beq_iff_eq]
  exact ⟨(Flo.order_num Ieee.single _ _ n1 m1).2.1.2 h2, (Flo.order_num Ieee.single _ _ n2 m2).2.1.2 h3⟩

/-- what is asked of one mode, its damped and its tuned self -/
structure ModeOk (t : Nat) (m : M4) : Prop where
  c1 : Calm .mul .f32 (dampM t m).pr (dampM t m).pr
  c2 : Calm .mul .f32 m.pr m.pr
  g1 : (FloatKind.f32.format.order (opB .mul .f32 (dampM t m).pr (dampM t m).pr) (opB .mul .f32 m.pr m.pr) == some .gt) = false
  c3 : Calm .mul .f32 (dampM t m).pi (dampM t m).pi
  c4 : Calm .mul .f32 m.pi m.pi
  g2 : (FloatKind.f32.format.order (opB .mul .f32 (dampM t m).pi (dampM t m).pi) (opB .mul .f32 m.pi m.pi) == some .gt) = false
  eq : (eqB (tuneM m).pr m.pr && eqB (tuneM m).pi m.pi) = true
theorem mode_ok (t : Nat) (ht : Sm t) (h0 : 0 ≤ S t) (h1 : S t ≤ 1) (m : M4) (h : m.ok) : ModeOk t m := by
  obtain ⟨n1, n2, -, -⟩ := h.nums
  obtain ⟨p1, p2⟩ := h.pole4
  obtain ⟨-, a1, a2⟩ := damp_part m.pr t n1 ht h0 h1 p1
  obtain ⟨-, b1, b2⟩ := damp_part m.pi t n2 ht h0 h1 p2
  obtain ⟨c1, c2, g1⟩ := square_gt (dampM t m).pr m.pr a1 n1 a2 p1
  obtain ⟨c3, c4, g2⟩ := square_gt (dampM t m).pi m.pi b1 n2 b2 p2
  exact ⟨c1, c2, g1, c3, c4, g2, tune_eq m h⟩

def CntI (n : Nat) (w : World) (i : Value) (wr : World) : Prop := ∃ k : Nat, k ≤ n ∧ i = .int .i64 (k : Int) ∧ Nw w wr
def DampC (ms : List M4) (n : Nat) (w : World) (p ok : Value) (wx : World) : Prop :=
  ∃ (b : Nat) (da : Option Addr) (dc t : Nat), p = .pointer (some ⟨b, 0, none⟩) ∧ ok = .bool true ∧ Sm t ∧ 0 ≤ S t ∧ S t ≤ 1 ∧ Has1 wx b (.slice da n dc) ∧ wx.ownsRow w.heap.size 38 2 (.slice da n dc) n (cellsM (ms.map (dampM t))) ∧ Nw w wx

theorem damp_a {ms : List M4} {n z : Nat} {w w9 : World} {da : Option Addr} {dc : Nat} (fs : Sm (facB z)) (f0 : 0 ≤ S (facB z)) (f1 : S (facB z) ≤ 1) (T : TypeId)
    (own9 : w9.ownsRow (w.drewN 1).heap.size 38 2 (.slice da n dc) n (cellsM (ms.map (dampM (facB z))))) (n9 : Nw (w.drewN 1) w9) :
    DampC ms n w (.pointer (some ⟨w9.heap.size, 0, none⟩)) (.bool true) (w9.alloc (.cells #[.slice da n dc] T (0, 0))) :=
  ⟨_, da, dc, facB z, rfl, rfl, fs, f0, f1, Has1.new w9 T _, own9.alloc _, (((Nw.refl w).draw 1).trans n9).alloc _⟩
theorem damp_b {ms : List M4} {n z : Nat} {w w9 : World} {da : Option Addr} {dc : Nat} {o : Obj} (fs : Sm (facB z)) (f0 : 0 ≤ S (facB z)) (f1 : S (facB z) ≤ 1)
    {x : Value} (hb : Has1 w9 w.heap.size x)
    (own9 : w9.ownsRow ((w.alloc o).drewN 1).heap.size 38 2 (.slice da n dc) n (cellsM (ms.map (dampM (facB z))))) (n9 : Nw ((w.alloc o).drewN 1) w9) :
    DampC ms n w (.pointer (some ⟨w.heap.size, 0, none⟩)) (.bool true) (w9.setCell ⟨w.heap.size, 0, none⟩ (.slice da n dc)) :=
  ⟨_, da, dc, facB z, rfl, rfl, fs, f0, f1, hb.put _, own_base (own_set own9 (by show w.heap.size < (w.alloc o).heap.size; simp) _) (by show w.heap.size ≤ (w.alloc o).heap.size; simp), ((((Nw.refl w).alloc o).draw 1).trans n9).set (Nat.le_refl _) _⟩

set_option maxRecDepth 100000 in
set_option maxHeartbeats 12800000 in
theorem walk (a0 : Option Addr) (len0 cap0 : Nat) (z0 : List Int) (w : World) (w0 : IsRow .u8 w a0 len0 cap0 z0) :
    Calls Try.prog 7 #[.slice a0 len0 cap0] w fun e w' => e = .returned (.bool true) ∧ Below w.heap.size w w' := by
  by_cases hl : len0 ≤ 1048576
  · have Hb := Lib.hid (bys_of_row w0 (by omega))
    clear w0
    go_enter Try.func7, Try.ntmps7
    go_wp2_with fail
    refine (makeBody_any a0 len0 cap0 6 (by omega) (by omega) _ Hb.out).mono ?_
    rintro e w1 ⟨a, v, rfl, hlen, hok, hown, n1⟩
    obtain ⟨va, vc, rfl⟩ := own_shape' hown
    obtain ⟨q, hq⟩ : ∃ q, q = a.length := ⟨_, rfl⟩
    rw [← hq] at hown hlen ⊢
    have Hq := Lib.hid hq.symm
    have Hok := Lib.hid hok
    have N1 := Lib.hid (n1.alloc (.cells #[.slice va q vc] 45 (0, 0)))
    have B1 := Lib.hid (Has1.new w1 45 (.slice va q vc))
    have M1 := Lib.hid (hown.alloc (.cells #[.slice va q vc] 45 (0, 0)))
    clear n1 hown hok hq
    go_wp2_with fail
    refine (fresh_any _ _ _ _ (by omega) (by omega) _ (bys_step Hb.out N1.out)).mono ?_
    rintro e w2 ⟨g2, l2, c2, rfl, -, -, hf2, bel2⟩
    have N2 := Lib.hid (N1.out.trans (nw_of_below bel2))
    have B2 := Lib.hid (B1.out.nw (nw_of_below bel2))
    have M2 := Lib.hid (own_nw M1.out (nw_of_below bel2))
    have Hf2 := Lib.hid hf2
    clear hf2 bel2
    go_wp2_with fail
    refine (makeBody_any _ _ _ 6 (by omega) (by omega) _ Hf2.out).mono ?_
    rintro e w3 ⟨b, v, rfl, hlen2, hok2, hown2, n3⟩
    obtain ⟨ua, uc, rfl⟩ := own_shape' hown2
    obtain ⟨p, hp⟩ : ∃ p, p = b.length := ⟨_, rfl⟩
    rw [← hp] at hown2 hlen2 ⊢
    have Hp := Lib.hid hp.symm
    have Hok2 := Lib.hid hok2
    have N3 := Lib.hid ((N2.out.trans n3).alloc (.cells #[.slice ua p uc] 45 (0, 0)))
    have B3 := Lib.hid ((B2.out.nw n3).alloc (.cells #[.slice ua p uc] 45 (0, 0)))
    have M3 := Lib.hid ((own_nw M2.out n3).alloc (.cells #[.slice ua p uc] 45 (0, 0)))
    have C3 := Lib.hid (Has1.new w3 45 (.slice ua p uc))
    have K3 := Lib.hid (hown2.alloc (.cells #[.slice ua p uc] 45 (0, 0)))
    clear n3 hown2 hok2 hp
    obtain ⟨b0, b1, b2⟩ := B3.out
    obtain ⟨c0, c1, c2'⟩ := C3.out
    go_wp2_with fail
    refine (mergeBodies_ok a b Hok.out Hok2.out q p _ _ _ _ Hq.out Hp.out (by omega) (by omega) _ M3.out K3.out).mono ?_
    rintro e w4 ⟨v4, rfl, own4, n4⟩
    obtain ⟨ma, mc, rfl⟩ := own_shape' own4
    obtain ⟨c, hc⟩ : ∃ c, c = (if bodyB (mergeL (a ++ b)) then mergeL (a ++ b) else []) := ⟨_, rfl⟩
    obtain ⟨r, hr⟩ : ∃ r, r = (if bodyB (mergeL (a ++ b)) then (mergeL (a ++ b)).length else 0) := ⟨_, rfl⟩
    obtain ⟨bo, hbo⟩ : ∃ bo, bo = bodyB (mergeL (a ++ b)) := ⟨_, rfl⟩
    have Hc := Lib.hid (show Apart c ∧ c.length = r ∧ r ≤ q + p from by
      have hm := apart_merge (a ++ b)
      have hml := mergeL_len (a ++ b) (a ++ b).length (Nat.le_refl _)
      rw [List.take_length, List.length_append, Hq.out, Hp.out] at hml
      rw [hc, hr]
      cases bodyB (mergeL (a ++ b))
      · exact ⟨fun i k x y _ hx _ => by simp at hx, rfl, Nat.zero_le _⟩
      · exact ⟨hm, rfl, hml⟩)
    rw [← hc, ← hr] at own4
    rw [← hr, ← hbo]
    have Hbo := Lib.hid hbo
    have N4 := Lib.hid ((N3.out.trans n4).alloc (.cells #[.slice ma r mc] 45 (0, 0)))
    have B4 := Lib.hid ((B3.out.nw n4).alloc (.cells #[.slice ma r mc] 45 (0, 0)))
    have C4 := Lib.hid ((C3.out.nw n4).alloc (.cells #[.slice ma r mc] 45 (0, 0)))
    have M4' := Lib.hid ((own_nw M3.out n4).alloc (.cells #[.slice ma r mc] 45 (0, 0)))
    have K4 := Lib.hid ((own_nw K3.out n4).alloc (.cells #[.slice ma r mc] 45 (0, 0)))
    have D4 := Lib.hid (Has1.new w4 45 (.slice ma r mc))
    have L4 := Lib.hid (own4.alloc (.cells #[.slice ma r mc] 45 (0, 0)))
    clear own4 n4 hc hr hbo b0 b1 b2 c0 c1 c2'
    obtain ⟨b0, b1, b2⟩ := B4.out
    obtain ⟨c0, c1, c2'⟩ := C4.out
    go_wp2_with fail
    refine (specMerge_ok a b Hok.out Hok2.out q p _ _ _ _ Hq.out Hp.out (by omega) (by omega) _ M4'.out K4.out).mono ?_
    rintro e w5 ⟨v5, rfl, own5, n5⟩
    obtain ⟨sa, sc, rfl⟩ := own_shape' own5
    rw [← Hbo.out]
    generalize (if bo then (mergeL (a ++ b)).length else 0) = r5 at own5 ⊢
    have N6 := Lib.hid ((N4.out.trans n5).alloc (.cells #[.slice sa r5 sc] 45 (0, 0)))
    have B6 := Lib.hid ((B4.out.nw n5).alloc (.cells #[.slice sa r5 sc] 45 (0, 0)))
    have C6 := Lib.hid ((C4.out.nw n5).alloc (.cells #[.slice sa r5 sc] 45 (0, 0)))
    have M6 := Lib.hid ((own_nw M4'.out n5).alloc (.cells #[.slice sa r5 sc] 45 (0, 0)))
    have D6 := Lib.hid ((D4.out.nw n5).alloc (.cells #[.slice sa r5 sc] 45 (0, 0)))
    have L6 := Lib.hid ((own_nw L4.out n5).alloc (.cells #[.slice sa r5 sc] 45 (0, 0)))
    clear own5 n5 b0 b1 b2 c0 c1 c2'
    have hr12 : r ≤ 12 := by
      have := Hc.out.2.2
      omega
    obtain ⟨d0, d1, d2⟩ := D6.out
    go_wp2_with fail
    generalize w5.alloc (.cells #[.slice sa r5 sc] 45 (0, 0)) = w6 at *
    go_loopw [44] (fun i wr => CntI r w6 i wr) (fun i _ => r - (intOf i).toNat)
    case atStart => exact ⟨0, by omega, rfl, Nw.refl _⟩
    case round =>
      obtain ⟨i, hi, rfl, hN⟩ := hrel
      have Nr := Lib.hid hN
      clear hN d0 d1 d2
      by_cases hlt : i < r
      · go_wp2_with fail
        go_loopw [10] (fun k wx => CntI i wr k wx) (fun k _ => i - (intOf k).toNat)
        case atStart => exact ⟨0, by omega, rfl, Nw.refl _⟩
        case round =>
          obtain ⟨k, hk, rfl, hN⟩ := hrel
          have Nx := Lib.hid (Nr.out.trans hN)
          have Ni := Lib.hid hN
          clear hN
          by_cases hlt2 : k < i
          · obtain ⟨x, hxi⟩ : ∃ x, c[i]? = some x := ⟨c[i]'(by rw [Hc.out.2.1]; exact hlt), List.getElem?_eq_getElem _⟩
            obtain ⟨y, hyk⟩ : ∃ y, c[k]? = some y := ⟨c[k]'(by rw [Hc.out.2.1]; omega), List.getElem?_eq_getElem _⟩
            have hap := Hc.out.1 i k x y hlt2 hxi hyk
            unfold poleEq at hap
            have Lx := Lib.hid (own_nw L6.out Nx.out)
            obtain ⟨g1, cap1, hv1, hcap1, hmax1, -, e1, -⟩ := own_mode Lx.out hxi Hc.out.2.1.symm
            obtain ⟨g2, cap2, hv2, -, -, -, e2, -⟩ := own_mode Lx.out hyk Hc.out.2.1.symm
            cases hv1
            cases hv2
            unfold maxLen at hmax1
            obtain ⟨d0, d1, d2⟩ := D6.out.nw Nx.out
            clear hxi hyk
            go_wp2_with fail
            go_quiet (first | (go_at_call 39; with_reducible exact quiet_eq (equalSingle_any _ _ _ _ _)))
            have N2 := Lib.hid (Ni.out.draw nq)
            go_wp2_with fail
            any_goals (rename_i h; exfalso; obtain ⟨h1, h2⟩ := h; rw [h1, h2] at hap; exact absurd hap (by decide))
            exact ⟨⟨k + 1, by omega, by rw [show ((k + 1 : Nat) : Int) = (k : Int) + 1 from by omega], N2.out⟩, by simp only [intOf]; omega⟩
          · obtain rfl : k = i := by omega
            go_wp2_with fail
            go_roundw
            case rel => exact ⟨k + 1, by omega, by rw [show ((k + 1 : Nat) : Int) = (k : Int) + 1 from by omega], Nx.out⟩
            case measure => simp only [intOf]; omega
      · obtain rfl : i = r := by omega
        have N7 := Lib.hid (N6.out.trans Nr.out)
        have B7 := Lib.hid (B6.out.nw Nr.out)
        have C7 := Lib.hid (C6.out.nw Nr.out)
        have M7 := Lib.hid (own_nw M6.out Nr.out)
        have D7 := Lib.hid (D6.out.nw Nr.out)
        obtain ⟨b0, b1, b2⟩ := B7.out
        go_upto_region 18 with fail
        go_cut [11, 12] (fun bp ok wx => DampC a q wr bp ok wx)
        case first =>
          go_region_with (first
            | (go_at_call 30
               refine (at_any _ _ _ 1 hl (by omega) _ ?_).mono ?_
               · first | exact bys_step Hb.out (N7.out.draw 1) | exact bys_step Hb.out ((N7.out.alloc _).draw 1)
               rintro e w8 ⟨z, hz, rfl, rfl⟩
               obtain ⟨fc, fs, f0, f1⟩ := fac_ok z hz
               have r1 := fc.res
               have q1 := fc.fdr
               rw [show opB .quo .f32 (floatOfInt .f32 (z : Int)) 1132396544 = facB z from rfl] at r1)
            | (go_at_call 35
               refine (dampBody_ok a Hok.out q w.heap.size (facB z) (.slice va q vc) Hq.out (by omega) fs f0 f1 _ ?_).mono ?_
               · first | exact M7.out.drew | exact (M7.out.alloc _).drew
               rintro e w9 ⟨dv, rfl, own9, n9⟩
               obtain ⟨da, dc, rfl⟩ := own_shape' own9
               have O9 := Lib.hid own9
               have N9 := Lib.hid n9
               clear own9 n9
               first
                 | (have hx := ((Has1.new wr 45 (.slice none 0 0)).draw 1).nw N9.out
                    obtain ⟨x0, x1, x2⟩ := hx)
                 | skip))
          all_goals
            go_wp2_with fail
            go_meet
            first
              | exact damp_a fs f0 f1 _ O9.out N9.out
              | exact damp_b fs f0 f1 (((Has1.new wr 45 (.slice none 0 0)).draw 1).nw N9.out) O9.out N9.out
        case rest =>
          obtain ⟨b9, da, dc, t, rfl, rfl, fs, f0, f1, hb9, own9, n9⟩ := hcut
          have T9 := Lib.hid (mode_ok t fs f0 f1)
          have K9 := Lib.hid (And.intro fs (And.intro f0 f1))
          have N9 := Lib.hid (N7.out.trans n9)
          have B9 := Lib.hid (B7.out.nw n9)
          have C9 := Lib.hid (C7.out.nw n9)
          have D9 := Lib.hid (D7.out.nw n9)
          have M9 := Lib.hid (own_nw M7.out n9)
          have E9 := Lib.hid hb9
          have O9 := Lib.hid own9
          clear hb9 own9 n9 fs f0 f1 b0 b1 b2
          obtain ⟨b0, b1, b2⟩ := B9.out
          go_wp2_with fail
          refine (tuneBody_ok a Hok.out q _ _ Hq.out (by omega) _ M9.out).mono ?_
          rintro e w10 ⟨tv, rfl, own10, n10⟩
          obtain ⟨ta, tc, rfl⟩ := own_shape' own10
          have N11 := Lib.hid ((N9.out.trans n10).alloc (.cells #[.slice ta q tc] 45 (0, 0)))
          have B11 := Lib.hid ((B9.out.nw n10).alloc (.cells #[.slice ta q tc] 45 (0, 0)))
          have C11 := Lib.hid ((C9.out.nw n10).alloc (.cells #[.slice ta q tc] 45 (0, 0)))
          have D11 := Lib.hid ((D9.out.nw n10).alloc (.cells #[.slice ta q tc] 45 (0, 0)))
          have E11 := Lib.hid ((E9.out.nw n10).alloc (.cells #[.slice ta q tc] 45 (0, 0)))
          have F11 := Lib.hid (Has1.new w10 45 (.slice ta q tc))
          have M11 := Lib.hid ((own_nw M9.out n10).alloc (.cells #[.slice ta q tc] 45 (0, 0)))
          have O11 := Lib.hid ((own_nw O9.out n10).alloc (.cells #[.slice ta q tc] 45 (0, 0)))
          have P11 := Lib.hid (own10.alloc (.cells #[.slice ta q tc] 45 (0, 0)))
          clear own10 n10 b0 b1 b2
          obtain ⟨e0, e1, e2⟩ := E11.out
          go_wp2_with fail
          generalize w10.alloc (.cells #[.slice ta q tc] 45 (0, 0)) = w11 at *
          refine (specIsBody_fin (a.map (dampM t)) q _ _ (by rw [List.length_map]; exact Hq.out) (by omega) _ O11.out).mono ?_
          rintro e w12 hT
          rw [(bodyB_iff (a.map (dampM t))).2 ⟨by rw [List.length_map, Hq.out]; omega, fun m hm => by
            obtain ⟨m', h1, rfl⟩ := List.mem_map.1 hm
            exact dampM_ok m' t (Hok.out m' h1) K9.out.1 K9.out.2.1 K9.out.2.2⟩] at hT
          obtain ⟨rfl, n12⟩ := hT
          have N12 := Lib.hid (N11.out.trans n12)
          have B12 := Lib.hid (B11.out.nw n12)
          have C12 := Lib.hid (C11.out.nw n12)
          have D12 := Lib.hid (D11.out.nw n12)
          have E12 := Lib.hid (E11.out.nw n12)
          have F12 := Lib.hid (F11.out.nw n12)
          have M12 := Lib.hid (own_nw M11.out n12)
          have O12 := Lib.hid (own_nw O11.out n12)
          have P12 := Lib.hid (own_nw P11.out n12)
          clear n12 e0 e1 e2
          obtain ⟨b0, b1, b2⟩ := B12.out
          obtain ⟨c0, c1, c2'⟩ := C12.out
          obtain ⟨d0, d1, d2⟩ := D12.out
          obtain ⟨e0, e1, e2⟩ := E12.out
          obtain ⟨f0, f1, f2⟩ := F12.out
          have hrqp := Hc.out.2.2
          go_wp2_with fail
          clear b0 b1 b2 c0 c1 c2' d0 d1 d2 e0 e1 e2 f0 f1 f2
          go_loopw [125] (fun i wr => CntI q w12 i wr) (fun i _ => q - (intOf i).toNat)
          case atStart => exact ⟨0, by omega, rfl, Nw.refl _⟩
          case round =>
            obtain ⟨k, hk, rfl, hN⟩ := hrel
            have Nk := Lib.hid hN
            clear hN
            by_cases hlt3 : k < q
            · obtain ⟨m, hmk⟩ : ∃ m, a[k]? = some m := ⟨a[k]'(by rw [Hq.out]; exact hlt3), List.getElem?_eq_getElem _⟩
              have mo := Lib.hid (T9.out m (Hok.out m (List.mem_of_getElem? hmk)))
              have Mk := Lib.hid (own_nw M12.out Nk.out)
              have Ok' := Lib.hid (own_nw O12.out Nk.out)
              have Pk := Lib.hid (own_nw P12.out Nk.out)
              obtain ⟨g1, cap1, hv1, hc1, hm1, l1, e1, e1'⟩ := own_mode Mk.out hmk Hq.out.symm
              cases hv1
              have Yn := Lib.hid (Nk.out.alloc (.cells #[.complex .f32 m.pr m.pi, .complex .f32 m.gr m.gi] 38 (0, 0)))
              have Ym := Lib.hid (HasMode.new wr 38 m.pr m.pi m.gr m.gi)
              have Yo := Lib.hid (Ok'.out.alloc (.cells #[.complex .f32 m.pr m.pi, .complex .f32 m.gr m.gi] 38 (0, 0)))
              have Yp := Lib.hid (Pk.out.alloc (.cells #[.complex .f32 m.pr m.pi, .complex .f32 m.gr m.gi] 38 (0, 0)))
              have Ye := Lib.hid ((E12.out.nw Nk.out).alloc (.cells #[.complex .f32 m.pr m.pi, .complex .f32 m.gr m.gi] 38 (0, 0)))
              have Yf := Lib.hid ((F12.out.nw Nk.out).alloc (.cells #[.complex .f32 m.pr m.pi, .complex .f32 m.gr m.gi] 38 (0, 0)))
              unfold maxLen at hm1
              go_upto_region 25 with fail
              generalize wr.alloc (.cells #[.complex .f32 m.pr m.pi, .complex .f32 m.gr m.gi] 38 (0, 0)) = wy at *
              clear e1 e1' l1
              obtain ⟨g2, cap2, hv2, hc2, hm2, l2, e2, -⟩ := own_mode (m := dampM t m) Yo.out (by rw [List.getElem?_map, hmk]; rfl) (by rw [List.length_map]; exact Hq.out.symm)
              obtain ⟨g3, cap3, hv3, hc3, hm3, l3, e3, -⟩ := own_mode (m := tuneM m) Yp.out (by rw [List.getElem?_map, hmk]; rfl) (by rw [List.length_map]; exact Hq.out.symm)
              cases hv2
              cases hv3
              unfold maxLen at hm2 hm3
              obtain ⟨y0, y1, y2, y3, y4⟩ := Ym.out
              obtain ⟨x0, x1, x2⟩ := Ye.out
              obtain ⟨z0', z1, z2⟩ := Yf.out
              obtain ⟨k1, k2, k3, k4, k5, k6, k7⟩ := mo.out
              have r1 := k1.runs (P := Try.prog) (.inr (.inr rfl)) 49
              have r2 := k2.runs (P := Try.prog) (.inr (.inr rfl)) 49
              have r4 := k4.runs (P := Try.prog) (.inr (.inr rfl)) 49
              have r5 := k5.runs (P := Try.prog) (.inr (.inr rfl)) 49
              clear k1 k2 k4 k5 hmk
              go_upto_region 26 with fail
              go_quiet (first | (go_at_call 39; with_reducible exact quiet_eq (equalSingle_any _ _ _ _ _)))
              have N2 := Lib.hid (Yn.out.draw nq)
              go_wp2_with fail
              exact ⟨⟨k + 1, by omega, by rw [show ((k + 1 : Nat) : Int) = (k : Int) + 1 from by omega], N2.out⟩, by simp only [intOf]; omega⟩
            · obtain rfl : k = q := by omega
              have NE := Lib.hid (N12.out.trans Nk.out)
              go_wp2_with fail
              go_ret
              exact ⟨rfl, nw_below NE.out⟩
  · go_enter Try.func7, Try.ntmps7
    go_wp2
    go_ret
    exact ⟨rfl, Below.refl _ _⟩

/-! ### THE ROW's STEP: WRITTEN OUT: LEAVE IT -/
set_option maxRecDepth 100000 in
theorem lifted (os : Os) (started : os.Started) (H : Type) (enc : TypeId × Value → H) :
    ReturnsInHanded {} Try.checked os 7 .any (Rows.fnBodiesSpec.pre6 enc Try.prog Try.f7 Rows.fnBodiesRow.domain false) (Rows.fnBodiesSpec.post enc Try.prog Try.f7 false true false false) := by
  refine returnsInHanded_of_change (C := Try.checked) own started (by kernel_rfl) Try.func7
    (ChangeSpec.witness6 (enc := enc) (C := Try.checked) false ⟨#[], #[.slice none 0 0], []⟩ 8 (by kernel_rfl) (by kernel_rfl) (by kernel_rfl) (by kernel_rfl)) ?_
  intro W base args ds gs before hval0 hW hcnd _
  have hval : ∀ (j : Nat) t v, Try.f7.params[j]? = some t → args[j]? = some v → Value.okWide Try.prog W .any base t v := hval0
  have hW' := hW
  obtain ⟨p, q, hA0, hV, rfl, hfz, hnd⟩ := hW
  have hA : DataW.TrodAll enc Try.prog W 0 (fun _ => true) true Try.f7.params.toList args.toList ds p := hA0
  rw [Try.params7] at hA hval
  obtain ⟨v0, vs0, d0, ds0, p0, q0, hargs, rfl, rfl, h0, r0⟩ := trodAll_cons hA
  obtain ⟨rfl, rfl, rfl⟩ := trodAll_nil r0
  obtain rfl : args = #[v0] := by cases args; simp_all
  obtain ⟨rfl, rfl⟩ := trodVars_none hV
  obtain ⟨a0, len0, cap0, rfl⟩ := okWide_slice Try.underlying22 (hval 0 22 v0 rfl rfl)
  have k0 := h0
  have lt0 : ∀ x ∈ p0, x.block < W.heap.size := by obtain ⟨m, hm⟩ := k0; exact DataW.trod_lt m _ _ _ hm
  obtain ⟨z0, w0⟩ : ∃ zs, IsRow .u8 W a0 len0 cap0 zs := by
    obtain ⟨fuel, hf⟩ := h0
    rcases open_ints Try.underlying22 Try.underlying5 (by kernel_rfl) hf with ⟨hcs, _⟩ | ⟨x, l, c, zs, hcs, _, hl, hm, hz, _, hcell, hwz⟩
    · simp [Value.cells] at hcs
      obtain ⟨rfl, rfl, rfl⟩ := hcs
      exact ⟨[], .inl ⟨rfl, rfl, rfl, rfl⟩⟩
    · simp [Value.cells] at hcs
      obtain ⟨rfl, rfl, rfl⟩ := hcs
      exact ⟨zs, .inr ⟨_, rfl, hl, hm, by simpa using hz, hcell, hwz⟩⟩
  clear hA0 hval0
  refine (walk a0 len0 cap0 z0 W w0).mono fun e W' ⟨he, bel⟩ => ?_
  subst he
  exact ⟨_, rfl, _, _, _, [], _, [], hW', trodAll_mk1 (shut_bool Try.underlying4 _), (trodAll_cons_mk (Below.trod laidOut (by kernel_rfl) (of_decide_eq_true (by kernel_rfl)) k0 bel lt0) trodAll_mk0), rfl, bel.frame _, fun h => by cases h⟩

theorem over : Rows.fnBodiesRow.holds Try.pinned (OpenSpec.ofChange Rows.fnBodiesSpec) :=
  OpenClaim.holds_of_wide 7 Try.f7 rfl rfl rfl rfl rfl rfl rfl ⟨rfl, rfl, rfl, rfl, rfl⟩ rfl rfl rfl rfl rfl (by kernel_rfl) Try.func7 (by kernel_rfl)
    (of_decide_eq_true (by kernel_rfl)) (by unfold Func.isWrapper; first | (rw [if_pos (by decide +kernel)]; kernel_rfl) | (rw [if_neg (by decide +kernel)]; exact ⟨rfl, rfl⟩))
    (fun os started H enc _ => lifted os started H enc)

/-- ████ THE STATEMENT ████ -/
theorem proved : Rows.FnBodiesSaid := over
#print axioms proved
end Go.Proofs.Ytfgofmcpgfofaaa.fnBodies

