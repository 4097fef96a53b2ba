/- FitReal as a plain function, but for the bits of NaN, and its walks, the program's and the model's.
   Conditions: those that each statement names. -/
import Derived.Test.YtcodiiajmffdoaaFls
import Derived.Test.YtcodiiajmffdoaaNoise
namespace Go.Proofs.Ytcodiiajmffdoaa
open Go Go.RowKit

def wv (zs : List Nat) (k : Nat) : Option Nat := wA (zs.getD k 0)
theorem wv_at {zs : List Nat} {k x : Nat} (h : zs[k]? = some x) : wv zs k = wA x := by unfold wv; rw [List.getD_eq_getElem?_getD, h]; rfl
/-- the sum of products, step by step -/
def acc (zs : List Nat) (i j : Nat) : Nat → Option Nat
  | 0 => fab .f64 0
  | k + 1 => fA .add .f64 (acc zs i j k) (fA .mul .f64 (wv zs (k + i)) (wv zs (k + j)))
def frD (zs : List Nat) (n : Nat) : Option Nat := fA .sub .f64 (fA .mul .f64 (acc zs 1 1 (n - 2)) (acc zs 0 0 (n - 2))) (fA .mul .f64 (acc zs 1 0 (n - 2)) (acc zs 1 0 (n - 2)))
def frA (zs : List Nat) (n : Nat) : Option Nat := fA .quo .f64 (fA .sub .f64 (fA .mul .f64 (acc zs 1 2 (n - 2)) (acc zs 0 0 (n - 2))) (fA .mul .f64 (acc zs 0 2 (n - 2)) (acc zs 1 0 (n - 2)))) (frD zs n)
def frB (zs : List Nat) (n : Nat) : Option Nat := fA .quo .f64 (fA .sub .f64 (fA .mul .f64 (acc zs 1 2 (n - 2)) (acc zs 1 0 (n - 2))) (fA .mul .f64 (acc zs 0 2 (n - 2)) (acc zs 1 1 (n - 2)))) (frD zs n)
def eqZ (o : Option Nat) : Bool := match o with | some a => FloatKind.f64.format.order a 0 == some .eq | none => false
theorem eqz_fab (a : Nat) : (FloatKind.f64.format.order a 0 == some .eq) = eqZ (fab .f64 a) := by
  cases ha : (FloatKind.f64.decode a).isNaN with
  | true =>
    rw [fab_none ha]
    show _ = false
    unfold Ieee.Format.order
    unfold FloatKind.decode at ha
    cases hd : FloatKind.f64.format.read a <;> rw [hd] at ha <;> simp [Ieee.Datum.isNaN] at ha
    simp [Ieee.Datum.order]
  | false => rw [fab_some ha]; rfl
def frOk (zs : List Nat) (n : Nat) : Bool := decide (n ≤ 2000) && !eqZ (frD zs n) && finO .f64 (frD zs n) && finO .f64 (frA zs n) && finO .f64 (frB zs n)
theorem no_hz {zs : List Nat} {n : Nat} (h : eqZ (frD zs n) = true) : frOk zs n = false := by unfold frOk; rw [h]; simp
theorem no_hd {zs : List Nat} {n : Nat} (h : finO .f64 (frD zs n) = false) : frOk zs n = false := by unfold frOk; rw [h]; simp
theorem no_ha {zs : List Nat} {n : Nat} (h : finO .f64 (frA zs n) = false) : frOk zs n = false := by unfold frOk; rw [h]; simp
theorem no_hb {zs : List Nat} {n : Nat} (h : finO .f64 (frB zs n) = false) : frOk zs n = false := by unfold frOk; rw [h]; simp
def frR1 (zs : List Nat) (n : Nat) : Option Nat := if frOk zs n then frA zs n else fab .f64 0
def frR2 (zs : List Nat) (n : Nat) : Option Nat := if frOk zs n then frB zs n else fab .f64 0
def FitP (zs : List Nat) (n : Nat) (w : World) (e : Ending) (w' : World) : Prop :=
  ∃ ra rb ok, e = .returned (.tuple #[.float .f64 ra, .float .f64 rb, .bool ok]) ∧ fab .f64 ra = frR1 zs n ∧ fab .f64 rb = frR2 zs n ∧ ok = frOk zs n ∧ Nw w w'
def FrI (zs : List Nat) (n : Nat) (w : World) (x1 x2 x3 x4 x5 i : Value) (wr : World) : Prop :=
  ∃ k s1 s2 s3 s4 s5 : Nat, (k + 2 ≤ n ∨ k = 0) ∧ x1 = .float .f64 s1 ∧ x2 = .float .f64 s2 ∧ x3 = .float .f64 s3 ∧ x4 = .float .f64 s4 ∧ x5 = .float .f64 s5 ∧ i = .int .i64 (k : Int) ∧
    fab .f64 s1 = acc zs 1 1 k ∧ fab .f64 s2 = acc zs 1 0 k ∧ fab .f64 s3 = acc zs 0 0 k ∧ fab .f64 s4 = acc zs 1 2 k ∧ fab .f64 s5 = acc zs 0 2 k ∧ Nw w wr
theorem fres_lt (w : World) (op : BinOp) (x y : Nat) : fres w op .f64 x y < 2 ^ 64 := fres_wf w op .f64 x y

set_option maxRecDepth 100000 in
set_option maxHeartbeats 4000000 in
theorem specFit_ok (zs : List Nat) (n b : Nat) (v : Value) (hl : zs.length = n) (hn : n ≤ 1048576) (w : World) (h : w.ownsRow b 25 1 v n (cellsS zs)) :
    Calls Try.prog 52 #[v] w (FitP zs n w) := by
  obtain ⟨va, vc, rfl⟩ := own_shape' h
  have H := Lib.hid h
  have Hl := Lib.hid hl
  clear h hl
  by_cases hbig : 2000 < n
  · have Hno := Lib.hid (show frOk zs n = false from by unfold frOk; rw [show decide (n ≤ 2000) = false from by simpa using hbig]; simp)
    go_enter Try.func52, Try.ntmps52
    go_wp2
    go_ret3
    exact ⟨_, _, _, rfl, by unfold frR1; rw [Hno.out]; rfl, by unfold frR2; rw [Hno.out]; rfl, Hno.out.symm, Nw.refl _⟩
  have Hs := Lib.hid hbig
  go_enter Try.func52, Try.ntmps52
  go_wp2_with fail
  go_loopw [5, 6, 7, 8, 9, 10] (fun x1 x2 x3 x4 x5 i wr => FrI zs n w x1 x2 x3 x4 x5 i wr) (fun _ _ _ _ _ i _ => n - (intOf i).toNat)
  case atStart => exact ⟨0, 0, 0, 0, 0, 0, .inr rfl, rfl, rfl, rfl, rfl, rfl, rfl, rfl, rfl, rfl, rfl, rfl, Nw.refl _⟩
  case round =>
    obtain ⟨k, s1, s2, s3, s4, s5, hk, rfl, rfl, rfl, rfl, rfl, rfl, h1, h2, h3, h4, h5, hN⟩ := hrel
    have Nr := Lib.hid hN
    have Hacc := Lib.hid (And.intro h1 (And.intro h2 (And.intro h3 (And.intro h4 h5))))
    clear hN h1 h2 h3 h4 h5
    by_cases hlt : k + 2 < n
    · obtain ⟨x, hxk⟩ : ∃ x, zs[k]? = some x := ⟨zs[k]'(by rw [Hl.out]; omega), List.getElem?_eq_getElem _⟩
      obtain ⟨y, hyk⟩ : ∃ y, zs[k + 1]? = some y := ⟨zs[k + 1]'(by rw [Hl.out]; omega), List.getElem?_eq_getElem _⟩
      obtain ⟨z, hzk⟩ : ∃ z, zs[k + 2]? = some z := ⟨zs[k + 2]'(by rw [Hl.out]; omega), List.getElem?_eq_getElem _⟩
      obtain ⟨g1, cap1, hv1, hcap1, hmax1, -, e1⟩ := own_sample (own_nw H.out Nr.out) hxk Hl.out.symm
      obtain ⟨g2, cap2, hv2, hcap2, hmax2, -, e2⟩ := own_sample (own_nw H.out Nr.out) hyk Hl.out.symm
      obtain ⟨g3, cap3, hv3, hcap3, hmax3, -, e3⟩ := own_sample (own_nw H.out Nr.out) hzk Hl.out.symm
      cases hv1
      cases hv2
      cases hv3
      unfold maxLen at hmax1
      have Hk := Lib.hid (And.intro (wv_at hxk) (And.intro (wv_at hyk) (wv_at hzk)))
      clear hxk hyk hzk hcap2 hcap3 hmax2 hmax3
      go_wp2_with fail
      go_roundw
      case rel =>
        refine ⟨k + 1, _, _, _, _, _, .inl (by omega), rfl, rfl, rfl, rfl, rfl, by rw [show ((k + 1 : Nat) : Int) = (k : Int) + 1 from by omega], ?_, ?_, ?_, ?_, ?_, Nr.out.trans ⟨rfl, rfl, rfl, Nat.le_refl _, fun _ _ _ => rfl⟩⟩
        · rw [fab_fres, fab_fres, Hacc.out.1]; show fA .add .f64 _ _ = fA .add .f64 _ (fA .mul .f64 (wv zs (k + 1)) (wv zs (k + 1))); rw [Hk.out.2.1]; simp only [fab_wide]
        · rw [fab_fres, fab_fres, Hacc.out.2.1]; show fA .add .f64 _ _ = fA .add .f64 _ (fA .mul .f64 (wv zs (k + 1)) (wv zs k)); rw [Hk.out.2.1, Hk.out.1]; simp only [fab_wide]
        · rw [fab_fres, fab_fres, Hacc.out.2.2.1]; show fA .add .f64 _ _ = fA .add .f64 _ (fA .mul .f64 (wv zs k) (wv zs k)); rw [Hk.out.1]; simp only [fab_wide]
        · rw [fab_fres, fab_fres, Hacc.out.2.2.2.1]; show fA .add .f64 _ _ = fA .add .f64 _ (fA .mul .f64 (wv zs (k + 1)) (wv zs (k + 2))); rw [Hk.out.2.1, Hk.out.2.2]; simp only [fab_wide]
        · rw [fab_fres, fab_fres, Hacc.out.2.2.2.2]; show fA .add .f64 _ _ = fA .add .f64 _ (fA .mul .f64 (wv zs k) (wv zs (k + 2))); rw [Hk.out.1, Hk.out.2.2]; simp only [fab_wide]
      case measure => simp only [intOf]; omega
    · have hkn : k = n - 2 := by omega
      have h2i : ¬ ((k : Int) + 2 < (n : Int)) := by omega
      obtain ⟨h1, h2, h3, h4, h5⟩ := Hacc.out
      rw [hkn] at h1 h2 h3 h4 h5
      have Ed := Lib.hid (fun w1 w2 w3 => show (FloatKind.f64.format.order (fres w3 .sub .f64 (fres w1 .mul .f64 s1 s3) (fres w2 .mul .f64 s2 s2)) 0 == some .eq) = eqZ (frD zs n) from by rw [eqz_fab, fab_fres, fab_fres, fab_fres, h1, h2, h3]; rfl)
      have Fd := Lib.hid (fun w1 w2 w3 => show fin .f64 (fres w3 .sub .f64 (fres w1 .mul .f64 s1 s3) (fres w2 .mul .f64 s2 s2)) = finO .f64 (frD zs n) from by rw [← finO_fab, fab_fres, fab_fres, fab_fres, h1, h2, h3]; rfl)
      have Ga := Lib.hid (fun w1 w2 w3 w4 w5 w6 w7 => show fab .f64 (fres w7 .quo .f64 (fres w6 .sub .f64 (fres w4 .mul .f64 s4 s3) (fres w5 .mul .f64 s5 s2)) (fres w3 .sub .f64 (fres w1 .mul .f64 s1 s3) (fres w2 .mul .f64 s2 s2))) = frA zs n from by simp only [fab_fres, h1, h2, h3, h4, h5]; rfl)
      have Gb := Lib.hid (fun w1 w2 w3 w4 w5 w6 w7 => show fab .f64 (fres w7 .quo .f64 (fres w6 .sub .f64 (fres w4 .mul .f64 s4 s2) (fres w5 .mul .f64 s5 s1)) (fres w3 .sub .f64 (fres w1 .mul .f64 s1 s3) (fres w2 .mul .f64 s2 s2))) = frB zs n from by simp only [fab_fres, h1, h2, h3, h4, h5]; rfl)
      have Fa := Lib.hid (fun w1 w2 w3 w4 w5 w6 w7 => show fin .f64 (fres w7 .quo .f64 (fres w6 .sub .f64 (fres w4 .mul .f64 s4 s3) (fres w5 .mul .f64 s5 s2)) (fres w3 .sub .f64 (fres w1 .mul .f64 s1 s3) (fres w2 .mul .f64 s2 s2))) = finO .f64 (frA zs n) from by rw [← finO_fab, Ga.out])
      have Fb := Lib.hid (fun w1 w2 w3 w4 w5 w6 w7 => show fin .f64 (fres w7 .quo .f64 (fres w6 .sub .f64 (fres w4 .mul .f64 s4 s2) (fres w5 .mul .f64 s5 s1)) (fres w3 .sub .f64 (fres w1 .mul .f64 s1 s3) (fres w2 .mul .f64 s2 s2))) = finO .f64 (frB zs n) from by rw [← finO_fab, Gb.out])
      clear h1 h2 h3 h4 h5
      have hz0 := Ed.out
      cases hz : eqZ (frD zs n) with
      | true =>
        rw [hz] at hz0
        go_wp2_with fail
        all_goals
          go_ret3
          exact ⟨_, _, _, rfl, by unfold frR1; rw [no_hz hz]; rfl, by unfold frR2; rw [no_hz hz]; rfl, (no_hz hz).symm, Nr.out.trans ⟨rfl, rfl, rfl, Nat.le_refl _, fun _ _ _ => rfl⟩⟩
      | false =>
        rw [hz] at hz0
        cases hd : finO .f64 (frD zs n) with
        | false =>
          go_wp2_with (first | (go_at_call 84; refine (l1Finite_any _ _).mono ?_; rintro e w' ⟨rfl, nn, rfl⟩; first | (rw [Fd.out, hd]) | (rw [Fa.out, ha]) | (rw [Fb.out, hb])))
          all_goals
            go_ret3
            exact ⟨_, _, _, rfl, by unfold frR1; rw [no_hd hd]; rfl, by unfold frR2; rw [no_hd hd]; rfl, (no_hd hd).symm, Nr.out.trans ⟨rfl, rfl, rfl, Nat.le_refl _, fun _ _ _ => rfl⟩⟩
        | true =>
          cases ha : finO .f64 (frA zs n) with
          | false =>
            go_wp2_with (first | (go_at_call 84; refine (l1Finite_any _ _).mono ?_; rintro e w' ⟨rfl, nn, rfl⟩; first | (rw [Fd.out, hd]) | (rw [Fa.out, ha]) | (rw [Fb.out, hb])))
            all_goals
              go_ret3
              exact ⟨_, _, _, rfl, by unfold frR1; rw [no_ha ha]; rfl, by unfold frR2; rw [no_ha ha]; rfl, (no_ha ha).symm, Nr.out.trans ⟨rfl, rfl, rfl, Nat.le_refl _, fun _ _ _ => rfl⟩⟩
          | true =>
            cases hb : finO .f64 (frB zs n) with
            | false =>
              go_wp2_with (first | (go_at_call 84; refine (l1Finite_any _ _).mono ?_; rintro e w' ⟨rfl, nn, rfl⟩; first | (rw [Fd.out, hd]) | (rw [Fa.out, ha]) | (rw [Fb.out, hb])))
              all_goals
                go_ret3
                exact ⟨_, _, _, rfl, by unfold frR1; rw [no_hb hb]; rfl, by unfold frR2; rw [no_hb hb]; rfl, (no_hb hb).symm, Nr.out.trans ⟨rfl, rfl, rfl, Nat.le_refl _, fun _ _ _ => rfl⟩⟩
            | true =>
              have ok : frOk zs n = true := by unfold frOk; rw [hz, hd, ha, hb, show decide (n ≤ 2000) = true from by have := Hs.out; simp; omega]; rfl
              go_wp2_with (first | (go_at_call 84; refine (l1Finite_any _ _).mono ?_; rintro e w' ⟨rfl, nn, rfl⟩; first | (rw [Fd.out, hd]) | (rw [Fa.out, ha]) | (rw [Fb.out, hb])))
              all_goals
                go_ret3
                exact ⟨_, _, _, rfl, by unfold frR1; rw [ok, Ga.out]; rfl, by unfold frR2; rw [ok, Gb.out]; rfl, ok.symm, Nr.out.trans ⟨rfl, rfl, rfl, Nat.le_refl _, fun _ _ _ => rfl⟩⟩

end Go.Proofs.Ytcodiiajmffdoaa
