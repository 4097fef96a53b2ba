/- An argument that is a slice of samples, opened; the walks of sameFloat, toFloat32S and eqFloat32S.
   Conditions: those that each statement names. -/
import Derived.Test.YtcodiiajmffdoaaWide
import Derived.Test.YtcodiiajmffdoaaRingB
import Derived.Test.YtcodiiajmffdoaaRow
namespace Go.Proofs.Ytcodiiajmffdoaa
open Go Go.ChangeShapes Go.WideShapes Go.ChangeAt Go.RowKit

theorem trod_float {H : Type} {enc : TypeId × Value → H} {P : Program} {w : World} {base : Nat} {spare : Nat → Bool} {held : Bool} {fuel : Nat} {t : TypeId} {cs : List Value} {x : DataW H × List MemPlace} {k : FloatKind}
    (ht : P.underlying t = some (.float k)) (h : DataW.trod enc P w base spare held fuel t cs = some x) : ∃ n, cs = [.float k n] ∧ (Lit.float k n).wf = true := by
  cases fuel with
  | zero => simp [DataW.trod] at h
  | succ n =>
    unfold DataW.trod at h
    rw [ht] at h
    split at h <;> simp_all
theorem open_floats {H : Type} {enc : TypeId × Value → H} {P : Program} {w : World} {base : Nat} {spare : Nat → Bool} {held : Bool} {fuel : Nat} {t e : TypeId} {cs : List Value} {x : DataW H × List MemPlace} {k : FloatKind}
    (ht : P.underlying t = some (.slice e)) (he : P.underlying e = some (.float k)) (hc : P.cellsOf e = 1) (h : DataW.trod enc P w base spare held fuel t cs = some x) :
    cs = [.slice none 0 0] ∨ ∃ (a : Addr) (len cap : Nat), cs = [.slice (some a) len cap] ∧ len ≤ cap ∧ cap ≤ maxLen ∧ ∀ i, i < len → ∃ b, w.cell? (a.add i) = some (.float k b) ∧ (Lit.float k b).wf = true := by
  rcases DataW.trod_slice ht h with ⟨h0, _⟩ | ⟨a, len, cap, elems, rest, n, _, rfl, rfl, hb, hl, hm, hlen, hel, hsp, hns⟩
  · exact .inl h0
  · refine .inr ⟨a, len, cap, rfl, hl, hm, fun i hi => ?_⟩
    have h1 := hel i hi
    rw [List.getElem?_eq_getElem (by omega), hc, Nat.mul_one, Option.bind_eq_some_iff] at h1
    obtain ⟨cs', hcs, hy'⟩ := h1
    obtain ⟨m, rfl, hw⟩ := trod_float he hy'
    exact ⟨m, cell_of_cells?_one hcs, hw⟩

/-- WHAT THE WALK IS TOLD OF A SLICE OF SAMPLES: its numbers, below the block B -/
def Fls (B : Nat) (a : Option Addr) (len : Nat) (zs : List Nat) (w : World) : Prop :=
  zs.length = len ∧ (∀ z ∈ zs, z < 2 ^ 32) ∧ (len = 0 ∨ ∃ b o, a = some ⟨b, o, none⟩ ∧ b < B ∧ ∀ (k : Nat) x, zs[k]? = some x → w.cell? ⟨b, o + k, none⟩ = some (.float .f32 x))
theorem Fls.nw {B : Nat} {a : Option Addr} {len : Nat} {zs : List Nat} {w w' : World} (h : Fls B a len zs w) (hB : B ≤ w.heap.size) (hn : Nw w w') : Fls B a len zs w' := by
  obtain ⟨h1, h2, h3⟩ := h
  refine ⟨h1, h2, ?_⟩
  rcases h3 with h0 | ⟨b, o, rfl, hb, hc⟩
  · exact .inl h0
  · exact .inr ⟨b, o, rfl, hb, fun k x hx => by rw [hn.cell (by show b < w.heap.size; omega)]; exact hc k x hx⟩
theorem Fls.at {B : Nat} {a : Option Addr} {len : Nat} {zs : List Nat} {w : World} (h : Fls B a len zs w) {k x : Nat} (hx : zs[k]? = some x) :
    ∃ b o, a = some ⟨b, o, none⟩ ∧ b < B ∧ w.cell? ⟨b, o + k, none⟩ = some (.float .f32 x) := by
  obtain ⟨h1, h2, h3⟩ := h
  have := (List.getElem?_eq_some_iff.1 hx).1
  rcases h3 with h0 | ⟨b, o, rfl, hb, hc⟩
  · omega
  · exact ⟨b, o, rfl, hb, hc k x hx⟩
theorem fls_of {w : World} {a : Addr} {len : Nat} (h : ∀ i, i < len → ∃ b, w.cell? (a.add i) = some (.float .f32 b) ∧ (Lit.float .f32 b).wf = true) : ∃ zs, Fls w.heap.size (some a) len zs w := by
  have hz : ∀ n, n ≤ len → ∃ zs : List Nat, zs.length = n ∧ ∀ (k : Nat) x, zs[k]? = some x → w.cell? (a.add k) = some (.float .f32 x) ∧ x < 2 ^ 32 := by
    intro n
    induction n with
    | zero => intro _; exact ⟨[], rfl, fun k x hx => by simp at hx⟩
    | succ n ih =>
      intro hn
      obtain ⟨zs, hl, hk⟩ := ih (by omega)
      obtain ⟨b, hb, hw⟩ := h n (by omega)
      refine ⟨zs ++ [b], by simp [hl], fun k x hx => ?_⟩
      by_cases hkn : k < n
      · exact hk k x (by rwa [List.getElem?_append_left (by omega)] at hx)
      · rw [List.getElem?_append_right (by omega)] at hx
        have hk0 : k - zs.length = 0 := by
          have := (List.getElem?_eq_some_iff.1 hx).1
          simp at this; omega
        rw [hk0] at hx
        simp at hx
        subst hx
        obtain rfl : k = n := by omega
        exact ⟨hb, by simpa [Lit.wf] using hw⟩
  obtain ⟨zs, hl, hk⟩ := hz len (Nat.le_refl _)
  refine ⟨zs, hl, fun z hz => ?_, ?_⟩
  · obtain ⟨i, hi⟩ := List.getElem?_of_mem hz
    exact (hk i z hi).2
  · by_cases h0 : len = 0
    · exact .inl h0
    · right
      obtain ⟨b, hb, -⟩ := h 0 (by omega)
      have e0 : a.add 0 = a := by unfold Addr.add; rw [if_pos rfl]
      rw [e0] at hb
      obtain ⟨h1, h2⟩ := cell_lt hb
      refine ⟨a.block, a.off, by cases a; simp at h2; subst h2; rfl, h1, fun k x hx => ?_⟩
      have := (hk k x hx).1
      have hadd : a.add k = ⟨a.block, a.off + k, none⟩ := by
        unfold Addr.add; split
        · rename_i h0; subst h0; cases a; simp at h2; subst h2; rfl
        · rfl
      rwa [hadd] at this

/-! ### sameFloat -/
theorem one_quoF (a : Nat) (h : nan64 a = false) : ∃ r, floatBits .quo .f64 4607182418800017408 a = some r := by
  have h1 : Ieee.double.read 4607182418800017408 = .number false 4503599627370496 (-52) := by decide
  have h : (Ieee.double.read a).isNaN = false := h
  show ∃ r, Ieee.double.div 4607182418800017408 a = some r
  unfold Ieee.Format.div
  rw [h1]
  cases hd : Ieee.double.read a with
  | number s m p => by_cases hm : m = 0 <;> simp [Ieee.Datum.quotient, hm]
  | infinity s => exact ⟨_, rfl⟩
  | nan s f => rw [hd] at h; simp [Ieee.Datum.isNaN] at h

theorem sameFloat_any (a b : Nat) (w : World) :
    Calls Try.prog 38 #[.float .f64 a, .float .f64 b] w fun e w' => e = .returned (.bool (sameF a b)) ∧ w = w' := by
  have o1 := order_self .f64 a
  have o2 := order_self .f64 b
  cases ha : nan64 a
  all_goals cases hb : nan64 b
  all_goals rw [show (FloatKind.f64.decode a).isNaN = _ from ha] at o1; rw [show (FloatKind.f64.decode b).isNaN = _ from hb] at o2
  case false.false =>
    obtain ⟨r, hr⟩ := one_quoF a ha
    obtain ⟨s, hs⟩ := one_quoF b hb
    have r1 : ∀ w, fres w .quo .f64 4607182418800017408 a = r := fun w => by unfold fres; rw [hr]
    have r2 : ∀ w, fres w .quo .f64 4607182418800017408 b = s := fun w => by unfold fres; rw [hs]
    have d1 : fdr .quo .f64 4607182418800017408 a = 0 := by unfold fdr; rw [hr]; rfl
    have d2 : fdr .quo .f64 4607182418800017408 b = 0 := by unfold fdr; rw [hs]; rfl
    go_enter Try.func38, Try.ntmps38
    go_wp2
    all_goals (go_ret; refine ⟨by simp_all [sameF], ?_⟩; first | rfl | (exfalso; simp_all))
  all_goals
    go_enter Try.func38, Try.ntmps38
    go_wp2
    all_goals (go_ret; refine ⟨by simp_all [sameF], ?_⟩; first | rfl | (exfalso; simp_all))

def fillF (zs : List Nat) (n k : Nat) : List Nat := zs.take k ++ List.replicate (n - k) 0
theorem fillF_zero (zs : List Nat) (n : Nat) : fillF zs n 0 = List.replicate n 0 := by simp [fillF]
theorem fillF_full (zs : List Nat) (n : Nat) (h : zs.length = n) : fillF zs n n = zs := by subst h; simp [fillF]
theorem fillF_set (zs : List Nat) (n k x : Nat) (hx : zs[k]? = some x) (hl : zs.length = n) : (cellsS (fillF zs n k)).set k (.float .f32 x) = cellsS (fillF zs n (k + 1)) := by
  obtain ⟨h, he⟩ := List.getElem?_eq_some_iff.1 hx
  unfold fillF
  rw [List.take_succ_eq_append_getElem h, he, show n - k = (n - (k + 1)) + 1 from by omega, List.replicate_succ]
  simp only [cellsS, List.map_append, List.map_cons, List.map_nil, List.append_assoc, List.singleton_append]
  rw [List.set_append_right _ _ (by simp; omega)]
  simp [Nat.min_eq_left (Nat.le_of_lt h)]
theorem fillF_cell (zs : List Nat) (n k : Nat) (h : k < n) (hl : zs.length = n) : (cellsS (fillF zs n k))[k]? = some (.float .f32 0) := by
  unfold fillF cellsS
  rw [List.getElem?_map, List.getElem?_append_right (by simp; omega)]
  simp [List.getElem?_replicate]
  omega

def CopyI (B g n : Nat) (zs : List Nat) (w : World) (i : Value) (wr : World) : Prop :=
  ∃ k : Nat, k ≤ n ∧ i = .int .i64 (k : Int) ∧ wr.ownsRow B 25 1 (.slice (some ⟨g, 0, none⟩) n n) n (cellsS (fillF zs n k)) ∧ Nw w wr
def CopyP (zs : List Nat) (n : Nat) (w : World) (e : Ending) (w' : World) : Prop :=
  ∃ g : Nat, e = .returned (.slice (some ⟨g, 0, none⟩) n n) ∧ w'.ownsRow w.heap.size 25 1 (.slice (some ⟨g, 0, none⟩) n n) n (cellsS zs) ∧ Nw w w'

set_option maxRecDepth 100000 in
theorem toFloat32S_ok (B : Nat) (a : Option Addr) (n cap : Nat) (zs : List Nat) (hn : n ≤ 1048576) (w : World) (hB : B ≤ w.heap.size) (hf : Fls B a n zs w) :
    Calls Try.prog 35 #[.slice a n cap] w (CopyP zs n w) := by
  obtain ⟨f0, hf0, hfz0, hfz1, hfz2⟩ := info_parts info_f32
  have Hf := Lib.hid hf
  clear hf
  go_enter Try.func35, Try.ntmps35
  go_wp2_with (first
    | (at_make; refine wpList_make_full _ rfl _ _ 23 rfl w.heap.size 25 f0 (.float .f32 0) 1 Try.underlying23 hf0 hfz0 hfz1 _ _ _ _ n rfl rfl rfl rfl (by rw [hfz2]; omega) (by unfold maxLen; omega) (Nat.le_refl _) ?_))
  intro w3 hown3 hgrow3
  have O3 := Lib.hid (show w3.ownsRow w.heap.size 25 1 (.slice (some ⟨w.heap.size, 0, none⟩) n n) n (cellsS (fillF zs n 0)) from by
    rw [toList_madeCells_one] at hown3
    rw [fillF_zero]
    simpa [cellsS] using hown3)
  have N3 := Lib.hid (show Nw w w3 from hgrow3)
  clear hown3 hgrow3
  go_wp2_with fail
  go_loopw [4] (fun i wr => CopyI w.heap.size w.heap.size n zs w i wr) (fun i _ => n - (intOf i).toNat)
  case atStart => exact ⟨0, by omega, rfl, O3.out, N3.out⟩
  case round =>
    obtain ⟨k, hk, rfl, how, hnw⟩ := hrel
    have Ow := Lib.hid how
    have Nr := Lib.hid hnw
    clear how hnw
    by_cases hlt : k < n
    · obtain ⟨x, hxk⟩ : ∃ x, zs[k]? = some x := ⟨zs[k]'(by rw [Hf.out.1]; exact hlt), List.getElem?_eq_getElem _⟩
      obtain ⟨b, o, rfl, hbB, e0⟩ := (Hf.out.nw hB Nr.out).at hxk
      have e1 := Ow.out.cellAt k (by omega)
      rw [fillF_cell zs n k hlt Hf.out.1] at e1
      have e2 := Ow.out.frozenAt k
      have hset := Ow.out.stored k (.float .f32 x)
      rw [fillF_set zs n k x hxk Hf.out.1] at hset
      have F := Lib.hid hset.1
      have N2 := Lib.hid (Nr.out.set (p := ⟨w.heap.size, k, none⟩) (by show w.heap.size ≤ w.heap.size; omega) (.float .f32 x))
      clear hset hxk
      go_wp2_with fail
      go_roundw
      case rel => exact ⟨k + 1, by omega, by rw [show ((k + 1 : Nat) : Int) = (k : Int) + 1 from by omega], F.out, N2.out⟩
      case measure => simp only [intOf]; omega
    · obtain rfl : k = n := by omega
      go_wp2_with fail
      go_ret
      exact ⟨_, rfl, by have h := Ow.out; rw [fillF_full zs _ Hf.out.1] at h; exact h, Nr.out⟩

theorem widen_sameF (x : Nat) (w1 w2 : World) : sameF (fcv w1 .f32 x .f64) (fcv w2 .f32 x .f64) = true :=
  sameF_fab (by rw [fab_wide, fab_wide])
def CountI (n : Nat) (w : World) (i : Value) (wr : World) : Prop := ∃ k : Nat, k ≤ n ∧ i = .int .i64 (k : Int) ∧ Nw w wr

set_option maxHeartbeats 6400000 in
set_option maxRecDepth 100000 in
theorem eqFloat32S_ok (zs : List Nat) (n b1 b2 : Nat) (v u : Value) (hl : zs.length = n) (hn : n ≤ 1048576) (w : World) (h1 : w.ownsRow b1 25 1 v n (cellsS zs)) (h2 : w.ownsRow b2 25 1 u n (cellsS zs)) :
    Calls Try.prog 36 #[v, u] w fun e w' => e = .returned (.bool true) ∧ Nw w w' := by
  obtain ⟨va, vc, rfl⟩ := own_shape' h1
  obtain ⟨ua, uc, rfl⟩ := own_shape' h2
  have H1 := Lib.hid h1
  have H2 := Lib.hid h2
  have Hl := Lib.hid hl
  clear h1 h2 hl
  go_enter Try.func36, Try.ntmps36
  go_wp2_with fail
  go_loopw [5] (fun i wr => CountI n w i wr) (fun i _ => n - (intOf i).toNat)
  case atStart => exact ⟨0, by omega, rfl, Nw.refl _⟩
  case round =>
    obtain ⟨k, hk, rfl, hN⟩ := hrel
    have Nr := Lib.hid hN
    clear hN
    by_cases hlt : k < n
    · obtain ⟨x, hxk⟩ : ∃ x, zs[k]? = some x := ⟨zs[k]'(by rw [Hl.out]; exact hlt), List.getElem?_eq_getElem _⟩
      obtain ⟨g1, cap1, hv1, hcap1, hmax1, -, e1⟩ := own_sample (own_nw H1.out Nr.out) hxk Hl.out.symm
      obtain ⟨g2, cap2, hv2, hcap2, hmax2, -, e2⟩ := own_sample (own_nw H2.out Nr.out) hxk Hl.out.symm
      cases hv1
      cases hv2
      unfold maxLen at hmax1 hmax2
      clear hxk
      go_upto_region 6 with fail
      go_region_with (first | (go_at_call 38; refine (sameFloat_any _ _ _).mono ?_; rintro e w5 ⟨rfl, rfl⟩; rw [widen_sameF]))
      all_goals
        go_wp2_with fail
        go_roundw
        case rel => exact ⟨k + 1, by omega, by rw [show ((k + 1 : Nat) : Int) = (k : Int) + 1 from by omega], Nr.out.trans ⟨rfl, rfl, rfl, Nat.le_refl _, fun _ _ _ => rfl⟩⟩
        case measure => simp only [intOf]; omega
    · obtain rfl : k = n := by omega
      go_wp2_with fail
      go_ret
      exact ⟨rfl, Nr.out⟩

end Go.Proofs.Ytcodiiajmffdoaa
