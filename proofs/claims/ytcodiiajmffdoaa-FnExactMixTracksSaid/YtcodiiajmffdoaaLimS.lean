/- The walks of LimitSamples, the program's and the model's, for any numbers, and what they answer but for the bits of NaN.
   Conditions: those that each statement names. -/
import Derived.Test.YtcodiiajmffdoaaLimN
import Derived.Test.YtcodiiajmffdoaaLimit
import Derived.Test.YtcodiiajmffdoaaClone
namespace Go.Proofs.Ytcodiiajmffdoaa
open Go Go.RowKit

/-- the envelope after k samples -/
def eA (zs : List Nat) (r : Nat) : Nat → Option Nat
  | 0 => fab .f32 0
  | k + 1 => limE (eA zs r k) (zs.getD k 0) r
def yA (zs : List Nat) (c r k : Nat) : Option Nat := limY (eA zs r k) (zs.getD k 0) c r
/-- the first k samples of ys are those told -/
def Good (zs : List Nat) (c r k : Nat) (ys : List Nat) : Prop := ys.length = k ∧ ∀ (j : Nat) y, ys[j]? = some y → fab .f32 y = yA zs c r j ∧ y < 2 ^ 32
theorem Good.nil (zs : List Nat) (c r : Nat) : Good zs c r 0 [] := ⟨rfl, fun j y h => by simp at h⟩
theorem Good.snoc {zs ys : List Nat} {c r k y : Nat} (h : Good zs c r k ys) (hy : fab .f32 y = yA zs c r k) (hl : y < 2 ^ 32) : Good zs c r (k + 1) (ys ++ [y]) := by
  refine ⟨by rw [List.length_append, h.1]; rfl, fun j z hz => ?_⟩
  by_cases hj : j < k
  · rw [List.getElem?_append_left (by rw [h.1]; exact hj)] at hz
    exact h.2 j z hz
  · rw [List.getElem?_append_right (by rw [h.1]; omega)] at hz
    have hb := (List.getElem?_eq_some_iff.1 hz).1
    simp at hb
    have e : j = k := by rw [h.1] at hb; omega
    subst e
    rw [h.1, Nat.sub_self] at hz
    simp at hz
    subst hz
    exact ⟨hy, hl⟩
theorem getD_at {zs : List Nat} {k x : Nat} (h : zs[k]? = some x) : zs.getD k 0 = x := by rw [List.getD_eq_getElem?_getD, h]; rfl
theorem fill_set (ys : List Nat) (n k y : Nat) (hl : ys.length = k) (h : k < n) : (cellsS (ys ++ List.replicate (n - k) 0)).set k (.float .f32 y) = cellsS ((ys ++ [y]) ++ List.replicate (n - (k + 1)) 0) := by
  rw [show n - k = (n - (k + 1)) + 1 from by omega, List.replicate_succ]
  simp only [cellsS, List.map_append, List.map_cons, List.map_nil, List.append_assoc, List.singleton_append]
  rw [List.set_append_right _ _ (by simp; omega)]
  simp [hl]
theorem fill_cell (ys : List Nat) (n k : Nat) (hl : ys.length = k) (h : k < n) : (cellsS (ys ++ List.replicate (n - k) 0))[k]? = some (.float .f32 0) := by
  unfold cellsS
  rw [List.getElem?_map, List.getElem?_append_right (by omega)]
  simp [List.getElem?_replicate, hl]
  omega

def LimG (zs : List Nat) (c r n : Nat) (ys : List Nat) : Prop := if lim c r then Good zs c r n ys else ys = []
def LimP (zs : List Nat) (c r n : Nat) (w : World) (e : Ending) (w' : World) : Prop :=
  ∃ v ys, e = .returned (.tuple #[v, .bool (lim c r)]) ∧ w'.ownsRow w.heap.size 25 1 v ys.length (cellsS ys) ∧ LimG zs c r n ys ∧ Nw w w'
def LimIi (zs : List Nat) (c r n g : Nat) (B : Nat) (w : World) (env i : Value) (wr : World) : Prop :=
  ∃ (k : Nat) (ys : List Nat) (e : Nat), k ≤ n ∧ i = .int .i64 (k : Int) ∧ env = .float .f32 e ∧ fab .f32 e = eA zs r k ∧ Good zs c r k ys ∧
    wr.ownsRow B 25 1 (.slice (some ⟨g, 0, none⟩) n n) n (cellsS (ys ++ List.replicate (n - k) 0)) ∧ Nw w wr

theorem lim_no {zs : List Nat} {c r n : Nat} {w w' : World} (h : lim c r = false) (hn : Nw w w') : LimP zs c r n w (.returned (.tuple #[.slice none 0 0, .bool false])) w' := by
  refine ⟨.slice none 0 0, [], by rw [h], World.ownsRow_nil _ _ _ _, by unfold LimG; rw [h]; rfl, hn⟩

set_option maxRecDepth 100000 in
theorem implLimS_ok (zs : List Nat) (n b c r : Nat) (v : Value) (hl : zs.length = n) (hn : n ≤ 1048576) (h32 : ∀ z ∈ zs, z < 2 ^ 32) (hr : r < 2 ^ 32) (w : World) (h : w.ownsRow b 25 1 v n (cellsS zs)) :
    Calls Try.prog 30 #[v, .float .f32 c, .float .f32 r] w (LimP zs c r n w) := by
  obtain ⟨va, vc, rfl⟩ := own_shape' h
  obtain ⟨f0, hf0, hfz0, hfz1, hfz2⟩ := info_parts info_f32
  have H := Lib.hid h
  have Hl := Lib.hid hl
  clear h hl
  have hle : lim c r = ((gt0 c && fin .f32 c) && ((ge0 r && le1 r) && !(r == 2147483648))) := rfl
  have Hle := Lib.hid hle
  clear hle
  cases hc : (gt0 c && fin .f32 c) with
  | false =>
    go_enter Try.func30, Try.ntmps30
    go_wp2_with (go_at_call 70; refine (isCeiling_any _ _).mono ?_; rintro e w1 ⟨rfl, rfl⟩; rw [hc])
    all_goals
      go_ret2
      exact lim_no (by rw [Hle.out, hc]; rfl) (Nw.refl _)
  | true =>
    cases hre : ((ge0 r && le1 r) && !(r == 2147483648)) with
    | false =>
      go_enter Try.func30, Try.ntmps30
      go_wp2_with (first
        | (go_at_call 70; refine (isCeiling_any _ _).mono ?_; rintro e w1 ⟨rfl, rfl⟩; rw [hc])
        | (go_at_call 71; refine (isRelease_any _ hr _).mono ?_; rintro e w2 ⟨rfl, rfl⟩; rw [hre]))
      all_goals
        go_ret2
        exact lim_no (by rw [Hle.out, hc, hre]; rfl) (Nw.refl _)
    | true =>
      have hlim : lim c r = true := by rw [Hle.out, hc, hre]; rfl
      have Hlim := Lib.hid hlim
      clear hlim
      go_enter Try.func30, Try.ntmps30
      go_wp2_with (first
        | (go_at_call 70; refine (isCeiling_any _ _).mono ?_; rintro e w1 ⟨rfl, rfl⟩; rw [hc])
        | (go_at_call 71; refine (isRelease_any _ hr _).mono ?_; rintro e w2 ⟨rfl, rfl⟩; rw [hre])
        | (at_make; refine wpList_make_full _ rfl _ _ 23 rfl w.heap.size 25 f0 (.float .f32 0) 1 Try.underlying23 hf0 hfz0 hfz1 _ _ _ _ n rfl rfl rfl rfl (by rw [hfz2]; omega) (by unfold maxLen; omega) (Nat.le_refl _) ?_))
      intro w3 hown3 hgrow3
      have O3 := Lib.hid (show w3.ownsRow w.heap.size 25 1 (.slice (some ⟨w.heap.size, 0, none⟩) n n) n (cellsS ([] ++ List.replicate (n - 0) 0)) from by
        rw [toList_madeCells_one] at hown3
        simpa [cellsS] using hown3)
      have N3 := Lib.hid (show Nw w w3 from hgrow3)
      clear hown3 hgrow3 hc hre
      go_wp2_with fail
      go_loopw [9, 24] (fun env i wr => LimIi zs c r n w.heap.size w.heap.size w env i wr) (fun _ i _ => n - (intOf i).toNat)
      case atStart => exact ⟨0, [], 0, by omega, rfl, rfl, rfl, Good.nil _ _ _, O3.out, N3.out⟩
      case round =>
        obtain ⟨k, ys, e, hk, rfl, rfl, he, hg, how, hN⟩ := hrel
        have Ow := Lib.hid how
        have Nr := Lib.hid hN
        have Hg := Lib.hid (And.intro he hg)
        clear he hg how hN
        by_cases hlt : k < n
        · obtain ⟨x, hxk⟩ : ∃ x, zs[k]? = some x := ⟨zs[k]'(by rw [Hl.out]; exact hlt), List.getElem?_eq_getElem _⟩
          obtain ⟨g1, cap1, hv1, hcap1, hmax1, -, e1⟩ := own_sample (own_nw H.out Nr.out) hxk Hl.out.symm
          cases hv1
          unfold maxLen at hmax1
          have Hx := Lib.hid (getD_at hxk)
          have x32 := h32 x (List.mem_of_getElem? hxk)
          clear hxk
          go_wp2_with fail
          refine (implLimit_ok e x c r x32 _).mono ?_
          rintro en w5 ⟨y, d, rfl, hy, hd, ly, ld, n5⟩
          have hy' : fab .f32 y = yA zs c r k := by rw [hy, Hg.out.1]; unfold yA; rw [Hx.out]
          have hd' : fab .f32 d = eA zs r (k + 1) := by rw [hd, Hg.out.1]; show _ = limE (eA zs r k) (zs.getD k 0) r; rw [Hx.out]
          have Hy := Lib.hid (And.intro (Hg.out.2.snoc hy' ly) hd')
          have Ow5 := Lib.hid (own_nw Ow.out n5)
          have N5 := Lib.hid (Nr.out.trans n5)
          clear hy hd hy' hd' n5 e1
          have c1 := Ow5.out.cellAt k (by omega)
          rw [fill_cell ys n k Hg.out.2.1 hlt] at c1
          have c2 := Ow5.out.frozenAt k
          have hset := Ow5.out.stored k (.float .f32 y)
          rw [fill_set ys n k y Hg.out.2.1 hlt] at hset
          have F := Lib.hid hset.1
          have N6 := Lib.hid (N5.out.set (p := ⟨w.heap.size, k, none⟩) (by show w.heap.size ≤ w.heap.size; omega) (.float .f32 y))
          clear hset
          go_wp2_with fail
          go_roundw
          case rel => exact ⟨k + 1, ys ++ [y], d, by omega, by rw [show ((k + 1 : Nat) : Int) = (k : Int) + 1 from by omega], rfl, Hy.out.2, Hy.out.1, F.out, N6.out⟩
          case measure => simp only [intOf]; omega
        · obtain rfl : k = n := by omega
          go_wp2_with fail
          go_ret2
          refine ⟨_, ys, by rw [Hlim.out]; rfl, ?_, ?_, Nr.out⟩
          · have h := Ow.out
            rw [Nat.sub_self] at h
            rw [Hg.out.2.1]
            simpa using h
          · unfold LimG; rw [Hlim.out]; exact Hg.out.2

end Go.Proofs.Ytcodiiajmffdoaa
