/- The walk of slices.Concat over two bodies' modes.
   Conditions: those that each statement names. -/
import Derived.Test.YtfgofmcpgfofaaaGrow
import Derived.Laws.AppendOwnNone
namespace Go.Proofs.Ytfgofmcpgfofaaa
open Go Go.RowKit

def partL (a b : List M4) (k : Nat) : List M4 := if k = 0 then [] else if k = 1 then a else a ++ b
def SizeI (n m : Nat) (w : World) (y i : Value) (wr : World) : Prop := ∃ k : Nat, k ≤ 2 ∧ i = .int .i64 (k : Int) ∧ y = .int .i64 ((if k = 0 then 0 else if k = 1 then n else n + m : Nat) : Int) ∧ wr = w

def ConcI (a b : List M4) (w : World) (y i : Value) (wr : World) : Prop :=
  ∃ k : Nat, k ≤ 2 ∧ i = .int .i64 (k : Int) ∧ wr.ownsRow w.heap.size 38 2 y (partL a b k).length (cellsM (partL a b k)) ∧ Nw w wr

theorem cells_one (a : List M4) : ∀ u ∈ cellsM a, u.oneCell' = true := by
  intro u hu
  obtain ⟨m, _, hu⟩ := List.mem_flatMap.1 hu
  simp [M4.cells] at hu
  rcases hu with rfl | rfl <;> rfl
theorem own_cell {w : World} {base n g cap : Nat} {a : List M4} (h : w.ownsRow base 38 2 (.slice (some ⟨g, 0, none⟩) n cap) n (cellsM a)) (hn : a.length = n) {j : Nat} {u : Value} (hj : (cellsM a)[j]? = some u) :
    w.cell? ((⟨g, 0, none⟩ : Addr).add j) = some u := by
  have hj' : j < n * 2 := by
    have := (List.getElem?_eq_some_iff.1 hj).1
    rw [cellsM_len, hn] at this
    exact this
  have c1 := h.cellAt j hj'
  rw [hj] at c1
  rw [show (⟨g, 0, none⟩ : Addr).add j = ⟨g, j, none⟩ from by simp [Addr.add]; first | done | (intro h; omega)]
  exact c1

set_option maxHeartbeats 1600000 in
set_option maxRecDepth 100000 in
theorem concat_modes (a b : List M4) (n m bm bn h : Nat) (va vb : Value) (hn : a.length = n) (hm : b.length = m) (hn64 : n ≤ 16) (hm64 : m ≤ 16) (w : World)
    (ha : w.ownsRow bm 38 2 va n (cellsM a)) (hb : w.ownsRow bn 38 2 vb m (cellsM b))
    (h0 : h < w.heap.size) (h1 : w.cell? ⟨h, 0, none⟩ = some va) (h2 : w.cell? ⟨h, 1, none⟩ = some vb) :
    Calls Try.prog 85 #[.slice (some ⟨h, 0, none⟩) 2 2] w (RowP (a ++ b) w) := by
  obtain ⟨va, vc, rfl⟩ := own_shape' ha
  obtain ⟨ub, uc, rfl⟩ := own_shape' hb
  have Ha := Lib.hid ha
  have Hb := Lib.hid hb
  have Hn := Lib.hid hn
  have Hm := Lib.hid hm
  clear ha hb hn hm
  go_enter Try.func85, Try.ntmps85
  go_wp2_with fail
  go_loopw [3, 11] (fun y i wr => SizeI n m w y i wr) (fun _ i _ => 2 - (intOf i).toNat)
  case atStart => exact ⟨0, by omega, rfl, rfl, rfl⟩
  case round =>
    obtain ⟨k, hk, rfl, rfl, rfl⟩ := hrel
    have hk3 : k = 0 ∨ k = 1 ∨ k = 2 := by omega
    rcases hk3 with rfl | rfl | rfl
    · go_wp2_with fail
      go_roundw
      case rel => exact ⟨1, by omega, rfl, by simp, rfl⟩
      case measure => simp [intOf]
    · go_wp2_with fail
      go_roundw
      case rel => exact ⟨2, by omega, rfl, by simp, rfl⟩
      case measure => simp [intOf]
    · go_wp2_with fail
      rw [show ((n : Int) + (m : Int)) = ((n + m : Nat) : Int) from by omega]
      refine (grow_nil (n + m) (by omega) _).mono ?_
      rintro e w3 ⟨v3, rfl, own3, n3⟩
      obtain ⟨va3, vc3, rfl⟩ := own_shape' own3
      have O3 := Lib.hid own3
      have N3 := Lib.hid n3
      clear own3 n3
      have P1 := Lib.hid h1
      have P2 := Lib.hid h2
      clear h1 h2
      go_wp2_with fail
      go_loopw [6, 27] (fun y i wx => ConcI a b wr y i wx) (fun _ i _ => 2 - (intOf i).toNat)
      case atStart => exact ⟨0, by omega, rfl, by simpa [partL, cellsM] using O3.out, N3.out⟩
      case round =>
        obtain ⟨k, hk, rfl, hrow, hnw⟩ := hrel
        have Row := Lib.hid hrow
        have Nx := Lib.hid hnw
        clear hrow hnw
        have hk3 : k = 0 ∨ k = 1 ∨ k = 2 := by omega
        obtain ⟨ya, yc, rfl⟩ := own_shape' Row.out
        obtain ⟨i0, hi, hz0, hz1, hz2⟩ := info_parts info_mode
        rcases hk3 with rfl | rfl | rfl
        · have c1 := (Nx.out.cell (p := ⟨h, 0, none⟩) h0).trans P1.out
          have Hax := Lib.hid (own_nw Ha.out Nx.out)
          rcases Hax.out.2 with ⟨g1, g2⟩ | ⟨g, cap, cur, g1, hb, hg, hc, hmx, hs, ht⟩
          · cases g1
            have ha0 := Lib.hid (show a = [] from List.eq_nil_of_length_eq_zero (by have := Hn.out; omega))
            go_wp2_with (at_builtin; refine wpList_append_own_none rfl _ _ 43 rfl _ 38 i0 2 Try.underlying43 hi _ _ _ rfl Row.out rfl ?_)
            go_wp2_with fail
            go_roundw
            case rel =>
                have F : ConcI a b _ _ _ _ := ⟨1, by omega, rfl, by have h := Row.out; simp only [partL] at h ⊢; have e := ha0.out; subst e; simpa using h, Nx.out⟩
                first | exact F | exact ⟨_, _, _, F, rfl, rfl, rfl⟩
            case measure => simp [intOf]
          · cases g1
            clear hb hg hc hs ht
            go_wp2_with (at_builtin; go_loud (refine wpList_append_own _ rfl _ _ 43 rfl _ 38 i0 (.agg #[.complex .f32 0 0, .complex .f32 0 0]) 2 16 Try.underlying43 hi hz0 hz1 hz2 rfl (by decide) _ _ _ rfl Row.out ⟨g, 0, none⟩ n _ (cellsM a) rfl (by rw [cellsM_len]; have := Hn.out; omega) ?qc2 (cells_one a) ?qc4 ?qc5 Nx.out.size ?_))
            case qc2 => exact fun j u hj => own_cell Hax.out Hn.out hj
            case qc4 => simp [partL]; unfold maxLen; omega
            case qc5 => simp [partL]; omega
            · intro v' w1 hown hgrow hnil
              have Hown := Lib.hid hown
              have Hgr := Lib.hid (Nx.out.grown hgrow (fun q hq => (Row.out.lt q hq).1))
              clear hown hgrow hnil
              go_wp2_with fail
              go_roundw
              case rel =>
                have F : ConcI a b _ _ _ _ := ⟨1, by omega, rfl, by have h := Hown.out; simp only [partL] at h ⊢; simpa [cellsM, Hn.out] using h, Hgr.out⟩
                first | exact F | exact ⟨_, _, _, F, rfl, rfl, rfl⟩
              case measure => simp [intOf]
        · have c1 := (Nx.out.cell (p := ⟨h, 1, none⟩) h0).trans P2.out
          have Hax := Lib.hid (own_nw Hb.out Nx.out)
          rcases Hax.out.2 with ⟨g1, g2⟩ | ⟨g, cap, cur, g1, hb, hg, hc, hmx, hs, ht⟩
          · cases g1
            have ha0 := Lib.hid (show b = [] from List.eq_nil_of_length_eq_zero (by have := Hm.out; omega))
            go_wp2_with (at_builtin; refine wpList_append_own_none rfl _ _ 43 rfl _ 38 i0 2 Try.underlying43 hi _ _ _ rfl Row.out rfl ?_)
            go_wp2_with fail
            go_roundw
            case rel =>
                have F : ConcI a b _ _ _ _ := ⟨2, by omega, rfl, by have h := Row.out; simp only [partL] at h ⊢; have e := ha0.out; subst e; simpa using h, Nx.out⟩
                first | exact F | exact ⟨_, _, _, F, rfl, rfl, rfl⟩
            case measure => simp [intOf]
          · cases g1
            clear hb hg hc hs ht
            go_wp2_with (at_builtin; go_loud (refine wpList_append_own _ rfl _ _ 43 rfl _ 38 i0 (.agg #[.complex .f32 0 0, .complex .f32 0 0]) 2 16 Try.underlying43 hi hz0 hz1 hz2 rfl (by decide) _ _ _ rfl Row.out ⟨g, 0, none⟩ m _ (cellsM b) rfl (by rw [cellsM_len]; have := Hm.out; omega) ?qc2 (cells_one b) ?qc4 ?qc5 Nx.out.size ?_))
            case qc2 => exact fun j u hj => own_cell Hax.out Hm.out hj
            case qc4 => simp [partL, Hn.out]; unfold maxLen; omega
            case qc5 => simp [partL, Hn.out]; omega
            · intro v' w1 hown hgrow hnil
              have Hown := Lib.hid hown
              have Hgr := Lib.hid (Nx.out.grown hgrow (fun q hq => (Row.out.lt q hq).1))
              clear hown hgrow hnil
              go_wp2_with fail
              go_roundw
              case rel =>
                have F : ConcI a b _ _ _ _ := ⟨2, by omega, rfl, by have h := Hown.out; simp only [partL] at h ⊢; simpa [cellsM, Hn.out, Hm.out] using h, Hgr.out⟩
                first | exact F | exact ⟨_, _, _, F, rfl, rfl, rfl⟩
              case measure => simp [intOf]
        · go_wp2_with fail
          go_ret
          exact ⟨_, rfl, by have h := Row.out; simpa [partL] using h, Nx.out⟩

end Go.Proofs.Ytfgofmcpgfofaaa
