/- The walk of the model's MixTracks over rows that the law has copied.
   Conditions: those that each statement names. -/
import Derived.Test.YtcodiiajmffdoaaMixI
namespace Go.Proofs.Ytcodiiajmffdoaa
open Go Go.RowKit

/-- the sums of the first k rows, whose lengths are L -/
def SmT (rows : List (List Nat)) (n L B : Nat) (w : World) (v i : Value) (wr : World) : Prop :=
  ∃ (k : Nat) (ys : List Nat) (ll : Nat) (a : Option Addr) (cc : Nat), k ≤ n ∧ i = .int .i64 (k : Int) ∧ v = .slice a ll cc ∧ (∀ (j : Nat) r, j < k → rows[j]? = some r → r.length = L) ∧
    wr.ownsRow B 25 1 (.slice a ll cc) ll (cellsS ys) ∧ ((k = 0 ∧ ll = 0 ∧ ys = []) ∨ (0 < k ∧ ll = L ∧ (∃ g, a = some ⟨g, 0, none⟩ ∧ cc = L) ∧ SumG (rows.take k) L ys)) ∧ Nw w wr
def AtRow (rows : List (List Nat)) (L B k : Nat) (w : World) (v : Value) (wr : World) : Prop :=
  ∃ (g : Nat) (ys : List Nat), v = .slice (some ⟨g, 0, none⟩) L L ∧ wr.ownsRow B 25 1 (.slice (some ⟨g, 0, none⟩) L L) L (cellsS ys) ∧ SumG (rows.take k) L ys ∧ B ≤ g ∧ Nw w wr

set_option maxRecDepth 100000 in
theorem specMix_ok (rows : List (List Nat)) (n b g c r : Nat) (gs : List Nat) (hn : n ≤ 1048576) (hr20 : ∀ x ∈ rows, x.length ≤ 1048576) (hr : r < 2 ^ 32) (w : World) (h : SRows w b g n gs rows) :
    Calls Try.prog 47 #[.slice (some ⟨g, 0, none⟩) n n, .float .f32 c, .float .f32 r] w (MixP rows c r w) := by
  obtain ⟨i0, hi, hz0, hz1, hz2⟩ := info_parts info_f32
  have H := Lib.hid h
  have H20 := Lib.hid hr20
  have hrn := h.2.1
  clear h hr20
  obtain ⟨L, hL0⟩ : ∃ L, L = len0 rows := ⟨_, rfl⟩
  have hL20 : L ≤ 1048576 := by
    rw [hL0]; unfold len0
    cases hx : rows[0]? with
    | none => simp
    | some x => simpa using H20.out x (List.mem_of_getElem? hx)
  have HL := Lib.hid (show n ≠ 0 → rows[0]?.map List.length = some L from fun hne => by
    have e : rows[0]? = some (rows[0]'(by omega)) := List.getElem?_eq_getElem _
    rw [hL0]; unfold len0; rw [e]; rfl)
  have HL0 := Lib.hid hL0.symm
  clear hL0
  go_enter Try.func47, Try.ntmps47
  go_wp2_with fail
  go_loopw [8, 16] (fun v i wr => SmT rows n L w.heap.size w v i wr) (fun _ i _ => n - (intOf i).toNat)
  case atStart => exact ⟨0, [], 0, _, _, by omega, rfl, rfl, fun j x hj => by omega, World.ownsRow_lit (base := w.heap.size) (e := 25) (size := 1) w #[] 0 (Nat.le_refl _) (by decide) rfl, .inl ⟨rfl, rfl, rfl⟩, (Nw.refl w).alloc _⟩
  case round =>
    obtain ⟨k, ys, ll, va, vc, hk, rfl, rfl, hlen, how, hor, hN⟩ := hrel
    have Ow := Lib.hid how
    have Hlen := Lib.hid hlen
    have Nr := Lib.hid hN
    have Or := Lib.hid hor
    clear hlen hN hor how
    by_cases hlt : k < n
    · obtain ⟨x, q, hx, hq, e0, -⟩ := (H.out.nw Nr.out).at hlt
      have hq20 := H20.out q (List.mem_of_getElem? hq)
      have Hq := Lib.hid hq
      have Hx := Lib.hid hx
      have hk0 : k = 0 → q.length = L := fun e => by
        subst e
        have h1 := HL.out (by omega)
        rw [Hq.out] at h1
        simpa using h1
      have Hk0 := Lib.hid hk0
      have hsz := Nr.out.size
      clear hx hq hk0
      go_upto_if 22 with fail
      go_cut [8] (fun v wx => AtRow rows L w.heap.size k w v wx)
      case first =>
        have hdec : ((k : Int) == 0) = decide (k = 0) := by
          rw [Bool.eq_iff_iff]; simp
        have Hdec := Lib.hid hdec
        clear hdec
        cases hz : ((k : Int) == 0)
        · have hk1 : ¬ k = 0 := fun e => by rw [Hdec.out] at hz; simp [e] at hz
          have Hk1 := Lib.hid hk1
          clear hk1
          go_wp2_with fail
          go_meet
          obtain ⟨e, -⟩ | ⟨-, rfl, ⟨g1, rfl, rfl⟩, hs⟩ := Or.out
          · exact absurd e Hk1.out
          · exact ⟨_, _, rfl, Ow.out, hs, (Ow.out.lt _ rfl).1, Nr.out⟩
        · have Hz := Lib.hid (show k = 0 from by rw [Hdec.out] at hz; simpa using hz)
          go_wp2_with (first
            | (at_make; refine wpList_make_full _ rfl _ _ 23 rfl w.heap.size 25 i0 (.float .f32 0) 1 Try.underlying23 hi hz0 hz1 _ _ _ _ q.length rfl rfl rfl rfl (by rw [hz2]; omega) (by unfold maxLen; omega) hsz ?_))
          intro w3 hown3 hgrow3
          have O3 := Lib.hid (show w3.ownsRow w.heap.size 25 1 (.slice (some ⟨wr.heap.size, 0, none⟩) q.length q.length) q.length (cellsS (List.replicate q.length 0)) from by
            rw [toList_madeCells_one] at hown3
            simpa [cellsS] using hown3)
          have N3 := Lib.hid (show Nw w w3 from Nr.out.trans hgrow3)
          clear hown3 hgrow3
          go_wp2_with fail
          go_meet
          have hqL := Hk0.out Hz.out
          have hz0 := Hz.out
          rw [hqL] at O3 ⊢
          exact ⟨_, _, rfl, O3.out, by rw [hz0]; exact SumG.zero L, hsz, N3.out⟩
      case rest =>
        obtain ⟨g1, us, rfl, own, hs, hg1, hN⟩ := hcut
        have O := Lib.hid own
        have S := Lib.hid hs
        have Nc := Lib.hid hN
        clear own hs hN e0
        by_cases hqL : q.length = L
        · go_wp2_with fail
          go_loopw [33] (fun i wr => InSI rows L w.heap.size g1 k w i wr) (fun i _ => L - (intOf i).toNat)
          case atStart => exact ⟨0, us, by omega, rfl, SumI.start S.out, O.out, Nc.out⟩
          case round =>
            obtain ⟨j, ts, hj, rfl, hsum, how, hnw⟩ := hrel
            have Jm := Lib.hid hsum
            have Jw := Lib.hid how
            have Jn := Lib.hid hnw
            clear hsum how hnw
            by_cases hjt : j < L
            · obtain ⟨y, hy⟩ : ∃ y, q[j]? = some y := ⟨q[j]'(by rw [hqL]; exact hjt), List.getElem?_eq_getElem _⟩
              obtain ⟨s, hs⟩ : ∃ s, ts[j]? = some s := ⟨ts[j]'(by rw [Jm.out.1]; exact hjt), List.getElem?_eq_getElem _⟩
              have ho := (H.out.nw Jn.out).2.2.2.2 k x q Hx.out Hq.out
              have e1 := ho.cellAt j (by omega)
              rw [show (cellsS q)[j]? = some (.float .f32 y) from by simp [cellsS, hy]] at e1
              have e2 := Jw.out.cellAt j (by omega)
              rw [show (cellsS ts)[j]? = some (.float .f32 s) from by simp [cellsS, hs]] at e2
              have e3 := Jw.out.frozenAt j
              have hset := (own_nw Jw.out ((Nw.refl wr).draw (fdr .add .f32 s y))).stored j (.float .f32 (fres wr .add .f32 s y))
              rw [show (cellsS ts).set j (.float .f32 (fres wr .add .f32 s y)) = cellsS (ts.set j (fres wr .add .f32 s y)) from by simp [cellsS, List.map_set]] at hset
              have F := Lib.hid hset.1
              have N2 := Lib.hid ((Jn.out.draw (fdr .add .f32 s y)).set (p := ⟨g1, j, none⟩) (by show w.heap.size ≤ g1; exact hg1) (.float .f32 (fres wr .add .f32 s y)))
              have S2 := Lib.hid (Jm.out.next Hq.out hy hs wr)
              clear ho hset hy hs
              go_wp2_with fail
              go_roundw
              case rel => exact ⟨j + 1, _, by omega, by rw [show ((j + 1 : Nat) : Int) = (j : Int) + 1 from by omega], S2.out, F.out, N2.out⟩
              case measure => simp only [intOf]; omega
            · obtain rfl : j = L := by omega
              go_wp2_with fail
              go_roundw
              case rel =>
                refine ⟨k + 1, ts, _, _, _, by omega, by rw [show ((k + 1 : Nat) : Int) = (k : Int) + 1 from by omega], rfl, fun i y hi hy => ?_, Jw.out, .inr ⟨by omega, rfl, ⟨g1, rfl, rfl⟩, Jm.out.done⟩, Jn.out⟩
                by_cases hik : i < k
                · exact Hlen.out i y hik hy
                · obtain rfl : i = k := by omega
                  rw [Hq.out] at hy
                  cases hy
                  exact hqL
              case measure => simp only [intOf]; omega
        · have hne : ¬ EqL rows := fun he => hqL (by rw [he q (List.mem_of_getElem? Hq.out)]; exact HL0.out)
          have hqi : ¬ ((q.length : Int) = (L : Int)) := by omega
          go_wp2_with fail
          go_ret2
          exact mix_no hne Nc.out
    · obtain rfl : k = n := by omega
      have heq : EqL rows := eql_of hrn HL.out Hlen.out
      have hfin : ll = L ∧ SumG rows L ys := by
        rcases Or.out with ⟨hz, rfl, rfl⟩ | ⟨hz, rfl, -, hs⟩
        · have hrows : rows = [] := List.length_eq_zero_iff.1 (by omega)
          have hL : L = 0 := by rw [← HL0.out, hrows]; rfl
          rw [hL]
          exact ⟨rfl, rfl, fun j y hy => by simp at hy⟩
        · rw [List.take_of_length_le (by omega)] at hs
          exact ⟨rfl, hs⟩
      obtain ⟨rfl, hs⟩ := hfin
      have own := Ow.out
      have O1 := Lib.hid own
      have S1 := Lib.hid hs
      clear own hs
      go_wp2_with fail
      refine (specLimS_ok ys _ _ c r _ S1.out.1 hL20 (fun z hz => by obtain ⟨j, hj⟩ := List.getElem?_of_mem hz; exact (S1.out.2 j z hj).2) hr _ O1.out).mono ?_
      rintro e w2 hlim
      have hmix := limP_mix heq HL0.out S1.out Nr.out hlim
      obtain ⟨v, ts, bb, rfl, hrest⟩ := hmix
      have R := Lib.hid hrest
      clear hrest hlim
      go_wp2_with fail
      go_ret2
      exact ⟨v, ts, bb, rfl, R.out⟩

end Go.Proofs.Ytcodiiajmffdoaa
