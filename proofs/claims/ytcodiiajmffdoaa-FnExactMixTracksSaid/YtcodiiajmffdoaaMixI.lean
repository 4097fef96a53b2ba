/- The walk of the program's MixTracks over rows that the law has copied.
   Conditions: those that each statement names. -/
import Derived.Test.YtcodiiajmffdoaaMix
namespace Go.Proofs.Ytcodiiajmffdoaa
open Go Go.RowKit

theorem eql_of {rows : List (List Nat)} {L n : Nat} (hn : rows.length = n) (hL : n ≠ 0 → rows[0]?.map List.length = some L) (h : ∀ (j : Nat) r, j < n → rows[j]? = some r → r.length = L) : EqL rows := by
  intro r hr
  obtain ⟨j, hj⟩ := List.getElem?_of_mem hr
  have hb := (List.getElem?_eq_some_iff.1 hj).1
  rw [h j r (by omega) hj]
  unfold len0
  rw [hL (by omega)]
  rfl
theorem len0_of {rows : List (List Nat)} {L : Nat} (h : rows[0]?.map List.length = some L) : len0 rows = L := by unfold len0; rw [h]; rfl
theorem limP_mix {rows : List (List Nat)} {zs : List Nat} {c r L : Nat} {w w1 : World} {e : Ending} {w' : World} (he : EqL rows) (hl : len0 rows = L) (hs : SumG rows L zs) (hn : Nw w w1) (h : LimP zs c r L w1 e w') : MixP rows c r w e w' := by
  obtain ⟨v, ys, h1, h2, h3, h4⟩ := h
  subst hl
  exact ⟨v, ys, lim c r, h1, own_base h2 hn.size, ⟨fun _ => ⟨zs, hs, h3, rfl⟩, fun hne => absurd he hne⟩, hn.trans h4⟩
theorem mix_no {rows : List (List Nat)} {c r : Nat} {w w' : World} (he : ¬ EqL rows) (hn : Nw w w') : MixP rows c r w (.returned (.tuple #[.slice none 0 0, .bool false])) w' :=
  ⟨.slice none 0 0, [], false, rfl, World.ownsRow_nil _ _ _ _, ⟨fun h => absurd h he, fun _ => ⟨rfl, rfl⟩⟩, hn⟩

def LensI (rows : List (List Nat)) (n L : Nat) (w : World) (i : Value) (wr : World) : Prop :=
  ∃ k : Nat, k ≤ n ∧ i = .int .i64 (k : Int) ∧ (∀ (j : Nat) r, j < k → rows[j]? = some r → r.length = L) ∧ w = wr

set_option maxRecDepth 100000 in
theorem implMix_ok (rows : List (List Nat)) (n b g c r : Nat) (gs : List Nat) (hn : n ≤ 1048576) (hr20 : ∀ x ∈ rows, x.length ≤ 1048576) (hr : r < 2 ^ 32) (w : World) (h : SRows w b g n gs rows) :
    Calls Try.prog 49 #[.slice (some ⟨g, 0, none⟩) n n, .float .f32 c, .float .f32 r] w (MixP rows c r w) := by
  have H := Lib.hid h
  have H20 := Lib.hid hr20
  have hrn := h.2.1
  clear h hr20
  by_cases h0 : n = 0
  · subst h0
    have hrows : rows = [] := List.length_eq_zero_iff.1 hrn
    have heq : EqL rows := by intro x hx; rw [hrows] at hx; simp at hx
    have hl0 : len0 rows = 0 := by rw [hrows]; rfl
    go_enter Try.func49, Try.ntmps49
    go_wp2_with fail
    go_loopw [20] (fun i wr => LensI rows 0 0 w i wr) (fun i _ => 0 - (intOf i).toNat)
    case atStart => exact ⟨0, by omega, rfl, fun j x hj => by omega, rfl⟩
    case round =>
      obtain ⟨k, hk, rfl, -, rfl⟩ := hrel
      obtain rfl : k = 0 := by omega
      go_wp2_with fail
      refine (sumTracks_ok rows 0 b g 0 gs (by omega) (by omega) (fun x hx => by rw [hrows] at hx; simp at hx) _ H.out).mono ?_
      rintro e w1 ⟨g1, ys, rfl, own1, hs, n1⟩
      have N1 := Lib.hid n1
      have O1 := Lib.hid own1
      have S1 := Lib.hid hs
      clear own1 hs n1
      go_wp2_with fail
      refine (implLimS_ok ys 0 _ c r _ S1.out.1 (by omega) (fun z hz => by obtain ⟨j, hj⟩ := List.getElem?_of_mem hz; exact (S1.out.2 j z hj).2) hr _ O1.out).mono ?_
      rintro e w2 hlim
      have hmix := limP_mix heq hl0 S1.out N1.out hlim
      obtain ⟨v, us, bb, rfl, hrest⟩ := hmix
      have R := Lib.hid hrest
      clear hrest hlim
      go_wp2_with fail
      go_ret2
      exact ⟨v, us, bb, rfl, R.out⟩
  · obtain ⟨x0, r0, hx0, hr0, e00, -⟩ := H.out.at (show 0 < n by omega)
    obtain ⟨L, hL⟩ : ∃ L, L = r0.length := ⟨_, rfl⟩
    rw [← hL] at e00
    have hL20 : L ≤ 1048576 := by rw [hL]; exact H20.out r0 (List.mem_of_getElem? hr0)
    have HL := Lib.hid (show rows[0]?.map List.length = some L from by rw [hr0, hL]; rfl)
    clear hx0 hr0 hL
    go_enter Try.func49, Try.ntmps49
    go_wp2_with fail
    go_loopw [20] (fun i wr => LensI rows n L w i wr) (fun i _ => n - (intOf i).toNat)
    case atStart => exact ⟨0, by omega, rfl, fun j x hj => by omega, rfl⟩
    case round =>
      obtain ⟨k, hk, rfl, hlen, rfl⟩ := hrel
      have Hlen := Lib.hid hlen
      clear hlen
      by_cases hlt : k < n
      · obtain ⟨x, q, hx, hq, e0, -⟩ := H.out.at hlt
        have hq20 := H20.out q (List.mem_of_getElem? hq)
        have Hq := Lib.hid hq
        clear hx hq
        by_cases hqL : q.length = L
        · go_wp2_with fail
          go_roundw
          case rel =>
            refine ⟨k + 1, by omega, by rw [show ((k + 1 : Nat) : Int) = (k : Int) + 1 from by omega], fun j y hj hy => ?_, rfl⟩
            by_cases hjk : j < k
            · exact Hlen.out j y hjk hy
            · obtain rfl : j = k := by omega
              rw [Hq.out] at hy
              cases hy
              exact hqL
          case measure => simp only [intOf]; omega
        · have hne : ¬ EqL rows := fun he => hqL (by rw [he q (List.mem_of_getElem? Hq.out)]; exact len0_of HL.out)
          have hqi : ¬ ((q.length : Int) = (L : Int)) := by omega
          go_wp2_with fail
          go_ret2
          exact mix_no hne (Nw.refl _)
      · obtain rfl : k = n := by omega
        have heq : EqL rows := eql_of hrn (fun _ => HL.out) Hlen.out
        have hall : ∀ y ∈ rows, y.length = L := fun y hy => (heq y hy).trans (len0_of HL.out)
        go_wp2_with fail
        refine (sumTracks_ok rows _ b g L gs hn hL20 hall _ H.out).mono ?_
        rintro e w1 ⟨g1, ys, rfl, own1, hs, n1⟩
        have N1 := Lib.hid n1
        have O1 := Lib.hid own1
        have S1 := Lib.hid hs
        clear own1 hs n1
        go_wp2_with fail
        refine (implLimS_ok ys L _ c r _ S1.out.1 hL20 (fun z hz => by obtain ⟨j, hj⟩ := List.getElem?_of_mem hz; exact (S1.out.2 j z hj).2) hr _ O1.out).mono ?_
        rintro e w2 hlim
        have hmix := limP_mix heq (len0_of HL.out) S1.out N1.out hlim
        obtain ⟨v, us, bb, rfl, hrest⟩ := hmix
        have R := Lib.hid hrest
        clear hrest hlim
        go_wp2_with fail
        go_ret2
        exact ⟨v, us, bb, rfl, R.out⟩

end Go.Proofs.Ytcodiiajmffdoaa
