/- StrikeShape for all arguments, of the program and of the model; the marks that the exact laws set.
   Conditions: those that each statement names. -/
import Derived.Test.YtfgofmcpgfofaaaShapeS
import Derived.Test.YtfgofmcpgfofaaaMk
namespace Go.Proofs.Ytfgofmcpgfofaaa
open Go Go.RowKit

def goodZ (a b : Int) : Prop := (0 ≤ a ∧ a ≤ 2) ∧ (1 ≤ b ∧ b ≤ 64)
instance (a b : Int) : Decidable (goodZ a b) := by unfold goodZ; exact inferInstance
def shapeZ (a b : Int) : List Nat := if goodZ a b then shapeL a.toNat b.toNat else []
def okZ (a b : Int) : Bool := decide (goodZ a b)
theorem shapeZ_len (a b : Int) : (shapeZ a b).length ≤ 64 := by
  unfold shapeZ
  split
  · rename_i h; rw [shapeL_len]; have := h.2; omega
  · simp
theorem nil_v (w : World) (b : Nat) : w.ownsRow b 49 1 (.slice none 0 0) ([] : List Nat).length (cellsS []) := World.ownsRow_nil _ _ _ _
theorem bad_v {a b : Int} (h : ¬ goodZ a b) {w w' : World} (hn : Nw w w') : ShapeV (shapeZ a b) (okZ a b) w (.returned (.tuple #[.slice none 0 0, .bool false])) w' := by
  unfold shapeZ okZ
  rw [if_neg h, decide_eq_false h]
  exact ⟨_, rfl, nil_v _ _, hn⟩

set_option maxRecDepth 100000 in
theorem specStrike_any (a b : Int) (w : World) :
    Calls Try.prog 53 #[.int .i64 a, .int .i64 b] w (ShapeV (shapeZ a b) (okZ a b) w) := by
  by_cases h : goodZ a b
  · have h' := h
    obtain ⟨⟨a0, a2⟩, b1, b2⟩ := h
    obtain ⟨k, rfl⟩ := Int.eq_ofNat_of_zero_le a0
    obtain ⟨n, rfl⟩ := Int.eq_ofNat_of_zero_le (show 0 ≤ b by omega)
    unfold shapeZ okZ
    rw [if_pos h', decide_eq_true h']
    exact specStrike_ok k n (by omega) (by omega) (by omega) w
  · by_cases ha : 0 ≤ a ∧ a ≤ 2
    · have hb : ¬ (1 ≤ b ∧ b ≤ 64) := fun hb => h ⟨ha, hb⟩
      go_enter Try.func53, Try.ntmps53
      go_wp2_with (first | (go_at_call 95; refine (l1In_any _ _ _ _).mono ?_; rintro e w' ⟨rfl, rfl⟩; first | rw [decide_eq_true ha] | rw [decide_eq_false hb]))
      go_ret2
      exact bad_v h (Nw.refl _)
    · go_enter Try.func53, Try.ntmps53
      go_wp2_with (first | (go_at_call 95; refine (l1In_any _ _ _ _).mono ?_; rintro e w' ⟨rfl, rfl⟩; rw [decide_eq_false ha]))
      go_ret2
      exact bad_v h (Nw.refl _)

set_option maxRecDepth 100000 in
theorem implStrike_any (a b : Int) (w : World) :
    Calls Try.prog 46 #[.int .i64 a, .int .i64 b] w (ShapeV (shapeZ a b) (okZ a b) w) := by
  by_cases h : goodZ a b
  · have h' := h
    obtain ⟨⟨a0, a2⟩, b1, b2⟩ := h
    obtain ⟨k, rfl⟩ := Int.eq_ofNat_of_zero_le a0
    obtain ⟨n, rfl⟩ := Int.eq_ofNat_of_zero_le (show 0 ≤ b by omega)
    unfold shapeZ okZ
    rw [if_pos h', decide_eq_true h']
    refine (strikeShape_ok k n (by omega) (by omega) (by omega) w).mono ?_
    rintro e w1 ⟨g, rfl, own1, n1⟩
    exact ⟨_, rfl, by rw [show (shapeL (k : Int).toNat (n : Int).toNat).length = n from shapeL_len _ _]; exact own1, n1⟩
  · by_cases hb : 1 ≤ b ∧ b ≤ 64
    · have hb1 := hb.1
      have hb2 := hb.2
      have ha0 : ¬ a = 0 := fun e => h ⟨⟨by omega, by omega⟩, hb⟩
      have ha1 : ¬ a = 1 := fun e => h ⟨⟨by omega, by omega⟩, hb⟩
      have ha2 : ¬ a = 2 := fun e => h ⟨⟨by omega, by omega⟩, hb⟩
      obtain ⟨n, rfl⟩ := Int.eq_ofNat_of_zero_le (show 0 ≤ b by omega)
      obtain ⟨f0, hf, hfz0, hfz1, hfz2⟩ := info_parts info_f32
      go_enter Try.func46, Try.ntmps46
      go_wp2_with (first
        | (at_make; refine wpList_make_full _ rfl _ _ 47 rfl w.heap.size 49 f0 (.float .f32 0) 1 Try.underlying47 hf hfz0 hfz1 _ _ _ _ n rfl rfl rfl rfl (by rw [hfz2]; omega) (by unfold maxLen; omega) (Nat.le_refl _) ?_))
      intro w3 hown3 hgrow3
      have N3 := Lib.hid (show Nw w w3 from hgrow3)
      clear hown3 hgrow3
      go_wp2_with fail
      go_ret2
      exact bad_v h N3.out
    · have hb' : b < 1 ∨ 64 < b := by omega
      go_enter Try.func46, Try.ntmps46
      rcases hb' with hb1 | hb1
      all_goals
        go_wp2
        go_ret2
        exact bad_v h (Nw.refl _)

end Go.Proofs.Ytfgofmcpgfofaaa
