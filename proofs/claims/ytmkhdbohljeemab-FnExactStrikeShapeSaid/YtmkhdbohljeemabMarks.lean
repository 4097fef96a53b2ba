/- StrikeShape for all arguments, of the program and of the model; the marks that the exact laws set.
   Conditions: those that each statement names. -/
import Derived.Test.YtmkhdbohljeemabShapeS
namespace Go.Proofs.Ytmkhdbohljeemab
open Go Go.RowKit

def goodZ (a b : Int) : Prop := (0 ≤ a ∧ a ≤ 2) ∧ (1 ≤ b ∧ b ≤ 64)
instance (a b : Int) : Decidable (goodZ a b) := by unfold goodZ; exact inferInstance
def shapeZ (a b : Int) : List Nat := if goodZ a b then shapeL a.toNat b.toNat else []
def okZ (a b : Int) : Bool := decide (goodZ a b)
theorem shapeZ_len (a b : Int) : (shapeZ a b).length ≤ 64 := by
  unfold shapeZ
  split
  · rename_i h; rw [shapeL_len]; have := h.2; omega
  · simp
theorem nil_v (w : World) (b : Nat) : w.ownsRow b 28 1 (.slice none 0 0) ([] : List Nat).length (cellsS []) := World.ownsRow_nil _ _ _ _
theorem bad_v {a b : Int} (h : ¬ goodZ a b) {w w' : World} (hn : Nw w w') : ShapeV (shapeZ a b) (okZ a b) w (.returned (.tuple #[.slice none 0 0, .bool false])) w' := by
  unfold shapeZ okZ
  rw [if_neg h, decide_eq_false h]
  exact ⟨_, rfl, nil_v _ _, hn⟩

set_option maxRecDepth 100000 in
theorem specStrike_any (a b : Int) (w : World) :
    Calls Try.prog 7 #[.int .i64 a, .int .i64 b] w (ShapeV (shapeZ a b) (okZ a b) w) := by
  by_cases h : goodZ a b
  · have h' := h
    obtain ⟨⟨a0, a2⟩, b1, b2⟩ := h
    obtain ⟨k, rfl⟩ := Int.eq_ofNat_of_zero_le a0
    obtain ⟨n, rfl⟩ := Int.eq_ofNat_of_zero_le (show 0 ≤ b by omega)
    unfold shapeZ okZ
    rw [if_pos h', decide_eq_true h']
    exact specStrike_ok k n (by omega) (by omega) (by omega) w
  · by_cases ha : 0 ≤ a ∧ a ≤ 2
    · have hb : ¬ (1 ≤ b ∧ b ≤ 64) := fun hb => h ⟨ha, hb⟩
      go_enter Try.func7, Try.ntmps7
      go_wp2_with (first | (go_at_call 20; refine (l1In_any _ _ _ _).mono ?_; rintro e w' ⟨rfl, rfl⟩; first | rw [decide_eq_true ha] | rw [decide_eq_false hb]))
      go_ret2
      exact bad_v h (Nw.refl _)
    · go_enter Try.func7, Try.ntmps7
      go_wp2_with (first | (go_at_call 20; refine (l1In_any _ _ _ _).mono ?_; rintro e w' ⟨rfl, rfl⟩; rw [decide_eq_false ha]))
      go_ret2
      exact bad_v h (Nw.refl _)

set_option maxRecDepth 100000 in
theorem implStrike_any (a b : Int) (w : World) :
    Calls Try.prog 8 #[.int .i64 a, .int .i64 b] w (ShapeV (shapeZ a b) (okZ a b) w) := by
  by_cases h : goodZ a b
  · have h' := h
    obtain ⟨⟨a0, a2⟩, b1, b2⟩ := h
    obtain ⟨k, rfl⟩ := Int.eq_ofNat_of_zero_le a0
    obtain ⟨n, rfl⟩ := Int.eq_ofNat_of_zero_le (show 0 ≤ b by omega)
    unfold shapeZ okZ
    rw [if_pos h', decide_eq_true h']
    refine (strikeShape_ok k n (by omega) (by omega) (by omega) w).mono ?_
    rintro e w1 ⟨g, rfl, own1, n1⟩
    exact ⟨_, rfl, by rw [show (shapeL (k : Int).toNat (n : Int).toNat).length = n from shapeL_len _ _]; exact own1, n1⟩
  · by_cases hb : 1 ≤ b ∧ b ≤ 64
    · have hb1 := hb.1
      have hb2 := hb.2
      have ha0 : ¬ a = 0 := fun e => h ⟨⟨by omega, by omega⟩, hb⟩
      have ha1 : ¬ a = 1 := fun e => h ⟨⟨by omega, by omega⟩, hb⟩
      have ha2 : ¬ a = 2 := fun e => h ⟨⟨by omega, by omega⟩, hb⟩
      obtain ⟨n, rfl⟩ := Int.eq_ofNat_of_zero_le (show 0 ≤ b by omega)
      obtain ⟨f0, hf, hfz0, hfz1, hfz2⟩ := info_parts info_f32
      go_enter Try.func8, Try.ntmps8
      go_wp2_with (first
        | (at_make; refine wpList_make_full _ rfl _ _ 22 rfl w.heap.size 28 f0 (.float .f32 0) 1 Try.underlying22 hf hfz0 hfz1 _ _ _ _ n rfl rfl rfl rfl (by rw [hfz2]; omega) (by unfold maxLen; omega) (Nat.le_refl _) ?_))
      intro w3 hown3 hgrow3
      have N3 := Lib.hid (show Nw w w3 from hgrow3)
      clear hown3 hgrow3
      go_wp2_with fail
      go_ret2
      exact bad_v h N3.out
    · have hb' : b < 1 ∨ 64 < b := by omega
      go_enter Try.func8, Try.ntmps8
      rcases hb' with hb1 | hb1
      all_goals
        go_wp2
        go_ret2
        exact bad_v h (Nw.refl _)

/-! ### marks -/
/-- the first k places are marked -/
def mkL (zs : List Nat) (k : Nat) : List Nat := (List.range k).map (fun i : Nat => floatOfInt .f32 ((i : Int) + 1)) ++ zs.drop k
theorem mk_zero (zs : List Nat) : mkL zs 0 = zs := by simp [mkL]
theorem mk_len (zs : List Nat) (k : Nat) (h : k ≤ zs.length) : (mkL zs k).length = zs.length := by simp [mkL]; omega
theorem mk_set (zs : List Nat) (k : Nat) (h : k < zs.length) : (cellsS (mkL zs k)).set k (.float .f32 (floatOfInt .f32 ((k : Int) + 1))) = cellsS (mkL zs (k + 1)) := by
  unfold mkL
  rw [List.drop_eq_getElem_cons h, List.range_succ]
  simp only [cellsS, List.map_append, List.map_cons, List.map_nil, List.append_assoc, List.singleton_append]
  rw [List.set_append_right _ _ (by simp)]
  simp
theorem mk_get (zs : List Nat) (n k : Nat) (h : k < n) : (mkL zs n)[k]? = some (floatOfInt .f32 ((k : Int) + 1)) := by
  unfold mkL
  rw [List.getElem?_append_left (by simpa using h)]
  simp [h]
theorem mk_at (zs : List Nat) (k x : Nat) (h : zs[k]? = some x) : (mkL zs k)[k]? = some x := by
  unfold mkL
  rw [List.getElem?_append_right (by simp)]
  simpa using h
def selfB (k : Nat) : Bool := FloatKind.f32.format.order (floatOfInt .f32 ((k : Int) + 1)) (floatOfInt .f32 ((k : Int) + 1)) == some .eq
theorem self_all : (List.range 64).all selfB = true := by decide +kernel
theorem self_eq (k : Nat) (h : k < 64) : (FloatKind.f32.format.order (floatOfInt .f32 ((k : Int) + 1)) (floatOfInt .f32 ((k : Int) + 1)) == some .eq) = true := (List.all_eq_true.1 self_all) k (List.mem_range.2 h)

theorem self_ne (k : Nat) (h : k < 64) : (FloatKind.f32.format.order (floatOfInt .f32 ((k : Int) + 1)) (floatOfInt .f32 ((k : Int) + 1)) != some .eq) = false := by unfold bne; rw [self_eq k h]; rfl

theorem kp_of_own {g : Nat} {c : Option Nat} {w w' : World} (e : c = some g) (h : Kp g w w') : w.grownBy w' c := by subst e; exact h
def MarkI (zs : List Nat) (n b : Nat) (v : Value) (w : World) (m i : Value) (wr : World) : Prop :=
  ∃ k : Nat, k ≤ n ∧ i = .int .i64 (k : Int) ∧ m = .int .i64 ((k : Int) + 1) ∧ wr.ownsRow b 28 1 v n (cellsS (mkL zs k)) ∧ w.grownBy wr v.ownBlock
def MarkP (zs : List Nat) (n b : Nat) (v : Value) (w : World) (e : Ending) (w' : World) : Prop :=
  e = .returned (.int .i64 ((n : Int) + 1)) ∧ w'.ownsRow b 28 1 v n (cellsS (mkL zs n)) ∧ w.grownBy w' v.ownBlock
theorem mark_ok (zs : List Nat) (n b : Nat) (v : Value) (hl : zs.length = n) (hn : n ≤ 64) (w : World) (h : w.ownsRow b 28 1 v n (cellsS zs)) :
    Calls Try.prog 10 #[v, .int .i64 1] w (MarkP zs n b v w) := by
  obtain ⟨va, vc, rfl⟩ := own_shape' h
  have H := Lib.hid h
  have Hl := Lib.hid hl
  clear h hl
  go_enter Try.func10, Try.ntmps10
  go_wp2_with fail
  go_loopw [1, 5] (fun m i wr => MarkI zs n b (.slice va n vc) w m i wr) (fun _ i _ => n - (intOf i).toNat)
  case atStart => exact ⟨0, by omega, rfl, rfl, by rw [mk_zero]; exact H.out, World.grownBy.refl _ _⟩
  case round =>
    obtain ⟨k, hk, rfl, rfl, how, hgr⟩ := hrel
    have Ow := Lib.hid how
    have Gr := Lib.hid hgr
    clear how hgr
    by_cases hlt : k < n
    · obtain ⟨x, hxk⟩ : ∃ x, zs[k]? = some x := ⟨zs[k]'(by rw [Hl.out]; exact hlt), List.getElem?_eq_getElem _⟩
      obtain ⟨g1, cap1, hv1, hcap1, hmax1, -, e1⟩ := own_sample Ow.out (mk_at zs k x hxk) (by rw [mk_len zs k (by rw [Hl.out]; exact hk)]; exact Hl.out.symm)
      cases hv1
      unfold maxLen at hmax1
      have e2 := Ow.out.frozenAt k
      have hset := Ow.out.stored k (.float .f32 (floatOfInt .f32 ((k : Int) + 1)))
      rw [mk_set zs k (by rw [Hl.out]; exact hlt)] at hset
      have F := Lib.hid hset.1
      have G2 := Lib.hid (Kp.set (c := g1) Gr.out k (.float .f32 (floatOfInt .f32 ((k : Int) + 1))))
      clear hset hxk
      go_wp2_with fail
      go_roundw
      case rel => exact ⟨k + 1, by omega, by rw [show ((k + 1 : Nat) : Int) = (k : Int) + 1 from by omega], by rw [show ((k + 1 : Nat) : Int) + 1 = (k : Int) + 1 + 1 from by omega], F.out, G2.out⟩
      case measure => simp only [intOf]; omega
    · obtain rfl : k = n := by omega
      go_wp2_with fail
      go_ret
      exact ⟨rfl, Ow.out, Gr.out⟩

def HeldI (n : Nat) (w : World) (m i : Value) (wr : World) : Prop := ∃ k : Nat, k ≤ n ∧ i = .int .i64 (k : Int) ∧ m = .int .i64 ((k : Int) + 1) ∧ Nw w wr
theorem held_ok (zs : List Nat) (n b : Nat) (v : Value) (hl : zs.length = n) (hn : n ≤ 64) (w : World) (h : w.ownsRow b 28 1 v n (cellsS (mkL zs n))) :
    Calls Try.prog 11 #[v, .int .i64 1] w fun e w' => e = .returned (.int .i64 ((n : Int) + 1)) ∧ Nw w w' := by
  obtain ⟨va, vc, rfl⟩ := own_shape' h
  have H := Lib.hid h
  have Hl := Lib.hid hl
  clear h hl
  go_enter Try.func11, Try.ntmps11
  go_wp2_with fail
  go_loopw [1, 5] (fun m i wr => HeldI n w m i wr) (fun _ i _ => n - (intOf i).toNat)
  case atStart => exact ⟨0, by omega, rfl, rfl, Nw.refl _⟩
  case round =>
    obtain ⟨k, hk, rfl, rfl, hN⟩ := hrel
    have Nr := Lib.hid hN
    clear hN
    by_cases hlt : k < n
    · obtain ⟨g1, cap1, hv1, hcap1, hmax1, -, e1⟩ := own_sample (own_nw H.out Nr.out) (mk_get zs n k hlt) (by rw [mk_len zs n (by rw [Hl.out]; exact Nat.le_refl _)]; exact Hl.out.symm)
      cases hv1
      unfold maxLen at hmax1
      have hself := self_ne k (by omega)
      go_wp2_with fail
      go_roundw
      case rel => exact ⟨k + 1, by omega, by rw [show ((k + 1 : Nat) : Int) = (k : Int) + 1 from by omega], by rw [show ((k + 1 : Nat) : Int) + 1 = (k : Int) + 1 + 1 from by omega], Nr.out⟩
      case measure => simp only [intOf]; omega
    · obtain rfl : k = n := by omega
      go_wp2_with fail
      go_ret
      exact ⟨rfl, Nr.out⟩

end Go.Proofs.Ytmkhdbohljeemab
