/- The marks that the exact laws set on a row of samples, and how they find them again.
   Conditions: those that each statement names. -/
import Derived.Test.YtfgofmcpgfofaaaFls
namespace Go.Proofs.Ytfgofmcpgfofaaa
open Go Go.RowKit

/-! ### marks -/
/-- the first k places are marked -/
def mkL (zs : List Nat) (k : Nat) : List Nat := (List.range k).map (fun i : Nat => floatOfInt .f32 ((i : Int) + 1)) ++ zs.drop k
theorem mk_zero (zs : List Nat) : mkL zs 0 = zs := by simp [mkL]
theorem mk_len (zs : List Nat) (k : Nat) (h : k ≤ zs.length) : (mkL zs k).length = zs.length := by simp [mkL]; omega
theorem mk_set (zs : List Nat) (k : Nat) (h : k < zs.length) : (cellsS (mkL zs k)).set k (.float .f32 (floatOfInt .f32 ((k : Int) + 1))) = cellsS (mkL zs (k + 1)) := by
  unfold mkL
  rw [List.drop_eq_getElem_cons h, List.range_succ]
  simp only [cellsS, List.map_append, List.map_cons, List.map_nil, List.append_assoc, List.singleton_append]
  rw [List.set_append_right _ _ (by simp)]
  simp
theorem mk_get (zs : List Nat) (n k : Nat) (h : k < n) : (mkL zs n)[k]? = some (floatOfInt .f32 ((k : Int) + 1)) := by
  unfold mkL
  rw [List.getElem?_append_left (by simpa using h)]
  simp [h]
theorem mk_at (zs : List Nat) (k x : Nat) (h : zs[k]? = some x) : (mkL zs k)[k]? = some x := by
  unfold mkL
  rw [List.getElem?_append_right (by simp)]
  simpa using h
theorem self_eq (k : Nat) : (FloatKind.f32.format.order (floatOfInt .f32 ((k : Int) + 1)) (floatOfInt .f32 ((k : Int) + 1)) == some .eq) = true := by
  rw [order_self, int_nn]; rfl

theorem self_ne (k : Nat) : (FloatKind.f32.format.order (floatOfInt .f32 ((k : Int) + 1)) (floatOfInt .f32 ((k : Int) + 1)) != some .eq) = false := by unfold bne; rw [self_eq k]; rfl

theorem kp_of_own {g : Nat} {c : Option Nat} {w w' : World} (e : c = some g) (h : Kp g w w') : w.grownBy w' c := by subst e; exact h
def MarkI (zs : List Nat) (n b : Nat) (v : Value) (w : World) (m i : Value) (wr : World) : Prop :=
  ∃ k : Nat, k ≤ n ∧ i = .int .i64 (k : Int) ∧ m = .int .i64 ((k : Int) + 1) ∧ wr.ownsRow b 49 1 v n (cellsS (mkL zs k)) ∧ w.grownBy wr v.ownBlock
def MarkP (zs : List Nat) (n b : Nat) (v : Value) (w : World) (e : Ending) (w' : World) : Prop :=
  e = .returned (.int .i64 ((n : Int) + 1)) ∧ w'.ownsRow b 49 1 v n (cellsS (mkL zs n)) ∧ w.grownBy w' v.ownBlock
theorem mark_ok (zs : List Nat) (n b : Nat) (v : Value) (hl : zs.length = n) (hn : n ≤ 1048576) (w : World) (h : w.ownsRow b 49 1 v n (cellsS zs)) :
    Calls Try.prog 55 #[v, .int .i64 1] w (MarkP zs n b v w) := by
  obtain ⟨va, vc, rfl⟩ := own_shape' h
  have H := Lib.hid h
  have Hl := Lib.hid hl
  clear h hl
  go_enter Try.func55, Try.ntmps55
  go_wp2_with fail
  go_loopw [1, 5] (fun m i wr => MarkI zs n b (.slice va n vc) w m i wr) (fun _ i _ => n - (intOf i).toNat)
  case atStart => exact ⟨0, by omega, rfl, rfl, by rw [mk_zero]; exact H.out, World.grownBy.refl _ _⟩
  case round =>
    obtain ⟨k, hk, rfl, rfl, how, hgr⟩ := hrel
    have Ow := Lib.hid how
    have Gr := Lib.hid hgr
    clear how hgr
    by_cases hlt : k < n
    · obtain ⟨x, hxk⟩ : ∃ x, zs[k]? = some x := ⟨zs[k]'(by rw [Hl.out]; exact hlt), List.getElem?_eq_getElem _⟩
      obtain ⟨g1, cap1, hv1, hcap1, hmax1, -, e1⟩ := own_sample Ow.out (mk_at zs k x hxk) (by rw [mk_len zs k (by rw [Hl.out]; exact hk)]; exact Hl.out.symm)
      cases hv1
      unfold maxLen at hmax1
      have e2 := Ow.out.frozenAt k
      have hset := Ow.out.stored k (.float .f32 (floatOfInt .f32 ((k : Int) + 1)))
      rw [mk_set zs k (by rw [Hl.out]; exact hlt)] at hset
      have F := Lib.hid hset.1
      have G2 := Lib.hid (Kp.set (c := g1) Gr.out k (.float .f32 (floatOfInt .f32 ((k : Int) + 1))))
      clear hset hxk
      go_wp2_with fail
      go_roundw
      case rel => exact ⟨k + 1, by omega, by rw [show ((k + 1 : Nat) : Int) = (k : Int) + 1 from by omega], by rw [show ((k + 1 : Nat) : Int) + 1 = (k : Int) + 1 + 1 from by omega], F.out, G2.out⟩
      case measure => simp only [intOf]; omega
    · obtain rfl : k = n := by omega
      go_wp2_with fail
      go_ret
      exact ⟨rfl, Ow.out, Gr.out⟩

def HeldI (n : Nat) (w : World) (m i : Value) (wr : World) : Prop := ∃ k : Nat, k ≤ n ∧ i = .int .i64 (k : Int) ∧ m = .int .i64 ((k : Int) + 1) ∧ Nw w wr
theorem held_ok (zs : List Nat) (n b : Nat) (v : Value) (hl : zs.length = n) (hn : n ≤ 1048576) (w : World) (h : w.ownsRow b 49 1 v n (cellsS (mkL zs n))) :
    Calls Try.prog 56 #[v, .int .i64 1] w fun e w' => e = .returned (.int .i64 ((n : Int) + 1)) ∧ Nw w w' := by
  obtain ⟨va, vc, rfl⟩ := own_shape' h
  have H := Lib.hid h
  have Hl := Lib.hid hl
  clear h hl
  go_enter Try.func56, Try.ntmps56
  go_wp2_with fail
  go_loopw [1, 5] (fun m i wr => HeldI n w m i wr) (fun _ i _ => n - (intOf i).toNat)
  case atStart => exact ⟨0, by omega, rfl, rfl, Nw.refl _⟩
  case round =>
    obtain ⟨k, hk, rfl, rfl, hN⟩ := hrel
    have Nr := Lib.hid hN
    clear hN
    by_cases hlt : k < n
    · obtain ⟨g1, cap1, hv1, hcap1, hmax1, -, e1⟩ := own_sample (own_nw H.out Nr.out) (mk_get zs n k hlt) (by rw [mk_len zs n (by rw [Hl.out]; exact Nat.le_refl _)]; exact Hl.out.symm)
      cases hv1
      unfold maxLen at hmax1
      have hself := self_ne k
      go_wp2_with fail
      go_roundw
      case rel => exact ⟨k + 1, by omega, by rw [show ((k + 1 : Nat) : Int) = (k : Int) + 1 from by omega], by rw [show ((k + 1 : Nat) : Int) + 1 = (k : Int) + 1 + 1 from by omega], Nr.out⟩
      case measure => simp only [intOf]; omega
    · obtain rfl : k = n := by omega
      go_wp2_with fail
      go_ret
      exact ⟨rfl, Nr.out⟩

end Go.Proofs.Ytfgofmcpgfofaaa
