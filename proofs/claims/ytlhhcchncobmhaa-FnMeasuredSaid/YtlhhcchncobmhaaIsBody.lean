/- The walks of the tests of modes and bodies whose parts are finite, the program's and the law's: both say what 'modeB' says.
   Conditions: those that each statement names. -/
import Derived.Test.YtlhhcchncobmhaaRingB
namespace Go.Proofs.Ytlhhcchncobmhaa
set_option linter.unusedSimpArgs false
set_option linter.unusedVariables false
open Go Go.RowKit

set_option maxHeartbeats 1600000 in
theorem isModeOf_fin (pr pi gr gi : Nat) (w : World) (S1 : Sm pr) (S2 : Sm pi) (S3 : Sm gr) (S4 : Sm gi) :
    Calls Try.prog 113 #[.complex .f64 (wid pr) (wid pi), .complex .f64 (wid gr) (wid gi)] w fun e w' => e = .returned (.bool (modeB pr pi gr gi labs)) ∧ w = w' := by
  have hB : modeB pr pi gr gi labs = (leB (sqr (wid pr) (wid pi)) 4607182418800017408 && (leB (labs (wid gr)) 4652218415073722368 && leB (labs (wid gi)) 4652218415073722368)) := by
    unfold modeB
    rw [(fin_iff' .f32 pr).2 S1, (fin_iff' .f32 pi).2 S2, (fin_iff' .f32 gr).2 S3, (fin_iff' .f32 gi).2 S4]
    rfl
  rw [hB]
  clear hB
  obtain ⟨a, b, m1, m2, m3, -, -⟩ := sqr_num S1 S2
  have f1 : ∀ w, fres w .mul .f64 (wid pr) (wid pr) = a := fun w => by unfold fres; rw [m1]
  have f2 : ∀ w, fres w .mul .f64 (wid pi) (wid pi) = b := fun w => by unfold fres; rw [m2]
  have f3 : ∀ w, fres w .add .f64 a b = sqr (wid pr) (wid pi) := fun w => by unfold fres; rw [m3]
  have d1 : fdr .mul .f64 (wid pr) (wid pr) = 0 := by unfold fdr; rw [m1]; rfl
  have d2 : fdr .mul .f64 (wid pi) (wid pi) = 0 := by unfold fdr; rw [m2]; rfl
  have d3 : fdr .add .f64 a b = 0 := by unfold fdr; rw [m3]; rfl
  rw [← leB_abs (wid_lt _) (wid_num S3).1 num_1024, ← leB_abs (wid_lt _) (wid_num S4).1 num_1024]
  have W1 := fin_wid S1
  have W2 := fin_wid S2
  have W3 := fin_wid S3
  have W4 := fin_wid S4
  clear m1 m2 m3 S1 S2 S3 S4
  cases h5 : leB (sqr (wid pr) (wid pi)) 4607182418800017408 <;> cases h6 : leB (wid gr % signBit) 4652218415073722368 <;> cases h7 : leB (wid gi % signBit) 4652218415073722368
  all_goals
    unfold leB at h5 h6 h7
    go_enter Try.func113, Try.ntmps113
    go_wp2_with (first
      | (go_at_call 98; refine (implFinite_any _ _ _ (wid_lt _) (wid_lt _)).mono ?_; rintro e w' ⟨rfl, rfl⟩)
      | (go_at_call 101; refine (abs_any _ _ (wid_lt _)).mono ?_; rintro e w' ⟨rfl, rfl⟩))
    all_goals (go_ret; exact ⟨by simp [h5, h6, h7], rfl⟩)

theorem implIsMode_fin (pr pi gr gi : Nat) (w : World) (h1 : Sm pr) (h2 : Sm pi) (h3 : Sm gr) (h4 : Sm gi) :
    Calls Try.prog 110 #[.agg #[.complex .f32 pr pi, .complex .f32 gr gi]] w (TestP (modeB pr pi gr gi labs) w) := by
  have S1 := Lib.hid h1
  have S2 := Lib.hid h2
  have S3 := Lib.hid h3
  have S4 := Lib.hid h4
  clear h1 h2 h3 h4
  go_enter Try.func110, Try.ntmps110
  go_wp2_with fail
  go_quiet (first
    | (go_at_call 79; with_reducible exact quiet_eq (implWiden_fin _ _ _ S1.out S2.out))
    | (go_at_call 79; with_reducible exact quiet_eq (implWiden_fin _ _ _ S3.out S4.out))
    | (go_at_call 113; exact quiet_eq (isModeOf_fin _ _ _ _ _ S1.out S2.out S3.out S4.out)))
  go_wp2
  go_ret
  exact ⟨rfl, ((Nw.refl _).alloc _).draw _⟩

def M4.okB (m : M4) : Bool := modeB m.pr m.pi m.gr m.gi labs
def M4.Fin (m : M4) : Prop := Sm m.pr ∧ Sm m.pi ∧ Sm m.gr ∧ Sm m.gi
theorem M4.okB_iff (m : M4) : m.okB = true ↔ m.ok := Iff.rfl
def bodyB (ms : List M4) : Bool := decide (ms.length ≤ 16) && ms.all M4.okB
theorem bodyB_iff (ms : List M4) : bodyB ms = true ↔ ms.length ≤ 16 ∧ ∀ m ∈ ms, m.ok := by
  unfold bodyB
  rw [Bool.and_eq_true, decide_eq_true_iff, List.all_eq_true]
  exact Iff.rfl
theorem bodyB_bad {ms : List M4} {m : M4} (hm : m ∈ ms) (h : m.okB = false) : bodyB ms = false := by
  cases hb : bodyB ms
  · rfl
  · have := ((bodyB_iff ms).1 hb).2 m hm
    rw [← M4.okB_iff, h] at this
    cases this
theorem bodyB_all {ms : List M4} (hl : ms.length ≤ 16) (h : ∀ k : Nat, k < ms.length → ∀ m, ms[k]? = some m → m.okB = true) : bodyB ms = true := by
  rw [bodyB_iff]
  refine ⟨hl, fun m hm => ?_⟩
  obtain ⟨k, hk⟩ := List.getElem?_of_mem hm
  exact h k (List.getElem?_eq_some_iff.1 hk).1 m hk
theorem bodyB_long {ms : List M4} (h : 16 < ms.length) : bodyB ms = false := by
  unfold bodyB
  rw [decide_eq_false (by omega)]; rfl

def TestI (ms : List M4) (n : Nat) (w : World) (i : Value) (wr : World) : Prop := ∃ k : Nat, k ≤ n ∧ i = .int .i64 (k : Int) ∧ (∀ j : Nat, j < k → ∀ m, ms[j]? = some m → m.okB = true) ∧ Nw w wr

theorem implIsBody_fin (ms : List M4) (hms : ∀ m ∈ ms, m.Fin) (n bm : Nat) (v : Value) (hn : ms.length = n) (hn64 : n ≤ 64) (w : World)
    (hm : w.ownsRow bm 61 2 v n (cellsM ms)) :
    Calls Try.prog 83 #[.agg #[v]] w (TestP (bodyB ms) w) := by
  obtain ⟨va, vc, rfl⟩ := own_shape' hm
  have Hm := Lib.hid hm
  have Hms := Lib.hid hms
  have Hn := Lib.hid hn
  have Hn0 := Lib.hid ((Nw.refl w).alloc (.cells #[.slice va n vc] 69 (0, 0)))
  clear hm hms hn
  by_cases hn16 : n ≤ 16
  · go_enter Try.func83, Try.ntmps83
    go_wp2_with fail
    go_loopw [12] (fun i wr => TestI ms n w i wr) (fun i _ => n - (intOf i).toNat)
    case atStart => exact ⟨0, by omega, rfl, fun j hj => absurd hj (by omega), Hn0.out⟩
    case round =>
      obtain ⟨k, hk, rfl, hal, hnw⟩ := hrel
      have Hnw := Lib.hid hnw
      have Hal := Lib.hid hal
      clear hnw hal
      by_cases hlt : k < n
      · obtain ⟨m, hmk⟩ : ∃ m, ms[k]? = some m := ⟨ms[k]'(by rw [Hn.out]; exact hlt), List.getElem?_eq_getElem _⟩
        have Hmr := Lib.hid (own_nw Hm.out Hnw.out)
        obtain ⟨g, cap, hv, hcap, hmax, hgs, e1, e2⟩ := own_mode Hmr.out hmk Hn.out.symm
        cases hv
        have Hmo := Lib.hid (Hms.out m (List.mem_of_getElem? hmk))
        unfold maxLen at hmax
        have Hnw4 := Lib.hid (Hnw.out.alloc (.cells #[.complex .f32 m.pr m.pi, .complex .f32 m.gr m.gi] 61 (0, 0)))
        have Hmk := Lib.hid hmk
        clear hmk
        go_wp2_with fail
        refine (implIsMode_fin _ _ _ _ _ Hmo.out.1 Hmo.out.2.1 Hmo.out.2.2.1 Hmo.out.2.2.2).mono ?_
        rintro e w5 ⟨rfl, n5⟩
        have Hnw5 := Lib.hid (Hnw4.out.trans n5)
        clear n5 e1 e2
        cases hb : modeB m.pr m.pi m.gr m.gi labs with
        | false =>
          go_wp2_with fail
          go_ret
          exact ⟨by rw [bodyB_bad (List.mem_of_getElem? Hmk.out) hb]; first | done | rfl, Hnw5.out⟩
        | true =>
          go_wp2_with fail
          go_roundw
          case rel =>
            refine ⟨k + 1, by omega, by rw [show ((k + 1 : Nat) : Int) = (k : Int) + 1 from by omega], fun j hj m' hm' => ?_, Hnw5.out⟩
            by_cases hjk : j < k
            · exact Hal.out j hjk m' hm'
            · obtain rfl : j = k := by omega
              rw [Hmk.out] at hm'
              cases hm'
              exact hb
          case measure => simp only [intOf]; omega
      · go_wp2_with fail
        go_ret
        exact ⟨by rw [bodyB_all (by rw [Hn.out]; exact hn16) (fun j hj => Hal.out j (by have := Hn.out; omega))]; first | done | rfl, Hnw.out⟩
  · go_enter Try.func83, Try.ntmps83
    go_wp2_with fail
    go_ret
    exact ⟨by rw [bodyB_long (by rw [Hn.out]; omega)]; first | done | rfl, Hn0.out⟩

end Go.Proofs.Ytlhhcchncobmhaa
