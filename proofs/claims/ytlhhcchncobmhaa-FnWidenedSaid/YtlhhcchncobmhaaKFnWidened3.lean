/- Texts of a proof, put together: RingF, IsBody, ScoD, Has, Wid1, RingW, RingX, Tw, Inj, Mono, Dy, PairZ, Pole, Pair, FitN, FitS, NarN.
   Conditions: those that each statement names. -/
import Derived.Test.YtlhhcchncobmhaaKFnWidened2
import Derived.StillTailTactics
/- Ringing in double precision of any numbers, but for the bits of NaN: plain lists, and the walk of one step.
   Conditions: those that each statement names. -/
namespace Go.Proofs.Ytlhhcchncobmhaa
set_option linter.unusedSimpArgs false
set_option linter.unusedVariables false
open Go Go.RowKit

/-! ### lists that are half done -/
def mixL {α : Type} (new old : List α) (j : Nat) : List α := new.take j ++ old.drop j
section
variable {α : Type} {new old : List α} {j : Nat}
theorem mixL_zero (new old : List α) : mixL new old 0 = old := by simp [mixL]
theorem mixL_full (new old : List α) (h : new.length = old.length) : mixL new old old.length = new := by
  unfold mixL; rw [List.take_of_length_le (by omega), List.drop_length, List.append_nil]
theorem mixL_len (h : new.length = old.length) : (mixL new old j).length = old.length := by simp [mixL]; omega
theorem mixL_at (h : new.length = old.length) {s : α} (hs : old[j]? = some s) : (mixL new old j)[j]? = some s := by
  have hk := (List.getElem?_eq_some_iff.1 hs).1
  have hlen : (new.take j).length = j := by simp; omega
  unfold mixL
  rw [List.getElem?_append_right (by omega), hlen, Nat.sub_self, List.getElem?_drop, Nat.add_zero, hs]
theorem mixL_set (h : new.length = old.length) {t : α} (ht : new[j]? = some t) : (mixL new old j).set j t = mixL new old (j + 1) := by
  obtain ⟨hk, he⟩ := List.getElem?_eq_some_iff.1 ht
  unfold mixL
  rw [List.take_succ_eq_append_getElem hk, he, List.drop_eq_getElem_cons (by omega)]
  rw [List.set_append_right _ _ (by simp; omega), show j - (new.take j).length = 0 by simp; omega, List.set_cons_zero, List.append_assoc, List.singleton_append]
theorem mixL_after (h : new.length = old.length) {t : α} (ht : new[j]? = some t) : (mixL new old (j + 1))[j]? = some t := by
  obtain ⟨hk, he⟩ := List.getElem?_eq_some_iff.1 ht
  rw [← mixL_set h ht, List.getElem?_set_self]
  rw [mixL_len h]; omega
end

/-! ### ringing, plain -/
def stepF (m : FC × FC) (s : FC) (x : Option Nat) : FC := addC (mulC s m.1) (fA .mul .f64 m.2.1 x, fA .mul .f64 m.2.2 x)
def stepsF (ms : List (FC × FC)) (ss : List FC) (x : Option Nat) : List FC := List.zipWith (fun m s => stepF m s x) ms ss
def stF (ms : List (FC × FC)) (x : Nat → Option Nat) : Nat → List FC
  | 0 => ms.map fun _ => (some 0, some 0)
  | i + 1 => stepsF ms (stF ms x i) (x i)
theorem stF_len (ms : List (FC × FC)) (x : Nat → Option Nat) : ∀ i, (stF ms x i).length = ms.length
  | 0 => by simp [stF]
  | i + 1 => by simp [stF, stepsF, stF_len ms x i]
theorem stepsF_len (ms : List (FC × FC)) (x : Nat → Option Nat) (i : Nat) (y : Option Nat) : (stepsF ms (stF ms x i) y).length = (stF ms x i).length := by simp [stepsF, stF_len]
theorem stepsF_at {ms : List (FC × FC)} {ss : List FC} {x : Option Nat} {k : Nat} {m : FC × FC} {s : FC} (hm : ms[k]? = some m) (hs : ss[k]? = some s) : (stepsF ms ss x)[k]? = some (stepF m s x) := by
  unfold stepsF; rw [List.getElem?_zipWith, hm, hs]
def outF (ss : List FC) : Option Nat := ss.foldl (fun y s => fA .add .f64 y s.1) (some 0)
theorem outF_take (ss : List FC) (k : Nat) (s : FC) (h : ss[k]? = some s) : outF (ss.take (k + 1)) = fA .add .f64 (outF (ss.take k)) s.1 := by
  obtain ⟨hk, he⟩ := List.getElem?_eq_some_iff.1 h
  rw [List.take_succ_eq_append_getElem hk, he]
  simp [outF, List.foldl_append]
def ringF (ms : List (FC × FC)) (x : Nat → Option Nat) (n : Nat) : List (Option Nat) := (List.range n).map fun i => outF (stF ms x (i + 1))
/-- the outputs when k steps are done, and the next one is y so far -/
def outsF (ms : List (FC × FC)) (x : Nat → Option Nat) (n k : Nat) (y : Option Nat) : List (Option Nat) := ((ringF ms x n).take k ++ List.replicate (n - k) (some 0)).set k y
section
variable (ms : List (FC × FC)) (x : Nat → Option Nat) (n k : Nat)
theorem outsF_zero : outsF ms x n 0 (some 0) = List.replicate n (some 0) := by
  unfold outsF
  cases n <;> simp [List.replicate_succ]
theorem outsF_len (y : Option Nat) (h : k ≤ n) : (outsF ms x n k y).length = n := by simp [outsF, ringF]; omega
theorem outsF_at (y : Option Nat) (h : k < n) : (outsF ms x n k y)[k]? = some y := by
  unfold outsF
  rw [List.getElem?_set_self (by simp [ringF]; omega)]
theorem outsF_set (y z : Option Nat) : (outsF ms x n k y).set k z = outsF ms x n k z := by
  unfold outsF
  rw [List.set_set]
theorem outsF_next (h : k < n) : outsF ms x n k (outF (stF ms x (k + 1))) = outsF ms x n (k + 1) (some 0) := by
  have hk : k < (ringF ms x n).length := by simpa [ringF] using h
  have hv : (ringF ms x n)[k] = outF (stF ms x (k + 1)) := by simp [ringF]
  unfold outsF
  rw [List.take_succ_eq_append_getElem hk, hv, show n - k = (n - (k + 1)) + 1 from by omega, List.replicate_succ]
  rw [List.set_append_right _ _ (by simp [ringF]; omega)]
  have e : k - ((ringF ms x n).take k).length = 0 := by simp [ringF]; omega
  rw [e, List.set_cons_zero, List.append_assoc, List.singleton_append]
  rw [List.set_append_right _ _ (by simp [ringF]; omega)]
  have e2 : k + 1 - ((ringF ms x n).take k).length = 1 := by simp [ringF]; omega
  rw [e2, List.set_cons_succ]
  congr 2
  cases hq : n - (k + 1) <;> simp [List.replicate_succ]
theorem outsF_full : outsF ms x n n (some 0) = ringF ms x n := by
  unfold outsF; rw [List.take_of_length_le (by simp [ringF]), Nat.sub_self, List.replicate_zero, List.append_nil, List.set_eq_of_length_le (by simp [ringF])]
end
theorem fab_zero : fab .f64 0 = some 0 := by decide
theorem fabC_zero : fabC (0, 0) = (some 0, some 0) := by unfold fabC; rw [fab_zero]
theorem map_at {α β : Type} {f : α → β} {l : List α} {r : List β} (h : l.map f = r) {k : Nat} {b : β} (hb : r[k]? = some b) : ∃ a, l[k]? = some a ∧ f a = b := by
  rw [← h, List.getElem?_map] at hb
  cases ha : l[k]? with
  | none => rw [ha] at hb; cases hb
  | some a => rw [ha] at hb; simp at hb; exact ⟨a, rfl, hb⟩

/-! ### one step -/
theorem implScaleD_any (x y k : Nat) (w : World) :
    Calls Try.prog 114 #[.complex .f64 x y, .float .f64 k] w fun e w' => ∃ p q n, e = .returned (.complex .f64 p q) ∧ fabC (p, q) = (fA .mul .f64 (fab .f64 x) (fab .f64 k), fA .mul .f64 (fab .f64 y) (fab .f64 k)) ∧ w' = w.drewN n := by
  go_enter Try.func114, Try.ntmps114
  go_wp2
  all_goals (go_ret; exact ⟨_, _, _, rfl, by unfold fabC; simp only [fab_fres], rfl⟩)
set_option maxHeartbeats 1600000 in
theorem stepDouble_any (p g s : Nat × Nat) (x : Nat) (w : World) :
    Calls Try.prog 87 #[.complex .f64 p.1 p.2, .complex .f64 g.1 g.2, .complex .f64 s.1 s.2, .float .f64 x] w fun e w' => ∃ a b n, e = .returned (.complex .f64 a b) ∧ fabC (a, b) = stepF (fabC p, fabC g) (fabC s) (fab .f64 x) ∧ w' = w.drewN n := by
  go_enter Try.func87, Try.ntmps87
  go_wp2_with fail
  refine (implMul_any _ _ _ _ _).mono ?_
  rintro e w1 ⟨a, b, n1, rfl, rfl, h1, h2, -, -⟩
  go_wp2_with fail
  refine (implScaleD_any _ _ _ _).mono ?_
  rintro e w2 ⟨c, d, n2, rfl, h3, rfl⟩
  have H := Lib.hid (And.intro h1 (And.intro h2 h3))
  clear h1 h2 h3
  go_wp2_with fail
  go_ret
  refine ⟨_, _, _, rfl, ?_, rfl⟩
  obtain ⟨h1, h2, h3⟩ := H.out
  have h3' : fab .f64 c = fA .mul .f64 (fab .f64 g.1) (fab .f64 x) ∧ fab .f64 d = fA .mul .f64 (fab .f64 g.2) (fab .f64 x) := by
    unfold fabC at h3
    exact ⟨congrArg Prod.fst h3, congrArg Prod.snd h3⟩
  unfold stepF addC mulC fabC
  simp only [fab_fres]
  rw [h1, h2, h3'.1, h3'.2]

def in64 (xs : List Nat) (i : Nat) : Nat := xs.getD i 0
theorem sampleAt64_any (xs : List Nat) (n bi i : Nat) (v : Value) (hn : xs.length = n) (hi : i ≤ 1048576) (hn2 : n ≤ 1048576) (w : World) (h : w.ownsRow bi 49 1 v n (cellsF xs)) :
    Calls Try.prog 86 #[v, .int .i64 (i : Int)] w fun e w' => e = .returned (.float .f64 (in64 xs i)) ∧ w = w' := by
  obtain ⟨va, vc, rfl⟩ := own_shape' h
  by_cases hlt : i < n
  · obtain ⟨x, hx⟩ : ∃ x, xs[i]? = some x := ⟨xs[i]'(by omega), List.getElem?_eq_getElem _⟩
    obtain ⟨g, cap, hv, hcap, hmax, hgs, e1⟩ := own_f64 h hx hn.symm
    cases hv
    have Hx := Lib.hid (show in64 xs i = x from by unfold in64; rw [List.getD_eq_getElem?_getD, hx]; rfl)
    unfold maxLen at hmax
    clear h hx hn
    go_enter Try.func86, Try.ntmps86
    go_wp2
    go_ret
    exact ⟨by rw [Hx.out]; rfl, rfl⟩
  · have Hx := Lib.hid (show in64 xs i = 0 from by unfold in64; rw [List.getD_eq_getElem?_getD, List.getElem?_eq_none (by omega)]; rfl)
    clear h hn
    go_enter Try.func86, Try.ntmps86
    go_wp2
    go_ret
    exact ⟨by rw [Hx.out]; rfl, rfl⟩

end Go.Proofs.Ytlhhcchncobmhaa

/- The walks of the tests of modes and bodies whose parts are finite, the program's and the law's: both say what 'modeB' says.
   Conditions: those that each statement names. -/
namespace Go.Proofs.Ytlhhcchncobmhaa
set_option linter.unusedSimpArgs false
set_option linter.unusedVariables false
open Go Go.RowKit

set_option maxHeartbeats 1600000 in
theorem isModeOf_fin (pr pi gr gi : Nat) (w : World) (S1 : Sm pr) (S2 : Sm pi) (S3 : Sm gr) (S4 : Sm gi) :
    Calls Try.prog 113 #[.complex .f64 (wid pr) (wid pi), .complex .f64 (wid gr) (wid gi)] w fun e w' => e = .returned (.bool (modeB pr pi gr gi labs)) ∧ w = w' := by
  have hB : modeB pr pi gr gi labs = (leB (sqr (wid pr) (wid pi)) 4607182418800017408 && (leB (labs (wid gr)) 4652218415073722368 && leB (labs (wid gi)) 4652218415073722368)) := by
    unfold modeB
    rw [(fin_iff' .f32 pr).2 S1, (fin_iff' .f32 pi).2 S2, (fin_iff' .f32 gr).2 S3, (fin_iff' .f32 gi).2 S4]
    rfl
  rw [hB]
  clear hB
  obtain ⟨a, b, m1, m2, m3, -, -⟩ := sqr_num S1 S2
  have f1 : ∀ w, fres w .mul .f64 (wid pr) (wid pr) = a := fun w => by unfold fres; rw [m1]
  have f2 : ∀ w, fres w .mul .f64 (wid pi) (wid pi) = b := fun w => by unfold fres; rw [m2]
  have f3 : ∀ w, fres w .add .f64 a b = sqr (wid pr) (wid pi) := fun w => by unfold fres; rw [m3]
  have d1 : fdr .mul .f64 (wid pr) (wid pr) = 0 := by unfold fdr; rw [m1]; rfl
  have d2 : fdr .mul .f64 (wid pi) (wid pi) = 0 := by unfold fdr; rw [m2]; rfl
  have d3 : fdr .add .f64 a b = 0 := by unfold fdr; rw [m3]; rfl
  rw [← leB_abs (wid_lt _) (wid_num S3).1 num_1024, ← leB_abs (wid_lt _) (wid_num S4).1 num_1024]
  have W1 := fin_wid S1
  have W2 := fin_wid S2
  have W3 := fin_wid S3
  have W4 := fin_wid S4
  clear m1 m2 m3 S1 S2 S3 S4
  cases h5 : leB (sqr (wid pr) (wid pi)) 4607182418800017408 <;> cases h6 : leB (wid gr % signBit) 4652218415073722368 <;> cases h7 : leB (wid gi % signBit) 4652218415073722368
  all_goals
    unfold leB at h5 h6 h7
    go_enter Try.func113, Try.ntmps113
    go_wp2_with (first
      | (go_at_call 98; refine (implFinite_any _ _ _ (wid_lt _) (wid_lt _)).mono ?_; rintro e w' ⟨rfl, rfl⟩)
      | (go_at_call 101; refine (abs_any _ _ (wid_lt _)).mono ?_; rintro e w' ⟨rfl, rfl⟩))
    all_goals (go_ret; exact ⟨by simp [h5, h6, h7], rfl⟩)

theorem implIsMode_fin (pr pi gr gi : Nat) (w : World) (h1 : Sm pr) (h2 : Sm pi) (h3 : Sm gr) (h4 : Sm gi) :
    Calls Try.prog 110 #[.agg #[.complex .f32 pr pi, .complex .f32 gr gi]] w (TestP (modeB pr pi gr gi labs) w) := by
  have S1 := Lib.hid h1
  have S2 := Lib.hid h2
  have S3 := Lib.hid h3
  have S4 := Lib.hid h4
  clear h1 h2 h3 h4
  go_enter Try.func110, Try.ntmps110
  go_wp2_with fail
  go_quiet (first
    | (go_at_call 79; with_reducible exact quiet_eq (implWiden_fin _ _ _ S1.out S2.out))
    | (go_at_call 79; with_reducible exact quiet_eq (implWiden_fin _ _ _ S3.out S4.out))
    | (go_at_call 113; exact quiet_eq (isModeOf_fin _ _ _ _ _ S1.out S2.out S3.out S4.out)))
  go_wp2
  go_ret
  exact ⟨rfl, ((Nw.refl _).alloc _).draw _⟩

def M4.okB (m : M4) : Bool := modeB m.pr m.pi m.gr m.gi labs
def M4.Fin (m : M4) : Prop := Sm m.pr ∧ Sm m.pi ∧ Sm m.gr ∧ Sm m.gi
theorem M4.okB_iff (m : M4) : m.okB = true ↔ m.ok := Iff.rfl
def bodyB (ms : List M4) : Bool := decide (ms.length ≤ 16) && ms.all M4.okB
theorem bodyB_iff (ms : List M4) : bodyB ms = true ↔ ms.length ≤ 16 ∧ ∀ m ∈ ms, m.ok := by
  unfold bodyB
  rw [Bool.and_eq_true, decide_eq_true_iff, List.all_eq_true]
  exact Iff.rfl
theorem bodyB_bad {ms : List M4} {m : M4} (hm : m ∈ ms) (h : m.okB = false) : bodyB ms = false := by
  cases hb : bodyB ms
  · rfl
  · have := ((bodyB_iff ms).1 hb).2 m hm
    rw [← M4.okB_iff, h] at this
    cases this
theorem bodyB_all {ms : List M4} (hl : ms.length ≤ 16) (h : ∀ k : Nat, k < ms.length → ∀ m, ms[k]? = some m → m.okB = true) : bodyB ms = true := by
  rw [bodyB_iff]
  refine ⟨hl, fun m hm => ?_⟩
  obtain ⟨k, hk⟩ := List.getElem?_of_mem hm
  exact h k (List.getElem?_eq_some_iff.1 hk).1 m hk
theorem bodyB_long {ms : List M4} (h : 16 < ms.length) : bodyB ms = false := by
  unfold bodyB
  rw [decide_eq_false (by omega)]; rfl

def TestI (ms : List M4) (n : Nat) (w : World) (i : Value) (wr : World) : Prop := ∃ k : Nat, k ≤ n ∧ i = .int .i64 (k : Int) ∧ (∀ j : Nat, j < k → ∀ m, ms[j]? = some m → m.okB = true) ∧ Nw w wr

theorem implIsBody_fin (ms : List M4) (hms : ∀ m ∈ ms, m.Fin) (n bm : Nat) (v : Value) (hn : ms.length = n) (hn64 : n ≤ 64) (w : World)
    (hm : w.ownsRow bm 61 2 v n (cellsM ms)) :
    Calls Try.prog 83 #[.agg #[v]] w (TestP (bodyB ms) w) := by
  obtain ⟨va, vc, rfl⟩ := own_shape' hm
  have Hm := Lib.hid hm
  have Hms := Lib.hid hms
  have Hn := Lib.hid hn
  have Hn0 := Lib.hid ((Nw.refl w).alloc (.cells #[.slice va n vc] 69 (0, 0)))
  clear hm hms hn
  by_cases hn16 : n ≤ 16
  · go_enter Try.func83, Try.ntmps83
    go_wp2_with fail
    go_loopw [12] (fun i wr => TestI ms n w i wr) (fun i _ => n - (intOf i).toNat)
    case atStart => exact ⟨0, by omega, rfl, fun j hj => absurd hj (by omega), Hn0.out⟩
    case round =>
      obtain ⟨k, hk, rfl, hal, hnw⟩ := hrel
      have Hnw := Lib.hid hnw
      have Hal := Lib.hid hal
      clear hnw hal
      by_cases hlt : k < n
      · obtain ⟨m, hmk⟩ : ∃ m, ms[k]? = some m := ⟨ms[k]'(by rw [Hn.out]; exact hlt), List.getElem?_eq_getElem _⟩
        have Hmr := Lib.hid (own_nw Hm.out Hnw.out)
        obtain ⟨g, cap, hv, hcap, hmax, hgs, e1, e2⟩ := own_mode Hmr.out hmk Hn.out.symm
        cases hv
        have Hmo := Lib.hid (Hms.out m (List.mem_of_getElem? hmk))
        unfold maxLen at hmax
        have Hnw4 := Lib.hid (Hnw.out.alloc (.cells #[.complex .f32 m.pr m.pi, .complex .f32 m.gr m.gi] 61 (0, 0)))
        have Hmk := Lib.hid hmk
        clear hmk
        go_wp2_with fail
        refine (implIsMode_fin _ _ _ _ _ Hmo.out.1 Hmo.out.2.1 Hmo.out.2.2.1 Hmo.out.2.2.2).mono ?_
        rintro e w5 ⟨rfl, n5⟩
        have Hnw5 := Lib.hid (Hnw4.out.trans n5)
        clear n5 e1 e2
        cases hb : modeB m.pr m.pi m.gr m.gi labs with
        | false =>
          go_wp2_with fail
          go_ret
          exact ⟨by rw [bodyB_bad (List.mem_of_getElem? Hmk.out) hb]; first | done | rfl, Hnw5.out⟩
        | true =>
          go_wp2_with fail
          go_roundw
          case rel =>
            refine ⟨k + 1, by omega, by rw [show ((k + 1 : Nat) : Int) = (k : Int) + 1 from by omega], fun j hj m' hm' => ?_, Hnw5.out⟩
            by_cases hjk : j < k
            · exact Hal.out j hjk m' hm'
            · obtain rfl : j = k := by omega
              rw [Hmk.out] at hm'
              cases hm'
              exact hb
          case measure => simp only [intOf]; omega
      · go_wp2_with fail
        go_ret
        exact ⟨by rw [bodyB_all (by rw [Hn.out]; exact hn16) (fun j hj => Hal.out j (by have := Hn.out; omega))]; first | done | rfl, Hnw.out⟩
  · go_enter Try.func83, Try.ntmps83
    go_wp2_with fail
    go_ret
    exact ⟨by rw [bodyB_long (by rw [Hn.out]; omega)]; first | done | rfl, Hn0.out⟩

end Go.Proofs.Ytlhhcchncobmhaa

/- What draws scores, first part: a number out of a list; a number of moderate size.
   Conditions: those that each statement names. -/
namespace Go.Proofs.Ytlhhcchncobmhaa
set_option linter.unusedSimpArgs false
set_option linter.unusedVariables false
open Go Go.RowKit

/-- the integers zs lie in block g from its head on -/
def IntsL (w : World) (g : Nat) (zs : List Int) : Prop := ∀ (k : Nat) z, zs[k]? = some z → w.cell? ⟨g, k, none⟩ = some (.int .i64 z)
def InP (B : Nat) (w0 : World) (a : Option Addr) (len cap c : Nat) (zs : List Int) (e : Ending) (w' : World) : Prop :=
  ∃ x : Int, x ∈ zs ∧ e = .returned (.int .i64 x) ∧ At B w0 a len cap c w'
theorem l01Int_in (B : Nat) (w0 : World) (a : Option Addr) (len cap c : Nat) (g n m : Nat) (zs : List Int) (hz : zs.length = n) (hn : 1 ≤ n) (hn2 : n ≤ 256) (w : World) (hc : At B w0 a len cap c w) (hg : g < w.heap.size) (hgc : g ≠ c) (hi : IntsL w g zs) :
    Calls Try.prog 105 #[.pointer (some ⟨c, 0, none⟩), .slice (some ⟨g, 0, none⟩) n m] w (InP B w0 a len cap c zs) := by
  have Hi := Lib.hid hi
  clear hi
  have Hc := Lib.hid hc
  clear hc
  have Hz := Lib.hid hz
  clear hz
  go_enter Try.func105, Try.ntmps105
  go_wp2_with fail
  refine (below_at _ _ _ _ _ _ _ (by omega) (by omega) _ Hc.out.here).mono ?_
  rintro e w1 ⟨x, x0, x1, rfl, hc1⟩
  obtain ⟨k, rfl⟩ : ∃ k : Nat, x = k := ⟨x.toNat, by omega⟩
  obtain ⟨z, hzk⟩ : ∃ z, zs[k]? = some z := ⟨zs[k]'(by rw [Hz.out]; omega), List.getElem?_eq_getElem _⟩
  have hz := Hi.out k z hzk
  have hmem := Lib.hid (List.mem_of_getElem? hzk)
  have hz1 : w1.cell? ⟨g, k, none⟩ = some (.int .i64 z) := by rw [hc1.2.cell (p := ⟨g, k, none⟩) hg hgc]; exact hz
  have hkn : k < n := by omega
  have Hc1 := Lib.hid (show At B w0 a len cap c w1 from ⟨hc1.1, Hc.out.2.trans hc1.2⟩)
  clear hc1 hz hzk
  go_wp2
  go_ret
  exact ⟨_, hmem.out, rfl, Hc1.out⟩

/-! ### a number of moderate size -/
theorem nm_16 : Flo.Nm 4625196817309499392 ∧ Flo.W 4625196817309499392 = 16 := by
  have h := Flo.int_double 16 (by decide)
  rw [show floatOfInt .f64 16 = 4625196817309499392 from by decide +kernel] at h
  exact ⟨h.1, by rw [h.2]; rfl⟩
theorem nm_mega : Flo.Nm 4697254411347427328 ∧ Flo.W 4697254411347427328 = 1048576 := by
  have h := Flo.int_double 1048576 (by decide)
  rw [show floatOfInt .f64 1048576 = 4697254411347427328 from by decide +kernel] at h
  exact ⟨h.1, by rw [h.2]; rfl⟩
theorem nm_three : Flo.Nm 4613937818241073152 ∧ Flo.W 4613937818241073152 = 3 := by
  have h := Flo.int_double 3 (by decide)
  rw [show floatOfInt .f64 3 = 4613937818241073152 from by decide +kernel] at h
  exact ⟨h.1, by rw [h.2]; rfl⟩
/-- an integer of at most a million, divided by a number that is no less than 1 -/
theorem int_quo (z : Int) (hz : z.natAbs ≤ 1000000) (y : Nat) (hy : Flo.Nm y) (h1 : 1 ≤ Flo.W y) :
    ∃ r, floatBits .quo .f64 (floatOfInt .f64 z) y = some r ∧ Flo.Nm r ∧ Flo.Ab (Flo.W r) 1000005 := by
  obtain ⟨n1, n2⟩ := Flo.int_double z (by omega)
  have hzr : Flo.Ab (z : Rat) 1000000 := by
    have a1 : z ≤ 1000000 := by omega
    have a2 : -1000000 ≤ z := by omega
    have b1 : (z : Rat) ≤ ((1000000 : Int) : Rat) := Rat.intCast_le_intCast.2 a1
    have b2 : ((-1000000 : Int) : Rat) ≤ (z : Rat) := Rat.intCast_le_intCast.2 a2
    have c1 : ((1000000 : Int) : Rat) = 1000000 := rfl
    have c2 : ((-1000000 : Int) : Rat) = -1000000 := rfl
    exact ⟨by grind, by grind⟩
  have hy0 : Flo.W y ≠ 0 := by grind
  have hq : (Flo.W (floatOfInt .f64 z) / Flo.W y) * Flo.W y = Flo.W (floatOfInt .f64 z) := Rat.div_mul_cancel hy0
  have hb : Flo.Ab (Flo.W (floatOfInt .f64 z) / Flo.W y) 1000000 := by
    refine Flo.Ab.div (y := Flo.W y) (D := 1) ?_ (by grind) h1
    rw [hq, n2]
    simpa using hzr
  have hp : (1000000 : Rat) < Flo.pw 1022 := by
    have h := Flo.pw_nat 20
    have hm : Flo.pw 20 ≤ Flo.pw 1022 := Flo.pw_le (by omega)
    rw [show ((20 : Nat) : Int) = 20 from rfl] at h
    rw [h] at hm
    have e : ((2 ^ 20 : Nat) : Rat) = 1048576 := rfl
    grind
  obtain ⟨r, h1, h2, h3⟩ := Flo.d_div _ y n1 hy hy0 _ 1000000 hq hb hp
  refine ⟨r, h1, h2, ?_⟩
  have hu := Flo.u_le
  have ht : Flo.et ≤ Flo.u := Flo.pw_le (by omega)
  unfold Flo.Ab at hb h3 ⊢
  grind

/-- a number of double precision that is not great -/
def Mo (b : Nat) : Prop := Flo.Nm b ∧ Flo.Ab (Flo.W b) 1000005
theorem mo_quo (z : Int) (hz : z.natAbs ≤ 1000000) (y : Nat) (hy : Flo.Nm y) (h1 : 1 ≤ Flo.W y) (w : World) : Mo (fres w .quo .f64 (floatOfInt .f64 z) y) := by
  obtain ⟨r, h2, h3, h4⟩ := int_quo z hz y hy h1
  unfold fres
  rw [h2]
  exact ⟨h3, h4⟩
theorem mo_int (z : Int) (hz : z.natAbs ≤ 1000000) : Mo (floatOfInt .f64 z) := by
  obtain ⟨n1, n2⟩ := Flo.int_double z (by omega)
  refine ⟨n1, ?_⟩
  rw [n2]
  have b1 : (z : Rat) ≤ ((1000000 : Int) : Rat) := Rat.intCast_le_intCast.2 (by omega)
  have b2 : ((-1000000 : Int) : Rat) ≤ (z : Rat) := Rat.intCast_le_intCast.2 (by omega)
  have c1 : ((1000000 : Int) : Rat) = 1000000 := rfl
  have c2 : ((-1000000 : Int) : Rat) = -1000000 := rfl
  exact ⟨by grind, by grind⟩
def MoP (B : Nat) (w0 : World) (a : Option Addr) (len cap c : Nat) (e : Ending) (w' : World) : Prop :=
  ∃ b : Nat, e = .returned (.float .f64 b) ∧ Mo b ∧ At B w0 a len cap c w'
theorem l1Some_mo (B : Nat) (w0 : World) (a : Option Addr) (len cap c : Nat) (w : World) (hc : At B w0 a len cap c w) :
    Calls Try.prog 112 #[.pointer (some ⟨c, 0, none⟩)] w (MoP B w0 a len cap c) := by
  go_enter Try.func112, Try.ntmps112
  go_wp2_with (go_at_call 51; refine (below_at _ _ _ _ _ _ _ (by omega) (by omega) _ (by assumption)).mono ?_; rintro e w1 ⟨x, x0, x1, rfl, hc1⟩)
  all_goals
    go_ret
    first
      | exact ⟨_, rfl, mo_int _ (by omega), by assumption⟩
      | exact ⟨_, rfl, mo_quo _ (by omega) _ nm_16.1 (by rw [nm_16.2]; decide) _, At.draw (by assumption) _⟩
      | exact ⟨_, rfl, mo_quo _ (by omega) _ nm_mega.1 (by rw [nm_mega.2]; decide) _, At.draw (by assumption) _⟩
      | exact ⟨_, rfl, mo_quo _ (by omega) _ nm_three.1 (by rw [nm_three.2]; decide) _, At.draw (by assumption) _⟩

/-! ### boxes of any number of cells -/
def HasC (w : World) (b : Nat) (cs : List Value) : Prop :=
  b < w.heap.size ∧ ∀ (k : Nat) v, cs[k]? = some v → w.cell? ⟨b, k, none⟩ = some v ∧ w.frozen? ⟨b, k, none⟩ = false
theorem HasC.of {w w' : World} {b : Nat} {cs : List Value} (h : HasC w b cs) (hs : w.heap.size ≤ w'.heap.size) (hb : w'.heap[b]? = w.heap[b]?) : HasC w' b cs :=
  ⟨Nat.lt_of_lt_of_le h.1 hs, fun k v hk => by rw [World.cell?_of_block (w := w) (a := ⟨b, k, none⟩) hb, World.frozen?_of_block (w := w) (a := ⟨b, k, none⟩) hb]; exact h.2 k v hk⟩
theorem HasC.kp {c : Nat} {w w' : World} {b : Nat} {cs : List Value} (h : HasC w b cs) (hk : Kp c w w') (hne : b ≠ c) : HasC w' b cs := h.of hk.size (hk.block b h.1 (fun e => hne (by cases e; rfl)))
theorem HasC.nw {w w' : World} {b : Nat} {cs : List Value} (h : HasC w b cs) (hk : Nw w w') : HasC w' b cs := h.of hk.size (hk.block b h.1 (by simp))
theorem HasC.alloc {w : World} {b : Nat} {cs : List Value} (h : HasC w b cs) (o : Obj) : HasC (w.alloc o) b cs := h.nw ((Nw.refl _).alloc _)
theorem HasC.draw {w : World} {b : Nat} {cs : List Value} (h : HasC w b cs) (n : Nat) : HasC (w.drewN n) b cs := h.nw ((Nw.refl _).draw _)

theorem HasC.set {w : World} {b : Nat} {cs : List Value} (h : HasC w b cs) (j : Nat) (u : Value) : HasC (w.setCell ⟨b, j, none⟩ u) b (cs.set j u) := by
  refine ⟨by simpa [World.setCell] using h.1, fun k v hk => ?_⟩
  by_cases hj : j = k
  · subst hj
    have hl := (List.getElem?_eq_some_iff.1 hk).1
    simp at hl
    rw [List.getElem?_set_self hl] at hk
    cases hk
    obtain ⟨h1, h2⟩ := h.2 j cs[j] (List.getElem?_eq_getElem hl)
    constructor <;> go_simp
  · rw [List.getElem?_set_ne hj] at hk
    obtain ⟨h1, h2⟩ := h.2 k v hk
    have hk' : k ≠ j := fun e => hj e.symm
    constructor <;> go_simp
theorem HasC.sete {w : World} {b : Nat} {cs : List Value} (h : HasC w b cs) {p : Addr} (hp : p.block ≠ b) (u : Value) : HasC (w.setCell p u) b cs :=
  h.of (by simp [World.setCell]) (Below.heap_setCell _ _ _ _ (fun e => hp e.symm))

end Go.Proofs.Ytlhhcchncobmhaa

/- Boxes of two cells.
   Conditions: none. -/
namespace Go.Proofs.Ytlhhcchncobmhaa
set_option linter.unusedSimpArgs false
set_option linter.unusedVariables false
open Go Go.RowKit

theorem new2 (w : World) (T : TypeId) (v0 v1 : Value) : HasC (w.alloc (.cells #[v0, v1] T (0, 0))) w.heap.size [v0, v1] := by
  refine ⟨by simp, fun k v hk => ?_⟩
  match k, hk with
  | 0, hk => simp at hk; subst hk; exact ⟨by go_simp, by go_simp⟩
  | 1, hk => simp at hk; subst hk; exact ⟨by go_simp, by go_simp⟩
  | k + 2, hk => simp at hk
theorem two_at {w : World} {b : Nat} {v0 v1 : Value} (h : HasC w b [v0, v1]) :
    (w.cell? ⟨b, 0, none⟩ = some v0 ∧ w.frozen? ⟨b, 0, none⟩ = false) ∧ (w.cell? ⟨b, 1, none⟩ = some v1 ∧ w.frozen? ⟨b, 1, none⟩ = false) :=
  ⟨h.2 0 _ rfl, h.2 1 _ rfl⟩


end Go.Proofs.Ytlhhcchncobmhaa

/- Wide modes in memory; the walks of the tests of wide modes, the program's and the model's: any numbers.
   Conditions: those that each statement names. -/
namespace Go.Proofs.Ytlhhcchncobmhaa
set_option linter.unusedSimpArgs false
set_option linter.unusedVariables false
open Go Go.RowKit

structure W4 where
  a : Nat
  b : Nat
  c : Nat
  d : Nat
def W4.bits (m : W4) : Prop := m.a < 2 ^ 64 ∧ m.b < 2 ^ 64 ∧ m.c < 2 ^ 64 ∧ m.d < 2 ^ 64
def W4.cells (m : W4) : List Value := [.complex .f64 m.a m.b, .complex .f64 m.c m.d]
def cellsW (ms : List W4) : List Value := ms.flatMap W4.cells
theorem cellsW_len (ms : List W4) : (cellsW ms).length = ms.length * 2 := by
  induction ms with
  | nil => rfl
  | cons m ms ih => simp only [cellsW, List.flatMap_cons, List.length_append, List.length_cons] at *; simp [W4.cells] at *; omega
theorem cellsW_snoc (ms : List W4) (m : W4) : cellsW (ms ++ [m]) = cellsW ms ++ m.cells := by simp [cellsW]
theorem cellsW_at (ms : List W4) (k : Nat) (m : W4) (h : ms[k]? = some m) : (cellsW ms)[2 * k]? = some (.complex .f64 m.a m.b) ∧ (cellsW ms)[2 * k + 1]? = some (.complex .f64 m.c m.d) := by
  induction ms generalizing k with
  | nil => simp at h
  | cons a ms ih =>
    cases k with
    | zero => simp at h; subst h; simp [cellsW, W4.cells]
    | succ k =>
      have := ih k (by simpa using h)
      rw [show 2 * (k + 1) = 2 * k + 2 from by omega, show 2 * k + 2 + 1 = 2 * k + 1 + 2 from by omega]
      simpa [cellsW, W4.cells] using this
theorem own_wide {w : World} {base n k : Nat} {v : Value} {ms : List W4} (h : w.ownsRow base 124 2 v n (cellsW ms)) {m : W4} (hk : ms[k]? = some m) (hn : n = ms.length) :
    ∃ g cap, v = .slice (some ⟨g, 0, none⟩) n cap ∧ n ≤ cap ∧ cap ≤ maxLen ∧ g < w.heap.size ∧ w.cell? ⟨g, k * 2, none⟩ = some (.complex .f64 m.a m.b) ∧ w.cell? ⟨g, k * 2 + 1, none⟩ = some (.complex .f64 m.c m.d) := by
  have hkl := (List.getElem?_eq_some_iff.1 hk).1
  rcases h.2 with ⟨_, h0⟩ | ⟨g, cap, cur, rfl, hb, hg, hc, hm, hs, ht⟩
  · omega
  · have c1 := h.cellAt (2 * k) (by omega)
    have c2 := h.cellAt (2 * k + 1) (by omega)
    rw [(cellsW_at ms k m hk).1] at c1
    rw [(cellsW_at ms k m hk).2] at c2
    rw [Nat.mul_comm] at c1 c2
    exact ⟨g, cap, rfl, hc, hm, (h.lt g rfl).2, c1, c2⟩
/-! ### the tests -/
def leF (o : Option Nat) (k : Nat) : Bool := match o with
  | none => false
  | some x => leB x k
theorem leF_fab (x k : Nat) : leB x k = leF (fab .f64 x) k := by
  by_cases h : (FloatKind.f64.decode x).isNaN = true
  · rw [fab_none h]
    show leB x k = false
    unfold leB Ieee.Format.order
    rw [show FloatKind.f64.format.read x = FloatKind.f64.decode x from rfl]
    cases hd : FloatKind.f64.decode x with
    | nan q p => rfl
    | number s m p => rw [hd] at h; cases h
    | infinity s => rw [hd] at h; cases h
  · rw [fab_some (by simpa using h)]; rfl
def sqF (a b : Nat) : Option Nat := fA .add .f64 (fA .mul .f64 (fab .f64 a) (fab .f64 a)) (fA .mul .f64 (fab .f64 b) (fab .f64 b))
def wideB (m : W4) : Bool := ((fin .f64 m.a && fin .f64 m.b) && (fin .f64 m.c && fin .f64 m.d)) && leF (sqF m.a m.b) 4607182418800017408 && (leB (labs m.c) 4652218415073722368 && leB (labs m.d) 4652218415073722368)
theorem sq_leF (a b : Nat) (w1 w2 w3 : World) : leB (fres w3 .add .f64 (fres w1 .mul .f64 a a) (fres w2 .mul .f64 b b)) 4607182418800017408 = leF (sqF a b) 4607182418800017408 := by
  rw [leF_fab]
  simp only [fab_fres]
  rfl
theorem abs_leB {x : Nat} (hx : x < 2 ^ 64) (h : fin .f64 x = true) : leB (x % signBit) 4652218415073722368 = leB (labs x) 4652218415073722368 := leB_abs hx ((fin_iff .f64 x).1 h) num_1024

set_option maxHeartbeats 3200000 in
theorem isModeOf_wide (m : W4) (hb : m.bits) (w : World) :
    Calls Try.prog 113 #[.complex .f64 m.a m.b, .complex .f64 m.c m.d] w fun e w' => e = .returned (.bool (wideB m)) ∧ ∃ n, w' = w.drewN n := by
  obtain ⟨a, b, c, d⟩ := m
  obtain ⟨ha, hb, hc, hd⟩ := hb
  simp only at *
  have W1 := ha
  have W2 := hb
  have W3 := hc
  have W4 := hd
  unfold wideB
  simp only
  cases h1 : (fin .f64 a && fin .f64 b)
  · go_enter Try.func113, Try.ntmps113
    go_wp2_with (first
      | (go_at_call 98; refine (implFinite_any _ _ _ (by assumption) (by assumption)).mono ?_; rintro e w' ⟨rfl, rfl⟩))
    all_goals (go_ret; exact ⟨rfl, 0, rfl⟩)
  · cases h2 : (fin .f64 c && fin .f64 d)
    · go_enter Try.func113, Try.ntmps113
      go_wp2_with (first
        | (go_at_call 98; refine (implFinite_any _ _ _ (by assumption) (by assumption)).mono ?_; rintro e w' ⟨rfl, rfl⟩))
      all_goals (go_ret; exact ⟨rfl, 0, rfl⟩)
    · rw [Bool.and_eq_true] at h2
      have e1 := abs_leB W3 h2.1
      have e2 := abs_leB W4 h2.2
      rw [← e1, ← e2]
      have h2' : (fin .f64 c && fin .f64 d) = true := by rw [h2.1, h2.2]; rfl
      have hs := sq_leF a b
      unfold leB at hs
      clear e1 e2 h2
      cases h5 : leF (sqF a b) 4607182418800017408 <;> cases h6 : leB (c % signBit) 4652218415073722368 <;> cases h7 : leB (d % signBit) 4652218415073722368
      all_goals
        rw [h5] at hs
        unfold leB at h6 h7
        go_enter Try.func113, Try.ntmps113
        go_wp2_with (first
          | (go_at_call 98; refine (implFinite_any _ _ _ (by assumption) (by assumption)).mono ?_; rintro e w' ⟨rfl, rfl⟩)
          | (go_at_call 101; refine (abs_any _ _ (by assumption)).mono ?_; rintro e w' ⟨rfl, rfl⟩))
        all_goals (go_ret; exact ⟨rfl, _, rfl⟩)

theorem l2Square_wide (x y : Nat) (w : World) :
    Calls Try.prog 108 #[.complex .f64 x y] w fun e w' => ∃ s, e = .returned (.float .f64 s) ∧ leB s 4607182418800017408 = leF (sqF x y) 4607182418800017408 ∧ ∃ n, w' = w.drewN n := by
  have hs := sq_leF x y
  have Hs := Lib.hid hs
  clear hs
  go_enter Try.func108, Try.ntmps108
  go_wp2
  all_goals (go_ret; exact ⟨_, rfl, Hs.out _ _ _, _, rfl⟩)

def areB (ms : List W4) : Bool := decide (ms.length ≤ 16) && ms.all wideB
theorem areB_iff (ms : List W4) : areB ms = true ↔ ms.length ≤ 16 ∧ ∀ m ∈ ms, wideB m = true := by
  unfold areB
  rw [Bool.and_eq_true, decide_eq_true_iff, List.all_eq_true]
theorem areB_bad {ms : List W4} {m : W4} (hm : m ∈ ms) (h : wideB m = false) : areB ms = false := by
  cases hb : areB ms
  · rfl
  · have := ((areB_iff ms).1 hb).2 m hm
    rw [h] at this
    cases this
theorem areB_all {ms : List W4} (hl : ms.length ≤ 16) (h : ∀ k : Nat, k < ms.length → ∀ m, ms[k]? = some m → wideB m = true) : areB ms = true := by
  rw [areB_iff]
  refine ⟨hl, fun m hm => ?_⟩
  obtain ⟨k, hk⟩ := List.getElem?_of_mem hm
  exact h k (List.getElem?_eq_some_iff.1 hk).1 m hk
theorem areB_long {ms : List W4} (h : 16 < ms.length) : areB ms = false := by
  unfold areB
  rw [decide_eq_false (by omega)]; rfl
def WTestI (ms : List W4) (n : Nat) (w : World) (i : Value) (wr : World) : Prop := ∃ k : Nat, k ≤ n ∧ i = .int .i64 (k : Int) ∧ (∀ j : Nat, j < k → ∀ m, ms[j]? = some m → wideB m = true) ∧ Nw w wr

theorem implAreWide_any (ms : List W4) (hms : ∀ m ∈ ms, m.bits) (n bm : Nat) (v : Value) (hn : ms.length = n) (hn64 : n ≤ 64) (w : World)
    (hm : w.ownsRow bm 124 2 v n (cellsW ms)) :
    Calls Try.prog 84 #[v] w (TestP (areB ms) w) := by
  obtain ⟨va, vc, rfl⟩ := own_shape' hm
  have Hm := Lib.hid hm
  have Hms := Lib.hid hms
  have Hn := Lib.hid hn
  clear hm hms hn
  by_cases hn16 : n ≤ 16
  · go_enter Try.func84, Try.ntmps84
    go_wp2_with fail
    go_loopw [10] (fun i wr => WTestI ms n w i wr) (fun i _ => n - (intOf i).toNat)
    case atStart => exact ⟨0, by omega, rfl, fun j hj => absurd hj (by omega), Nw.refl _⟩
    case round =>
      obtain ⟨k, hk, rfl, hal, hnw⟩ := hrel
      have Hnw := Lib.hid hnw
      have Hal := Lib.hid hal
      clear hnw hal
      by_cases hlt : k < n
      · obtain ⟨m, hmk⟩ : ∃ m, ms[k]? = some m := ⟨ms[k]'(by rw [Hn.out]; exact hlt), List.getElem?_eq_getElem _⟩
        have Hmr := Lib.hid (own_nw Hm.out Hnw.out)
        obtain ⟨g, cap, hv, hcap, hmax, hgs, e1, e2⟩ := own_wide Hmr.out hmk Hn.out.symm
        cases hv
        have Hmo := Lib.hid (Hms.out m (List.mem_of_getElem? hmk))
        unfold maxLen at hmax
        have Hnw4 := Lib.hid (Hnw.out.alloc (.cells #[.complex .f64 m.a m.b, .complex .f64 m.c m.d] 124 (0, 0)))
        have Hmk := Lib.hid hmk
        clear hmk
        go_wp2_with fail
        refine (isModeOf_wide m Hmo.out _).mono ?_
        rintro e w5 ⟨rfl, n5, rfl⟩
        have Hnw5 := Lib.hid (Hnw4.out.draw n5)
        clear e1 e2
        cases hb : wideB m with
        | false =>
          go_wp2_with fail
          go_ret
          exact ⟨by rw [areB_bad (List.mem_of_getElem? Hmk.out) hb]; first | done | rfl, Hnw5.out⟩
        | true =>
          go_wp2_with fail
          go_roundw
          case rel =>
            refine ⟨k + 1, by omega, by rw [show ((k + 1 : Nat) : Int) = (k : Int) + 1 from by omega], fun j hj m' hm' => ?_, Hnw5.out⟩
            by_cases hjk : j < k
            · exact Hal.out j hjk m' hm'
            · obtain rfl : j = k := by omega
              rw [Hmk.out] at hm'
              cases hm'
              exact hb
          case measure => simp only [intOf]; omega
      · go_wp2_with fail
        go_ret
        exact ⟨by rw [areB_all (by rw [Hn.out]; exact hn16) (fun j hj => Hal.out j (by have := Hn.out; omega))]; first | done | rfl, Hnw.out⟩
  · go_enter Try.func84, Try.ntmps84
    go_wp2_with fail
    go_ret
    exact ⟨by rw [areB_long (by rw [Hn.out]; omega)]; first | done | rfl, Nw.refl _⟩

set_option maxHeartbeats 1600000 in
theorem specAreWide_any (ms : List W4) (n bm : Nat) (v : Value) (hn : ms.length = n) (hn64 : n ≤ 64) (w : World)
    (hm : w.ownsRow bm 124 2 v n (cellsW ms)) :
    Calls Try.prog 89 #[v] w (TestP (areB ms) w) := by
  obtain ⟨va, vc, rfl⟩ := own_shape' hm
  have Hm := Lib.hid hm
  have Hn := Lib.hid hn
  clear hm hn
  go_enter Try.func89, Try.ntmps89
  go_wp2_with fail
  go_loopw [7] (fun i wr => WTestI ms n w i wr) (fun i _ => n - (intOf i).toNat)
  case atStart => exact ⟨0, by omega, rfl, fun j hj => absurd hj (by omega), Nw.refl _⟩
  case round =>
    obtain ⟨k, hk, rfl, hal, hnw⟩ := hrel
    have Hnw := Lib.hid hnw
    have Hal := Lib.hid hal
    clear hnw hal
    by_cases hlt : k < n
    · obtain ⟨m, hmk⟩ : ∃ m, ms[k]? = some m := ⟨ms[k]'(by rw [Hn.out]; exact hlt), List.getElem?_eq_getElem _⟩
      have Hmr := Lib.hid (own_nw Hm.out Hnw.out)
      obtain ⟨g, cap, hv, hcap, hmax, hgs, e1, e2⟩ := own_wide Hmr.out hmk Hn.out.symm
      cases hv
      unfold maxLen at hmax
      obtain ⟨w4, hw4⟩ : ∃ w4, w4 = wr.alloc (.cells #[.complex .f64 m.a m.b, .complex .f64 m.c m.d] 124 (0, 0)) := ⟨_, rfl⟩
      have Hw4 := Lib.hid hw4
      have Hnw4 := Lib.hid (show Nw w w4 from by rw [hw4]; exact Hnw.out.alloc _)
      have Hbx := Lib.hid (show HasC w4 wr.heap.size [.complex .f64 m.a m.b, .complex .f64 m.c m.d] from by rw [hw4]; exact new2 _ _ _ _)
      have Hmk := Lib.hid hmk
      clear hmk hw4
      go_wp2_with fail
      simp only [← Hw4.out]
      clear e1 e2
      have hwd : wideB m = (((fin .f64 m.a && fin .f64 m.b) && (fin .f64 m.c && fin .f64 m.d)) && leF (sqF m.a m.b) 4607182418800017408 && (leB (labs m.c) 4652218415073722368 && leB (labs m.d) 4652218415073722368)) := rfl
      have Hwd := Lib.hid hwd
      clear hwd
      refine (finiteDouble_any _ _ _).mono ?_
      rintro e w5 ⟨rfl, n5, rfl⟩
      have Hb5 := Lib.hid (Hbx.out.draw n5)
      have N5 := Lib.hid (Hnw4.out.draw n5)
      generalize w4.drewN n5 = w5 at *
      obtain ⟨⟨c0, -⟩, ⟨c1, -⟩⟩ := two_at Hb5.out
      cases h1 : (fin .f64 m.a && fin .f64 m.b) with
      | false =>
        go_wp2_with fail
        go_ret
        exact ⟨by rw [areB_bad (List.mem_of_getElem? Hmk.out) (by rw [Hwd.out, h1]; rfl)]; first | done | rfl, N5.out⟩
      | true =>
        go_wp2_with fail
        refine (finiteDouble_any _ _ _).mono ?_
        rintro e w6 ⟨rfl, n6, rfl⟩
        have Hb6 := Lib.hid (Hb5.out.draw n6)
        have N6 := Lib.hid (N5.out.draw n6)
        generalize w5.drewN n6 = w6 at *
        clear c0 c1
        obtain ⟨⟨c0, -⟩, ⟨c1, -⟩⟩ := two_at Hb6.out
        cases h2 : (fin .f64 m.c && fin .f64 m.d) with
        | false =>
          go_wp2_with fail
          go_ret
          exact ⟨by rw [areB_bad (List.mem_of_getElem? Hmk.out) (by rw [Hwd.out, h1, h2]; rfl)]; first | done | rfl, N6.out⟩
        | true =>
          go_wp2_with fail
          refine (l2Square_wide _ _ _).mono ?_
          rintro e w7 ⟨s, rfl, hs, n7, rfl⟩
          have Hb7 := Lib.hid (Hb6.out.draw n7)
          have N7 := Lib.hid (N6.out.draw n7)
          generalize w6.drewN n7 = w7 at *
          clear c0 c1
          obtain ⟨⟨c0, -⟩, ⟨c1, -⟩⟩ := two_at Hb7.out
          cases h3 : leF (sqF m.a m.b) 4607182418800017408 with
          | false =>
            rw [h3] at hs
            unfold leB at hs
            go_wp2_with fail
            go_ret
            exact ⟨by rw [areB_bad (List.mem_of_getElem? Hmk.out) (by rw [Hwd.out, h1, h2, h3]; rfl)]; first | done | rfl, N7.out⟩
          | true =>
            rw [h3] at hs
            unfold leB at hs
            go_wp2_with fail
            refine (l2Gain_any _ _ _).mono ?_
            rintro e w8 ⟨rfl, rfl⟩
            cases h4 : (leB (labs m.c) 4652218415073722368 && leB (labs m.d) 4652218415073722368) with
            | false =>
              go_wp2_with fail
              go_ret
              exact ⟨by rw [areB_bad (List.mem_of_getElem? Hmk.out) (by rw [Hwd.out, h1, h2, h3, h4]; rfl)]; first | done | rfl, N7.out⟩
            | true =>
              have hb : wideB m = true := by rw [Hwd.out, h1, h2, h3, h4]; rfl
              have Hb := Lib.hid hb
              clear hb
              go_wp2_with fail
              go_roundw
              case rel =>
                refine ⟨k + 1, by omega, by rw [show ((k + 1 : Nat) : Int) = (k : Int) + 1 from by omega], fun j hj m' hm' => ?_, N7.out⟩
                by_cases hjk : j < k
                · exact Hal.out j hjk m' hm'
                · obtain rfl : j = k := by omega
                  rw [Hmk.out] at hm'
                  cases hm'
                  exact Hb.out
              case measure => simp only [intOf]; omega
    · go_wp2_with fail
      go_ret
      refine ⟨?_, Hnw.out⟩
      by_cases hn16 : n ≤ 16
      · rw [areB_all (by rw [Hn.out]; exact hn16) (fun j hj => Hal.out j (by have := Hn.out; omega))]
        simp [hn16]
        first | done | omega
      · rw [areB_long (by rw [Hn.out]; omega)]
        simp [hn16]
        first | done | omega

end Go.Proofs.Ytlhhcchncobmhaa

/- The walks of RingWide and of RingDouble of any numbers, but for the bits of NaN.
   Conditions: those that each statement names. -/
namespace Go.Proofs.Ytlhhcchncobmhaa
set_option linter.unusedSimpArgs false
set_option linter.unusedVariables false
open Go Go.RowKit

def fcW (m : W4) : FC × FC := (fabC (m.a, m.b), fabC (m.c, m.d))
/-- the head of a round: k steps are done; the states of the next one for the first j modes -/
def RWI (B gs gu n q : Nat) (ms : List (FC × FC)) (x : Nat → Option Nat) (w : World) (k j : Nat) (y : Option Nat) (wr : World) : Prop :=
  ∃ (ss : List (Nat × Nat)) (ys : List Nat), ss.map fabC = mixL (stepsF ms (stF ms x k) (x k)) (stF ms x k) j ∧ ys.map (fab .f64) = outsF ms x n k y ∧
    wr.ownsRow B 41 1 (.slice (some ⟨gs, 0, none⟩) q q) q (cellsZ ss) ∧ wr.ownsRow B 49 1 (.slice (some ⟨gu, 0, none⟩) n n) n (cellsF ys) ∧ Nw w wr
def RWP (B : Nat) (outs : List (Option Nat)) (w : World) (e : Ending) (w' : World) : Prop :=
  ∃ (v : Value) (ys : List Nat), e = .returned (.tuple #[v, .bool true]) ∧ ys.map (fab .f64) = outs ∧ w'.ownsRow B 49 1 v outs.length (cellsF ys) ∧ Nw w w'
def RWOut (B gs gu n q : Nat) (ms : List (FC × FC)) (x : Nat → Option Nat) (w : World) (i : Value) (wr : World) : Prop :=
  ∃ k : Nat, k ≤ n ∧ i = .int .i64 (k : Int) ∧ RWI B gs gu n q ms x w k 0 (some 0) wr
def RWIn (B gs gu n q : Nat) (ms : List (FC × FC)) (x : Nat → Option Nat) (w : World) (k : Nat) (i : Value) (wr : World) : Prop :=
  ∃ j : Nat, j ≤ q ∧ i = .int .i64 (j : Int) ∧ RWI B gs gu n q ms x w k j (outF ((stepsF ms (stF ms x k) (x k)).take j)) wr
theorem cellsF_at {xs : List Nat} {k x : Nat} (h : xs[k]? = some x) : (cellsF xs)[k]? = some (.float .f64 x) := by simp [cellsF, h]
theorem cellsF_set (xs : List Nat) (k x : Nat) : (cellsF xs).set k (.float .f64 x) = cellsF (xs.set k x) := by simp [cellsF, List.map_set]

set_option maxRecDepth 100000 in
set_option maxHeartbeats 12800000 in
theorem ringWide_any (ws : List W4) (hb : ∀ m ∈ ws, m.bits) (ha : areB ws = true) (xs : List Nat) (n q bm bi : Nat) (v iv : Value) (hq : ws.length = q) (hxl : xs.length ≤ 1048576) (hn : n ≤ 2000) (w : World)
    (hm : w.ownsRow bm 124 2 v q (cellsW ws)) (hi : w.ownsRow bi 49 1 iv xs.length (cellsF xs)) :
    Calls Try.prog 43 #[v, iv, .int .i64 (n : Int)] w (RWP w.heap.size (ringF (ws.map fcW) (fun i => fab .f64 (in64 xs i)) n) w) := by
  obtain ⟨va, vc, rfl⟩ := own_shape' hm
  obtain ⟨ia, ic, rfl⟩ := own_shape' hi
  obtain ⟨j0, hj, hjz0, hjz1, hjz2⟩ := info_parts info_c128
  obtain ⟨f0, hf, hfz0, hfz1, hfz2⟩ := info_parts info_f64
  have hq16 : q ≤ 16 := by have := ((areB_iff ws).1 ha).1; omega
  have Ha := Lib.hid ha
  have Hb := Lib.hid hb
  have Hm := Lib.hid hm
  have Hi := Lib.hid hi
  have Hq := Lib.hid hq
  obtain ⟨ms, hms⟩ : ∃ ms, ms = ws.map fcW := ⟨_, rfl⟩
  obtain ⟨x, hx⟩ : ∃ x, x = fun i => fab .f64 (in64 xs i) := ⟨_, rfl⟩
  rw [← hms, ← hx]
  have Hms := Lib.hid hms
  have Hx := Lib.hid hx
  have Hql := Lib.hid (show ms.length = q from by rw [hms]; simp [hq])
  clear hm hi hq ha hb hms hx
  go_enter Try.func43, Try.ntmps43
  go_wp2_with fail
  refine (implAreWide_any ws Hb.out q bm _ Hq.out (by omega) _ Hm.out).mono ?_
  rintro e w1 ⟨rfl, n1⟩
  rw [Ha.out]
  have Hn1 := Lib.hid n1
  clear n1
  go_wp2_with fail
  refine (isSteps_ok n hn _).mono ?_
  rintro e w2 ⟨rfl, rfl⟩
  have hs1 := Hn1.out.size
  go_wp2_with (first
    | (at_make; refine wpList_make_full _ rfl _ _ 43 rfl w.heap.size 41 j0 (.complex .f64 0 0) 1 Try.underlying43 hj hjz0 hjz1 _ _ _ _ q rfl rfl rfl rfl (by rw [hjz2]; omega) (by unfold maxLen; omega) hs1 ?_))
  intro w3 hown3 hgrow3
  have Hs3 := Lib.hid (show w3.ownsRow w.heap.size 41 1 (.slice (some ⟨w1.heap.size, 0, none⟩) q q) q (cellsZ (List.replicate q (0, 0))) from by
    rw [toList_madeCells_one] at hown3
    simpa [cellsZ] using hown3)
  have Hn3 := Lib.hid (Hn1.out.trans hgrow3)
  have hs3 := Hn3.out.size
  have hlt3 : w1.heap.size < w3.heap.size := (Hs3.out.lt _ rfl).2
  clear hown3 hgrow3
  go_wp2_with (first
    | (at_make; refine wpList_make_full _ rfl _ _ 77 rfl w.heap.size 49 f0 (.float .f64 0) 1 Try.underlying77 hf hfz0 hfz1 _ _ _ _ n rfl rfl rfl rfl (by rw [hfz2]; omega) (by unfold maxLen; omega) hs3 ?_))
  intro w4 hown4 hgrow4
  have Ho4 := Lib.hid (show w4.ownsRow w.heap.size 49 1 (.slice (some ⟨w3.heap.size, 0, none⟩) n n) n (cellsF (List.replicate n 0)) from by
    rw [toList_madeCells_one] at hown4
    simpa [cellsF] using hown4)
  have Hs4 := Lib.hid (own_nw Hs3.out hgrow4)
  have Hn4 := Lib.hid (Hn3.out.trans hgrow4)
  clear hown4 hgrow4
  go_wp2_with fail
  go_loopw [29] (fun i wr => RWOut w.heap.size w1.heap.size w3.heap.size n q ms x w i wr) (fun i _ => n - (intOf i).toNat)
  case atStart =>
    refine ⟨0, by omega, rfl, List.replicate q (0, 0), List.replicate n 0, ?_, ?_, Hs4.out, Ho4.out, Hn4.out⟩
    · rw [mixL_zero, List.map_replicate, fabC_zero]
      simp only [stF]
      rw [List.map_const', Hql.out]
    · rw [outsF_zero, List.map_replicate, fab_zero]
  case round =>
    obtain ⟨k, hk, rfl, hrel⟩ := hrel
    have Hr := Lib.hid hrel
    have Hnw := Lib.hid (show Nw w wr from by obtain ⟨_, _, _, _, _, _, h⟩ := hrel; exact h)
    clear hrel
    by_cases hlt : k < n
    · have Hir := Lib.hid (own_nw Hi.out Hnw.out)
      go_wp2_with fail
      refine (sampleAt64_any xs _ bi k _ rfl (by omega) hxl _ Hir.out).mono ?_
      rintro e w5 ⟨rfl, rfl⟩
      have Hxk := Lib.hid (show fab .f64 (in64 xs k) = x k from by rw [Hx.out])
      go_wp2_with fail
      go_loopw [37] (fun i wr => RWIn w.heap.size w1.heap.size w3.heap.size n q ms x w k i wr) (fun i _ => q - (intOf i).toNat)
      case atStart => exact ⟨0, by omega, rfl, Hr.out⟩
      case round =>
        obtain ⟨j, hj, rfl, ss, ys, hss, hys, hst, hou, hnw⟩ := hrel
        have Hss := Lib.hid hss
        have Hys := Lib.hid hys
        have Jst := Lib.hid hst
        have Jou := Lib.hid hou
        have Jnw := Lib.hid hnw
        clear hss hys hst hou hnw
        by_cases hjt : j < q
        · obtain ⟨m, hmk⟩ : ∃ m, ws[j]? = some m := ⟨ws[j]'(by rw [Hq.out]; exact hjt), List.getElem?_eq_getElem _⟩
          obtain ⟨s0, hs0⟩ : ∃ s, (stF ms x k)[j]? = some s := ⟨(stF ms x k)[j]'(by rw [stF_len, Hql.out]; exact hjt), List.getElem?_eq_getElem _⟩
          obtain ⟨s, hsk, hsf⟩ := map_at Hss.out (mixL_at (stepsF_len ms x k (x k)) hs0)
          have hmf : ms[j]? = some (fcW m) := by rw [Hms.out, List.getElem?_map, hmk]; rfl
          have Hstep := Lib.hid (stepsF_at (x := x k) hmf hs0)
          have Hsf := Lib.hid hsf
          have Hmr := Lib.hid (own_nw Hm.out Jnw.out)
          obtain ⟨g, cap, hv, hcap, hmax, hgs, e1, e2⟩ := own_wide Hmr.out hmk Hq.out.symm
          cases hv
          have Hsk := Lib.hid hsk
          have Hmf := Lib.hid hmf
          have Hs0 := Lib.hid hs0
          clear hmk hsk hsf hmf hs0
          unfold maxLen at hmax
          go_upto_region 12 with fail
          have K1 := Lib.hid (new2 wr 124 (.complex .f64 m.a m.b) (.complex .f64 m.c m.d))
          have K2 := Lib.hid (Jst.out.alloc (.cells #[.complex .f64 m.a m.b, .complex .f64 m.c m.d] 124 (0, 0)))
          have K3 := Lib.hid (Jou.out.alloc (.cells #[.complex .f64 m.a m.b, .complex .f64 m.c m.d] 124 (0, 0)))
          have K5 := Lib.hid (Jnw.out.alloc (.cells #[.complex .f64 m.a m.b, .complex .f64 m.c m.d] 124 (0, 0)))
          have hss := (Jst.out.lt _ rfl)
          have hoo := (Jou.out.lt _ rfl)
          clear e1 e2
          go_cut [] (fun wx => RWI w.heap.size w1.heap.size w3.heap.size n q ms x w k (j + 1) (outF ((stepsF ms (stF ms x k) (x k)).take j)) wx)
          case first =>
            obtain ⟨w4, hw4⟩ : ∃ w4, w4 = wr.alloc (.cells #[.complex .f64 m.a m.b, .complex .f64 m.c m.d] 124 (0, 0)) := ⟨_, rfl⟩
            rw [← hw4] at K1 K2 K3 K5
            rw [← hw4]
            clear hw4
            obtain ⟨⟨l0, -⟩, ⟨l1, -⟩⟩ := two_at K1.out
            have e3 := K2.out.cellAt j (by omega)
            rw [cellsZ_at Hsk.out] at e3
            have e4 := K2.out.frozenAt j
            have HF := Lib.hid (show ∀ a b N, fabC (a, b) = stepF (fabC (m.a, m.b), fabC (m.c, m.d)) (fabC s) (fab .f64 (in64 xs k)) → RWI w.heap.size w1.heap.size w3.heap.size n q ms x w k (j + 1) (outF ((stepsF ms (stF ms x k) (x k)).take j)) ((w4.setCell ⟨w1.heap.size, j, none⟩ (.complex .f64 a b)).drewN N) from by
              intro a b N hab
              have hset := K2.out.stored j (.complex .f64 a b)
              refine ⟨ss.set j (a, b), ys, ?_, Hys.out, ?_, own_nw (K3.out.kept hset.2 (.inr (fun e => by simp [Value.ownBlock] at e; omega))) ((Nw.refl _).draw _), (K5.out.set (by show w.heap.size ≤ w1.heap.size; omega) _).draw _⟩
              · rw [List.map_set, Hss.out, hab]
                refine mixL_set (stepsF_len ms x k (x k)) ?_
                rw [Hstep.out, Hsf.out, Hxk.out]
                rfl
              · rw [← cellsZ_set]; exact own_nw hset.1 ((Nw.refl _).draw _))
            go_region_with (first
              | (go_at_call 87; refine (stepDouble_any (m.a, m.b) (m.c, m.d) s (in64 xs k) _).mono ?_; rintro e w6 ⟨a, b, n6, rfl, hab, rfl⟩))
            all_goals
              have Hfin := Lib.hid (HF.out _ _ (1 + n6) hab)
              clear hab
              go_wp2_with fail
              go_meet
              exact Hfin.out
          case rest =>
            obtain ⟨ss2, ys2, hss2, hys2, c1, c2, c4⟩ := hcut
            obtain ⟨t, htk, htf⟩ := map_at hss2 (mixL_after (stepsF_len ms x k (x k)) Hstep.out)
            obtain ⟨y, hyk, hyf⟩ := map_at hys2 (outsF_at ms x n k _ hlt)
            have H2 := Lib.hid (And.intro hss2 (And.intro hys2 (And.intro htf hyf)))
            have C1 := Lib.hid c1
            have C2 := Lib.hid c2
            have C4 := Lib.hid c4
            clear c1 c2 c4 hss2 hys2 htf hyf
            have Htk := Lib.hid htk
            have Hyk := Lib.hid hyk
            clear htk hyk
            have e3 := C1.out.cellAt j (by omega)
            rw [cellsZ_at Htk.out] at e3
            have e5 := C2.out.cellAt k (by omega)
            rw [cellsF_at Hyk.out] at e5
            go_wp2_with fail
            refine wp_region_still_tail 9 (by kernel_rfl) (by kernel_rfl) ?_
            simp only [List.take_succ_cons, List.take_zero, List.drop_succ_cons, List.drop_zero]
            repeat still_step
            refine wpStill_nil ?_
            change wpList _ _ _ _ _ (wc.drewN 1)
            have Hzs := Lib.hid (stepsF_at (x := x k) (show ms[j]? = some (fcW m) from Hmf.out) Hs0.out)
            have HF := Lib.hid (show ∀ W Y, Nw wc Y → RWI w.heap.size w1.heap.size w3.heap.size n q ms x w k (j + 1) (outF ((stepsF ms (stF ms x k) (x k)).take (j + 1))) (Y.setCell ⟨w3.heap.size, k, none⟩ (.float .f64 (fres W .add .f64 y t.1))) from by
              intro W Y hY
              have hset := (own_nw C2.out hY).stored k (.float .f64 (fres W .add .f64 y t.1))
              refine ⟨ss2, ys2.set k (fres W .add .f64 y t.1), H2.out.1, ?_, (own_nw C1.out hY).kept hset.2 (.inr (fun e => by simp [Value.ownBlock] at e; omega)), ?_, (C4.out.trans hY).set (by show w.heap.size ≤ w3.heap.size; omega) _⟩
              · rw [List.map_set, H2.out.2.1, fab_fres, outsF_set, H2.out.2.2.2, outF_take _ j _ Hzs.out]
                have h9 : fab .f64 t.1 = (stepF (fcW m) s0 (x k)).1 := by
                  have := H2.out.2.2.1
                  unfold fabC at this
                  exact congrArg Prod.fst this
                rw [h9]
              · rw [← cellsF_set]; exact hset.1)
            clear e3
            have e6 := C2.out.frozenAt k
            go_wp2_with fail
            go_roundw
            case rel => exact ⟨j + 1, by omega, by rw [show ((j + 1 : Nat) : Int) = (j : Int) + 1 from by omega], HF.out _ _ ((Nw.refl _).draw _)⟩
            case measure => simp only [intOf]; omega
        · obtain rfl : j = q := by omega
          have Hdone := Lib.hid (show RWI w.heap.size w1.heap.size w3.heap.size n j ms x w (k + 1) 0 (some 0) wr from by
            refine ⟨ss, ys, ?_, ?_, Jst.out, Jou.out, Jnw.out⟩
            · have := Hss.out
              rw [mixL_zero]
              rw [show mixL (stepsF ms (stF ms x k) (x k)) (stF ms x k) j = stepsF ms (stF ms x k) (x k) from by
                have h := mixL_full _ _ (stepsF_len ms x k (x k))
                rwa [stF_len, Hql.out] at h] at this
              exact this
            · have := Hys.out
              rw [show (stepsF ms (stF ms x k) (x k)).take j = stF ms x (k + 1) from List.take_of_length_le (by rw [stepsF_len, stF_len, Hql.out]; exact Nat.le_refl _), outsF_next ms x n k hlt] at this
              exact this)
          go_wp2_with fail
          go_roundw
          case rel => exact ⟨k + 1, by omega, by rw [show ((k + 1 : Nat) : Int) = (k : Int) + 1 from by omega], Hdone.out⟩
          case measure => simp only [intOf]; omega
    · obtain rfl : k = n := by omega
      obtain ⟨ss, ys, -, hys, -, hou, hnw⟩ := Hr.out
      have Hys := Lib.hid hys
      have Hou := Lib.hid hou
      have Hn := Lib.hid hnw
      clear hys hou hnw
      go_wp2_with fail
      go_ret2
      exact ⟨_, ys, rfl, by rw [Hys.out, outsF_full], by rw [show (ringF ms x k).length = k from by simp [ringF]]; exact Hou.out, Hn.out⟩

end Go.Proofs.Ytlhhcchncobmhaa

/- The walk of RingDouble of any numbers, but for the bits of NaN.
   Conditions: those that each statement names. -/
namespace Go.Proofs.Ytlhhcchncobmhaa
set_option linter.unusedSimpArgs false
set_option linter.unusedVariables false
open Go Go.RowKit

def fcM (m : M4) : FC × FC := (fabC (wid m.pr, wid m.pi), fabC (wid m.gr, wid m.gi))
def RXI (B bb gs gu n q : Nat) (bv : Value) (ms : List (FC × FC)) (x : Nat → Option Nat) (w : World) (k j : Nat) (y : Option Nat) (wr : World) : Prop := RWI B gs gu n q ms x w k j y wr ∧ Has1 wr bb bv
def RXOut (B bb gs gu n q : Nat) (bv : Value) (ms : List (FC × FC)) (x : Nat → Option Nat) (w : World) (i : Value) (wr : World) : Prop :=
  ∃ k : Nat, k ≤ n ∧ i = .int .i64 (k : Int) ∧ RXI B bb gs gu n q bv ms x w k 0 (some 0) wr
def RXIn (B bb gs gu n q : Nat) (bv : Value) (ms : List (FC × FC)) (x : Nat → Option Nat) (w : World) (k : Nat) (i : Value) (wr : World) : Prop :=
  ∃ j : Nat, j ≤ q ∧ i = .int .i64 (j : Int) ∧ RXI B bb gs gu n q bv ms x w k j (outF ((stepsF ms (stF ms x k) (x k)).take j)) wr

set_option maxRecDepth 100000 in
set_option maxHeartbeats 12800000 in
theorem ringDouble_any (ws : List M4) (ha : ∀ m ∈ ws, m.ok) (xs : List Nat) (n q bm bi : Nat) (v iv : Value) (hq : ws.length = q) (hq16 : q ≤ 16) (hxl : xs.length ≤ 1048576) (hn : n ≤ 2000) (w : World)
    (hm : w.ownsRow bm 61 2 v q (cellsM ws)) (hi : w.ownsRow bi 31 1 iv xs.length (cellsS xs)) :
    Calls Try.prog 44 #[.agg #[v], iv, .int .i64 (n : Int)] w (RWP w.heap.size (ringF (ws.map fcM) (fun i => wA (inputOf xs i)) n) w) := by
  obtain ⟨va, vc, rfl⟩ := own_shape' hm
  obtain ⟨ia, ic, rfl⟩ := own_shape' hi
  obtain ⟨j0, hj, hjz0, hjz1, hjz2⟩ := info_parts info_c128
  obtain ⟨f0, hf, hfz0, hfz1, hfz2⟩ := info_parts info_f64
  have Ha := Lib.hid ha
  have Hbox := Lib.hid (Has1.new w 69 (.slice va q vc))
  have Hn0 := Lib.hid ((Nw.refl w).alloc (.cells #[.slice va q vc] 69 (0, 0)))
  have Hm0 := Lib.hid (own_nw hm Hn0.out)
  have Hm := Lib.hid hm
  have Hi := Lib.hid hi
  have Hq := Lib.hid hq
  obtain ⟨ms, hms⟩ : ∃ ms, ms = ws.map fcM := ⟨_, rfl⟩
  obtain ⟨x, hx⟩ : ∃ x, x = fun i => wA (inputOf xs i) := ⟨_, rfl⟩
  rw [← hms, ← hx]
  have Hms := Lib.hid hms
  have Hx := Lib.hid hx
  have Hql := Lib.hid (show ms.length = q from by rw [hms]; simp [hq])
  clear hm hi hq ha hms hx
  go_enter Try.func44, Try.ntmps44
  go_wp2_with fail
  refine (implIsBody_ok ws Ha.out q bm _ Hq.out hq16 _ Hm0.out).mono ?_
  rintro e w1 ⟨rfl, n1⟩
  have Hb1 := Lib.hid (Hbox.out.nw n1)
  have Hn1 := Lib.hid (Hn0.out.trans n1)
  clear n1
  go_wp2_with fail
  refine (isSteps_ok n hn _).mono ?_
  rintro e w2 ⟨rfl, rfl⟩
  have hs1 := Hn1.out.size
  obtain ⟨b0, b1, b2⟩ := Hb1.out
  go_wp2_with (first
    | (at_make; refine wpList_make_full _ rfl _ _ 43 rfl w.heap.size 41 j0 (.complex .f64 0 0) 1 Try.underlying43 hj hjz0 hjz1 _ _ _ _ q rfl rfl rfl rfl (by rw [hjz2]; omega) (by unfold maxLen; omega) hs1 ?_))
  intro w3 hown3 hgrow3
  have Hs3 := Lib.hid (show w3.ownsRow w.heap.size 41 1 (.slice (some ⟨w1.heap.size, 0, none⟩) q q) q (cellsZ (List.replicate q (0, 0))) from by
    rw [toList_madeCells_one] at hown3
    simpa [cellsZ] using hown3)
  have Hn3 := Lib.hid (Hn1.out.trans hgrow3)
  have Hb3 := Lib.hid (Hb1.out.nw hgrow3)
  have hs3 := Hn3.out.size
  have hlt3 : w1.heap.size < w3.heap.size := (Hs3.out.lt _ rfl).2
  have hblt : w.heap.size < w1.heap.size := b0
  clear hown3 hgrow3 b0 b1 b2
  go_wp2_with (first
    | (at_make; refine wpList_make_full _ rfl _ _ 77 rfl w.heap.size 49 f0 (.float .f64 0) 1 Try.underlying77 hf hfz0 hfz1 _ _ _ _ n rfl rfl rfl rfl (by rw [hfz2]; omega) (by unfold maxLen; omega) hs3 ?_))
  intro w4 hown4 hgrow4
  have Ho4 := Lib.hid (show w4.ownsRow w.heap.size 49 1 (.slice (some ⟨w3.heap.size, 0, none⟩) n n) n (cellsF (List.replicate n 0)) from by
    rw [toList_madeCells_one] at hown4
    simpa [cellsF] using hown4)
  have Hs4 := Lib.hid (own_nw Hs3.out hgrow4)
  have Hn4 := Lib.hid (Hn3.out.trans hgrow4)
  have Hb4 := Lib.hid (Hb3.out.nw hgrow4)
  clear hown4 hgrow4
  go_wp2_with fail
  go_loopw [30] (fun i wr => RXOut w.heap.size w.heap.size w1.heap.size w3.heap.size n q (.slice va q vc) ms x w i wr) (fun i _ => n - (intOf i).toNat)
  case atStart =>
    refine ⟨0, by omega, rfl, ⟨List.replicate q (0, 0), List.replicate n 0, ?_, ?_, Hs4.out, Ho4.out, Hn4.out⟩, Hb4.out⟩
    · rw [mixL_zero, List.map_replicate, fabC_zero]
      simp only [stF]
      rw [List.map_const', Hql.out]
    · rw [outsF_zero, List.map_replicate, fab_zero]
  case round =>
    obtain ⟨k, hk, rfl, hrel⟩ := hrel
    have Hr := Lib.hid hrel
    have Hnw := Lib.hid (show Nw w wr from by obtain ⟨⟨_, _, _, _, _, _, h⟩, _⟩ := hrel; exact h)
    have Hbx := Lib.hid (show Has1 wr w.heap.size (.slice va q vc) from hrel.2)
    clear hrel
    by_cases hlt : k < n
    · have Hir := Lib.hid (own_nw Hi.out Hnw.out)
      obtain ⟨b0, b1, b2⟩ := Hbx.out
      go_wp2_with fail
      refine (sampleAt_any xs _ bi k _ rfl (by omega) hxl _ Hir.out).mono ?_
      rintro e w5 ⟨rfl, rfl⟩
      obtain ⟨xk, hxk⟩ : ∃ xk, xk = fcv wr .f32 (inputOf xs k) .f64 := ⟨_, rfl⟩
      have Hxk := Lib.hid (show fab .f64 xk = x k from by rw [hxk, fab_wide, Hx.out])
      obtain ⟨we, hwe⟩ : ∃ we, we = wr.drewN (fcd .f32 (inputOf xs k) .f64) := ⟨_, rfl⟩
      have Hre := Lib.hid (show RXI w.heap.size w.heap.size w1.heap.size w3.heap.size n q (.slice va q vc) ms x w k 0 (some 0) we from by
        rw [hwe]
        obtain ⟨⟨ss, ys, h1, h2, h3, h4, h5⟩, h6⟩ := Hr.out
        exact ⟨⟨ss, ys, h1, h2, own_nw h3 ((Nw.refl _).draw _), own_nw h4 ((Nw.refl _).draw _), h5.draw _⟩, h6.draw _⟩)
      have Hxe := Lib.hid (And.intro hxk hwe)
      clear hxk hwe
      go_wp2_with fail
      rw [← Hxe.out.1, ← Hxe.out.2]
      go_loopw [40] (fun i wr => RXIn w.heap.size w.heap.size w1.heap.size w3.heap.size n q (.slice va q vc) ms x w k i wr) (fun i _ => q - (intOf i).toNat)
      case atStart => exact ⟨0, by omega, rfl, Hre.out⟩
      case round =>
        obtain ⟨j, hj, rfl, ⟨ss, ys, hss, hys, hst, hou, hnw⟩, hbx⟩ := hrel
        have Hss := Lib.hid hss
        have Hys := Lib.hid hys
        have Jst := Lib.hid hst
        have Jou := Lib.hid hou
        have Jnw := Lib.hid hnw
        have Jbx := Lib.hid hbx
        clear hss hys hst hou hnw hbx
        by_cases hjt : j < q
        · obtain ⟨m, hmk⟩ : ∃ m, ws[j]? = some m := ⟨ws[j]'(by rw [Hq.out]; exact hjt), List.getElem?_eq_getElem _⟩
          obtain ⟨s0, hs0⟩ : ∃ s, (stF ms x k)[j]? = some s := ⟨(stF ms x k)[j]'(by rw [stF_len, Hql.out]; exact hjt), List.getElem?_eq_getElem _⟩
          obtain ⟨s, hsk, hsf⟩ := map_at Hss.out (mixL_at (stepsF_len ms x k (x k)) hs0)
          have hmf : ms[j]? = some (fcM m) := by rw [Hms.out, List.getElem?_map, hmk]; rfl
          have Hstep := Lib.hid (stepsF_at (x := x k) hmf hs0)
          have Hsf := Lib.hid hsf
          have Hmr := Lib.hid (own_nw Hm.out Jnw.out)
          obtain ⟨g, cap, hv, hcap, hmax, hgs, e1, e2⟩ := own_mode Hmr.out hmk Hq.out.symm
          cases hv
          have Hsk := Lib.hid hsk
          have Hmo := Lib.hid (Ha.out m (List.mem_of_getElem? hmk))
          have Hmf := Lib.hid hmf
          have Hs0 := Lib.hid hs0
          clear hmk hsk hsf hmf hs0
          unfold maxLen at hmax
          go_upto_region 12 with fail
          have K1 := Lib.hid (new2 wr 61 (.complex .f32 m.pr m.pi) (.complex .f32 m.gr m.gi))
          have K2 := Lib.hid (Jst.out.alloc (.cells #[.complex .f32 m.pr m.pi, .complex .f32 m.gr m.gi] 61 (0, 0)))
          have K3 := Lib.hid (Jou.out.alloc (.cells #[.complex .f32 m.pr m.pi, .complex .f32 m.gr m.gi] 61 (0, 0)))
          have K5 := Lib.hid (Jnw.out.alloc (.cells #[.complex .f32 m.pr m.pi, .complex .f32 m.gr m.gi] 61 (0, 0)))
          have K6 := Lib.hid (Jbx.out.alloc (.cells #[.complex .f32 m.pr m.pi, .complex .f32 m.gr m.gi] 61 (0, 0)))
          have hss := (Jst.out.lt _ rfl)
          have hoo := (Jou.out.lt _ rfl)
          clear e1 e2
          go_cut [] (fun wx => RXI w.heap.size w.heap.size w1.heap.size w3.heap.size n q (.slice (some ⟨g, 0, none⟩) q vc) ms x w k (j + 1) (outF ((stepsF ms (stF ms x k) (x k)).take j)) wx)
          case first =>
            obtain ⟨w4, hw4⟩ : ∃ w4, w4 = wr.alloc (.cells #[.complex .f32 m.pr m.pi, .complex .f32 m.gr m.gi] 61 (0, 0)) := ⟨_, rfl⟩
            rw [← hw4] at K1 K2 K3 K5 K6
            rw [← hw4]
            clear hw4
            obtain ⟨⟨l0, -⟩, ⟨l1, -⟩⟩ := two_at K1.out
            obtain ⟨n1, n2, n3, n4⟩ := Hmo.out.nums
            have e3 := K2.out.cellAt j (by omega)
            rw [cellsZ_at Hsk.out] at e3
            have e4 := K2.out.frozenAt j
            have HF := Lib.hid (show ∀ a b N, fabC (a, b) = stepF (fabC (wid m.pr, wid m.pi), fabC (wid m.gr, wid m.gi)) (fabC s) (fab .f64 xk) → RXI w.heap.size w.heap.size w1.heap.size w3.heap.size n q (.slice (some ⟨g, 0, none⟩) q vc) ms x w k (j + 1) (outF ((stepsF ms (stF ms x k) (x k)).take j)) ((w4.setCell ⟨w1.heap.size, j, none⟩ (.complex .f64 a b)).drewN N) from by
              intro a b N hab
              have hset := K2.out.stored j (.complex .f64 a b)
              refine ⟨⟨ss.set j (a, b), ys, ?_, Hys.out, ?_, own_nw (K3.out.kept hset.2 (.inr (fun e => by simp [Value.ownBlock] at e; omega))) ((Nw.refl _).draw _), (K5.out.set (by show w.heap.size ≤ w1.heap.size; omega) _).draw _⟩, (K6.out.set (by show w1.heap.size ≠ w.heap.size; omega) _).draw _⟩
              · rw [List.map_set, Hss.out, hab]
                refine mixL_set (stepsF_len ms x k (x k)) ?_
                rw [Hstep.out, Hsf.out, Hxk.out]
                rfl
              · rw [← cellsZ_set]; exact own_nw hset.1 ((Nw.refl _).draw _))
            go_region_with (first
              | (go_at_call 79; with_reducible refine (implWiden_fin _ _ _ n1 n2).mono ?_; rintro e w6 ⟨rfl, rfl⟩)
              | (go_at_call 79; with_reducible refine (implWiden_fin _ _ _ n3 n4).mono ?_; rintro e w6 ⟨rfl, rfl⟩)
              | (go_at_call 87; refine (stepDouble_any (wid m.pr, wid m.pi) (wid m.gr, wid m.gi) s xk _).mono ?_; rintro e w6 ⟨a, b, n6, rfl, hab, rfl⟩))
            all_goals
              have Hfin := Lib.hid (HF.out _ _ (1 + n6) hab)
              clear hab
              go_wp2_with fail
              go_meet
              exact Hfin.out
          case rest =>
            obtain ⟨⟨ss2, ys2, hss2, hys2, c1, c2, c4⟩, c5⟩ := hcut
            have C5 := Lib.hid c5
            clear c5
            obtain ⟨t, htk, htf⟩ := map_at hss2 (mixL_after (stepsF_len ms x k (x k)) Hstep.out)
            obtain ⟨y, hyk, hyf⟩ := map_at hys2 (outsF_at ms x n k _ hlt)
            have H2 := Lib.hid (And.intro hss2 (And.intro hys2 (And.intro htf hyf)))
            have C1 := Lib.hid c1
            have C2 := Lib.hid c2
            have C4 := Lib.hid c4
            clear c1 c2 c4 hss2 hys2 htf hyf
            have Htk := Lib.hid htk
            have Hyk := Lib.hid hyk
            clear htk hyk
            have e3 := C1.out.cellAt j (by omega)
            rw [cellsZ_at Htk.out] at e3
            have e5 := C2.out.cellAt k (by omega)
            rw [cellsF_at Hyk.out] at e5
            go_wp2_with fail
            refine wp_region_still_tail 9 (by kernel_rfl) (by kernel_rfl) ?_
            simp only [List.take_succ_cons, List.take_zero, List.drop_succ_cons, List.drop_zero]
            repeat still_step
            refine wpStill_nil ?_
            change wpList _ _ _ _ _ (wc.drewN 1)
            have Hzs := Lib.hid (stepsF_at (x := x k) (show ms[j]? = some (fcM m) from Hmf.out) Hs0.out)
            have HF := Lib.hid (show ∀ W Y, Nw wc Y → RXI w.heap.size w.heap.size w1.heap.size w3.heap.size n q (.slice (some ⟨g, 0, none⟩) q vc) ms x w k (j + 1) (outF ((stepsF ms (stF ms x k) (x k)).take (j + 1))) (Y.setCell ⟨w3.heap.size, k, none⟩ (.float .f64 (fres W .add .f64 y t.1))) from by
              intro W Y hY
              have hset := (own_nw C2.out hY).stored k (.float .f64 (fres W .add .f64 y t.1))
              refine ⟨⟨ss2, ys2.set k (fres W .add .f64 y t.1), H2.out.1, ?_, (own_nw C1.out hY).kept hset.2 (.inr (fun e => by simp [Value.ownBlock] at e; omega)), ?_, (C4.out.trans hY).set (by show w.heap.size ≤ w3.heap.size; omega) _⟩, (C5.out.nw hY).set (by show w3.heap.size ≠ w.heap.size; omega) _⟩
              · rw [List.map_set, H2.out.2.1, fab_fres, outsF_set, H2.out.2.2.2, outF_take _ j _ Hzs.out]
                have h9 : fab .f64 t.1 = (stepF (fcM m) s0 (x k)).1 := by
                  have := H2.out.2.2.1
                  unfold fabC at this
                  exact congrArg Prod.fst this
                rw [h9]
              · rw [← cellsF_set]; exact hset.1)
            clear e3
            have e6 := C2.out.frozenAt k
            go_wp2_with fail
            go_roundw
            case rel => exact ⟨j + 1, by omega, by rw [show ((j + 1 : Nat) : Int) = (j : Int) + 1 from by omega], HF.out _ _ ((Nw.refl _).draw _)⟩
            case measure => simp only [intOf]; omega
        · obtain rfl : j = q := by omega
          have Hdone := Lib.hid (show RXI w.heap.size w.heap.size w1.heap.size w3.heap.size n j (.slice va j vc) ms x w (k + 1) 0 (some 0) wr from by
            refine ⟨⟨ss, ys, ?_, ?_, Jst.out, Jou.out, Jnw.out⟩, Jbx.out⟩
            · have := Hss.out
              rw [mixL_zero]
              rw [show mixL (stepsF ms (stF ms x k) (x k)) (stF ms x k) j = stepsF ms (stF ms x k) (x k) from by
                have h := mixL_full _ _ (stepsF_len ms x k (x k))
                rwa [stF_len, Hql.out] at h] at this
              exact this
            · have := Hys.out
              rw [show (stepsF ms (stF ms x k) (x k)).take j = stF ms x (k + 1) from List.take_of_length_le (by rw [stepsF_len, stF_len, Hql.out]; exact Nat.le_refl _), outsF_next ms x n k hlt] at this
              exact this)
          go_wp2_with fail
          go_roundw
          case rel => exact ⟨k + 1, by omega, by rw [show ((k + 1 : Nat) : Int) = (k : Int) + 1 from by omega], Hdone.out⟩
          case measure => simp only [intOf]; omega
    · obtain rfl : k = n := by omega
      obtain ⟨⟨ss, ys, -, hys, -, hou, hnw⟩, -⟩ := Hr.out
      have Hys := Lib.hid hys
      have Hou := Lib.hid hou
      have Hn := Lib.hid hnw
      clear hys hou hnw
      go_wp2_with fail
      go_ret2
      exact ⟨_, ys, rfl, by rw [Hys.out, outsF_full], by rw [show (ringF ms x k).length = k from by simp [ringF]]; exact Hou.out, Hn.out⟩

end Go.Proofs.Ytlhhcchncobmhaa

/- Absolute values of single precision, by way of double precision: numbers of both precisions that stand for the same number, or infinity, that is not negative.
   Conditions: those that each statement names. -/
namespace Go.Proofs.Ytlhhcchncobmhaa
set_option linter.unusedSimpArgs false
set_option linter.unusedVariables false
open Go Go.RowKit

namespace Flo
open Ieee
/-- A number that the format has is written as it is: also the greatest ones. -/
theorem write_exact_top (f : Format) (he : 2 ≤ f.exponentBits) (s : Bool) (m : Nat) (p : Int) (k : Nat) (e : Int) (hk : (m : Rat) * pw p = (k : Rat) * pw e) (hk1 : k < 2 ^ (f.fractionBits + 1)) (hp : f.leastPlace ≤ e) (hB : e ≤ f.leastPlace + ((2 ^ f.exponentBits : Nat) - 3)) :
    ∃ m' p', f.read (f.write (.number s m p)) = .number s m' p' ∧ (m' : Rat) * pw p' = (m : Rat) * pw p := by
  have hw : f.write (.number s m p) = f.nearest s m p := rfl
  rw [hw]
  by_cases h : m = 0
  · subst h
    have : f.nearest s 0 p = f.word s 0 := by unfold Format.nearest; simp
    rw [this, zero_read]
    exact ⟨_, _, rfl, by simp⟩
  · obtain ⟨n1, n2⟩ := kept_near f s m p
    have hk0 : k ≠ 0 := by
      intro hk0; subst hk0
      have := (size_pw m p h).1
      have := pw_pos (p + m.log2)
      simp at hk
      grind
    have hlast : lastOf f m p ≤ e := by
      have a1 := (size_pw m p h).1
      have a2 := (size_pw k e hk0).2
      rw [← hk] at a2
      have a3 := lt_of_pw_lt (a := p + m.log2) (b := e + k.log2 + 1) (by grind)
      have a4 : k.log2 < f.fractionBits + 1 := by
        rw [Nat.log2_lt hk0]; exact hk1
      unfold lastOf; omega
    have hex : (keptOf f s m p : Rat) * pw (lastOf f m p) = (m : Rat) * pw p := by
      obtain ⟨d, hd⟩ := Int.le.dest hlast
      rw [hk, ← hd, Int.add_comm, pw_add, pw_nat] at n1 n2
      rw [hk, ← hd, Int.add_comm, pw_add, pw_nat]
      have hp := pw_pos (lastOf f m p)
      have q1 : keptOf f s m p ≤ k * 2 ^ d := le_nat_of _ _ (lastOf f m p) (by push_cast; grind)
      have q2 : k * 2 ^ d ≤ keptOf f s m p := le_nat_of _ _ (lastOf f m p) (by push_cast; grind)
      have q3 : keptOf f s m p = k * 2 ^ d := by omega
      rw [q3]; push_cast; grind
    have hkl : keptOf f s m p < 2 ^ (f.fractionBits + 1) := by
      rcases Nat.lt_or_ge (keptOf f s m p) (2 ^ (f.fractionBits + 1)) with h1 | h1
      · exact h1
      · exfalso
        have h2 : ((2 ^ (f.fractionBits + 1) : Nat) : Rat) ≤ (keptOf f s m p : Rat) := by exact_mod_cast h1
        rw [← pw_nat] at h2
        have h3 := Rat.mul_le_mul_of_nonneg_right h2 (Rat.le_of_lt (pw_pos (lastOf f m p)))
        rw [← pw_add, hex] at h3
        have h4 := (size_pw m p h).2
        have h5 : pw (p + m.log2 + 1) ≤ pw (((f.fractionBits + 1 : Nat) : Int) + lastOf f m p) := pw_le (by unfold lastOf; omega)
        grind
    have hr : rungOf f s m p < f.infRung := by
      have h4 : 4 ≤ 2 ^ f.exponentBits := by
        have := Nat.pow_le_pow_right (n := 2) (by omega) he
        simpa using this
      unfold rungOf Format.infRung
      have hb1 : 2 ^ (f.fractionBits + 1) = 2 * f.binade := by rw [Nat.pow_succ, Nat.mul_comm]; rfl
      have h5 : (lastOf f m p - f.leastPlace).toNat ≤ 2 ^ f.exponentBits - 3 := by omega
      have h6 := Nat.mul_le_mul_right f.binade h5
      have h7 : (2 ^ f.exponentBits - 1) * f.binade = (2 ^ f.exponentBits - 3) * f.binade + 2 * f.binade := by rw [← Nat.add_mul]; congr 1; omega
      have := bin_pos f
      omega
    obtain ⟨m', p', h1, h2, h3, h4⟩ := read_nearest f s m p h hr
    exact ⟨m', p', h1, by rw [h2]; exact hex⟩
end Flo

/-- p (single) and b (double) stand for one number or infinity, neither with a sign -/
def Tw (p b : Nat) : Prop :=
  (∃ m i n j, Ieee.single.read p = .number false m i ∧ Ieee.double.read b = .number false n j ∧ (m : Rat) * Flo.pw i = (n : Rat) * Flo.pw j) ∨
  (Ieee.single.read p = .infinity false ∧ Ieee.double.read b = .infinity false)
theorem Tw.nan {p b : Nat} (h : Tw p b) : nan32 p = false ∧ nan64 b = false := by
  unfold nan32 nan64
  rcases h with ⟨m, i, n, j, h1, h2, -⟩ | ⟨h1, h2⟩
  · rw [show FloatKind.f32.decode p = _ from h1, show FloatKind.f64.decode b = _ from h2]; exact ⟨rfl, rfl⟩
  · rw [show FloatKind.f32.decode p = _ from h1, show FloatKind.f64.decode b = _ from h2]; exact ⟨rfl, rfl⟩
theorem tw_zero : Tw 0 0 := .inl ⟨0, -149, 0, -1074, by decide, by decide, by simp⟩

theorem order_val {f g : Ieee.Format} {a b c d : Nat} (ha : Flo.IsNum f a) (hb : Flo.IsNum f b) (hc : Flo.IsNum g c) (hd : Flo.IsNum g d) (h1 : Flo.V f a = Flo.V g c) (h2 : Flo.V f b = Flo.V g d) : f.order a b = g.order c d := by
  have o := Flo.order_num f a b ha hb
  have O := Flo.order_num g c d hc hd
  rw [← h1, ← h2] at O
  have hs : ∃ r, f.order a b = some r := by
    obtain ⟨s, m, i, ha⟩ := ha
    obtain ⟨t, n, j, hb⟩ := hb
    unfold Ieee.Format.order; rw [ha, hb]; exact ⟨_, rfl⟩
  obtain ⟨r, hr⟩ := hs
  rw [hr]
  cases r
  · exact (O.1.2 (o.1.1 hr)).symm
  · exact (O.2.1.2 (o.2.1.1 hr)).symm
  · exact (O.2.2.2 (o.2.2.1 hr)).symm

theorem Tw.order {p b q c : Nat} (h : Tw p b) (k : Tw q c) : Ieee.double.order b c = Ieee.single.order p q := by
  rcases h with ⟨m, i, n, j, h1, h2, h3⟩ | ⟨h1, h2⟩
  · rcases k with ⟨m', i', n', j', k1, k2, k3⟩ | ⟨k1, k2⟩
    · refine order_val ⟨_, _, _, h2⟩ ⟨_, _, _, k2⟩ ⟨_, _, _, h1⟩ ⟨_, _, _, k1⟩ ?_ ?_
      · rw [Flo.V_eq h1, Flo.V_eq h2]; unfold Flo.val; simp only [Bool.false_eq_true, if_false]; rw [h3]
      · rw [Flo.V_eq k1, Flo.V_eq k2]; unfold Flo.val; simp only [Bool.false_eq_true, if_false]; rw [k3]
    · unfold Ieee.Format.order; rw [h1, h2, k1, k2]; try rfl
  · rcases k with ⟨m', i', n', j', k1, k2, k3⟩ | ⟨k1, k2⟩
    · unfold Ieee.Format.order; rw [h1, h2, k1, k2]; try rfl
    · unfold Ieee.Format.order; rw [h1, h2, k1, k2]; try rfl

/-- against a widened number -/
theorem Tw.order_wid {p b g : Nat} (h : Tw p b) (hg : nan32 g = false) : Ieee.double.order b (wid g) = Ieee.single.order p g := by
  cases hd : Ieee.single.read g with
  | nan s f => unfold nan32 at hg; rw [show FloatKind.f32.decode g = _ from hd] at hg; cases hg
  | infinity s =>
    have k := wid_inf hd
    rcases h with ⟨m, i, n, j, h1, h2, h3⟩ | ⟨h1, h2⟩
    · unfold Ieee.Format.order; rw [h1, h2, hd, k]; rfl
    · unfold Ieee.Format.order; rw [h1, h2, hd, k]; try rfl
  | number s m' i' =>
    obtain ⟨n', j', k, k3⟩ := wid_read hd
    rcases h with ⟨m, i, n, j, h1, h2, h3⟩ | ⟨h1, h2⟩
    · refine order_val ⟨_, _, _, h2⟩ ⟨_, _, _, k⟩ ⟨_, _, _, h1⟩ ⟨_, _, _, hd⟩ ?_ ?_
      · rw [Flo.V_eq h1, Flo.V_eq h2]; unfold Flo.val; simp only [Bool.false_eq_true, if_false]; rw [h3]
      · rw [Flo.V_eq hd, Flo.V_eq k]; unfold Flo.val; rw [k3]
    · unfold Ieee.Format.order; rw [h1, h2, hd, k]; rfl

/-- two of single precision that stand for the same one are the same, widened -/
theorem Tw.same {p q b : Nat} (h : Tw p b) (k : Tw q b) (w1 w2 : World) : sameF (fcv w1 .f32 p .f64) (fcv w2 .f32 q .f64) = true := by
  rw [fcv_wide h.nan.1, fcv_wide k.nan.1]
  unfold sameF
  rw [wid_nan h.nan.1, wid_nan k.nan.1]
  simp only [Bool.or_self, Bool.false_eq_true, if_false]
  rw [show FloatKind.f64.format = Ieee.double from rfl]
  rcases h with ⟨m, i, n, j, h1, h2, h3⟩ | ⟨h1, h2⟩
  · rcases k with ⟨m', i', n', j', k1, k2, k3⟩ | ⟨k1, k2⟩
    · rw [h2] at k2; cases k2
      obtain ⟨a, c, e1, e2⟩ := wid_read h1
      obtain ⟨a', c', e3, e4⟩ := wid_read k1
      have ev : Flo.V Ieee.double (wid p) = Flo.V Ieee.double (wid q) := by rw [Flo.V_eq e1, Flo.V_eq e3]; unfold Flo.val; rw [e2, e4, h3, k3]
      have eq : Ieee.double.order (wid p) (wid q) = some .eq := (Flo.order_num Ieee.double (wid p) (wid q) ⟨_, _, _, e1⟩ ⟨_, _, _, e3⟩).2.1.2 ev
      have e0 : Ieee.double.order (wid p) 0 = Ieee.double.order (wid q) 0 := order_val ⟨_, _, _, e1⟩ zero_num.1 ⟨_, _, _, e3⟩ zero_num.1 ev rfl
      split
      · rename_i hz
        simp only [Bool.and_eq_true, beq_iff_eq] at hz
        have z1 := (Flo.order_num Ieee.double (wid p) 0 ⟨_, _, _, e1⟩ zero_num.1).2.1.1 hz.1
        have z2 := (Flo.order_num Ieee.double (wid q) 0 ⟨_, _, _, e3⟩ zero_num.1).2.1.1 hz.2
        rw [show Flo.V Ieee.double 0 = 0 from zero_num.2] at z1 z2
        have q1 : ∀ x a c, Ieee.double.read x = .number false a c → Flo.V Ieee.double x = 0 → (floatBits .quo .f64 4607182418800017408 x).getD 0 = (floatBits .quo .f64 4607182418800017408 0).getD 0 := by
          intro x a c hx hv
          have ha : a = 0 := by
            rw [Flo.V_eq hx] at hv
            unfold Flo.val at hv
            simp only [Bool.false_eq_true, if_false] at hv
            rcases Nat.eq_zero_or_pos a with h0 | h0
            · exact h0
            · exfalso
              have h1 : (0 : Rat) < a := by exact_mod_cast h0
              have := Rat.mul_pos h1 (Flo.pw_pos c)
              grind
          subst ha
          have hz : Ieee.double.read 0 = .number false 0 (-1074) := by decide
          show ((Ieee.double.div 4607182418800017408 x).getD 0) = ((Ieee.double.div 4607182418800017408 0).getD 0)
          unfold Ieee.Format.div
          rw [hx, hz]
          cases hr : Ieee.double.read 4607182418800017408 with
          | nan s f => rfl
          | infinity s => rfl
          | number s m i => by_cases hm : m = 0 <;> simp [Ieee.Datum.quotient, hm]
        rw [q1 _ _ _ e1 z1, q1 _ _ _ e3 z2]
        simp
      · rw [eq]; rfl
    · rw [h2] at k2; cases k2
  · rcases k with ⟨m', i', n', j', k1, k2, k3⟩ | ⟨k1, k2⟩
    · rw [h2] at k2; cases k2
    · have e1 := wid_inf h1
      have e2 := wid_inf k1
      have hz : Ieee.double.read 0 = .number false 0 (-1074) := by decide
      have o1 : Ieee.double.order (wid p) 0 = some .gt := by unfold Ieee.Format.order; rw [e1, hz]; rfl
      have o2 : Ieee.double.order (wid p) (wid q) = some .eq := by unfold Ieee.Format.order; rw [e1, e2]; rfl
      rw [o1, o2]; rfl

/-- narrowed again -/
theorem tw_narrow {x z : Nat} {s : Bool} {m : Nat} {i : Int} (hx : Ieee.single.read x = .number s m i) {n : Nat} {j : Int} (hz : Ieee.double.read z = .number false n j) (he : (n : Rat) * Flo.pw j = (m : Rat) * Flo.pw i) (w : World) :
    Tw (fcv w .f64 z .f32) z ∧ fcd .f64 z .f32 = 0 := by
  obtain ⟨h1, h2, h3⟩ := single_bound hx
  have e1 : Ieee.single.leastPlace = -149 := by decide
  have e2 : (2 ^ Ieee.single.exponentBits : Nat) = 256 := by decide
  obtain ⟨m', p', w1, w4⟩ := Flo.write_exact_top Ieee.single (by decide) false n j m i he (Nat.lt_of_lt_of_le h1 (by decide)) (by omega) (by omega)
  have hd : FloatKind.f64.decode z = .number false n j := hz
  have hr : FloatKind.f32.decode (FloatKind.f32.encode (.number false n j)) = .number false m' p' := w1
  constructor
  · unfold fcv
    rw [if_neg (by decide), hd]
    simp only
    rw [hr]
    simp only [Ieee.Datum.isInfinity, Bool.false_eq_true, if_false]
    exact .inl ⟨m', p', n, j, w1, hz, w4⟩
  · unfold fcd
    rw [if_neg (by decide), hd]
    simp only
    rw [hr]
    simp [Ieee.Datum.isInfinity]
theorem tw_narrow_inf {z : Nat} (hz : Ieee.double.read z = .infinity false) (w : World) : Tw (fcv w .f64 z .f32) z ∧ fcd .f64 z .f32 = 0 := by
  have hd : FloatKind.f64.decode z = .infinity false := hz
  constructor
  · unfold fcv
    rw [if_neg (by decide), hd]
    refine .inr ⟨?_, hz⟩
    show Ieee.single.read (Ieee.single.word false Ieee.single.infRung) = _
    rw [Flo.read_word_inf, if_neg (by decide)]
  · unfold fcd
    rw [if_neg (by decide), hd]


/-! ### absolute values -/
theorem labs_read {z : Nat} (hz : z < 2 ^ 64) {s : Bool} {n : Nat} {j : Int} (h : Ieee.double.read z = .number s n j) : ∃ n' j', Ieee.double.read (labs z) = .number false n' j' ∧ (n' : Rat) * Flo.pw j' = (n : Rat) * Flo.pw j := by
  have o := Flo.order_num Ieee.double z 0 ⟨_, _, _, h⟩ zero_num.1
  rw [show Flo.V Ieee.double 0 = 0 from zero_num.2, Flo.V_eq h] at o
  have hp := Flo.pw_pos j
  have hn : (0 : Rat) ≤ n := by exact_mod_cast Nat.zero_le n
  have hnp := Rat.mul_nonneg hn (Rat.le_of_lt hp)
  unfold labs
  rw [show FloatKind.f64.format = Ieee.double from rfl]
  by_cases h1 : Ieee.double.order z 0 = some .lt
  · rw [if_pos h1]
    have hlt := o.1.1 h1
    have hs : s = true := by
      cases s with
      | true => rfl
      | false => exfalso; unfold Flo.val at hlt; simp only [Bool.false_eq_true, if_false] at hlt; grind
    subst hs
    exact ⟨n, j, neg_read z hz true n j h, rfl⟩
  · rw [if_neg h1]
    by_cases h2 : Ieee.double.order z 0 = some .eq
    · rw [if_pos h2]
      have hv := o.2.1.1 h2
      refine ⟨0, -1074, by decide, ?_⟩
      unfold Flo.val at hv
      cases s <;> simp at hv ⊢ <;> grind
    · rw [if_neg h2]
      have hs : s = false := by
        cases s with
        | false => rfl
        | true =>
          exfalso
          unfold Flo.val at o
          simp only [if_true] at o
          rcases Classical.em (-1 * ((n : Rat) * Flo.pw j) < 0) with h3 | h3
          · exact h1 (o.1.2 h3)
          · exact h2 (o.2.1.2 (by grind))
      subst hs
      exact ⟨n, j, h, rfl⟩
theorem neg_inf {z : Nat} (hz : z < 2 ^ 64) (h : Ieee.double.read z = .infinity true) : Ieee.double.read (Op.negFloat .f64 z) = .infinity false := by
  have hsw : Ieee.double.signWeight = 9223372036854775808 := by decide
  have hir : Ieee.double.infRung = 9218868437227405312 := by decide
  have hz2 : z = 18442240474082181120 := by
    unfold Ieee.Format.read at h
    rw [hsw, hir] at h
    simp only at h
    split at h
    · cases h
    · split at h
      · cases h
      · split at h
        · rename_i g
          have hs : (z / 9223372036854775808 % 2 == 1) = true := by injection h
          simp only [beq_iff_eq] at hs
          omega
        · cases h
  rw [hz2]
  decide
theorem labs_inf {z : Nat} (hz : z < 2 ^ 64) {s : Bool} (h : Ieee.double.read z = .infinity s) : Ieee.double.read (labs z) = .infinity false := by
  have h0 : Ieee.double.read 0 = .number false 0 (-1074) := by decide
  unfold labs
  rw [show FloatKind.f64.format = Ieee.double from rfl]
  cases s with
  | true =>
    have h1 : Ieee.double.order z 0 = some .lt := by unfold Ieee.Format.order; rw [h, h0]; rfl
    rw [if_pos h1]
    exact neg_inf hz h
  | false =>
    have h1 : Ieee.double.order z 0 = some .gt := by unfold Ieee.Format.order; rw [h, h0]; rfl
    rw [h1]
    exact h

/-- THE ABSOLUTE VALUE IN SINGLE PRECISION, AND THAT OF THE MODEL: both stand for the same -/
theorem tw_abs {x : Nat} (hx : nan32 x = false) (w : World) : Tw (fcv w .f64 (wid x % signBit) .f32) (labs (wid x)) ∧ fcd .f64 (wid x % signBit) .f32 = 0 := by
  have hm := mod_read (wid x)
  cases hd : Ieee.single.read x with
  | nan s f => unfold nan32 at hx; rw [show FloatKind.f32.decode x = _ from hd] at hx; cases hx
  | infinity s =>
    have hw := wid_inf hd
    rw [show FloatKind.f64.decode (wid x) = _ from hw] at hm
    have k := tw_narrow_inf hm w
    refine ⟨?_, k.2⟩
    rcases k.1 with ⟨m, i, n, j, h1, h2, h3⟩ | ⟨h1, h2⟩
    · rw [show Ieee.double.read (wid x % signBit) = _ from hm] at h2; cases h2
    · exact .inr ⟨h1, labs_inf (wid_lt x) hw⟩
  | number s m i =>
    obtain ⟨n, j, hw, he⟩ := wid_read hd
    rw [show FloatKind.f64.decode (wid x) = _ from hw] at hm
    have k := tw_narrow hd hm he w
    refine ⟨?_, k.2⟩
    obtain ⟨n', j', l1, l2⟩ := labs_read (wid_lt x) hw
    rcases k.1 with ⟨m1, i1, n1, j1, h1, h2, h3⟩ | ⟨h1, h2⟩
    · rw [show Ieee.double.read (wid x % signBit) = _ from hm] at h2
      cases h2
      exact .inl ⟨m1, i1, n', j', h1, l1, by rw [h3, l2]⟩
    · rw [show Ieee.double.read (wid x % signBit) = _ from hm] at h2; cases h2

end Go.Proofs.Ytlhhcchncobmhaa

/- Plain facts: of two numbers in a format's words that are equal, and have one sign, the words are the same; what is the same in single precision.
   Conditions: those that each statement names. No program stands in it. -/
namespace Go.Proofs.Ytlhhcchncobmhaa
set_option linter.unusedSimpArgs false
set_option linter.unusedVariables false
open Go

namespace Flo
open Ieee
/-- the size of a rung, in units of the least place -/
def rungV (B r : Nat) : Nat := if r < B then r else (B + r % B) * 2 ^ (r / B - 1)
theorem rungV_succ (B r : Nat) (hB : 0 < B) : rungV B r < rungV B (r + 1) := by
  unfold rungV
  by_cases h : r + 1 < B
  · rw [if_pos h, if_pos (by omega)]; omega
  · rw [if_neg h]
    by_cases h1 : r < B
    · have e : r + 1 = B := by omega
      rw [if_pos h1, e, Nat.mod_self, Nat.div_self hB]
      simp; omega
    · rw [if_neg h1]
      have hd : 1 ≤ r / B := (Nat.le_div_iff_mul_le hB).2 (by omega)
      by_cases h2 : r % B + 1 < B
      · have e1 : (r + 1) % B = r % B + 1 := by rw [Nat.add_mod, Nat.mod_eq_of_lt (show 1 < B by omega)]; exact Nat.mod_eq_of_lt h2
        have e2 : (r + 1) / B = r / B := by
          have a := Nat.div_add_mod r B
          rw [show r + 1 = B * (r / B) + (r % B + 1) from by omega, Nat.mul_add_div hB, Nat.div_eq_of_lt h2]; omega
        rw [e1, e2]
        exact Nat.mul_lt_mul_of_pos_right (by omega) (Nat.two_pow_pos _)
      · have hlt := Nat.mod_lt r hB
        have e0 : r + 1 = B * (r / B + 1) := by have a := Nat.div_add_mod r B; rw [Nat.mul_add]; omega
        have e1 : (r + 1) % B = 0 := by rw [e0]; exact Nat.mul_mod_right _ _
        have e2 : (r + 1) / B = r / B + 1 := by rw [e0]; exact Nat.mul_div_cancel_left _ hB
        rw [e1, e2]
        have e3 : r / B + 1 - 1 = (r / B - 1) + 1 := by omega
        rw [e3, Nat.pow_succ, Nat.mul_comm (2 ^ _) 2, ← Nat.mul_assoc]
        exact Nat.mul_lt_mul_of_pos_right (by omega) (Nat.two_pow_pos _)
theorem rungV_lt (B : Nat) (hB : 0 < B) : ∀ (d r : Nat), rungV B r < rungV B (r + d + 1)
  | 0, r => rungV_succ B r hB
  | d + 1, r => Nat.lt_trans (rungV_lt B hB d r) (rungV_succ B (r + d + 1) hB)
theorem rungV_inj (B : Nat) (hB : 0 < B) {r s : Nat} (h : rungV B r = rungV B s) : r = s := by
  rcases Nat.lt_trichotomy r s with h1 | h1 | h1
  · have := rungV_lt B hB (s - r - 1) r
    rw [show r + (s - r - 1) + 1 = s by omega] at this; omega
  · exact h1
  · have := rungV_lt B hB (r - s - 1) s
    rw [show s + (r - s - 1) + 1 = r by omega] at this; omega

theorem read_rung (f : Format) {b : Nat} {s : Bool} {m : Nat} {p : Int} (h : f.read b = .number s m p) :
    (b / f.signWeight % 2 == 1) = s ∧ (m : Rat) * pw p = (rungV f.binade (b % f.signWeight) : Rat) * pw f.leastPlace := by
  unfold Format.read at h
  simp only at h
  split at h
  · rename_i h1
    injection h with h2 h3 h4
    subst h3; subst h4
    exact ⟨h2, by unfold rungV; rw [if_pos h1]⟩
  · rename_i h1
    split at h
    · rename_i h5
      injection h with h2 h3 h4
      subst h3; subst h4
      refine ⟨h2, ?_⟩
      unfold rungV
      rw [if_neg h1, Int.add_comm, pw_add, pw_nat]
      push_cast
      grind
    · split at h <;> cases h

/-- NUMBERS THAT ARE EQUAL AND HAVE ONE SIGN ARE ONE WORD -/
theorem read_inj (f : Format) {a b : Nat} {s : Bool} {m n : Nat} {p q : Int} (ha : f.read a = .number s m p) (hb : f.read b = .number s n q) (hal : a < 2 * f.signWeight) (hbl : b < 2 * f.signWeight) (h : (m : Rat) * pw p = (n : Rat) * pw q) : a = b := by
  obtain ⟨a1, a2⟩ := read_rung f ha
  obtain ⟨b1, b2⟩ := read_rung f hb
  rw [a2, b2] at h
  have hp := pw_pos f.leastPlace
  have h2 : (rungV f.binade (a % f.signWeight) : Rat) = (rungV f.binade (b % f.signWeight) : Rat) := by
    have h3 : ((rungV f.binade (a % f.signWeight) : Rat) - (rungV f.binade (b % f.signWeight) : Rat)) * pw f.leastPlace = 0 := by grind
    rcases Rat.mul_eq_zero.1 h3 with h4 | h4
    · grind
    · grind
  have h4 := rungV_inj f.binade (bin_pos f) (Rat.natCast_inj.1 h2)
  have hs := sw_pos f
  have e1 := Nat.div_add_mod a f.signWeight
  have e2 := Nat.div_add_mod b f.signWeight
  have l1 : a / f.signWeight < 2 := (Nat.div_lt_iff_lt_mul hs).2 hal
  have l2 : b / f.signWeight < 2 := (Nat.div_lt_iff_lt_mul hs).2 hbl
  have e3 : a / f.signWeight = b / f.signWeight := by
    rw [← b1] at a1
    have g1 : a / f.signWeight % 2 = a / f.signWeight := Nat.mod_eq_of_lt l1
    have g2 : b / f.signWeight % 2 = b / f.signWeight := Nat.mod_eq_of_lt l2
    rw [g1, g2] at a1
    have : (a / f.signWeight = 1) ↔ (b / f.signWeight = 1) := by rw [← beq_iff_eq (a := a / f.signWeight), a1, beq_iff_eq]
    omega
  rw [← e1, ← e2, e3, h4]
theorem inf_word (f : Format) {b : Nat} {s : Bool} (h : f.read b = .infinity s) (hb : b < 2 * f.signWeight) : b = f.word s f.infRung := by
  have hs := sw_pos f
  have e1 := Nat.div_add_mod b f.signWeight
  have l1 : b / f.signWeight < 2 := (Nat.div_lt_iff_lt_mul hs).2 hb
  have g1 : b / f.signWeight % 2 = b / f.signWeight := Nat.mod_eq_of_lt l1
  unfold Format.read at h
  simp only at h
  split at h
  · cases h
  · split at h
    · cases h
    · split at h
      · rename_i h1
        injection h with h2
        rw [g1] at h2
        unfold Format.word
        cases s with
        | true =>
          have : b / f.signWeight = 1 := by simpa using h2
          rw [this] at e1; simp; omega
        | false =>
          have : ¬ b / f.signWeight = 1 := by simpa using h2
          have : b / f.signWeight = 0 := by omega
          rw [this] at e1; simp; omega
      · cases h
theorem same_sign {s t : Bool} {m n : Nat} {p q : Int} (h : val s m p = val t n q) (h0 : val s m p ≠ 0) : s = t ∧ (m : Rat) * pw p = (n : Rat) * pw q := by
  have a := Rat.mul_nonneg (show (0 : Rat) ≤ m by exact_mod_cast Nat.zero_le m) (Rat.le_of_lt (pw_pos p))
  have b := Rat.mul_nonneg (show (0 : Rat) ≤ n by exact_mod_cast Nat.zero_le n) (Rat.le_of_lt (pw_pos q))
  unfold val at h h0
  cases s <;> cases t <;> simp at h h0 ⊢ <;> grind
theorem val_zero_mag {s : Bool} {m : Nat} {p : Int} (h : val s m p = 0) : (m : Rat) * pw p = 0 := by
  unfold val at h
  cases s <;> simp at h ⊢ <;> grind
end Flo

theorem one_over_zero {z : Nat} {s : Bool} {p : Int} (h : Ieee.double.read z = .number s 0 p) : (Ieee.double.order ((floatBits .quo .f64 4607182418800017408 z).getD 0) 0 == some .gt) = !s := by
  have h1 : Ieee.double.read 4607182418800017408 = .number false 4503599627370496 (-52) := by decide
  have h2 : floatBits .quo .f64 4607182418800017408 z = some (Ieee.double.word s Ieee.double.infRung) := by
    show Ieee.double.div 4607182418800017408 z = _
    unfold Ieee.Format.div
    rw [h1, h]
    cases s <;> simp [Ieee.Datum.quotient, Ieee.Format.write]
  rw [h2]
  cases s <;> decide

/-- two of single precision are the same: one word, or both NaN -/
def sameX (x y : Nat) : Bool := x == y || (nan32 x && nan32 y)
theorem sameX_wide {x y : Nat} (hx : nan32 x = false) (hy : nan32 y = false) (lx : x < 2 ^ 32) (ly : y < 2 ^ 32) : sameF (wid x) (wid y) = sameX x y := by
  have esw : 2 * Ieee.single.signWeight = 2 ^ 32 := by decide
  unfold sameX
  rw [hx, hy]
  simp only [Bool.and_self, Bool.or_false]
  by_cases hxy : x = y
  · subst hxy; rw [sameF_self]; simp
  · rw [show (x == y) = false from by simpa using hxy]
    unfold sameF
    rw [wid_nan hx, wid_nan hy]
    simp only [Bool.or_self, Bool.false_eq_true, if_false]
    rw [show FloatKind.f64.format = Ieee.double from rfl]
    cases h1 : Ieee.single.read x with
    | nan s f => unfold nan32 at hx; rw [show FloatKind.f32.decode x = _ from h1] at hx; cases hx
    | infinity s =>
      have k1 := wid_inf h1
      have hz : Ieee.double.read 0 = .number false 0 (-1074) := by decide
      have o1 : (Ieee.double.order (wid x) 0 == some .eq) = false := by unfold Ieee.Format.order; rw [k1, hz]; cases s <;> rfl
      rw [o1]
      simp only [Bool.false_and, Bool.false_eq_true, if_false]
      cases h2 : Ieee.single.read y with
      | nan s f => unfold nan32 at hy; rw [show FloatKind.f32.decode y = _ from h2] at hy; cases hy
      | infinity t =>
        have hst : s ≠ t := by
          intro e; subst e
          exact hxy ((Flo.inf_word _ h1 (by omega)).trans (Flo.inf_word _ h2 (by omega)).symm)
        unfold Ieee.Format.order; rw [k1, wid_inf h2]
        cases s <;> cases t <;> first | (exfalso; exact hst rfl) | rfl
      | number t n j =>
        obtain ⟨m', p', k2, -⟩ := wid_read h2
        unfold Ieee.Format.order; rw [k1, k2]; cases s <;> rfl
    | number s m i =>
      obtain ⟨m', i', k1, e1⟩ := wid_read h1
      cases h2 : Ieee.single.read y with
      | nan s f => unfold nan32 at hy; rw [show FloatKind.f32.decode y = _ from h2] at hy; cases hy
      | infinity t =>
        have k2 := wid_inf h2
        have hz : Ieee.double.read 0 = .number false 0 (-1074) := by decide
        have o1 : (Ieee.double.order (wid y) 0 == some .eq) = false := by unfold Ieee.Format.order; rw [k2, hz]; cases t <;> rfl
        rw [o1]
        simp only [Bool.and_false, Bool.false_eq_true, if_false]
        unfold Ieee.Format.order; rw [k1, k2]; cases t <;> rfl
      | number t n j =>
        obtain ⟨n', j', k2, e2⟩ := wid_read h2
        have ox := Flo.order_num Ieee.double (wid x) 0 ⟨_, _, _, k1⟩ zero_num.1
        have oy := Flo.order_num Ieee.double (wid y) 0 ⟨_, _, _, k2⟩ zero_num.1
        have o := Flo.order_num Ieee.double (wid x) (wid y) ⟨_, _, _, k1⟩ ⟨_, _, _, k2⟩
        rw [show Flo.V Ieee.double 0 = 0 from zero_num.2, Flo.V_eq k1] at ox
        rw [show Flo.V Ieee.double 0 = 0 from zero_num.2, Flo.V_eq k2] at oy
        rw [Flo.V_eq k1, Flo.V_eq k2] at o
        have hinj : s = t → (m' : Rat) * Flo.pw i' = (n' : Rat) * Flo.pw j' → False := by
          intro es ev
          subst es
          exact hxy (Flo.read_inj _ h1 h2 (by omega) (by omega) (by rw [← e1, ← e2]; exact ev))
        split
        · rename_i hz
          simp only [Bool.and_eq_true, beq_iff_eq] at hz
          have z1 := Flo.val_zero_mag (ox.2.1.1 hz.1)
          have z2 := Flo.val_zero_mag (oy.2.1.1 hz.2)
          have m0 : m' = 0 := by
            rcases Rat.mul_eq_zero.1 z1 with h | h
            · exact_mod_cast h
            · have := Flo.pw_pos i'; grind
          have n0 : n' = 0 := by
            rcases Rat.mul_eq_zero.1 z2 with h | h
            · exact_mod_cast h
            · have := Flo.pw_pos j'; grind
          subst m0; subst n0
          rw [one_over_zero k1, one_over_zero k2]
          cases s <;> cases t <;> first | rfl | (exfalso; exact hinj rfl (by rw [z1, z2]))
        · rename_i hz
          cases ho : (Ieee.double.order (wid x) (wid y) == some .eq) with
          | false => rfl
          | true =>
            exfalso
            have ev := o.2.1.1 (by simpa using ho)
            by_cases h0 : Flo.val s m' i' = 0
            · apply hz
              rw [ox.2.1.2 h0, oy.2.1.2 (by rw [← ev]; exact h0)]; rfl
            · obtain ⟨q1, q2⟩ := Flo.same_sign ev h0
              exact hinj q1 q2
theorem sameX_any {x y : Nat} (lx : x < 2 ^ 32) (ly : y < 2 ^ 32) (w1 w2 : World) : sameF (fcv w1 .f32 x .f64) (fcv w2 .f32 y .f64) = sameX x y := by
  cases hx : nan32 x with
  | true =>
    have h1 := nan_wide hx w1
    cases hy : nan32 y with
    | true =>
      have h2 := nan_wide hy w2
      unfold sameF sameX; rw [h1, h2, hx, hy]; simp
    | false =>
      have h2 := wid_nan hy
      rw [fcv_wide hy]
      unfold sameF sameX; rw [h1, h2, hx, hy]
      have : x ≠ y := by intro e; subst e; rw [hx] at hy; cases hy
      simp [this]
  | false =>
    cases hy : nan32 y with
    | true =>
      have h1 := wid_nan hx
      have h2 := nan_wide hy w2
      rw [fcv_wide hx]
      unfold sameF sameX; rw [h1, h2, hx, hy]
      have : x ≠ y := by intro e; subst e; rw [hx] at hy; cases hy
      simp [this]
    | false => rw [fcv_wide hx, fcv_wide hy, sameX_wide hx hy lx ly]
theorem sameX_self (x : Nat) : sameX x x = true := by unfold sameX; simp

end Go.Proofs.Ytlhhcchncobmhaa

/- Plain facts: rounding is monotone, and what is written of a number depends on its value alone. No program stands in it.
   Conditions: those that each statement names. -/
namespace Go.Proofs.Ytlhhcchncobmhaa
set_option linter.unusedSimpArgs false
set_option linter.unusedVariables false
open Go
open Ieee
namespace Flo

/-- a tie goes to the even one -/
theorem cut_tie (neg : Bool) (n drop : Nat) (h : 2 * (Toward.even.cut neg n drop * 2 ^ drop) = 2 * n + 2 ^ drop ∨ 2 * n = 2 * (Toward.even.cut neg n drop * 2 ^ drop) + 2 ^ drop) :
    Toward.even.cut neg n drop % 2 = 0 := by
  revert h
  unfold Toward.cut
  simp only [Nat.shiftLeft_eq, Nat.one_mul]
  by_cases hd : drop ≤ n.log2 + 2
  · rw [Nat.min_eq_left hd]
    generalize hg : 2 ^ drop = gap
    have hpos : 0 < gap := by rw [← hg]; exact Nat.two_pow_pos _
    have hdm := Nat.div_add_mod n gap
    have hlt := Nat.mod_lt n hpos
    generalize n / gap = low at *
    generalize n % gap = rest at *
    rw [Nat.add_mul]
    have hc : low * gap = gap * low := Nat.mul_comm _ _
    rw [hc]
    by_cases h1 : gap < 2 * rest
    · simp only [h1, decide_true, Bool.true_or, Bool.toNat_true, Nat.one_mul]; omega
    · by_cases h2 : (gap == 2 * rest && low % 2 == 1) = true
      · simp only [h1, h2, decide_false, Bool.false_or, Bool.toNat_true, Nat.one_mul]
        simp at h2; omega
      · simp only [Bool.not_eq_true] at h2
        simp only [h1, h2, decide_false, Bool.false_or, Bool.toNat_false, Nat.zero_mul]
        simp at h2
        omega
  · have hd' : n.log2 + 2 ≤ drop := by omega
    rw [Nat.min_eq_right hd']
    have hn : n < 2 ^ (n.log2 + 1) := Nat.lt_log2_self
    have hn2 : 2 * n < 2 ^ (n.log2 + 2) := by rw [Nat.pow_succ]; omega
    have hz : n / 2 ^ (n.log2 + 2) = 0 := Nat.div_eq_of_lt (by omega)
    have hm : n % 2 ^ (n.log2 + 2) = n := Nat.mod_eq_of_lt (by omega)
    rw [hz, hm]
    have h1 : ¬ 2 ^ (n.log2 + 2) < 2 * n := by omega
    have h2 : (2 ^ (n.log2 + 2) == 2 * n && 0 % 2 == 1) = false := by simp
    simp only [h1, h2, decide_false, Bool.false_or, Bool.toNat_false, Nat.add_zero]
    intro _; trivial

theorem kept_tie (f : Format) (neg : Bool) (m : Nat) (p : Int)
    (h : 2 * ((keptOf f neg m p : Rat) * pw (lastOf f m p)) = 2 * ((m : Rat) * pw p) + pw (lastOf f m p) ∨ 2 * ((m : Rat) * pw p) = 2 * ((keptOf f neg m p : Rat) * pw (lastOf f m p)) + pw (lastOf f m p)) :
    keptOf f neg m p % 2 = 0 := by
  unfold keptOf at *
  generalize lastOf f m p = l at *
  apply cut_tie
  generalize Toward.even.cut neg (m <<< (p - l).toNat) (l - p).toNat = k at *
  rw [Nat.shiftLeft_eq]
  generalize hs1 : (p - l).toNat = s1 at *
  generalize hs2 : (l - p).toNat = s2 at *
  have e1 : pw p = pw s1 * pw (l - s2) := by rw [← pw_add]; congr 1; omega
  have e2 : pw l = pw s2 * pw (l - s2) := by rw [← pw_add]; congr 1; omega
  rw [e1, e2] at h
  have hp := pw_pos (l - s2)
  generalize pw (l - s2) = t at *
  have key : ∀ a b : Rat, a * t = b * t → a = b := fun a b h => by
    have h1 : a * t ≤ b * t := by grind
    have h2 : b * t ≤ a * t := by grind
    have := Rat.le_of_mul_le_mul_right h1 hp
    have := Rat.le_of_mul_le_mul_right h2 hp
    grind
  rcases h with h | h
  · left
    have h' := key (2 * (k * pw s2)) (2 * (m * pw s1) + pw s2) (by grind)
    rw [pw_nat, pw_nat] at h'
    exact_mod_cast h'
  · right
    have h' := key (2 * (m * pw s1)) (2 * (k * pw s2) + pw s2) (by grind)
    rw [pw_nat, pw_nat] at h'
    exact_mod_cast h'

/-- WHAT IS KEPT GROWS WITH THE NUMBER. -/
theorem kept_mono (f : Format) (s t : Bool) (m n : Nat) (p q : Int) (hm : m ≠ 0) (hn : n ≠ 0) (h : (m : Rat) * pw p ≤ (n : Rat) * pw q) :
    (keptOf f s m p : Rat) * pw (lastOf f m p) ≤ (keptOf f t n q : Rat) * pw (lastOf f n q) := by
  have z1 := size_pw m p hm
  have z2 := size_pw n q hn
  have z3 : p + (m.log2 : Int) < q + n.log2 + 1 := lt_of_pw_lt (by grind)
  have hl : lastOf f m p ≤ lastOf f n q := by unfold lastOf; omega
  obtain ⟨a1, a2⟩ := kept_near f s m p
  obtain ⟨b1, b2⟩ := kept_near f t n q
  rcases Int.lt_or_le (lastOf f m p) (lastOf f n q) with hlt | hge
  · have hb := le_kept f t n q hn (by unfold lastOf at *; omega)
    have ha := kept_le f s m p hm
    have ha' : (keptOf f s m p : Rat) ≤ ((2 ^ (f.fractionBits + 1) : Nat) : Rat) := by exact_mod_cast ha
    have hb' : ((2 ^ f.fractionBits : Nat) : Rat) ≤ (keptOf f t n q : Rat) := by exact_mod_cast hb
    rw [← pw_nat] at ha' hb'
    have g1 := Rat.mul_le_mul_of_nonneg_right ha' (Rat.le_of_lt (pw_pos (lastOf f m p)))
    have g2 := Rat.mul_le_mul_of_nonneg_right hb' (Rat.le_of_lt (pw_pos (lastOf f n q)))
    rw [← pw_add] at g1 g2
    have g3 : pw (((f.fractionBits + 1 : Nat) : Int) + lastOf f m p) ≤ pw ((f.fractionBits : Int) + lastOf f n q) := pw_le (by omega)
    grind
  · have he : lastOf f n q = lastOf f m p := by omega
    have t1 := kept_tie f s m p
    have t2 := kept_tie f t n q
    rw [he] at b1 b2 t2 ⊢
    generalize keptOf f s m p = kx at *
    generalize keptOf f t n q = ky at *
    have hp := pw_pos (lastOf f m p)
    generalize pw (lastOf f m p) = L at *
    rcases Nat.lt_or_ge ky kx with hk | hk
    · exfalso
      have hk' : ((ky + 1 : Nat) : Rat) ≤ (kx : Rat) := by exact_mod_cast hk
      rw [show ((ky + 1 : Nat) : Rat) = (ky : Rat) + 1 from by exact_mod_cast rfl] at hk'
      have g := Rat.mul_le_mul_of_nonneg_right hk' (Rat.le_of_lt hp)
      have u1 := t1 (.inl (by grind))
      have u2 := t2 (.inr (by grind))
      have e1 : ((kx : Rat) - (ky + 1)) * L = 0 := by grind
      have hk2 : ((ky + 2 : Nat) : Rat) ≤ (kx : Rat) := by exact_mod_cast (by omega : ky + 2 ≤ kx)
      rw [show ((ky + 2 : Nat) : Rat) = (ky : Rat) + 2 from by exact_mod_cast rfl] at hk2
      have g' := Rat.mul_le_mul_of_nonneg_right hk2 (Rat.le_of_lt hp)
      grind
    · have hk' : (kx : Rat) ≤ (ky : Rat) := by exact_mod_cast hk
      exact Rat.mul_le_mul_of_nonneg_right hk' (Rat.le_of_lt hp)

theorem mag_nonneg (m : Nat) (p : Int) : 0 ≤ (m : Rat) * pw p := Rat.mul_nonneg (by exact_mod_cast Nat.zero_le m) (Rat.le_of_lt (pw_pos p))
theorem mag_zero {m : Nat} {p : Int} (h : (m : Rat) * pw p ≤ 0) : m = 0 := by
  rcases Nat.eq_zero_or_pos m with h0 | h0
  · exact h0
  · exfalso
    have h1 := (size_pw m p (by omega)).1
    have := pw_pos (p + (m.log2 : Int))
    grind

/-- what is written, read again: the sign stays, the size grows with the number's -/
theorem write_mono (f : Format) (he : 2 ≤ f.exponentBits) (s t : Bool) (m n : Nat) (p q : Int) (h : (m : Rat) * pw p ≤ (n : Rat) * pw q) (hB : (n : Rat) * pw q < pw (top f)) :
    ∃ m' p' n' q', f.read (f.write (.number s m p)) = .number s m' p' ∧ f.read (f.write (.number t n q)) = .number t n' q' ∧ (m' : Rat) * pw p' ≤ (n' : Rat) * pw q' := by
  have e1 : f.write (.number s m p) = f.nearest s m p := rfl
  have e2 : f.write (.number t n q) = f.nearest t n q := rfl
  rw [e1, e2]
  by_cases hm : m = 0
  · subst hm
    have : f.nearest s 0 p = f.word s 0 := by unfold Format.nearest; simp
    rw [this, zero_read]
    by_cases hn : n = 0
    · subst hn
      have : f.nearest t 0 q = f.word t 0 := by unfold Format.nearest; simp
      rw [this, zero_read]
      exact ⟨_, _, _, _, rfl, rfl, by simp⟩
    · obtain ⟨n', q', h1, h2, h3, h4⟩ := read_nearest f t n q hn (rung_lt f t n q hn he hB)
      exact ⟨_, _, _, _, rfl, h1, by have := mag_nonneg n' q'; simp; grind⟩
  · have hn : n ≠ 0 := by
      intro hn; subst hn
      exact hm (mag_zero (by simpa using h))
    obtain ⟨n', q', h1, h2, h3, h4⟩ := read_nearest f t n q hn (rung_lt f t n q hn he hB)
    obtain ⟨m', p', k1, k2, k3, k4⟩ := read_nearest f s m p hm (rung_lt f s m p hm he (by grind))
    refine ⟨_, _, _, _, k1, h1, ?_⟩
    rw [k2, h2]
    exact kept_mono f s t m n p q hm hn h

end Flo
end Go.Proofs.Ytlhhcchncobmhaa

/- Plain facts on numbers of double precision that are integers times a power of two: their sums, differences and products, and quotients by a power of two, are exact. No program stands in it.
   Conditions: those that each statement names. -/
namespace Go.Proofs.Ytlhhcchncobmhaa.Flo
set_option linter.unusedSimpArgs false
set_option linter.unusedVariables false
open Go Ieee

/-- a number that is n times 2^e -/
def Dy (e n : Int) (b : Nat) : Prop := Nm b ∧ W b = (n : Rat) * pw e

theorem natAbs_rat (n : Int) : ((n.natAbs : Nat) : Rat) = if n < 0 then -(n : Rat) else (n : Rat) := by
  split
  · rename_i h
    have : ((n.natAbs : Nat) : Int) = -n := by omega
    rw [← Rat.intCast_natCast, this]; push_cast; rfl
  · rename_i h
    have : ((n.natAbs : Nat) : Int) = n := by omega
    rw [← Rat.intCast_natCast, this]

theorem write_dy (s : Bool) (m : Nat) (p : Int) (e n : Int) (h : val s m p = (n : Rat) * pw e) (hn : n.natAbs < 9007199254740992) (he : -1074 ≤ e) (he2 : e ≤ 960) :
    Dy e n (Ieee.double.write (.number s m p)) := by
  have a1 : (0 : Rat) ≤ (m : Rat) * pw p := by
    have a1 : (0 : Rat) ≤ m := by exact_mod_cast Nat.zero_le m
    exact Rat.mul_nonneg a1 (Rat.le_of_lt (pw_pos p))
  have hk : (m : Rat) * pw p = ((n.natAbs : Nat) : Rat) * pw e := by
    rw [natAbs_rat]
    have pe := pw_pos e
    unfold val at h
    by_cases hn0 : n < 0
    · have hn1 : (n : Rat) < 0 := by exact_mod_cast hn0
      have := Rat.mul_pos (show 0 < -(n : Rat) by grind) pe
      rw [if_pos hn0]
      cases s <;> simp at h <;> grind
    · have hn1 : 0 ≤ (n : Rat) := by exact_mod_cast (show (0 : Int) ≤ n by omega)
      have := Rat.mul_nonneg hn1 (Rat.le_of_lt pe)
      rw [if_neg hn0]
      cases s <;> simp at h <;> grind
  have hB : (m : Rat) * pw p < pw (top Ieee.double) := by
    rw [hk, top_double]
    by_cases h0 : n.natAbs = 0
    · rw [h0]; have := pw_pos 1023; simp; grind
    · have b1 := (size_pw n.natAbs e h0).2
      have b2 : n.natAbs.log2 < 53 := (Nat.log2_lt h0).2 hn
      have b3 := pw_le (show e + (n.natAbs.log2 : Int) + 1 ≤ 1023 by omega)
      grind
  obtain ⟨m', p', w1, -, -, w4⟩ := write_exact Ieee.double (by decide) s m p n.natAbs e hk hn (by rw [lp_double]; omega) hB
  refine ⟨⟨_, _, _, w1⟩, ?_⟩
  rw [show W (Ieee.double.write (.number s m p)) = _ from V_eq w1, ← h]
  unfold val
  rw [w4]

theorem dy_int (n : Int) (hn : n.natAbs < 9007199254740992) : Dy 0 n (floatOfInt .f64 n) := by
  obtain ⟨h1, h2⟩ := int_double n hn
  exact ⟨h1, by rw [h2, pw_zero]; grind⟩

theorem dy_add {e m n : Int} {x y : Nat} (hx : Dy e m x) (hy : Dy e n y) (h : (m + n).natAbs < 9007199254740992) (he : -1074 ≤ e) (he2 : e ≤ 960) :
    ∃ r, floatBits .add .f64 x y = some r ∧ Dy e (m + n) r := by
  obtain ⟨⟨s, a, i, hx⟩, vx⟩ := hx
  obtain ⟨⟨t, b, j, hy⟩, vy⟩ := hy
  obtain ⟨q, k, c, h3, h4⟩ := sum_val s t a b i j
  rw [show W x = _ from V_eq hx] at vx
  rw [show W y = _ from V_eq hy] at vy
  show ∃ r, Ieee.double.add x y = some r ∧ _
  unfold Format.add
  rw [hx, hy, h3]
  exact ⟨_, rfl, write_dy q k c e (m + n) (by rw [h4, vx, vy]; push_cast; grind) h he he2⟩

theorem dy_sub {e m n : Int} {x y : Nat} (hx : Dy e m x) (hy : Dy e n y) (h : (m - n).natAbs < 9007199254740992) (he : -1074 ≤ e) (he2 : e ≤ 960) :
    ∃ r, floatBits .sub .f64 x y = some r ∧ Dy e (m - n) r := by
  obtain ⟨⟨s, a, i, hx⟩, vx⟩ := hx
  obtain ⟨⟨t, b, j, hy⟩, vy⟩ := hy
  obtain ⟨q, k, c, h3, h4⟩ := sum_val s (!t) a b i j
  rw [val_opp] at h4
  rw [show W x = _ from V_eq hx] at vx
  rw [show W y = _ from V_eq hy] at vy
  show ∃ r, Ieee.double.sub x y = some r ∧ _
  unfold Format.sub
  rw [hx, hy, show (Datum.number t b j).opposite = .number (!t) b j from rfl, h3]
  exact ⟨_, rfl, write_dy q k c e (m - n) (by rw [h4, vx, vy]; push_cast; grind) h he he2⟩

theorem dy_mul {e f m n : Int} {x y : Nat} (hx : Dy e m x) (hy : Dy f n y) (h : (m * n).natAbs < 9007199254740992) (he : -1074 ≤ e + f) (he2 : e + f ≤ 960) :
    ∃ r, floatBits .mul .f64 x y = some r ∧ Dy (e + f) (m * n) r := by
  obtain ⟨⟨s, a, i, hx⟩, vx⟩ := hx
  obtain ⟨⟨t, b, j, hy⟩, vy⟩ := hy
  rw [show W x = _ from V_eq hx] at vx
  rw [show W y = _ from V_eq hy] at vy
  show ∃ r, Ieee.double.mul x y = some r ∧ _
  unfold Format.mul
  rw [hx, hy, show Datum.product (.number s a i) (.number t b j) = some (.number (s ^^ t) (a * b) (i + j)) from rfl]
  exact ⟨_, rfl, write_dy _ _ _ _ _ (by rw [val_mul, vx, vy, pw_add]; push_cast; grind) h he he2⟩

/-- a quotient by 2^d -/
theorem dy_div {e n d : Int} {x y : Nat} (hx : Dy e n x) (hy : Ieee.double.read y = .number false 4503599627370496 (d - 52)) (hn : n.natAbs < 9007199254740992) (he : -1074 ≤ e - d) (he2 : e - d ≤ 960) :
    ∃ r, floatBits .quo .f64 x y = some r ∧ Dy (e - d) n r := by
  obtain ⟨⟨s, m, p, hx⟩, vx⟩ := hx
  rw [show W x = _ from V_eq hx] at vx
  obtain ⟨b1, b2, b3⟩ := read_bound Ieee.double (by decide) x s m p hx
  have hm53 : m < 9007199254740992 := b1
  unfold floatBits Ieee.Format.div
  show ∃ r, Option.map Ieee.double.write (Datum.quotient _ (Ieee.double.read x) (Ieee.double.read y)) = some r ∧ _
  rw [hx, hy]
  have hval : val s m (p - d) = (n : Rat) * pw (e - d) := by
    have e1 : val s m (p - d) = val s m p * pw (-d) := by unfold val; rw [show p - d = p + -d from by omega, pw_add]; grind
    rw [e1, vx, show e - d = e + -d from by omega, pw_add]; grind
  by_cases hm : m = 0
  · subst hm
    simp only [Datum.quotient]
    rw [if_neg (by decide)]
    simp only [Nat.zero_shiftLeft, Nat.zero_div, Nat.zero_mod, bne_self_eq_false, Bool.toNat_false, Option.map_some, Bool.xor_false]
    exact ⟨_, rfl, write_dy _ _ _ _ _ (by rw [← hval, val_zero, val_zero]) hn he he2⟩
  · have hl : m.log2 ≤ 52 := by
      have : m.log2 < 53 := (Nat.log2_lt hm).2 (by simpa using hm53)
      omega
    have hl2 : Nat.log2 4503599627370496 = 52 := by decide
    simp only [Datum.quotient]
    rw [if_neg (by decide), hl2]
    rw [show (FloatKind.f64.format.fractionBits + 2 + 52 - m.log2 : Nat) = 52 + (54 - m.log2) from by
      have : FloatKind.f64.format.fractionBits = 52 := rfl
      omega]
    generalize hk : 54 - m.log2 = k
    have e1 : m <<< (52 + k) = m * 2 ^ k * 4503599627370496 := by
      rw [Nat.shiftLeft_eq, Nat.add_comm, Nat.pow_add, Nat.mul_assoc]
    rw [e1, Nat.mul_div_cancel _ (by decide), Nat.mul_mod_left]
    simp only [bne_self_eq_false, Bool.toNat_false, Nat.add_zero, Option.map_some, Bool.xor_false]
    have hv : ((2 * (m * 2 ^ k) : Nat) : Rat) * pw (p - (d - 52) - ((52 + k : Nat) : Int) - 1) = (m : Rat) * pw (p - d) := by
      have e : pw (p - d) = pw ((k + 1 : Nat) : Int) * pw (p - (d - 52) - ((52 + k : Nat) : Int) - 1) := by rw [← pw_add]; congr 1; omega
      rw [e, pw_nat, Nat.pow_succ]
      push_cast
      grind
    refine ⟨_, rfl, write_dy _ _ _ _ _ ?_ hn he he2⟩
    rw [← hval]
    unfold val
    rw [hv]

end Go.Proofs.Ytlhhcchncobmhaa.Flo

/- Plain: of two sums of powers, four numbers tell the sum and the product of the bases, in whole numbers.
   Conditions: those that each statement names. -/
namespace Go.Proofs.Ytlhhcchncobmhaa
set_option linter.unusedSimpArgs false
set_option linter.unusedVariables false

def gmz (x y : Int × Int) : Int × Int := (x.1 * y.1 - x.2 * y.2, x.1 * y.2 + x.2 * y.1)
def ga (x y : Int × Int) : Int × Int := (x.1 + y.1, x.2 + y.2)
def gs (x y : Int × Int) : Int × Int := (x.1 - y.1, x.2 - y.2)
def zK (a b p q : Int × Int) : Nat → Int × Int
  | 0 => ga a b
  | 1 => ga (gmz a p) (gmz b q)
  | 2 => ga (gmz (gmz a p) p) (gmz (gmz b q) q)
  | _ => ga (gmz (gmz (gmz a p) p) p) (gmz (gmz (gmz b q) q) q)
def dK (a b p q : Int × Int) : Int × Int := gs (gmz (zK a b p q 1) (zK a b p q 1)) (gmz (zK a b p q 0) (zK a b p q 2))
def sK (a b p q : Int × Int) : Int × Int := gs (gmz (zK a b p q 1) (zK a b p q 2)) (gmz (zK a b p q 0) (zK a b p q 3))
def tK (a b p q : Int × Int) : Int × Int := gs (gmz (zK a b p q 2) (zK a b p q 2)) (gmz (zK a b p q 1) (zK a b p q 3))
theorem sK_eq (a b p q : Int × Int) : sK a b p q = gmz (dK a b p q) (ga p q) := by
  obtain ⟨a1, a2⟩ := a; obtain ⟨b1, b2⟩ := b; obtain ⟨p1, p2⟩ := p; obtain ⟨q1, q2⟩ := q
  simp only [sK, dK, zK, gmz, ga, gs, Prod.mk.injEq]
  constructor <;> grind
theorem tK_eq (a b p q : Int × Int) : tK a b p q = gmz (dK a b p q) (gmz p q) := by
  obtain ⟨a1, a2⟩ := a; obtain ⟨b1, b2⟩ := b; obtain ⟨p1, p2⟩ := p; obtain ⟨q1, q2⟩ := q
  simp only [tK, dK, zK, gmz, ga, gs, Prod.mk.injEq]
  constructor <;> grind
theorem dK_eq (a b p q : Int × Int) : dK a b p q = gs (0, 0) (gmz (gmz a b) (gmz (gs p q) (gs p q))) := by
  obtain ⟨a1, a2⟩ := a; obtain ⟨b1, b2⟩ := b; obtain ⟨p1, p2⟩ := p; obtain ⟨q1, q2⟩ := q
  simp only [dK, zK, gmz, ga, gs, Prod.mk.injEq]
  constructor <;> grind
theorem gm_zero {x y : Int × Int} (h : gmz x y = (0, 0)) : x = (0, 0) ∨ y = (0, 0) := by
  obtain ⟨a, b⟩ := x; obtain ⟨c, d⟩ := y
  simp only [gmz, Prod.mk.injEq] at h ⊢
  obtain ⟨h1, h2⟩ := h
  have hn : (a * a + b * b) * (c * c + d * d) = 0 := by
    have : (a * a + b * b) * (c * c + d * d) = (a * c - b * d) * (a * c - b * d) + (a * d + b * c) * (a * d + b * c) := by grind
    rw [this, h1, h2]; rfl
  have sq : ∀ x y : Int, x * x + y * y = 0 → x = 0 ∧ y = 0 := by
    intro x y h
    have hx : 0 ≤ x * x := by rcases Int.le_total 0 x with g | g; exact Int.mul_nonneg g g; exact Int.mul_nonneg_of_nonpos_of_nonpos g g
    have hy : 0 ≤ y * y := by rcases Int.le_total 0 y with g | g; exact Int.mul_nonneg g g; exact Int.mul_nonneg_of_nonpos_of_nonpos g g
    have h1 : x * x = 0 := by omega
    have h2 : y * y = 0 := by omega
    exact ⟨by rcases Int.mul_eq_zero.1 h1 with h | h <;> exact h, by rcases Int.mul_eq_zero.1 h2 with h | h <;> exact h⟩
  rcases Int.mul_eq_zero.1 hn with h | h
  · exact .inl (sq _ _ h)
  · exact .inr (sq _ _ h)
theorem dK_ne (a b p q : Int × Int) (ha : a ≠ (0, 0)) (hb : b ≠ (0, 0)) (hpq : p ≠ q) : dK a b p q ≠ (0, 0) := by
  rw [dK_eq]
  intro h
  have h' : gmz (gmz a b) (gmz (gs p q) (gs p q)) = (0, 0) := by
    generalize gmz (gmz a b) (gmz (gs p q) (gs p q)) = X at h ⊢
    simp only [gs, Prod.mk.injEq] at h
    obtain ⟨h1, h2⟩ := h
    exact Prod.ext (by show _ = (0 : Int); omega) (by show _ = (0 : Int); omega)
  have hd : gs p q ≠ (0, 0) := by
    intro e
    simp only [gs, Prod.mk.injEq] at e
    exact hpq (Prod.ext (by omega) (by omega))
  rcases gm_zero h' with h | h
  · rcases gm_zero h with h | h
    · exact ha h
    · exact hb h
  · rcases gm_zero h with h | h <;> exact hd h
theorem gm_le (x y : Int × Int) (B C : Nat) (h1 : x.1.natAbs ≤ B ∧ x.2.natAbs ≤ B) (h2 : y.1.natAbs ≤ C ∧ y.2.natAbs ≤ C) : (gmz x y).1.natAbs ≤ 2 * (B * C) ∧ (gmz x y).2.natAbs ≤ 2 * (B * C) ∧ (x.1 * y.1).natAbs ≤ B * C ∧ (x.2 * y.2).natAbs ≤ B * C ∧ (x.1 * y.2).natAbs ≤ B * C ∧ (x.2 * y.1).natAbs ≤ B * C := by
  have e : ∀ a b : Int, a.natAbs ≤ B → b.natAbs ≤ C → (a * b).natAbs ≤ B * C := fun a b p q => by rw [Int.natAbs_mul]; exact Nat.mul_le_mul p q
  have e1 := e _ _ h1.1 h2.1
  have e2 := e _ _ h1.2 h2.2
  have e3 := e _ _ h1.1 h2.2
  have e4 := e _ _ h1.2 h2.1
  unfold gmz
  refine ⟨?_, ?_, e1, e2, e3, e4⟩ <;> simp only <;> omega

end Go.Proofs.Ytlhhcchncobmhaa

/- The walks of MakePole, MakeStart and MakeSameComplex: what they draw, and what they say.
   Conditions: those that each statement names. -/
namespace Go.Proofs.Ytlhhcchncobmhaa
set_option linter.unusedSimpArgs false
set_option linter.unusedVariables false
open Go Go.RowKit

theorem sameB_fab {a b : Nat} (h : fab .f64 a = fab .f64 b) : sameB a b = true := by
  by_cases ha : (FloatKind.f64.decode a).isNaN = true
  · have hb : (FloatKind.f64.decode b).isNaN = true := by
      by_cases hb : (FloatKind.f64.decode b).isNaN = true
      · exact hb
      · rw [fab_none ha, fab_some (by simpa using hb)] at h; cases h
    unfold sameB; rw [ha, hb]; rfl
  · have ha' : (FloatKind.f64.decode a).isNaN = false := by simpa using ha
    by_cases hb : (FloatKind.f64.decode b).isNaN = true
    · rw [fab_some ha', fab_none hb] at h; cases h
    · rw [fab_some ha', fab_some (by simpa using hb)] at h
      cases h
      exact sameB_self a

set_option maxRecDepth 100000 in
theorem makeSameComplex_any (a b c d : Nat) (w : World) :
    Calls Try.prog 21 #[.complex .f64 a b, .complex .f64 c d] w fun e w' => e = .returned (.bool (sameB a c && sameB b d)) ∧ w = w' := by
  obtain ⟨p, hp⟩ : ∃ p, p = sameB a c := ⟨_, rfl⟩
  obtain ⟨q, hq⟩ : ∃ q, q = sameB b d := ⟨_, rfl⟩
  have r1 := l8Same_any a c
  have r2 := l8Same_any b d
  rw [← hp] at r1
  rw [← hq] at r2
  rw [← hp, ← hq]
  clear hp hq
  go_enter Try.func21, Try.ntmps21
  go_wp2_with fail
  refine (r1 _).mono ?_
  rintro e w1 ⟨rfl, rfl⟩
  cases p
  · go_wp2_with fail
    go_ret
    exact ⟨rfl, rfl⟩
  · go_wp2_with fail
    refine (r2 _).mono ?_
    rintro e w1 ⟨rfl, rfl⟩
    go_wp2_with fail
    go_ret
    exact ⟨by simp, rfl⟩

/-! ### what a pole is made of -/
theorem floatBits_wf' {op : BinOp} {x y r : Nat} (h : floatBits op .f64 x y = some r) : r < 2 ^ 64 := by have := floatBits_wf h; simpa [Lit.wf] using this
theorem read_1024 : Ieee.double.read 4652218415073722368 = .number false 4503599627370496 (10 - 52) := by decide
theorem read_16 : Ieee.double.read 4625196817309499392 = .number false 4503599627370496 (4 - 52) := by decide
def tenB (i : Int) : Nat := (floatBits .quo .f64 (floatOfInt .f64 i) 4652218415073722368).getD 0
theorem tenB_ok (i : Int) (h : i.natAbs < 9007199254740992) : floatBits .quo .f64 (floatOfInt .f64 i) 4652218415073722368 = some (tenB i) ∧ Flo.Dy (-10) i (tenB i) := by
  obtain ⟨r, h1, h2⟩ := Flo.dy_div (Flo.dy_int i h) read_1024 h (by omega) (by omega)
  unfold tenB
  rw [h1]
  exact ⟨rfl, h2⟩
theorem tenB_lt (i : Int) (h : i.natAbs < 9007199254740992) : tenB i < 2 ^ 64 := floatBits_wf' (tenB_ok i h).1
def sixB (i : Int) : Nat := (floatBits .quo .f64 (floatOfInt .f64 i) 4625196817309499392).getD 0
theorem sixB_ok (i : Int) (h : i.natAbs < 9007199254740992) : floatBits .quo .f64 (floatOfInt .f64 i) 4625196817309499392 = some (sixB i) ∧ Flo.Dy (-4) i (sixB i) := by
  obtain ⟨r, h1, h2⟩ := Flo.dy_div (Flo.dy_int i h) read_16 h (by omega) (by omega)
  unfold sixB
  rw [h1]
  exact ⟨rfl, h2⟩

def PoleB (x y : Nat) : Prop :=
  (∃ i j : Int, i.natAbs ≤ 724 ∧ j.natAbs ≤ 724 ∧ x = tenB i ∧ y = tenB j ∧ (FloatKind.f64.format.order (szd x y) 4598175219545276416 == some .lt) = false) ∨ (x = 4603579539098121011 ∧ y = 13828753015803845018)
theorem PoleB.wz {x y : Nat} (h : PoleB x y) : Wz (x, y) := by
  rcases h with ⟨i, j, hi, hj, rfl, rfl, -⟩ | ⟨rfl, rfl⟩
  · exact ⟨tenB_lt i (by omega), tenB_lt j (by omega)⟩
  · exact ⟨by decide, by decide⟩
def PoleP (w : World) (e : Ending) (w' : World) : Prop := ∃ x y, e = .returned (.complex .f64 x y) ∧ PoleB x y ∧ Below w.heap.size w w'

theorem ten_run (i : Int) (h : i.natAbs < 9007199254740992) : (∀ w, fres w .quo .f64 (floatOfInt .f64 i) 4652218415073722368 = tenB i) ∧ fdr .quo .f64 (floatOfInt .f64 i) 4652218415073722368 = 0 := by
  have q := (tenB_ok i h).1
  exact ⟨fun w => by unfold fres; rw [q], by unfold fdr; rw [q]; rfl⟩

set_option maxRecDepth 100000 in
theorem makePole_any (a : Option Addr) (len cap : Nat) (w : World) (hb : Bys w.heap.size a len w) :
    Calls Try.prog 18 #[.slice a len cap] w (PoleP w) := by
  have Hb := Lib.hid hb
  clear hb
  go_enter Try.func18, Try.ntmps18
  go_wp2_with fail
  refine (l01New_any _ _ _ _ Hb.out).mono ?_
  rintro e w1 ⟨rfl, hat⟩
  go_wp2_with (go_at_call 51; refine (below_at _ _ _ _ _ _ _ (by omega) (by omega) _ (by assumption)).mono ?_; rintro e w2 ⟨x, x0, x1, rfl, hat⟩; have ht := ten_run (x - 724) (by omega); obtain ⟨f1, d1⟩ := ht)
  refine (sizeDouble_fin _ _ _ (tenB_lt _ (by omega)) (tenB_lt _ (by omega)) (tenB_ok _ (by omega)).2.1 (tenB_ok _ (by omega)).2.1).mono ?_
  rintro e w3 ⟨rfl, n3, rfl⟩
  have Hat := Lib.hid (show Below w.heap.size w w2 from hat.below (Nat.le_refl _))
  go_wp2_with fail
  all_goals
    go_ret
    first
      | exact ⟨_, _, rfl, .inr ⟨rfl, rfl⟩, below_drewN Hat.out _⟩
      | exact ⟨_, _, rfl, .inl ⟨_, _, by omega, by omega, rfl, rfl, by assumption⟩, below_drewN Hat.out _⟩

end Go.Proofs.Ytlhhcchncobmhaa

/- Plain: complex numbers whose parts are whole numbers times a power of two; the quotient of such numbers, near what it is.
   Conditions: those that each statement names. -/
namespace Go.Proofs.Ytlhhcchncobmhaa
set_option linter.unusedSimpArgs false
set_option linter.unusedVariables false
open Go Go.RowKit

/-- a complex number whose parts are n times 2^e -/
def DyC (e : Int) (n : Int × Int) (z : Nat × Nat) : Prop := Flo.Dy e n.1 z.1 ∧ Flo.Dy e n.2 z.2
theorem DyC.fab {e : Int} {n : Int × Int} {z : Nat × Nat} (h : DyC e n z) : fabC z = (some z.1, some z.2) := by
  unfold fabC; rw [fab_num h.1.1, fab_num h.2.1]
theorem fab_some_eq {x b : Nat} (h : fab .f64 x = some b) : x = b := by
  unfold Go.Proofs.Ytlhhcchncobmhaa.fab at h
  split at h
  · cases h
  · simpa using h
def Small2 (n : Int × Int) (B : Nat) : Prop := n.1.natAbs ≤ B ∧ n.2.natAbs ≤ B
/-- the product, exact -/
theorem dyC_mul {e f : Int} {m n : Int × Int} {x y : Nat × Nat} (hx : DyC e m x) (hy : DyC f n y) (B C : Nat) (hB : Small2 m B) (hC : Small2 n C) (h : 2 * (B * C) < 9007199254740992) (he : -1000 ≤ e + f) (he2 : e + f ≤ 900) :
    ∃ z : Nat × Nat, mulC (fabC x) (fabC y) = (some z.1, some z.2) ∧ DyC (e + f) (gmz m n) z := by
  obtain ⟨-, -, b1, b2, b3, b4⟩ := gm_le m n B C hB hC
  have b0 := gm_le m n B C hB hC
  obtain ⟨r1, p1, q1⟩ := Flo.dy_mul hx.1 hy.1 (by omega) (by omega) (by omega)
  obtain ⟨r2, p2, q2⟩ := Flo.dy_mul hx.2 hy.2 (by omega) (by omega) (by omega)
  obtain ⟨r3, p3, q3⟩ := Flo.dy_mul hx.1 hy.2 (by omega) (by omega) (by omega)
  obtain ⟨r4, p4, q4⟩ := Flo.dy_mul hx.2 hy.1 (by omega) (by omega) (by omega)
  obtain ⟨u, u1, u2⟩ := Flo.dy_sub q1 q2 (by omega) (by omega) (by omega)
  obtain ⟨v, v1, v2⟩ := Flo.dy_add q3 q4 (by omega) (by omega) (by omega)
  refine ⟨(u, v), ?_, u2, v2⟩
  rw [hx.fab, hy.fab]
  unfold mulC mulRe mulIm
  simp only [fA_some, p1, p2, p3, p4, u1, v1]
theorem dyC_add {e : Int} {m n : Int × Int} {x y : Nat × Nat} (hx : DyC e m x) (hy : DyC e n y) (B : Nat) (hB : Small2 (ga m n) B) (h : B < 9007199254740992) (he : -1000 ≤ e) (he2 : e ≤ 900) :
    ∃ z : Nat × Nat, floatBits .add .f64 x.1 y.1 = some z.1 ∧ floatBits .add .f64 x.2 y.2 = some z.2 ∧ DyC e (ga m n) z := by
  obtain ⟨u, u1, u2⟩ := Flo.dy_add hx.1 hy.1 (by have := hB.1; unfold ga at this; simp only at this; omega) (by omega) (by omega)
  obtain ⟨v, v1, v2⟩ := Flo.dy_add hx.2 hy.2 (by have := hB.2; unfold ga at this; simp only at this; omega) (by omega) (by omega)
  exact ⟨(u, v), u1, v1, u2, v2⟩
theorem dyC_sub {e : Int} {m n : Int × Int} {x y : Nat × Nat} (hx : DyC e m x) (hy : DyC e n y) (B : Nat) (hB : Small2 (gs m n) B) (h : B < 9007199254740992) (he : -1000 ≤ e) (he2 : e ≤ 900) :
    ∃ z : Nat × Nat, floatBits .sub .f64 x.1 y.1 = some z.1 ∧ floatBits .sub .f64 x.2 y.2 = some z.2 ∧ DyC e (gs m n) z := by
  obtain ⟨u, u1, u2⟩ := Flo.dy_sub hx.1 hy.1 (by have := hB.1; unfold gs at this; simp only at this; omega) (by omega) (by omega)
  obtain ⟨v, v1, v2⟩ := Flo.dy_sub hx.2 hy.2 (by have := hB.2; unfold gs at this; simp only at this; omega) (by omega) (by omega)
  exact ⟨(u, v), u1, v1, u2, v2⟩

/-- what the quotient's error is: (e - s)(c, d) = E, parts -/
theorem quo_rest (x y c d E F C K : Rat) (hC : 0 < C) (hcd : (c = C ∨ c = -C) ∨ (d = C ∨ d = -C)) (hc : Flo.Ab c C) (hd : Flo.Ab d C) (h1 : x * c - y * d = E) (h2 : x * d + y * c = F) (hE : Flo.Ab E (K * C)) (hF : Flo.Ab F (K * C)) : Flo.Ab x (2 * K) ∧ Flo.Ab y (2 * K) := by
  have hn : x * (c * c + d * d) = E * c + F * d := by rw [← h1, ← h2]; grind
  have hm : y * (c * c + d * d) = F * c - E * d := by rw [← h1, ← h2]; grind
  have hCC : 0 < C * C := Rat.mul_pos hC hC
  have cc : 0 ≤ c * c := by
    rcases Rat.le_total (a := 0) (b := c) with g | g
    · exact Rat.mul_nonneg g g
    · have := Rat.mul_nonneg (show 0 ≤ -c by grind) (show 0 ≤ -c by grind); grind
  have dd : 0 ≤ d * d := by
    rcases Rat.le_total (a := 0) (b := d) with g | g
    · exact Rat.mul_nonneg g g
    · have := Rat.mul_nonneg (show 0 ≤ -d by grind) (show 0 ≤ -d by grind); grind
  have hN : C * C ≤ c * c + d * d := by
    rcases hcd with (h | h) | (h | h) <;> rw [h] <;> grind
  have b1 : Flo.Ab (E * c + F * d) (2 * K * (C * C)) := ((hE.mul hc).add (hF.mul hd)).mono (by grind)
  have b2 : Flo.Ab (F * c - E * d) (2 * K * (C * C)) := ((hF.mul hc).sub (hE.mul hd)).mono (by grind)
  exact ⟨Flo.Ab.div (y := c * c + d * d) (D := C * C) (by rw [hn]; exact b1) hCC hN, Flo.Ab.div (y := c * c + d * d) (D := C * C) (by rw [hm]; exact b2) hCC hN⟩

theorem dy_abs {e n : Int} {b : Nat} (h : Flo.Dy e n b) : ra (Flo.W b) = ((n.natAbs : Nat) : Rat) * Flo.pw e := by
  have p := Flo.pw_pos e
  rw [h.2, Flo.natAbs_rat]
  unfold ra
  by_cases hn : n < 0
  · have h1 : (n : Rat) < 0 := by exact_mod_cast hn
    have := Rat.mul_pos (show 0 < -(n : Rat) by grind) p
    rw [if_pos hn, if_pos (by grind)]; grind
  · have h1 : 0 ≤ (n : Rat) := by exact_mod_cast (show (0 : Int) ≤ n by omega)
    have := Rat.mul_nonneg h1 (Rat.le_of_lt p)
    rw [if_neg hn, if_neg (by grind)]
/-- a part that is at most 2 -/
theorem dy_two {k n : Int} (hk : -40 ≤ k) (hk0 : k ≤ 0) (h : (n.natAbs : Int) ≤ 2 * 2 ^ (-k).toNat) : Flo.Ab ((n : Rat) * Flo.pw k) 2 := by
  have p := Flo.pw_pos k
  obtain ⟨j, rfl⟩ : ∃ j : Nat, k = -(j : Int) := ⟨(-k).toNat, by omega⟩
  rw [show (-(-(j : Int))).toNat = j from by omega] at h
  have hm := Flo.pw_neg_mul j
  rw [Flo.pw_nat] at hm
  have h1 : ((n.natAbs : Nat) : Rat) ≤ 2 * ((2 ^ j : Nat) : Rat) := by
    have : ((n.natAbs : Nat) : Int) ≤ ((2 * 2 ^ j : Nat) : Int) := by push_cast; exact h
    have h2 : n.natAbs ≤ 2 * 2 ^ j := by exact_mod_cast this
    have h3 : ((n.natAbs : Nat) : Rat) ≤ ((2 * 2 ^ j : Nat) : Rat) := by exact_mod_cast h2
    push_cast at h3 ⊢
    exact h3
  have h2 := Rat.mul_le_mul_of_nonneg_right h1 (Rat.le_of_lt p)
  rw [Flo.natAbs_rat] at h2
  unfold Flo.Ab
  split at h2
  · rename_i hn
    have h3 : (n : Rat) < 0 := by exact_mod_cast hn
    have := Rat.mul_pos (show 0 < -(n : Rat) by grind) p
    constructor <;> grind
  · rename_i hn
    have h3 : 0 ≤ (n : Rat) := by exact_mod_cast (show (0 : Int) ≤ n by omega)
    have := Rat.mul_nonneg h3 (Rat.le_of_lt p)
    constructor <;> grind

/-- THE QUOTIENT, near what it is -/
theorem quo_near (ed k : Int) (n d s : Int × Int) (N D : Nat × Nat) (hed : -100 ≤ ed) (hed2 : ed ≤ 100) (hk : -40 ≤ k) (hk0 : k ≤ 0) (hN : DyC (ed + k) n N) (hD : DyC ed d D) (hn : n = gmz d s) (hd0 : d ≠ (0, 0)) (hd : Small2 d 9007199254740992)
    (hs1 : (s.1.natAbs : Int) ≤ 2 * 2 ^ (-k).toNat) (hs2 : (s.2.natAbs : Int) ≤ 2 * 2 ^ (-k).toNat) :
    ∃ e f, divD N.1 N.2 D.1 D.2 = some (e, f) ∧ Flo.Nm e ∧ Flo.Nm f ∧ Flo.Ab (Flo.W e - (s.1 : Rat) * Flo.pw k) (992 * Flo.u) ∧ Flo.Ab (Flo.W f - (s.2 : Rat) * Flo.pw k) (992 * Flo.u) := by
  have u0 := Flo.u_pos
  have u1 := Flo.u_le
  have t1 := dy_two hk hk0 hs1
  have t2 := dy_two hk hk0 hs2
  generalize hq1 : (s.1 : Rat) * Flo.pw k = q1 at *
  generalize hq2 : (s.2 : Rat) * Flo.pw k = q2 at *
  have w1 : Flo.W N.1 = Flo.W D.1 * q1 - Flo.W D.2 * q2 := by
    rw [hN.1.2, hD.1.2, hD.2.2, hn, ← hq1, ← hq2, Flo.pw_add]
    unfold gmz
    push_cast
    grind
  have w2 : Flo.W N.2 = Flo.W D.1 * q2 + Flo.W D.2 * q1 := by
    rw [hN.2.2, hD.1.2, hD.2.2, hn, ← hq1, ← hq2, Flo.pw_add]
    unfold gmz
    push_cast
    grind
  have a1 := dy_abs hD.1
  have a2 := dy_abs hD.2
  have ped := Flo.pw_pos ed
  -- what a part that is not 0 is
  have key : ∀ m : Int, m.natAbs ≤ 9007199254740992 → m ≠ 0 → ∀ C, C = ((m.natAbs : Nat) : Rat) * Flo.pw ed → 0 < C ∧ 32 * C < Flo.pw 1022 ∧ Flo.et ≤ Flo.u * C := by
    intro m h1 h0 C hC
    have h2 : (1 : Rat) ≤ ((m.natAbs : Nat) : Rat) := by exact_mod_cast (show 1 ≤ m.natAbs by omega)
    have h3 : ((m.natAbs : Nat) : Rat) ≤ Flo.pw 53 := by
      rw [show Flo.pw 53 = ((2 ^ 53 : Nat) : Rat) from Flo.pw_nat 53]
      exact_mod_cast (show m.natAbs ≤ 2 ^ 53 by omega)
    have h4 := Rat.mul_le_mul_of_nonneg_right h2 (Rat.le_of_lt ped)
    have h5 := Rat.mul_le_mul_of_nonneg_right h3 (Rat.le_of_lt ped)
    rw [← Flo.pw_add, ← hC] at h5
    rw [← hC] at h4
    have h6 : Flo.pw (53 + ed) ≤ Flo.pw 153 := Flo.pw_le (by omega)
    have h7 : 32 * Flo.pw 153 < Flo.pw 1022 := by
      have e1 : Flo.pw 158 = 32 * Flo.pw 153 := by rw [show (158 : Int) = 5 + 153 from rfl, Flo.pw_add, show Flo.pw 5 = 32 from Flo.pw_nat 5]
      have e2 : Flo.pw 158 < Flo.pw 1022 := Flo.pw_lt (by omega)
      grind
    have h8 : Flo.pw (-100) ≤ Flo.pw ed := Flo.pw_le (by omega)
    have h9 : Flo.et ≤ Flo.u * Flo.pw (-100) := by
      rw [show Flo.u = Flo.pw (-53) from rfl, ← Flo.pw_add]
      exact Flo.pw_le (by omega)
    have h10 := Rat.mul_le_mul_of_nonneg_left (show Flo.pw (-100) ≤ C by grind) (Rat.le_of_lt u0)
    exact ⟨by grind, by grind, by grind⟩
  have p4 : (8 : Rat) * 4 < Flo.pw 1022 := by
    have e1 : Flo.pw 6 < Flo.pw 1022 := Flo.pw_lt (by omega)
    rw [show Flo.pw 6 = 64 from Flo.pw_nat 6] at e1
    grind
  have p5 : Flo.pw 1022 < Flo.pw 1023 := Flo.pw_lt (by omega)
  have p6 : Flo.et ≤ Flo.u * 4 := by
    have : Flo.et ≤ Flo.u := Flo.pw_le (by omega)
    grind
  have fin_ : ∀ C e f, 0 < C → ((Flo.W D.1 = C ∨ Flo.W D.1 = -C) ∨ (Flo.W D.2 = C ∨ Flo.W D.2 = -C)) → Flo.Ab (Flo.W D.1) C → Flo.Ab (Flo.W D.2) C →
      Flo.Ab (Flo.W e * Flo.W D.1 - Flo.W f * Flo.W D.2 - Flo.W N.1) (124 * (Flo.u * (4 * C))) → Flo.Ab (Flo.W e * Flo.W D.2 + Flo.W f * Flo.W D.1 - Flo.W N.2) (124 * (Flo.u * (4 * C))) →
      Flo.Ab (Flo.W e - q1) (992 * Flo.u) ∧ Flo.Ab (Flo.W f - q2) (992 * Flo.u) := by
    intro C e f hC hcd hc hd g1 g2
    have r := quo_rest (Flo.W e - q1) (Flo.W f - q2) (Flo.W D.1) (Flo.W D.2) (Flo.W e * Flo.W D.1 - Flo.W f * Flo.W D.2 - Flo.W N.1) (Flo.W e * Flo.W D.2 + Flo.W f * Flo.W D.1 - Flo.W N.2) C (496 * Flo.u) hC hcd hc hd (by rw [w1]; grind) (by rw [w2]; grind) (g1.mono (by grind)) (g2.mono (by grind))
    exact ⟨r.1.mono (by grind), r.2.mono (by grind)⟩
  have hsum : 0 < ra (Flo.W D.1) + ra (Flo.W D.2) := by
    have b1 := ra_nonneg (Flo.W D.1)
    have b2 := ra_nonneg (Flo.W D.2)
    by_cases h1 : d.1 = 0
    · have h2 : d.2 ≠ 0 := fun h2 => hd0 (Prod.ext h1 h2)
      have := (key d.2 hd.2 h2 _ a2).1
      grind
    · have := (key d.1 hd.1 h1 _ a1).1
      grind
  cases hge : absGe D.1 D.2 with
  | true =>
    have hle := (absGe_iff D.1 D.2 hD.1.1 hD.2.1).1 hge
    have h1 : d.1 ≠ 0 := by
      intro h1
      rw [h1] at a1
      simp at a1
      have b2 := ra_nonneg (Flo.W D.2)
      grind
    obtain ⟨k1, k2, k3⟩ := key d.1 hd.1 h1 _ a1
    have hc := ra_ab (Flo.W D.1)
    have hdc : Flo.Ab (Flo.W D.2) (ra (Flo.W D.1)) := (ra_ab (Flo.W D.2)).mono hle
    generalize hCq : ra (Flo.W D.1) = C at *
    obtain ⟨e, f, v1, v2, v3, -, -, v4, v5⟩ := Flo.quo_ge N.1 N.2 D.1 D.2 hN.1.1 hN.2.1 hD.1.1 hD.2.1 (4 * C) 4 C (by rw [← hCq]; exact ra_or _) k1 (by grind) hdc
      (by rw [w1]; exact ((hc.mul t1).sub (hdc.mul t2)).mono (by grind)) (by rw [w2]; exact ((hc.mul t2).add (hdc.mul t1)).mono (by grind)) (by grind) rfl p4 k3 (by have k4 := Rat.mul_nonneg (Rat.le_of_lt u0) (Rat.le_of_lt k1); clear key fin_; grind) p6 hge
    obtain ⟨g1, g2⟩ := fin_ C e f k1 (.inl (by rw [← hCq]; exact ra_or _)) hc hdc v4 v5
    exact ⟨e, f, divD_of_main _ _ _ _ _ _ hN.1.1 hN.2.1 hD.1.1 hD.2.1 v2 v3 (by rw [hCq]; exact hsum) v1, v2, v3, g1, g2⟩
  | false =>
    have hlt : ra (Flo.W D.1) ≤ ra (Flo.W D.2) := by
      have : ¬ ra (Flo.W D.2) ≤ ra (Flo.W D.1) := fun g => by rw [(absGe_iff D.1 D.2 hD.1.1 hD.2.1).2 g] at hge; cases hge
      grind
    have h1 : d.2 ≠ 0 := by
      intro h1
      rw [h1] at a2
      simp at a2
      have b2 := ra_nonneg (Flo.W D.1)
      grind
    obtain ⟨k1, k2, k3⟩ := key d.2 hd.2 h1 _ a2
    have hd' := ra_ab (Flo.W D.2)
    have hcd : Flo.Ab (Flo.W D.1) (ra (Flo.W D.2)) := (ra_ab (Flo.W D.1)).mono hlt
    generalize hCq : ra (Flo.W D.2) = C at *
    obtain ⟨e, f, v1, v2, v3, -, -, v4, v5⟩ := Flo.quo_lt N.1 N.2 D.1 D.2 hN.1.1 hN.2.1 hD.1.1 hD.2.1 (4 * C) 4 C (by rw [← hCq]; exact ra_or _) k1 (by grind) hcd
      (by rw [w1]; exact ((hcd.mul t1).sub (hd'.mul t2)).mono (by grind)) (by rw [w2]; exact ((hcd.mul t2).add (hd'.mul t1)).mono (by grind)) (by grind) rfl p4 k3 (by have k4 := Rat.mul_nonneg (Rat.le_of_lt u0) (Rat.le_of_lt k1); clear key fin_; grind) p6 hge
    obtain ⟨g1, g2⟩ := fin_ C e f k1 (.inr (by rw [← hCq]; exact ra_or _)) hcd hd' v4 v5
    exact ⟨e, f, divD_of_main _ _ _ _ _ _ hN.1.1 hN.2.1 hD.1.1 hD.2.1 v2 v3 (by rw [hCq]; exact hsum) v1, v2, v3, g1, g2⟩

/-- THE LAW's TEST of a number that is near: at most 2^-40 away -/
theorem small_near (a b c d : Nat) (x y : Rat) (ha : Flo.Nm a) (hb : Flo.Nm b) (hc : Flo.Nm c) (hd : Flo.Nm d) (hx : Flo.W c = x) (hy : Flo.W d = y) (h1 : Flo.Ab (Flo.W a - x) (1000 * Flo.u)) (h2 : Flo.Ab (Flo.W b - y) (1000 * Flo.u)) (w1 w2 w3 : World) :
    (FloatKind.f64.format.order (fres w3 .add .f64 (labs (fres w1 .sub .f64 a c)) (labs (fres w2 .sub .f64 b d))) (powB 40) == some .lt ||
      FloatKind.f64.format.order (fres w3 .add .f64 (labs (fres w1 .sub .f64 a c)) (labs (fres w2 .sub .f64 b d))) (powB 40) == some .eq) = true := by
  have u0 := Flo.u_pos
  have u1 := Flo.u_le
  have het : Flo.et ≤ Flo.u * Flo.u := by
    rw [show Flo.u = Flo.pw (-53) from rfl, ← Flo.pw_add]
    exact Flo.pw_le (by omega)
  have huu : Flo.u * Flo.u ≤ Flo.u / 1048576 := by
    have := Rat.mul_le_mul_of_nonneg_right u1 (Rat.le_of_lt u0); grind
  have hbig : (1 : Rat) < Flo.pw 1023 := by rw [← Flo.pw_zero]; exact Flo.pw_lt (by omega)
  obtain ⟨r, r1, r2, r3⟩ := Flo.d_sub a c ha hc (1000 * Flo.u) (by rw [hx]; exact h1) (by grind)
  obtain ⟨s, s1, s2, s3⟩ := Flo.d_sub b d hb hd (1000 * Flo.u) (by rw [hy]; exact h2) (by grind)
  rw [hx] at r3
  rw [hy] at s3
  have rr : Flo.Ab (Flo.W r) (1001 * Flo.u) := ((r3.add h1).eq (show Flo.W r - (Flo.W a - x) + (Flo.W a - x) = Flo.W r by grind)).mono (by grind)
  have ss : Flo.Ab (Flo.W s) (1001 * Flo.u) := ((s3.add h2).eq (show Flo.W s - (Flo.W b - y) + (Flo.W b - y) = Flo.W s by grind)).mono (by grind)
  have lr := labs_num r (floatBits_wf' r1) r2
  have ls := labs_num s (floatBits_wf' s1) s2
  have br := ra_le rr
  have bs := ra_le ss
  have nr := ra_nonneg (Flo.W r)
  have ns := ra_nonneg (Flo.W s)
  obtain ⟨t, t1, t2, t3⟩ := Flo.d_add (labs r) (labs s) lr.1 ls.1 (2002 * Flo.u) (by rw [lr.2, ls.2]; exact ⟨by grind, by grind⟩) (by grind)
  have hk := powB_ok 40 (by omega)
  have e40 : Flo.W (powB 40) = 8192 * Flo.u := by
    rw [hk.2, show (-((40 : Nat) : Int)) = 13 + -53 from rfl, Flo.pw_add, show Flo.pw 13 = 8192 from Flo.pw_nat 13]; rfl
  have fr1 : fres w1 .sub .f64 a c = r := by unfold fres; rw [r1]
  have fr2 : fres w2 .sub .f64 b d = s := by unfold fres; rw [s1]
  have fr3 : fres w3 .add .f64 (labs r) (labs s) = t := by unfold fres; rw [t1]
  rw [fr1, fr2, fr3, show FloatKind.f64.format = Ieee.double from rfl, Bool.or_eq_true, beq_iff_eq, beq_iff_eq]
  have o := Flo.order_num Ieee.double t (powB 40) t2 hk.1
  rw [o.1, o.2.1]
  rw [lr.2, ls.2] at t3
  show Flo.W t < Flo.W (powB 40) ∨ Flo.W t = Flo.W (powB 40)
  left
  rw [e40]
  unfold Flo.Ab at t3
  grind

end Go.Proofs.Ytlhhcchncobmhaa

/- Plain: the quotient of numbers where the dividend is near a multiple of the divisor.
   Conditions: those that each statement names. -/
namespace Go.Proofs.Ytlhhcchncobmhaa
set_option linter.unusedSimpArgs false
set_option linter.unusedVariables false
open Go Go.RowKit

theorem ra_of_ab {x C : Rat} (h : x = C ∨ x = -C) (hC : 0 ≤ C) : ra x = C := by
  unfold ra
  rcases h with h | h
  · rw [if_neg (by grind)]; exact h
  · split <;> grind
theorem ra_eq_or {x C : Rat} (h : ra x = C) : x = C ∨ x = -C := by
  rw [← h]; exact ra_or x

/-- a quotient, near what the dividend is of the divisor; C the greater part of the divisor -/
theorem quo_rel (N D : Nat × Nat) (n1 : Flo.Nm N.1) (n2 : Flo.Nm N.2) (m1 : Flo.Nm D.1) (m2 : Flo.Nm D.2) (q1 q2 C d : Rat) (hC : 0 < C) (hcd : (Flo.W D.1 = C ∨ Flo.W D.1 = -C) ∨ (Flo.W D.2 = C ∨ Flo.W D.2 = -C)) (hc : Flo.Ab (Flo.W D.1) C) (hd : Flo.Ab (Flo.W D.2) C)
    (hlo : Flo.pw (-500) ≤ C) (hhi : C ≤ Flo.pw 500) (t1 : Flo.Ab q1 2) (t2 : Flo.Ab q2 2) (d0 : 0 ≤ d) (d1 : d ≤ 1) (h1 : Flo.Ab (Flo.W N.1 - (Flo.W D.1 * q1 - Flo.W D.2 * q2)) (d * C)) (h2 : Flo.Ab (Flo.W N.2 - (Flo.W D.1 * q2 + Flo.W D.2 * q1)) (d * C)) :
    ∃ e f, divD N.1 N.2 D.1 D.2 = some (e, f) ∧ Flo.Nm e ∧ Flo.Nm f ∧ Flo.Ab (Flo.W e - q1) (1240 * Flo.u + 2 * d) ∧ Flo.Ab (Flo.W f - q2) (1240 * Flo.u + 2 * d) := by
  have u0 := Flo.u_pos
  have u1 := Flo.u_le
  have hdC : d * C ≤ C := by have := Rat.mul_le_mul_of_nonneg_right d1 (Rat.le_of_lt hC); grind
  have p4 : (8 : Rat) * 5 < Flo.pw 1022 := by
    have e1 : Flo.pw 6 < Flo.pw 1022 := Flo.pw_lt (by omega)
    rw [show Flo.pw 6 = 64 from Flo.pw_nat 6] at e1
    grind
  have p5 : Flo.pw 1022 < Flo.pw 1023 := Flo.pw_lt (by omega)
  have p6 : Flo.et ≤ Flo.u * 5 := by
    have : Flo.et ≤ Flo.u := Flo.pw_le (by omega)
    grind
  have p7 : 64 * Flo.pw 500 < Flo.pw 1022 := by
    have e1 : Flo.pw 506 = 64 * Flo.pw 500 := by rw [show (506 : Int) = 6 + 500 from rfl, Flo.pw_add, show Flo.pw 6 = 64 from Flo.pw_nat 6]
    have e2 : Flo.pw 506 < Flo.pw 1022 := Flo.pw_lt (by omega)
    grind
  have k3 : Flo.et ≤ Flo.u * C := by
    have h9 : Flo.et ≤ Flo.u * Flo.pw (-500) := by
      rw [show Flo.u = Flo.pw (-53) from rfl, ← Flo.pw_add]
      exact Flo.pw_le (by omega)
    have h10 := Rat.mul_le_mul_of_nonneg_left hlo (Rat.le_of_lt u0)
    grind
  have k4 := Rat.mul_nonneg (Rat.le_of_lt u0) (Rat.le_of_lt hC)
  have b1 : Flo.Ab (Flo.W N.1) (5 * C) := ((h1.add ((hc.mul t1).sub (hd.mul t2))).eq (show _ = Flo.W N.1 by grind)).mono (by grind)
  have b2 : Flo.Ab (Flo.W N.2) (5 * C) := ((h2.add ((hc.mul t2).add (hd.mul t1))).eq (show _ = Flo.W N.2 by grind)).mono (by grind)
  have hsum : 0 < ra (Flo.W D.1) + ra (Flo.W D.2) := by
    have r1 := ra_nonneg (Flo.W D.1)
    have r2 := ra_nonneg (Flo.W D.2)
    rcases hcd with h | h
    · have := ra_of_ab h (Rat.le_of_lt hC); grind
    · have := ra_of_ab h (Rat.le_of_lt hC); grind
  have fin_ : ∀ e f, Flo.Ab (Flo.W e * Flo.W D.1 - Flo.W f * Flo.W D.2 - Flo.W N.1) (124 * (Flo.u * (5 * C))) → Flo.Ab (Flo.W e * Flo.W D.2 + Flo.W f * Flo.W D.1 - Flo.W N.2) (124 * (Flo.u * (5 * C))) →
      Flo.Ab (Flo.W e - q1) (1240 * Flo.u + 2 * d) ∧ Flo.Ab (Flo.W f - q2) (1240 * Flo.u + 2 * d) := by
    intro e f g1 g2
    have r := quo_rest (Flo.W e - q1) (Flo.W f - q2) (Flo.W D.1) (Flo.W D.2) (Flo.W e * Flo.W D.1 - Flo.W f * Flo.W D.2 - Flo.W N.1 + (Flo.W N.1 - (Flo.W D.1 * q1 - Flo.W D.2 * q2))) (Flo.W e * Flo.W D.2 + Flo.W f * Flo.W D.1 - Flo.W N.2 + (Flo.W N.2 - (Flo.W D.1 * q2 + Flo.W D.2 * q1))) C (620 * Flo.u + d) hC hcd hc hd (by grind) (by grind) ((g1.add h1).mono (by grind)) ((g2.add h2).mono (by grind))
    exact ⟨r.1.mono (by grind), r.2.mono (by grind)⟩
  cases hge : absGe D.1 D.2 with
  | true =>
    have hle := (absGe_iff D.1 D.2 m1 m2).1 hge
    have hC1 : Flo.W D.1 = C ∨ Flo.W D.1 = -C := by
      rcases hcd with h | h
      · exact h
      · apply ra_eq_or
        have r1 := ra_of_ab h (Rat.le_of_lt hC)
        have r2 := ra_le hc
        grind
    obtain ⟨e, f, v1, v2, v3, -, -, v4, v5⟩ := Flo.quo_ge N.1 N.2 D.1 D.2 n1 n2 m1 m2 (5 * C) 5 C hC1 hC (by grind) hd b1 b2 (by grind) rfl p4 k3 (by clear fin_; grind) p6 hge
    obtain ⟨g1, g2⟩ := fin_ e f v4 v5
    exact ⟨e, f, divD_of_main _ _ _ _ _ _ n1 n2 m1 m2 v2 v3 hsum v1, v2, v3, g1, g2⟩
  | false =>
    have hlt : ra (Flo.W D.1) ≤ ra (Flo.W D.2) := by
      have : ¬ ra (Flo.W D.2) ≤ ra (Flo.W D.1) := fun g => by rw [(absGe_iff D.1 D.2 m1 m2).2 g] at hge; cases hge
      grind
    have hC2 : Flo.W D.2 = C ∨ Flo.W D.2 = -C := by
      rcases hcd with h | h
      · apply ra_eq_or
        have r1 := ra_of_ab h (Rat.le_of_lt hC)
        have r2 := ra_le hd
        grind
      · exact h
    obtain ⟨e, f, v1, v2, v3, -, -, v4, v5⟩ := Flo.quo_lt N.1 N.2 D.1 D.2 n1 n2 m1 m2 (5 * C) 5 C hC2 hC (by grind) hc b1 b2 (by grind) rfl p4 k3 (by clear fin_; grind) p6 hge
    obtain ⟨g1, g2⟩ := fin_ e f v4 v5
    exact ⟨e, f, divD_of_main _ _ _ _ _ _ n1 n2 m1 m2 v2 v3 hsum v1, v2, v3, g1, g2⟩

/-- a quotient, near what the dividend is of the divisor; C the greater part of the divisor -/
theorem quo_gen (N D : Nat × Nat) (n1 : Flo.Nm N.1) (n2 : Flo.Nm N.2) (m1 : Flo.Nm D.1) (m2 : Flo.Nm D.2) (q1 q2 C d Q T : Rat) (hQ : 1 ≤ Q) (hT : T = 2 * Q + 1) (hT9 : T ≤ 9) (hC : 0 < C) (hcd : (Flo.W D.1 = C ∨ Flo.W D.1 = -C) ∨ (Flo.W D.2 = C ∨ Flo.W D.2 = -C)) (hc : Flo.Ab (Flo.W D.1) C) (hd : Flo.Ab (Flo.W D.2) C)
    (hlo : Flo.pw (-500) ≤ C) (hhi : C ≤ Flo.pw 500) (t1 : Flo.Ab q1 Q) (t2 : Flo.Ab q2 Q) (d0 : 0 ≤ d) (d1 : d ≤ 1) (h1 : Flo.Ab (Flo.W N.1 - (Flo.W D.1 * q1 - Flo.W D.2 * q2)) (d * C)) (h2 : Flo.Ab (Flo.W N.2 - (Flo.W D.1 * q2 + Flo.W D.2 * q1)) (d * C)) :
    ∃ e f, divD N.1 N.2 D.1 D.2 = some (e, f) ∧ Flo.Nm e ∧ Flo.Nm f ∧ Flo.Ab (Flo.W e - q1) (248 * (Flo.u * T) + 2 * d) ∧ Flo.Ab (Flo.W f - q2) (248 * (Flo.u * T) + 2 * d) := by
  have u0 := Flo.u_pos
  have u1 := Flo.u_le
  have hdC : d * C ≤ C := by have := Rat.mul_le_mul_of_nonneg_right d1 (Rat.le_of_lt hC); grind
  have p4 : (8 : Rat) * T < Flo.pw 1022 := by
    have e1 : Flo.pw 7 < Flo.pw 1022 := Flo.pw_lt (by omega)
    rw [show Flo.pw 7 = 128 from Flo.pw_nat 7] at e1
    grind
  have p5 : Flo.pw 1022 < Flo.pw 1023 := Flo.pw_lt (by omega)
  have p6 : Flo.et ≤ Flo.u * T := by
    have : Flo.et ≤ Flo.u := Flo.pw_le (by omega)
    have := Rat.mul_le_mul_of_nonneg_left (show (1 : Rat) ≤ T by grind) (Rat.le_of_lt u0)
    grind
  have p7 : 128 * Flo.pw 500 < Flo.pw 1022 := by
    have e1 : Flo.pw 507 = 128 * Flo.pw 500 := by rw [show (507 : Int) = 7 + 500 from rfl, Flo.pw_add, show Flo.pw 7 = 128 from Flo.pw_nat 7]
    have e2 : Flo.pw 507 < Flo.pw 1022 := Flo.pw_lt (by omega)
    grind
  have k3 : Flo.et ≤ Flo.u * C := by
    have h9 : Flo.et ≤ Flo.u * Flo.pw (-500) := by
      rw [show Flo.u = Flo.pw (-53) from rfl, ← Flo.pw_add]
      exact Flo.pw_le (by omega)
    have h10 := Rat.mul_le_mul_of_nonneg_left hlo (Rat.le_of_lt u0)
    grind
  have k4 := Rat.mul_nonneg (Rat.le_of_lt u0) (Rat.le_of_lt hC)
  have hTC : T * C = 2 * (Q * C) + C := by rw [hT]; grind
  have hTC9 : T * C ≤ 9 * C := Rat.mul_le_mul_of_nonneg_right hT9 (Rat.le_of_lt hC)
  have hCT : C ≤ T * C := by have := Rat.mul_le_mul_of_nonneg_right (show (1:Rat) ≤ T by grind) (Rat.le_of_lt hC); grind
  have huTC : Flo.u * C ≤ Flo.u * (T * C) := Rat.mul_le_mul_of_nonneg_left hCT (Rat.le_of_lt u0)
  have b1 : Flo.Ab (Flo.W N.1) (T * C) := ((h1.add ((hc.mul t1).sub (hd.mul t2))).eq (show _ = Flo.W N.1 by grind)).mono (by grind)
  have b2 : Flo.Ab (Flo.W N.2) (T * C) := ((h2.add ((hc.mul t2).add (hd.mul t1))).eq (show _ = Flo.W N.2 by grind)).mono (by grind)
  have hsum : 0 < ra (Flo.W D.1) + ra (Flo.W D.2) := by
    have r1 := ra_nonneg (Flo.W D.1)
    have r2 := ra_nonneg (Flo.W D.2)
    rcases hcd with h | h
    · have := ra_of_ab h (Rat.le_of_lt hC); grind
    · have := ra_of_ab h (Rat.le_of_lt hC); grind
  have fin_ : ∀ e f, Flo.Ab (Flo.W e * Flo.W D.1 - Flo.W f * Flo.W D.2 - Flo.W N.1) (124 * (Flo.u * (T * C))) → Flo.Ab (Flo.W e * Flo.W D.2 + Flo.W f * Flo.W D.1 - Flo.W N.2) (124 * (Flo.u * (T * C))) →
      Flo.Ab (Flo.W e - q1) (248 * (Flo.u * T) + 2 * d) ∧ Flo.Ab (Flo.W f - q2) (248 * (Flo.u * T) + 2 * d) := by
    intro e f g1 g2
    have r := quo_rest (Flo.W e - q1) (Flo.W f - q2) (Flo.W D.1) (Flo.W D.2) (Flo.W e * Flo.W D.1 - Flo.W f * Flo.W D.2 - Flo.W N.1 + (Flo.W N.1 - (Flo.W D.1 * q1 - Flo.W D.2 * q2))) (Flo.W e * Flo.W D.2 + Flo.W f * Flo.W D.1 - Flo.W N.2 + (Flo.W N.2 - (Flo.W D.1 * q2 + Flo.W D.2 * q1))) C (124 * (Flo.u * T) + d) hC hcd hc hd (by grind) (by grind) ((g1.add h1).mono (by grind)) ((g2.add h2).mono (by grind))
    exact ⟨r.1.mono (by grind), r.2.mono (by grind)⟩
  cases hge : absGe D.1 D.2 with
  | true =>
    have hle := (absGe_iff D.1 D.2 m1 m2).1 hge
    have hC1 : Flo.W D.1 = C ∨ Flo.W D.1 = -C := by
      rcases hcd with h | h
      · exact h
      · apply ra_eq_or
        have r1 := ra_of_ab h (Rat.le_of_lt hC)
        have r2 := ra_le hc
        grind
    obtain ⟨e, f, v1, v2, v3, -, -, v4, v5⟩ := Flo.quo_ge N.1 N.2 D.1 D.2 n1 n2 m1 m2 (T * C) T C hC1 hC (by grind) hd b1 b2 (by grind) rfl p4 k3 (by clear fin_; grind) p6 hge
    obtain ⟨g1, g2⟩ := fin_ e f v4 v5
    exact ⟨e, f, divD_of_main _ _ _ _ _ _ n1 n2 m1 m2 v2 v3 hsum v1, v2, v3, g1, g2⟩
  | false =>
    have hlt : ra (Flo.W D.1) ≤ ra (Flo.W D.2) := by
      have : ¬ ra (Flo.W D.2) ≤ ra (Flo.W D.1) := fun g => by rw [(absGe_iff D.1 D.2 m1 m2).2 g] at hge; cases hge
      grind
    have hC2 : Flo.W D.2 = C ∨ Flo.W D.2 = -C := by
      rcases hcd with h | h
      · apply ra_eq_or
        have r1 := ra_of_ab h (Rat.le_of_lt hC)
        have r2 := ra_le hd
        grind
      · exact h
    obtain ⟨e, f, v1, v2, v3, -, -, v4, v5⟩ := Flo.quo_lt N.1 N.2 D.1 D.2 n1 n2 m1 m2 (T * C) T C hC2 hC (by grind) hc b1 b2 (by grind) rfl p4 k3 (by clear fin_; grind) p6 hge
    obtain ⟨g1, g2⟩ := fin_ e f v4 v5
    exact ⟨e, f, divD_of_main _ _ _ _ _ _ n1 n2 m1 m2 v2 v3 hsum v1, v2, v3, g1, g2⟩

/-! ### one product -/
/-- a product of numbers of double precision whose parts are at most M and 1 -/
theorem mul_box (x y : Nat × Nat) (a1 : Flo.Nm x.1) (a2 : Flo.Nm x.2) (b1 : Flo.Nm y.1) (b2 : Flo.Nm y.2) (M K : Rat) (hM : Flo.pw (-500) ≤ M * K) (hM2 : M * K ≤ Flo.pw 500) (x1 : Flo.Ab (Flo.W x.1) M) (x2 : Flo.Ab (Flo.W x.2) M) (y1 : Flo.Ab (Flo.W y.1) K) (y2 : Flo.Ab (Flo.W y.2) K) :
    ∃ z : Nat × Nat, mulC (fabC x) (fabC y) = (some z.1, some z.2) ∧ Flo.Nm z.1 ∧ Flo.Nm z.2 ∧ Wz z ∧ Flo.Ab (Flo.W z.1 - (Flo.W x.1 * Flo.W y.1 - Flo.W x.2 * Flo.W y.2)) (5 * (Flo.u * (M * K))) ∧ Flo.Ab (Flo.W z.2 - (Flo.W x.1 * Flo.W y.2 + Flo.W x.2 * Flo.W y.1)) (5 * (Flo.u * (M * K))) := by
  have u0 := Flo.u_pos
  have u1 := Flo.u_le
  have p0 := Flo.pw_pos (-500)
  have hMK : 0 ≤ M * K := by grind
  generalize hB : M * K = B at *
  have p7 : 8 * Flo.pw 500 < Flo.pw 1023 := by
    have e1 : Flo.pw 503 = 8 * Flo.pw 500 := by rw [show (503 : Int) = 3 + 500 from rfl, Flo.pw_add, show Flo.pw 3 = 8 from Flo.pw_nat 3]
    have e2 : Flo.pw 503 < Flo.pw 1023 := Flo.pw_lt (by omega)
    grind
  have het : Flo.et ≤ Flo.u * (Flo.u * B) := by
    have h9 : Flo.et ≤ Flo.u * (Flo.u * Flo.pw (-500)) := by
      rw [show Flo.u = Flo.pw (-53) from rfl, ← Flo.pw_add, ← Flo.pw_add]
      exact Flo.pw_le (by omega)
    have h10 := Rat.mul_le_mul_of_nonneg_left hM (Rat.le_of_lt u0)
    have h11 := Rat.mul_le_mul_of_nonneg_left h10 (Rat.le_of_lt u0)
    grind
  have huB := Rat.mul_nonneg (Rat.le_of_lt u0) hMK
  have huB1 : Flo.u * B ≤ B / 1048576 := by have := Rat.mul_le_mul_of_nonneg_right u1 hMK; grind
  have huuB : Flo.u * (Flo.u * B) ≤ (Flo.u * B) / 1048576 := by have := Rat.mul_le_mul_of_nonneg_right u1 huB; grind
  obtain ⟨r1, g1, g2, g3⟩ := Flo.d_mul x.1 y.1 a1 b1 B (by have := x1.mul y1; rwa [hB] at this) (by grind)
  obtain ⟨r2, i1, i2, i3⟩ := Flo.d_mul x.2 y.2 a2 b2 B (by have := x2.mul y2; rwa [hB] at this) (by grind)
  obtain ⟨r3, j1, j2, j3⟩ := Flo.d_mul x.1 y.2 a1 b2 B (by have := x1.mul y2; rwa [hB] at this) (by grind)
  obtain ⟨r4, l1, l2, l3⟩ := Flo.d_mul x.2 y.1 a2 b1 B (by have := x2.mul y1; rwa [hB] at this) (by grind)
  have q1 := x1.mul y1
  have q2 := x2.mul y2
  have q3 := x1.mul y2
  have q4 := x2.mul y1
  rw [hB] at q1 q2 q3 q4
  have B1 : Flo.Ab (Flo.W r1) (2 * B) := ((g3.add q1).eq (show _ = Flo.W r1 by grind)).mono (by grind)
  have B2 : Flo.Ab (Flo.W r2) (2 * B) := ((i3.add q2).eq (show _ = Flo.W r2 by grind)).mono (by grind)
  have B3 : Flo.Ab (Flo.W r3) (2 * B) := ((j3.add q3).eq (show _ = Flo.W r3 by grind)).mono (by grind)
  have B4 : Flo.Ab (Flo.W r4) (2 * B) := ((l3.add q4).eq (show _ = Flo.W r4 by grind)).mono (by grind)
  have C1 : Flo.Ab (Flo.W r1 - Flo.W r2) (5 / 2 * B) := ((g3.sub i3).add (q1.sub q2)).eq (show _ = Flo.W r1 - Flo.W r2 by grind) |>.mono (by grind)
  have C2 : Flo.Ab (Flo.W r3 + Flo.W r4) (5 / 2 * B) := ((j3.add l3).add (q3.add q4)).eq (show _ = Flo.W r3 + Flo.W r4 by grind) |>.mono (by grind)
  obtain ⟨z1, s1, s2, s3⟩ := Flo.d_sub r1 r2 g2 i2 (5 / 2 * B) C1 (by grind)
  obtain ⟨z2, t1, t2, t3⟩ := Flo.d_add r3 r4 j2 l2 (5 / 2 * B) C2 (by grind)
  refine ⟨(z1, z2), ?_, s2, t2, ⟨floatBits_wf' s1, floatBits_wf' t1⟩, ?_, ?_⟩
  · unfold fabC
    rw [fab_num a1, fab_num a2, fab_num b1, fab_num b2]
    unfold mulC mulRe mulIm
    simp only [fA_some, g1, i1, j1, l1, s1, t1]
  · exact ((s3.add (g3.sub i3)).eq (show _ = Flo.W z1 - (Flo.W x.1 * Flo.W y.1 - Flo.W x.2 * Flo.W y.2) by grind)).mono (by grind)
  · exact ((t3.add (j3.add l3)).eq (show _ = Flo.W z2 - (Flo.W x.1 * Flo.W y.2 + Flo.W x.2 * Flo.W y.1) by grind)).mono (by grind)

end Go.Proofs.Ytlhhcchncobmhaa

/- Plain: absolute values of complex numbers, without roots; products and recordings, near what they are exactly.
   Conditions: those that each statement names. -/
namespace Go.Proofs.Ytlhhcchncobmhaa
set_option linter.unusedSimpArgs false
set_option linter.unusedVariables false
open Go Go.RowKit

theorem le_tot (x y : Rat) : x ≤ y ∨ y ≤ x := Rat.le_total
theorem le_of_sqz {X Y : Rat} (hY : 0 ≤ Y) (h : X * X ≤ Y * Y) : X ≤ Y := by
  rcases le_tot X Y with g | g
  · exact g
  · have h1 : 0 ≤ (X - Y) * (X - Y) := Rat.mul_nonneg (by grind) (by grind)
    have h2 : 0 ≤ Y * (X - Y) := Rat.mul_nonneg hY (by grind)
    have h3 : (X - Y) * (X - Y) ≤ 0 := by grind
    have h4 : (X - Y) * (X - Y) = 0 := by grind
    have h5 : X - Y = 0 := by
      rcases le_tot X Y with k | k
      · grind
      · rcases Rat.mul_eq_zero.1 h4 with e | e <;> exact e
    grind
theorem sq_nonneg' (x : Rat) : 0 ≤ x * x := by
  rcases le_tot 0 x with g | g
  · exact Rat.mul_nonneg g g
  · have := Rat.mul_nonneg (show 0 ≤ -x by grind) (show 0 ≤ -x by grind)
    grind
theorem ab_of_sq {X Y : Rat} (hY : 0 ≤ Y) (h : X * X ≤ Y * Y) : Flo.Ab X Y := by
  unfold Flo.Ab
  have h1 := le_of_sqz hY h
  have h2 := le_of_sqz (X := -X) hY (by grind)
  grind
theorem sq_of_ab {X Y : Rat} (h : Flo.Ab X Y) : X * X ≤ Y * Y := by
  have h1 := h.mul h
  exact h1.2
theorem sq_le_sq {X Y : Rat} (h0 : 0 ≤ X) (h : X ≤ Y) : X * X ≤ Y * Y := sq_of_ab ⟨by grind, h⟩

/-- a complex number whose absolute value is at most A times the root of g -/
def Sz (x y A g : Rat) : Prop := 0 ≤ A ∧ 0 ≤ g ∧ x * x + y * y ≤ A * A * g
theorem Sz.mono {x y A B g : Rat} (h : Sz x y A g) (hb : A ≤ B) : Sz x y B g := by
  obtain ⟨h1, h2, h3⟩ := h
  have := Rat.mul_le_mul_of_nonneg_right (sq_le_sq h1 hb) h2
  exact ⟨by grind, h2, by grind⟩
theorem Sz.eq {x y a b A g : Rat} (h : Sz x y A g) (h1 : x = a) (h2 : y = b) : Sz a b A g := h1 ▸ h2 ▸ h
theorem Sz.scale {x y A B g k : Rat} (h : Sz x y A g) (hB : 0 ≤ B) (hk : 0 ≤ k) (hg : g ≤ B * B * k) : Sz x y (A * B) k := by
  obtain ⟨h1, h2, h3⟩ := h
  have := Rat.mul_le_mul_of_nonneg_left hg (Rat.mul_nonneg h1 h1)
  exact ⟨Rat.mul_nonneg h1 hB, hk, by grind⟩
theorem Sz.neg {x y A g : Rat} (h : Sz x y A g) : Sz (-x) (-y) A g := by
  obtain ⟨h1, h2, h3⟩ := h
  exact ⟨h1, h2, by grind⟩
theorem Sz.conj {x y A g : Rat} (h : Sz x y A g) : Sz x (-y) A g := by
  obtain ⟨h1, h2, h3⟩ := h
  exact ⟨h1, h2, by grind⟩
theorem Sz.add {a b c d A B g : Rat} (h : Sz a b A g) (k : Sz c d B g) : Sz (a + c) (b + d) (A + B) g := by
  obtain ⟨h1, h2, h3⟩ := h
  obtain ⟨k1, -, k3⟩ := k
  have hAB : 0 ≤ A * B * g := Rat.mul_nonneg (Rat.mul_nonneg h1 k1) h2
  have e1 : (a * c + b * d) * (a * c + b * d) ≤ (A * B * g) * (A * B * g) := by
    have f1 : (a * a + b * b) * (c * c + d * d) - (a * c + b * d) * (a * c + b * d) = (a * d - b * c) * (a * d - b * c) := by grind
    have f2 := sq_nonneg' (a * d - b * c)
    have f3 : 0 ≤ c * c + d * d := by have := sq_nonneg' c; have := sq_nonneg' d; grind
    have f4 := Rat.mul_le_mul_of_nonneg_right h3 f3
    have f5 := Rat.mul_le_mul_of_nonneg_left k3 (Rat.mul_nonneg (Rat.mul_nonneg h1 h1) h2)
    grind
  have e2 := le_of_sqz hAB e1
  exact ⟨by grind, h2, by grind⟩
theorem Sz.sub {a b c d A B g : Rat} (h : Sz a b A g) (k : Sz c d B g) : Sz (a - c) (b - d) (A + B) g :=
  (h.add k.neg).eq (by grind) (by grind)
theorem Sz.mul {a b c d A B g k : Rat} (h : Sz a b A g) (l : Sz c d B k) : Sz (a * c - b * d) (a * d + b * c) (A * B) (g * k) := by
  obtain ⟨h1, h2, h3⟩ := h
  obtain ⟨k1, k2, k3⟩ := l
  refine ⟨Rat.mul_nonneg h1 k1, Rat.mul_nonneg h2 k2, ?_⟩
  have f1 : (a * c - b * d) * (a * c - b * d) + (a * d + b * c) * (a * d + b * c) = (a * a + b * b) * (c * c + d * d) := by grind
  have f3 : 0 ≤ c * c + d * d := by have := sq_nonneg' c; have := sq_nonneg' d; grind
  have f4 := Rat.mul_le_mul_of_nonneg_right h3 f3
  have f5 := Rat.mul_le_mul_of_nonneg_left k3 (Rat.mul_nonneg (Rat.mul_nonneg h1 h1) h2)
  grind
theorem Sz.self (x y : Rat) : Sz x y 1 (x * x + y * y) := by
  have := sq_nonneg' x
  have := sq_nonneg' y
  exact ⟨by grind, by grind, by grind⟩
theorem Sz.zero (A g : Rat) (hA : 0 ≤ A) (hg : 0 ≤ g) : Sz 0 0 A g :=
  ⟨hA, hg, by have := Rat.mul_nonneg (Rat.mul_nonneg hA hA) hg; grind⟩
/-- of a whole scale: each part is small -/
theorem Sz.parts {x y A h : Rat} (s : Sz x y A (h * h)) (hh : 0 ≤ h) : Flo.Ab x (A * h) ∧ Flo.Ab y (A * h) := by
  obtain ⟨h1, h2, h3⟩ := s
  have := sq_nonneg' x
  have := sq_nonneg' y
  have h4 := Rat.mul_nonneg h1 hh
  exact ⟨ab_of_sq h4 (by grind), ab_of_sq h4 (by grind)⟩
theorem Sz.of_parts {x y M A g : Rat} (h1 : Flo.Ab x M) (h2 : Flo.Ab y M) (hA : 0 ≤ A) (hg : 0 ≤ g) (h : 2 * (M * M) ≤ A * A * g) : Sz x y A g := by
  have := sq_of_ab h1
  have := sq_of_ab h2
  exact ⟨hA, hg, by grind⟩
/-- what is left when a tenth at most is taken away -/
theorem sz_lower {a b c d A : Rat} (h : Sz (c - a) (d - b) A (a * a + b * b)) (hA : A ≤ 1 / 8) : (a * a + b * b) / 2 ≤ c * c + d * d := by
  rcases le_tot ((a * a + b * b) / 2) (c * c + d * d) with g | g
  · exact g
  · obtain ⟨h1, h2, h3⟩ := h
    have k : Sz c d (3 / 4) (a * a + b * b) := ⟨by grind, h2, by grind⟩
    have l := k.sub (Sz.mono ⟨h1, h2, h3⟩ hA)
    have m : Sz a b (3 / 4 + 1 / 8) (a * a + b * b) := l.eq (by grind) (by grind)
    have e1 := m.2.2
    have e2 := sq_nonneg' c
    have e3 := sq_nonneg' d
    clear k l m h3
    grind
theorem sz_upper {a b c d A : Rat} (h : Sz (c - a) (d - b) A (a * a + b * b)) : Sz c d (1 + A) (a * a + b * b) :=
  ((Sz.self a b).add h).eq (by grind) (by grind)

/-! ### numbers of double precision -/
def Okz (z : Nat × Nat) : Prop := Flo.Nm z.1 ∧ Flo.Nm z.2 ∧ Wz z
def nz (z : Nat × Nat) : Rat := Flo.W z.1 * Flo.W z.1 + Flo.W z.2 * Flo.W z.2
theorem nz_nonneg (z : Nat × Nat) : 0 ≤ nz z := by
  unfold nz
  have := sq_nonneg' (Flo.W z.1)
  have := sq_nonneg' (Flo.W z.2)
  grind
theorem Okz.fab {z : Nat × Nat} (h : Okz z) : fabC z = (some z.1, some z.2) := by
  unfold fabC
  rw [fab_num h.1, fab_num h.2.1]
/-- the greater part -/
theorem part_of (z : Nat × Nat) (l m : Int) (h1 : Flo.pw l ≤ nz z) (h2 : nz z ≤ Flo.pw m) (a b : Int) (ha : 2 * a + 1 ≤ l) (hb : m ≤ 2 * b) :
    ∃ M, (Flo.pw a ≤ M ∧ M ≤ Flo.pw b) ∧ (ra (Flo.W z.1) = M ∨ ra (Flo.W z.2) = M) ∧ Flo.Ab (Flo.W z.1) M ∧ Flo.Ab (Flo.W z.2) M ∧ M * M ≤ nz z ∧ nz z ≤ 2 * (M * M) := by
  have hsq : ∀ x : Rat, ra x * ra x = x * x := fun x => by rcases ra_or x with e | e <;> rw [e] <;> grind
  have r1 := ra_nonneg (Flo.W z.1)
  have r2 := ra_nonneg (Flo.W z.2)
  have key : ∀ M : Rat, 0 ≤ M → M * M ≤ nz z → nz z ≤ 2 * (M * M) → Flo.pw a ≤ M ∧ M ≤ Flo.pw b := by
    intro M hM g1 g2
    have p1 : Flo.pw a * Flo.pw a ≤ M * M := by
      rw [← Flo.pw_add]
      have e1 : 2 * Flo.pw (a + a) = Flo.pw (a + a + 1) := (Flo.pw_succ _).symm
      have e2 : Flo.pw (a + a + 1) ≤ Flo.pw l := Flo.pw_le (by omega)
      grind
    have p2 : M * M ≤ Flo.pw b * Flo.pw b := by
      rw [← Flo.pw_add]
      have e2 : Flo.pw m ≤ Flo.pw (b + b) := Flo.pw_le (by omega)
      grind
    exact ⟨le_of_sqz hM p1, le_of_sqz (Rat.le_of_lt (Flo.pw_pos b)) p2⟩
  have s1 := hsq (Flo.W z.1)
  have s2 := hsq (Flo.W z.2)
  rcases le_tot (ra (Flo.W z.1)) (ra (Flo.W z.2)) with g | g
  · have q := sq_le_sq r1 g
    have hn : nz z = ra (Flo.W z.1) * ra (Flo.W z.1) + ra (Flo.W z.2) * ra (Flo.W z.2) := by unfold nz; grind
    have q1 := sq_nonneg' (ra (Flo.W z.1))
    refine ⟨ra (Flo.W z.2), key _ r2 (by grind) (by grind), .inr rfl, ?_, ?_, by grind, by grind⟩
    · unfold Flo.Ab; rcases ra_or (Flo.W z.1) with e | e <;> grind
    · unfold Flo.Ab; rcases ra_or (Flo.W z.2) with e | e <;> grind
  · have q := sq_le_sq r2 g
    have hn : nz z = ra (Flo.W z.1) * ra (Flo.W z.1) + ra (Flo.W z.2) * ra (Flo.W z.2) := by unfold nz; grind
    have q1 := sq_nonneg' (ra (Flo.W z.2))
    refine ⟨ra (Flo.W z.1), key _ r1 (by grind) (by grind), .inl rfl, ?_, ?_, by grind, by grind⟩
    · unfold Flo.Ab; rcases ra_or (Flo.W z.1) with e | e <;> grind
    · unfold Flo.Ab; rcases ra_or (Flo.W z.2) with e | e <;> grind

def mulB (x y : Nat × Nat) : Nat × Nat := ((mulC (fabC x) (fabC y)).1.getD 0, (mulC (fabC x) (fabC y)).2.getD 0)
/-- neither far too small nor far too great -/
def Mid (z : Nat × Nat) : Prop := Flo.pw (-400) ≤ nz z ∧ nz z ≤ Flo.pw 400
theorem mulB_sz (x y : Nat × Nat) (hx : Okz x) (hy : Okz y) (mx : Mid x) (my : Mid y) :
    mulC (fabC x) (fabC y) = (some (mulB x y).1, some (mulB x y).2) ∧ Okz (mulB x y) ∧
      Sz (Flo.W (mulB x y).1 - (Flo.W x.1 * Flo.W y.1 - Flo.W x.2 * Flo.W y.2)) (Flo.W (mulB x y).2 - (Flo.W x.1 * Flo.W y.2 + Flo.W x.2 * Flo.W y.1)) (8 * Flo.u) (nz x * nz y) := by
  have u0 := Flo.u_pos
  obtain ⟨M, ⟨m1, m2⟩, -, m3, m4, m5, -⟩ := part_of x _ _ mx.1 mx.2 (-201) 200 (by omega) (by omega)
  obtain ⟨K, ⟨k1, k2⟩, -, k3, k4, k5, -⟩ := part_of y _ _ my.1 my.2 (-201) 200 (by omega) (by omega)
  have M0 : 0 ≤ M := m3.nonneg
  have K0 : 0 ≤ K := k3.nonneg
  have lo : Flo.pw (-500) ≤ M * K := by
    have e1 : Flo.pw (-500) ≤ Flo.pw (-201) * Flo.pw (-201) := by rw [← Flo.pw_add]; exact Flo.pw_le (by omega)
    have e2 := Rat.mul_le_mul_of_nonneg_right m1 (Rat.le_of_lt (Flo.pw_pos (-201)))
    have e3 := Rat.mul_le_mul_of_nonneg_left k1 M0
    grind
  have hi : M * K ≤ Flo.pw 500 := by
    have e1 : Flo.pw 200 * Flo.pw 200 ≤ Flo.pw 500 := by rw [← Flo.pw_add]; exact Flo.pw_le (by omega)
    have e2 := Rat.mul_le_mul_of_nonneg_right m2 K0
    have e3 := Rat.mul_le_mul_of_nonneg_left k2 (Rat.le_of_lt (Flo.pw_pos 200))
    grind
  obtain ⟨z, z1, z2, z3, z4, z5, z6⟩ := mul_box x y hx.1 hx.2.1 hy.1 hy.2.1 M K lo hi m3 m4 k3 k4
  have ez : mulB x y = z := by unfold mulB; rw [z1]; rfl
  rw [ez]
  refine ⟨z1, ⟨z2, z3, z4⟩, Sz.of_parts z5 z6 (by grind) (Rat.mul_nonneg (nz_nonneg x) (nz_nonneg y)) ?_⟩
  have f1 : (M * M) * (K * K) ≤ nz x * nz y := by
    have a1 := Rat.mul_le_mul_of_nonneg_right m5 (sq_nonneg' K)
    have a2 := Rat.mul_le_mul_of_nonneg_left k5 (nz_nonneg x)
    grind
  have f2 := Rat.mul_le_mul_of_nonneg_left f1 (Rat.mul_nonneg (Rat.le_of_lt u0) (Rat.le_of_lt u0))
  have f3 := Rat.mul_nonneg (Rat.mul_nonneg (Rat.le_of_lt u0) (Rat.le_of_lt u0)) (Rat.mul_nonneg (sq_nonneg' M) (sq_nonneg' K))
  grind

end Go.Proofs.Ytlhhcchncobmhaa

/- Plain: narrowing what was widened, and numbers up to 1: the error told exactly.
   Conditions: those that each statement names. -/
namespace Go.Proofs.Ytlhhcchncobmhaa
set_option linter.unusedSimpArgs false
set_option linter.unusedVariables false
open Go Go.RowKit

namespace Flo
open Ieee
/-- what is at most a power of two stays so -/
theorem write_le_pw (f : Format) (he : 2 ≤ f.exponentBits) (s : Bool) (m : Nat) (p k : Int) (h : (m : Rat) * pw p ≤ pw k) (hk : f.leastPlace ≤ k) (hB : pw k < pw (top f)) :
    ∃ m' p', f.read (f.write (.number s m p)) = .number s m' p' ∧ (m' : Rat) * pw p' ≤ pw k := by
  have e1 : ((1 : Nat) : Rat) * pw k = pw k := by rw [show ((1 : Nat) : Rat) = 1 from rfl]; grind
  obtain ⟨m', p', n', q', k1, k2, k3⟩ := write_mono f he s false m 1 p k (by rw [e1]; exact h) (by rw [e1]; exact hB)
  obtain ⟨m1, p1, g1, -, -, g2⟩ := write_exact f he false 1 k 1 k rfl (Nat.one_lt_two_pow (by omega)) hk (by rw [e1]; exact hB)
  rw [k2] at g1
  injection g1 with _ a b
  subst a b
  rw [g2, e1] at k3
  exact ⟨m', p', k1, k3⟩
theorem ab_val {s : Bool} {m : Nat} {p k : Int} (h : (m : Rat) * pw p ≤ pw k) : Ab (val s m p) (pw k) := by
  have := mag_nonneg m p
  unfold Ab val
  cases s <;> simp <;> grind
theorem mag_of {s : Bool} {m : Nat} {p : Int} {B : Rat} (h : Ab (val s m p) B) : (m : Rat) * pw p ≤ B := val_abs s m p B h.2 h.1
theorem add_pw (x y : Nat) (hx : Nm x) (hy : Nm y) (k : Int) (h : Ab (W x + W y) (pw k)) (hk : -1074 ≤ k) (hk2 : k ≤ 1000) :
    ∃ r, floatBits .add .f64 x y = some r ∧ Nm r ∧ Ab (W r) (pw k) := by
  obtain ⟨s, m, i, hx⟩ := hx
  obtain ⟨t, n, j, hy⟩ := hy
  rw [show W x = _ from V_eq hx, show W y = _ from V_eq hy] at h
  obtain ⟨q, a, b, h3, h4⟩ := sum_val s t m n i j
  rw [← h4] at h
  obtain ⟨m', p', k1, k2⟩ := write_le_pw Ieee.double (by decide) q a b k (mag_of h) hk (by rw [top_double]; exact pw_lt (by omega))
  have he : floatBits .add .f64 x y = some (Ieee.double.write (.number q a b)) := by
    show Ieee.double.add x y = _
    unfold Format.add
    rw [hx, hy, h3]; rfl
  exact ⟨_, he, ⟨_, _, _, k1⟩, by rw [show W (Ieee.double.write (.number q a b)) = _ from V_eq k1]; exact ab_val k2⟩
theorem sub_pw (x y : Nat) (hx : Nm x) (hy : Nm y) (k : Int) (h : Ab (W x - W y) (pw k)) (hk : -1074 ≤ k) (hk2 : k ≤ 1000) :
    ∃ r, floatBits .sub .f64 x y = some r ∧ Nm r ∧ Ab (W r) (pw k) := by
  obtain ⟨s, m, i, hx⟩ := hx
  obtain ⟨t, n, j, hy⟩ := hy
  rw [show W x = _ from V_eq hx, show W y = _ from V_eq hy] at h
  obtain ⟨q, a, b, h3, h4⟩ := sum_val s (!t) m n i j
  rw [val_opp] at h4
  rw [show val s m i - val t n j = val q a b by grind] at h
  obtain ⟨m', p', k1, k2⟩ := write_le_pw Ieee.double (by decide) q a b k (mag_of h) hk (by rw [top_double]; exact pw_lt (by omega))
  have he : floatBits .sub .f64 x y = some (Ieee.double.write (.number q a b)) := by
    show Ieee.double.sub x y = _
    unfold Format.sub
    rw [hx, hy, show (Datum.number t n j).opposite = .number (!t) n j from rfl, h3]; rfl
  exact ⟨_, he, ⟨_, _, _, k1⟩, by rw [show W (Ieee.double.write (.number q a b)) = _ from V_eq k1]; exact ab_val k2⟩

/-- narrowing a number up to 1 -/
theorem narrow_one (x : Nat) (hx : Nm x) (h : Ab (W x) 1) : Ab (S (nar x) - W x) (pw (-25)) := by
  obtain ⟨s, m, p, hr⟩ := hx
  rw [show W x = _ from V_eq hr] at h ⊢
  have hm := mag_of h
  have en : nar x = Ieee.single.write (.number s m p) := by unfold nar; rw [show FloatKind.f64.decode x = .number s m p from hr]; rfl
  have ht : pw 0 < pw (top Ieee.single) := by rw [top_single]; exact pw_lt (by omega)
  rw [pw_zero] at ht
  have p25 := pw_pos (-25)
  rw [en]
  by_cases h0 : m = 0
  · subst h0
    have e : Ieee.single.write (.number s 0 p) = Ieee.single.word s 0 := by
      show Ieee.single.nearest s 0 p = _
      unfold Format.nearest; simp
    rw [e, show S (Ieee.single.word s 0) = _ from V_eq (zero_read Ieee.single s), val_zero, val_zero]
    unfold Ab; grind
  · by_cases h1 : (m : Rat) * pw p = 1
    · obtain ⟨m', p', g1, -, -, g2⟩ := write_exact Ieee.single (by decide) s m p 1 0 (by rw [h1, pw_zero, show ((1 : Nat) : Rat) = 1 from rfl]; grind) (by decide) (by decide) (by rw [h1]; exact ht)
      rw [show S (Ieee.single.write (.number s m p)) = _ from V_eq g1]
      unfold Ab val
      rw [g2]
      grind
    · have hlt : (m : Rat) * pw p < pw 0 := by rw [pw_zero]; rcases Rat.le_iff_lt_or_eq.1 hm with g | g; exact g; exact absurd g h1
      have hl := log2_lt_of m p 0 h0 hlt
      have hlast : lastOf Ieee.single m p ≤ -24 := by
        unfold lastOf
        rw [show Ieee.single.leastPlace = -149 from by decide, show (Ieee.single.fractionBits : Int) = 23 from by decide]
        omega
      obtain ⟨m', p', g1, g2, -, -⟩ := read_nearest Ieee.single s m p h0 (rung_lt Ieee.single s m p h0 (by decide) (by rw [pw_zero] at hlt; grind))
      obtain ⟨n1, n2⟩ := kept_near Ieee.single s m p
      rw [← g2] at n1 n2
      have l1 := pw_le hlast
      have l2 : pw (-24) = 2 * pw (-25) := by rw [← pw_succ]; rfl
      rw [show S (Ieee.single.write (.number s m p)) = _ from V_eq g1]
      obtain ⟨k1, k2⟩ := val_near s m m' p p' (pw (-24)) (by grind) (by grind)
      unfold Ab
      grind
end Flo

/-- widened, narrowed, and widened again -/
theorem wid_nar_wid {a : Nat} (h : Sm a) (hB : Flo.Ab (S a) 1024) : (∀ w, fcv w .f64 (wid a) .f32 = Flo.nar (wid a)) ∧ fcd .f64 (wid a) .f32 = 0 ∧ Sm (Flo.nar (wid a)) ∧ wid (Flo.nar (wid a)) = wid a := by
  obtain ⟨nw, vw⟩ := wid_num h
  have e10 : Flo.pw 10 = 1024 := Flo.pw_nat 10
  have l127 : Flo.pw 10 < Flo.pw 127 := Flo.pw_lt (by omega)
  obtain ⟨h1, h2, h3, -⟩ := Flo.narrow_ok (wid a) nw 1024 (by rw [vw]; exact hB) (by rw [← e10]; exact l127)
  refine ⟨h1, h2, h3, ?_⟩
  obtain ⟨s, m, p, hr⟩ := h
  obtain ⟨m1, p1, r1, v1⟩ := wid_read hr
  have en : Flo.nar (wid a) = Ieee.single.write (.number s m1 p1) := by unfold Flo.nar; rw [show FloatKind.f64.decode (wid a) = .number s m1 p1 from r1]; rfl
  obtain ⟨b1, b2, -⟩ := single_bound hr
  have hm : (m1 : Rat) * Flo.pw p1 ≤ 1024 := by
    rw [v1]
    have := hB
    rw [show S a = _ from Flo.V_eq hr] at this
    exact Flo.mag_of this
  obtain ⟨m2, p2, r2, -, -, v2⟩ := Flo.write_exact Ieee.single (by decide) s m1 p1 m p v1 b1 b2 (by rw [Flo.top_single, ← e10] at *; grind)
  rw [← en] at r2
  obtain ⟨m3, p3, r3, v3⟩ := wid_read r2
  exact Flo.read_inj Ieee.double r3 r1 (Nat.lt_of_lt_of_le (wid_lt _) (by decide)) (Nat.lt_of_lt_of_le (wid_lt _) (by decide)) (by rw [v3, v2])

/-- a square: never negative; infinite where it is too great -/
theorem sq_pos (a : Nat) (ha : Flo.Nm a) : ∃ r, floatBits .mul .f64 a a = some r ∧ (Ieee.double.read r = .infinity false ∨ (Flo.Nm r ∧ 0 ≤ Flo.W r ∧ Flo.W a * Flo.W a ≤ Flo.W r + (Flo.W a * Flo.W a * Flo.u + Flo.et))) := by
  obtain ⟨s, m, i, hr⟩ := ha
  have e : floatBits .mul .f64 a a = some (Ieee.double.write (.number false (m * m) (i + i))) := by
    show Ieee.double.mul a a = _
    unfold Ieee.Format.mul
    rw [hr]
    cases s <;> rfl
  refine ⟨_, e, ?_⟩
  have hv : Flo.val false (m * m) (i + i) = Flo.W a * Flo.W a := by
    rw [show Flo.W a = _ from Flo.V_eq hr, ← Flo.val_mul]
    cases s <;> rfl
  have h0 := sq_nonneg' (Flo.W a)
  rcases Flo.write_or Ieee.double (by decide) false (m * m) (i + i) (Flo.W a * Flo.W a) (by rw [hv]; exact Rat.le_refl) (by rw [hv]; grind) with g | ⟨g1, g2⟩
  · exact .inl g
  · right
    rw [hv] at g2
    have e1 : (Flo.W a * Flo.W a * Flo.pw (-(Ieee.double.fractionBits : Int)) + Flo.pw Ieee.double.leastPlace) / 2 ≤ Flo.W a * Flo.W a * Flo.u + Flo.et := by
      rw [show Ieee.double.leastPlace = -1074 from by decide, show (Ieee.double.fractionBits : Int) = 52 from by decide]
      have p1 : Flo.pw (-52) = 2 * Flo.u := by rw [show Flo.u = Flo.pw (-53) from rfl, ← Flo.pw_succ]; rfl
      have p2 : Flo.et = Flo.pw (-1074) / 2 ∨ Flo.et = Flo.pw (-1074) := by
        unfold Flo.et
        first | exact .inl rfl | exact .inr rfl
      have p3 := Flo.pw_pos (-1074)
      rw [p1]
      rcases p2 with p2 | p2 <;> rw [p2] <;> grind
    refine ⟨g1, ?_, ?_⟩
    · obtain ⟨t, m', p', h⟩ := g1
      by_cases hz : m * m = 0
      · rw [hz] at h ⊢
        have e : Ieee.double.write (.number false 0 (i + i)) = Ieee.double.word false 0 := by
          show Ieee.double.nearest false 0 _ = _
          unfold Ieee.Format.nearest; simp
        rw [e, show Flo.W (Ieee.double.word false 0) = _ from Flo.V_eq (Flo.zero_read Ieee.double false), Flo.val_zero]
        exact Rat.le_refl
      · by_cases hr : Flo.rungOf Ieee.double false (m * m) (i + i) < Ieee.double.infRung
        · obtain ⟨m2, p2, k1, -, -, -⟩ := Flo.read_nearest Ieee.double false (m * m) (i + i) hz hr
          rw [show Flo.W (Ieee.double.write (.number false (m * m) (i + i))) = _ from Flo.V_eq k1]
          have := Flo.mag_nonneg m2 p2
          unfold Flo.val; simp; exact this
        · exfalso
          have : Ieee.double.read (Ieee.double.write (.number false (m * m) (i + i))) = .infinity false := by
            show Ieee.double.read (Ieee.double.nearest false (m * m) (i + i)) = _
            rw [Flo.nearest_eq Ieee.double false (m * m) (i + i) hz, Nat.min_eq_right (by omega), Flo.read_word_inf, if_neg (by decide)]
          rw [this] at h; cases h
    · unfold Flo.Near at g2
      show _ ≤ Flo.V Ieee.double _ + _
      grind
theorem inf_one {r : Nat} (h : Ieee.double.read r = .infinity false) : leB r 4607182418800017408 = false := by
  unfold leB
  rw [show FloatKind.f64.format = Ieee.double from rfl]
  have o1 : Ieee.double.read 4607182418800017408 = .number false 4503599627370496 (-52) := by decide
  unfold Ieee.Format.order
  rw [h, o1]
  rfl

theorem add_pos (X Y : Nat) (hX : Flo.Nm X) (hY : Flo.Nm Y) (x0 : 0 ≤ Flo.W X) (y0 : 0 ≤ Flo.W Y) :
    ∃ r, floatBits .add .f64 X Y = some r ∧ (Ieee.double.read r = .infinity false ∨ (Flo.Nm r ∧ Flo.W X + Flo.W Y ≤ Flo.W r + ((Flo.W X + Flo.W Y) * Flo.u + Flo.et))) := by
  obtain ⟨s, m, i, hx⟩ := hX
  obtain ⟨t, n, j, hy⟩ := hY
  obtain ⟨q, k, b, h3, h4⟩ := Flo.sum_val s t m n i j
  rw [show Flo.W X = _ from Flo.V_eq hx, show Flo.W Y = _ from Flo.V_eq hy] at *
  have e : floatBits .add .f64 X Y = some (Ieee.double.write (.number q k b)) := by
    show Ieee.double.add X Y = _
    unfold Ieee.Format.add
    rw [hx, hy, h3]; rfl
  refine ⟨_, e, ?_⟩
  rw [← h4]
  have h5 : 0 ≤ Flo.val q k b := by rw [h4]; grind
  have h6 : 0 ≤ Flo.val q k b * Flo.u := Rat.mul_nonneg h5 (Rat.le_of_lt Flo.u_pos)
  have e0 := Flo.et_pos
  rcases Flo.write_or Ieee.double (by decide) q k b (Flo.val q k b) Rat.le_refl (by grind) with g | ⟨g1, g2⟩
  · cases q with
    | false => exact .inl g
    | true =>
      exfalso
      have hk : k = 0 := Flo.mag_zero (p := b) (by unfold Flo.val at h5; simp at h5; grind)
      subst hk
      have e1 : Ieee.double.write (.number true 0 b) = Ieee.double.word true 0 := by
        show Ieee.double.nearest true 0 _ = _
        unfold Ieee.Format.nearest; simp
      rw [e1, Flo.zero_read] at g
      cases g
  · right
    refine ⟨g1, ?_⟩
    have e1 : (Flo.val q k b * Flo.pw (-(Ieee.double.fractionBits : Int)) + Flo.pw Ieee.double.leastPlace) / 2 ≤ Flo.val q k b * Flo.u + Flo.et := by
      rw [show Ieee.double.leastPlace = -1074 from by decide, show (Ieee.double.fractionBits : Int) = 52 from by decide]
      have p1 : Flo.pw (-52) = 2 * Flo.u := by rw [show Flo.u = Flo.pw (-53) from rfl, ← Flo.pw_succ]; rfl
      have p2 : Flo.et = Flo.pw (-1074) / 2 ∨ Flo.et = Flo.pw (-1074) := by
        unfold Flo.et
        first | exact .inl rfl | exact .inr rfl
      have p3 := Flo.pw_pos (-1074)
      rw [p1]
      rcases p2 with p2 | p2 <;> rw [p2] <;> grind
    unfold Flo.Near at g2
    show _ ≤ Flo.V Ieee.double _ + _
    grind
/-- a number of double precision that is greater than 1 is so by a step -/
theorem more_one (a : Nat) (ha : Flo.Nm a) (h : 1 < Flo.W a * Flo.W a) : 1 + 4 * Flo.u ≤ Flo.W a * Flo.W a := by
  obtain ⟨s, m, p, hr⟩ := ha
  obtain ⟨b1, b2, -⟩ := Flo.read_bound Ieee.double (by decide) a s m p hr
  have hv : Flo.W a * Flo.W a = ((m : Rat) * Flo.pw p) * ((m : Rat) * Flo.pw p) := by
    rw [show Flo.W a = _ from Flo.V_eq hr]
    unfold Flo.val
    cases s <;> simp <;> grind
  rw [hv] at h ⊢
  have m0 := Flo.mag_nonneg m p
  have h1 : 1 < (m : Rat) * Flo.pw p := by
    rcases le_tot ((m : Rat) * Flo.pw p) 1 with g | g
    · exfalso
      have := sq_le_sq m0 g
      grind
    · rcases Rat.le_iff_lt_or_eq.1 g with g | g
      · exact g
      · exfalso; rw [← g] at h; grind
  have hp : -52 ≤ p := by
    rcases Int.lt_or_le p (-52) with g | g
    · exfalso
      have l := Flo.pw_le (show p ≤ -53 by omega)
      have hm : (m : Rat) ≤ 9007199254740992 := by
        have e52 : Ieee.double.fractionBits = 52 := by decide
        rw [e52] at b1
        have : (m : Rat) ≤ ((9007199254740992 : Nat) : Rat) := Rat.natCast_le_natCast.2 (by omega)
        exact this
      have e := Flo.pw_neg_mul 53
      rw [show Flo.pw 53 = 9007199254740992 from Flo.pw_nat 53] at e
      have l2 := Rat.mul_le_mul_of_nonneg_left l (show (0 : Rat) ≤ (m : Rat) by exact_mod_cast Nat.zero_le m)
      have l3 := Rat.mul_le_mul_of_nonneg_right hm (Rat.le_of_lt (Flo.pw_pos (-53)))
      grind
    · exact g
  obtain ⟨d, hd⟩ : ∃ d : Nat, p = -52 + (d : Int) := ⟨(p + 52).toNat, by omega⟩
  have hN : (m : Rat) * Flo.pw p = ((m * 2 ^ d : Nat) : Rat) * Flo.pw (-52) := by
    rw [hd, Flo.pw_add, Flo.pw_nat]
    push_cast
    grind
  rw [hN] at h1 ⊢
  generalize m * 2 ^ d = N at *
  have e := Flo.pw_neg_mul 52
  rw [show Flo.pw 52 = 4503599627370496 from Flo.pw_nat 52] at e
  have p0 := Flo.pw_pos (-52)
  have hlt : 4503599627370496 < N := by
    rcases Nat.lt_or_ge 4503599627370496 N with g | g
    · exact g
    · exfalso
      have : (N : Rat) ≤ ((4503599627370496 : Nat) : Rat) := Rat.natCast_le_natCast.2 g
      have l := Rat.mul_le_mul_of_nonneg_right this (Rat.le_of_lt p0)
      rw [show ((4503599627370496 : Nat) : Rat) = 4503599627370496 from rfl] at l
      grind
  have hge : (4503599627370497 : Rat) ≤ (N : Rat) := by
    have : ((4503599627370497 : Nat) : Rat) ≤ (N : Rat) := Rat.natCast_le_natCast.2 (by omega)
    exact this
  have l := Rat.mul_le_mul_of_nonneg_right hge (Rat.le_of_lt p0)
  have p1 : Flo.pw (-52) = 2 * Flo.u := by rw [show Flo.u = Flo.pw (-53) from rfl, ← Flo.pw_succ]; rfl
  have hg : 1 + 2 * Flo.u ≤ (N : Rat) * Flo.pw (-52) := by grind
  have u0 := Flo.u_pos
  have q := sq_le_sq (show (0 : Rat) ≤ 1 + 2 * Flo.u by grind) hg
  have uu := Rat.mul_nonneg (Rat.le_of_lt u0) (Rat.le_of_lt u0)
  grind

theorem one_of (a : Nat) (ha : Flo.Nm a) (X T R : Rat) (x2 : Flo.W a * Flo.W a ≤ X + (Flo.W a * Flo.W a * Flo.u + Flo.et)) (hX : X ≤ T) (r3 : T ≤ R + (T * Flo.u + Flo.et)) (hw : R ≤ 1) : Flo.Ab (Flo.W a) 1 := by
  rcases le_tot (Flo.W a * Flo.W a) 1 with g | g
  · exact ab_of_sq (by decide) (by grind)
  · rcases Rat.le_iff_lt_or_eq.1 g with g | g
    · exfalso
      have hA := more_one a ha g
      have u0 := Flo.u_pos
      have u1 : Flo.u * 1048576 ≤ 1 := by have := Flo.u_le; grind
      have e0 := Flo.et_pos
      have eu : Flo.et ≤ Flo.u * Flo.u := by
        rw [show Flo.u = Flo.pw (-53) from rfl, ← Flo.pw_add]
        exact Flo.pw_le (by omega)
      have uu : Flo.u * Flo.u * 1048576 ≤ Flo.u := by have := Rat.mul_le_mul_of_nonneg_right u1 (Rat.le_of_lt u0); grind
      generalize Flo.W a * Flo.W a = A at *
      have k1 := Rat.mul_nonneg (show 0 ≤ A - (1 + 4 * Flo.u) by grind) (show 0 ≤ 1 - Flo.u by grind)
      have k2 : 1 + 5 / 2 * Flo.u ≤ X := by grind
      have k3 := Rat.mul_nonneg (show 0 ≤ T - (1 + 5 / 2 * Flo.u) by grind) (show 0 ≤ 1 - Flo.u by grind)
      grind
    · exact ab_of_sq (by decide) (by grind)

/-- the parts of a wide mode's pole are at most 1 -/
theorem part_one {a b : Nat} (ha : Flo.Nm a) (hb : Flo.Nm b) (h : leF (sqF a b) 4607182418800017408 = true) : Flo.Ab (Flo.W a) 1 ∧ Flo.Ab (Flo.W b) 1 := by
  obtain ⟨X, x1, x2⟩ := sq_pos a ha
  obtain ⟨Y, y1, y2⟩ := sq_pos b hb
  have fa : fab .f64 a = some a := fab_of_fin ((fin_iff .f64 a).2 ha)
  have fb : fab .f64 b = some b := fab_of_fin ((fin_iff .f64 b).2 hb)
  have hs : sqF a b = floatBits .add .f64 X Y := by
    unfold sqF
    rw [fa, fb]
    show fA .add .f64 (floatBits .mul .f64 a a) (floatBits .mul .f64 b b) = _
    rw [x1, y1]; rfl
  rw [hs] at h
  have hinf : ∀ {X Y : Nat}, Ieee.double.read X = .infinity false → (Ieee.double.read Y = .infinity false ∨ Flo.Nm Y) → ∃ r, floatBits .add .f64 X Y = some r ∧ Ieee.double.read r = .infinity false := by
    intro X Y hX hY
    rcases hY with hY | ⟨t, n, j, hY⟩
    · refine ⟨Ieee.double.write (.infinity false), ?_, by decide⟩
      show Ieee.double.add X Y = _
      unfold Ieee.Format.add
      rw [hX, hY]; rfl
    · refine ⟨Ieee.double.write (.infinity false), ?_, by decide⟩
      show Ieee.double.add X Y = _
      unfold Ieee.Format.add
      rw [hX, hY]; rfl
  have hinf2 : ∀ {X Y : Nat}, Flo.Nm X → Ieee.double.read Y = .infinity false → ∃ r, floatBits .add .f64 X Y = some r ∧ Ieee.double.read r = .infinity false := by
    rintro X Y ⟨t, n, j, hX⟩ hY
    refine ⟨Ieee.double.write (.infinity false), ?_, by decide⟩
    show Ieee.double.add X Y = _
    unfold Ieee.Format.add
    rw [hX, hY]; rfl
  rcases x2 with x2 | ⟨nX, x0, x2⟩
  · obtain ⟨r, r1, r2⟩ := hinf (Y := Y) x2 (y2.imp id And.left)
    rw [r1] at h
    rw [show leF (some r) 4607182418800017408 = leB r 4607182418800017408 from rfl, inf_one r2] at h
    cases h
  · rcases y2 with y2 | ⟨nY, y0, y2⟩
    · obtain ⟨r, r1, r2⟩ := hinf2 nX y2
      rw [r1] at h
      rw [show leF (some r) 4607182418800017408 = leB r 4607182418800017408 from rfl, inf_one r2] at h
      cases h
    · obtain ⟨r, r1, r2⟩ := add_pos X Y nX nY x0 y0
      rw [r1, show leF (some r) 4607182418800017408 = leB r 4607182418800017408 from rfl] at h
      rcases r2 with r2 | ⟨r2, r3⟩
      · rw [inf_one r2] at h; cases h
      · have hw := (leB_iff r2 num_one.1).1 h
        rw [num_one.2] at hw
        exact ⟨one_of a ha _ _ _ x2 (show Flo.W X ≤ Flo.W X + Flo.W Y by grind) r3 hw, one_of b hb _ _ _ y2 (show Flo.W Y ≤ Flo.W X + Flo.W Y by grind) r3 hw⟩

end Go.Proofs.Ytlhhcchncobmhaa
