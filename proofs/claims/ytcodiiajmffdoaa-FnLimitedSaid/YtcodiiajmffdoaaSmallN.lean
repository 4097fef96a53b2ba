/- The walk of MakeSmall once more: its answer is not nil.
   Conditions: those that each statement names. -/
import Derived.Test.YtcodiiajmffdoaaSmall
namespace Go.Proofs.Ytcodiiajmffdoaa
open Go Go.RowKit

def SmallJ (B : Nat) (w0 : World) (a : Option Addr) (len cap c base : Nat) (K : Rat) (v i : Value) (wr : World) : Prop :=
  ∃ (k : Nat) (xs : List Nat), i = .int .i64 (k : Int) ∧ k + xs.length ≤ 11 ∧ At B w0 a len cap c wr ∧ wr.ownsRow base 25 1 v xs.length (cellsS xs) ∧ (∀ x ∈ xs, Samp K x) ∧ base ≤ wr.heap.size ∧ v ≠ .slice none 0 0 ∧ ∀ x ∈ xs, x < 2 ^ 32
/-- at most eleven samples, in memory of the call's own, and not nil -/
def SmallQ (K : Rat) (w : World) (e : Ending) (w' : World) : Prop :=
  ∃ (xs : List Nat) (v : Value), e = .returned v ∧ xs.length ≤ 11 ∧ (∀ x ∈ xs, Samp K x) ∧ w'.ownsRow w.heap.size 25 1 v xs.length (cellsS xs) ∧ Nw w w' ∧ v ≠ .slice none 0 0 ∧ ∀ x ∈ xs, x < 2 ^ 32

theorem makeSmall_ptr (a : Option Addr) (len cap mb : Nat) (K : Rat) (hm : Sm mb) (hK : Flo.Ab (S mb) K) (hK60 : K ≤ Flo.pw 60) (w : World) (hb : Bys w.heap.size a len w) :
    Calls Try.prog 15 #[.slice a len cap, .float .f32 mb] w (SmallQ K w) := by
  obtain ⟨i0, hi, hz0, hz1, hz2⟩ := info_parts info_f32
  have Hb := Lib.hid hb
  have HK := Lib.hid hK
  clear hb hK
  go_enter Try.func15, Try.ntmps15
  go_wp2_with fail
  refine (l01New_any _ _ _ _ Hb.out).mono ?_
  rintro e w1 ⟨rfl, hat⟩
  have Hat := Lib.hid hat
  clear hat
  go_wp2_with fail
  have Hs1 := Lib.hid (show w.heap.size + 1 ≤ w1.heap.size from Hat.out.1.2.1)
  refine (below_at _ _ _ _ _ _ _ (by omega) (by omega) _ (Hat.out.alloc _).here).mono ?_
  rintro e w2 ⟨z, z0, z1, rfl, hc2⟩
  have Hown2 := Lib.hid (own_kp (World.ownsRow_lit (base := w.heap.size + 1) (e := 25) (size := 1) w1 #[] 0 Hs1.out (by decide) rfl) hc2.2 (by omega))
  have Hs2 := Lib.hid (show w.heap.size + 1 ≤ w2.heap.size from by have := hc2.2.size; have := Hs1.out; simp at *; omega)
  have Hc2 := Lib.hid (show At w.heap.size w a len cap w.heap.size w2 from ⟨hc2.1, (Hat.out.alloc _).2.trans hc2.2⟩)
  clear hc2
  go_wp2_with fail
  go_loopw [6, 7] (fun v i wr => SmallJ w.heap.size w a len cap w.heap.size (w.heap.size + 1) K v i wr) (fun _ i _ => (intOf i).toNat)
  case atStart => exact ⟨z.toNat, [], by rw [Int.toNat_of_nonneg z0], by simp; omega, Hc2.out, Hown2.out, by simp, Hs2.out, by simp, by simp⟩
  case round =>
    obtain ⟨k, xs, rfl, hk, hat, hown, hok, hbase, hptr, h32⟩ := hrel
    have Hptr := Lib.hid hptr
    have H32 := Lib.hid h32
    clear hptr h32
    have Hat := Lib.hid hat
    obtain ⟨sa, sl, sc, rfl⟩ := own_shape hown
    have Hown := Lib.hid hown
    have Hok := Lib.hid hok
    clear hat hown hok
    by_cases hk0 : 0 < k
    · go_wp2_with fail
      refine (below_at _ _ _ _ _ _ _ (by omega) (by omega) _ Hat.out.here).mono ?_
      rintro e w3 ⟨y, y0, y1, rfl, hc3⟩
      have Hc3 := Lib.hid (show At w.heap.size w a len cap w.heap.size w3 from ⟨hc3.1, Hat.out.2.trans hc3.2⟩)
      have Hown3 := Lib.hid (own_kp Hown.out hc3.2 (by omega))
      have Hs3 := Lib.hid (show w.heap.size + 1 ≤ w3.heap.size from by have := hc3.2.size; omega)
      clear hc3
      obtain ⟨r1, r2, q1, q2, q3⟩ := samp_ok mb K hm HK.out hK60 y y0 y1
      have f1 : ∀ w, fres w .mul .f32 mb (floatOfInt .f32 (y - 1000)) = r1 := fun w => by unfold fres; rw [q1]
      have f2 : ∀ w, fres w .quo .f32 r1 1148846080 = r2 := fun w => by unfold fres; rw [q2]
      have d1 : fdr .mul .f32 mb (floatOfInt .f32 (y - 1000)) = 0 := by unfold fdr; rw [q1]; rfl
      have d2 : fdr .quo .f32 r1 1148846080 = 0 := by unfold fdr; rw [q2]; rfl
      have Hq := Lib.hid q3
      have L32 := Lib.hid (show r2 < 2 ^ 32 from by have := floatBits_wf q2; simpa [Lit.wf] using this)
      clear q1 q2 q3
      go_wp2_with (at_builtin; refine wpList_append_own _ rfl _ _ 23 rfl (w.heap.size + 1) 25 i0 (.float .f32 0) 1 4 Try.underlying23 hi hz0 hz1 hz2 rfl (by decide) _ _ _ rfl (Hown3.out.alloc _) ⟨w3.heap.size, 0, none⟩ 1 1 [.float .f32 r2] rfl rfl ?c1 ?c2 ?c3 ?c4 ?c5 ?_)
      case c1 =>
        intro j u hj
        match j, hj with
        | 0, hj => simp at hj; subst hj; simp [Addr.add]
      case c2 => intro u hu; simp at hu; subst hu; rfl
      case c3 => unfold maxLen; omega
      case c4 => omega
      case c5 => have := Hs3.out; simp; omega
      · intro v' w4 hown4 hgrow hpt
        have Hpt := Lib.hid (show v' ≠ .slice none 0 0 from by first | exact hpt | (intro e; have h := hpt.1 e; omega) | simpa using hpt)
        clear hpt
        have hrow : ∀ q, (Value.slice sa sl sc).ownBlock = some q → w.heap.size + 1 ≤ q := fun q hq => own_ge Hown3.out q hq
        have Hc4 := Lib.hid ((Hc3.out.alloc _).grown hgrow hrow (by omega) (by omega) (by omega))
        have Hs4 := Lib.hid (show w.heap.size + 1 ≤ w4.heap.size from by have := hgrow.size; have := Hs3.out; simp at *; omega)
        rw [show cellsS xs ++ [Value.float .f32 r2] = cellsS (xs ++ [r2]) from by simp [cellsS], show xs.length + 1 = (xs ++ [r2]).length from by simp] at hown4
        have Hown4 := Lib.hid hown4
        have Hok4 := Lib.hid (show ∀ x ∈ xs ++ [r2], Samp K x from by
          intro x hx
          rcases List.mem_append.1 hx with hx | hx
          · exact Hok.out x hx
          · simp at hx; subst hx; exact Hq.out)
        clear hown4 hgrow hrow
        go_wp2_with fail
        go_roundw
        case rel => exact ⟨k - 1, xs ++ [r2], by rw [show ((k - 1 : Nat) : Int) = (k : Int) - 1 from by omega], by simp; omega, Hc4.out, Hown4.out, Hok4.out, Hs4.out, Hpt.out, fun x hx => by
            rcases List.mem_append.1 hx with hx | hx
            · exact H32.out x hx
            · simp at hx; subst hx; exact L32.out⟩
        case measure => simp only [intOf]; omega
    · go_wp2_with fail
      go_ret
      exact ⟨xs, _, rfl, by omega, Hok.out, own_base Hown.out (by omega), Hat.out.toNw (Nat.le_refl _), Hptr.out, H32.out⟩

end Go.Proofs.Ytcodiiajmffdoaa
