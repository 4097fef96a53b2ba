/- Decimal texts: the digits of an integer, and the walk of the model's l1Number.
   Conditions: those that each statement names. -/
import Derived.Test.YtjmignhcfmdcaaaDoorFls
import Derived.Laws.BytesArg
import Derived.Laws.Concat
namespace Go.Proofs.YtjmignhcfmdcaaaDoor
set_option linter.unusedSimpArgs false
set_option linter.unusedVariables false
open Go Go.RowKit

def dgs (n : Nat) : List Int := if h : n < 10 then [48 + (n : Int)] else dgs (n / 10) ++ [48 + ((n % 10 : Nat) : Int)]
termination_by n
decreasing_by omega
theorem dgs_small {n : Nat} (h : n < 10) : dgs n = [48 + (n : Int)] := by rw [dgs]; simp [h]
theorem dgs_big {n : Nat} (h : ¬ n < 10) : dgs n = dgs (n / 10) ++ [48 + ((n % 10 : Nat) : Int)] := by rw [dgs]; simp [h]
def dgO (n : Nat) : List Int := if n = 0 then [] else dgs n
theorem dg_step {n : Nat} : dgs n = dgO (n / 10) ++ [48 + ((n % 10 : Nat) : Int)] := by
  by_cases h : n < 10
  · rw [dgs_small h]
    unfold dgO
    rw [if_pos (by omega)]
    simp
    omega
  · rw [dgs_big h]
    unfold dgO
    rw [if_neg (by omega)]
theorem dgs_len : ∀ (j n : Nat), n < 10 ^ (j + 1) → (dgs n).length ≤ j + 1
  | 0, n, h => by rw [dgs_small (by simpa using h)]; simp
  | j + 1, n, h => by
    by_cases h10 : n < 10
    · rw [dgs_small h10]; simp
    · rw [dgs_big h10, List.length_append]
      have := dgs_len j (n / 10) (by rw [Nat.pow_succ] at h; omega)
      simp; omega
theorem dgs_head (n : Nat) : ∃ d rest, dgs n = d :: rest ∧ 48 ≤ d ∧ d ≤ 57 := by
  induction n using Nat.strongRecOn with
  | ind n ih =>
    by_cases h : n < 10
    · exact ⟨_, _, dgs_small h, by omega, by omega⟩
    · obtain ⟨d, r, e, h1, h2⟩ := ih (n / 10) (by omega)
      exact ⟨d, r ++ [48 + ((n % 10 : Nat) : Int)], by rw [dgs_big h, e]; rfl, h1, h2⟩
theorem str_cons (d : Int) (xs : List Int) : strOfNums [d] ++ strOfNums xs = strOfNums (d :: xs) := by
  apply ByteArray.ext
  simp [strOfNums]
theorem str_app (xs ys : List Int) : strOfNums xs ++ strOfNums ys = strOfNums (xs ++ ys) := by
  apply ByteArray.ext
  simp [strOfNums]
def numL (z : Int) : List Int := if z < 0 then 45 :: dgs z.natAbs else dgs z.natAbs
def StrP (xs : List Int) (w : World) (e : Ending) (w' : World) : Prop := e = .returned (.string (strOfNums xs)) ∧ Nw w w'
def NumI (n : Nat) (w : World) (v s : Value) (wr : World) : Prop :=
  ∃ (k : Nat) (cur : List Int), k ≤ n ∧ v = .int .i64 (k : Int) ∧ s = .string (strOfNums cur) ∧ dgs n = dgO k ++ cur ∧ Nw w wr

theorem conv_digit (d : Int) (w : World) : (convert 48 9 (.slice (some ⟨w.heap.size, 0, none⟩) 1 1)).run Tryd.prog (w.alloc (.cells #[.int .u8 d] 5 (0, 0))) = .ok (.string (strOfNums [d])) (w.alloc (.cells #[.int .u8 d] 5 (0, 0))) :=
  run_convert_bytes_arg _ 48 5 Tryd.underlying48 Tryd.underlying5 w.heap.size 0 1 1 [d] rfl (fun i hi => by
    obtain rfl : i = 0 := by omega
    simp) 9 Tryd.underlying9

set_option maxRecDepth 100000 in
theorem l1Number_ok (n : Nat) (hn : n < 1000000000000000000) (w : World) :
    Calls Tryd.prog 19 #[.int .i64 (n : Int)] w (StrP (dgs n) w) := by
  have h0 : ¬ ((n : Int) < 0) := by omega
  have hc := conv_digit
  have hlen := dgs_len 17 n (by omega)
  have Hlen := Lib.hid hlen
  clear hlen
  go_enter Tryd.func19, Tryd.ntmps19
  go_wp2_with fail
  go_loopw [0, 3] (fun v s wr => NumI n w v s wr) (fun v _ _ => (intOf v).toNat)
  case atStart => exact ⟨n / 10, _, by omega, by rw [show ((n / 10 : Nat) : Int) = (n : Int) / 10 from by omega], rfl, by rw [show (n : Int) % 10 = ((n % 10 : Nat) : Int) from by omega]; exact dg_step, (Nw.refl w).alloc _⟩
  case round =>
    obtain ⟨k, cur, hk, rfl, rfl, hd, hN⟩ := hrel
    have Nr := Lib.hid hN
    have Hd := Lib.hid hd
    clear hN hd
    by_cases hlt : 0 < k
    · have hcl : cur.length ≤ 18 := by have h := Hlen.out; rw [Hd.out, List.length_append] at h; omega
      have hs1 : (strOfNums [48 + (k : Int) % 10]).size = 1 := strOfNums_size _
      have hs2 : (strOfNums cur).size ≤ 18 := by rw [strOfNums_size]; exact hcl
      have hadd : ∀ w, (Op.stringOp .add (strOfNums [48 + (k : Int) % 10]) (strOfNums cur)).run Tryd.prog w = .ok (.string (strOfNums ((48 + (k : Int) % 10) :: cur))) w := fun w => by
        rw [run_string_add _ _ _ (by omega) (by omega), str_cons]
      clear hs1 hs2
      go_wp2_with fail
      go_roundw
      case rel => exact ⟨k / 10, _, by omega, by rw [show ((k / 10 : Nat) : Int) = (k : Int) / 10 from by omega], rfl, by
          rw [Hd.out]
          have e : dgO k = dgs k := by unfold dgO; rw [if_neg (by omega)]
          rw [e, dg_step (n := k), show ((k % 10 : Nat) : Int) = (k : Int) % 10 from by omega]
          simp, Nr.out.alloc _⟩
      case measure => simp only [intOf]; omega
    · obtain rfl : k = 0 := by omega
      go_wp2_with fail
      go_ret
      exact ⟨by rw [show dgs n = cur from by rw [Hd.out]; rfl]; rfl, Nr.out⟩

end Go.Proofs.YtjmignhcfmdcaaaDoor
