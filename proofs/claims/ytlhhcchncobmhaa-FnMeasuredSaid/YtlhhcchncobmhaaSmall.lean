/- The walks of MakeBody, MakeSmall and of the laws' own 'at'.
   Conditions: those that each statement names. -/
import Derived.Test.YtlhhcchncobmhaaBody
import Derived.Test.YtlhhcchncobmhaaSps
namespace Go.Proofs.Ytlhhcchncobmhaa
set_option linter.unusedSimpArgs false
set_option linter.unusedVariables false
open Go Go.RowKit

/-- a body with at most M modes, all valid, in memory of the call's own -/
def MadeB (M : Nat) (w : World) (e : Ending) (w' : World) : Prop :=
  ∃ (ms : List M4) (v : Value), e = .returned (.agg #[v]) ∧ ms.length ≤ M ∧ (∀ m ∈ ms, m.ok) ∧ w'.ownsRow w.heap.size 61 2 v ms.length (cellsM ms) ∧ Nw w w'

theorem Nw.set' {a w : World} (h : Nw a w) {p : Addr} (hp : a.heap.size ≤ p.block) (u : Value) : Nw a (w.setCell p u) := h.set hp u
theorem At.toNw {B : Nat} {w0 : World} {a : Option Addr} {len cap c : Nat} {w : World} (h : At B w0 a len cap c w) (hc : w0.heap.size ≤ c) : Nw w0 w := h.2.nw hc

theorem makeBody_any (a : Option Addr) (len cap M : Nat) (hM0 : 1 ≤ M) (hM : M ≤ 16) (w : World) (hb : Bys w.heap.size a len w) :
    Calls Try.prog 39 #[.slice a len cap, .int .i64 (M : Int)] w (MadeB M w) := by
  have Hb := Lib.hid hb
  clear hb
  have hsz : ∀ o, (w.alloc o).heap.size = w.heap.size + 1 := fun o => by simp
  have Hsz := Lib.hid hsz
  clear hsz
  go_enter Try.func39, Try.ntmps39
  go_wp2_with fail
  refine (l01New_any _ _ _ _ ((Hb.out.below ((Below.refl _ _).alloc (Nat.le_refl _) _)).mono (by simp))).mono ?_
  rintro e w1 ⟨rfl, hat⟩
  rw [Hsz.out] at hat
  have Hr1 := Lib.hid ((Has1.new w 69 (.slice none 0 0)).kp hat.2 (by omega))
  have Hn1 := Lib.hid ((((Nw.refl w).alloc (.cells #[.slice none 0 0] 69 (0, 0))).trans (hat.2.nw (by simp))))
  have Hat := Lib.hid hat
  clear hat
  have h0 : (0 : Int) < M := by omega
  go_wp2_with fail
  refine (l2Body_at _ _ _ _ _ _ M hM _ Hat.out.here).mono ?_
  rintro e w2 ⟨ms, v, rfl, hms, hok, hown, hc2⟩
  have Hr2 := Lib.hid (Hr1.out.kp hc2.2 (by omega))
  have Hn2 := Lib.hid (show Nw w w2 from ⟨hc2.2.os.trans Hn1.out.os, hc2.2.tape.trans Hn1.out.tape, hc2.2.output.trans Hn1.out.output, Nat.le_trans Hn1.out.size hc2.2.size,
    fun k hk hne => (hc2.2.block k (Nat.lt_of_lt_of_le hk Hn1.out.size) (fun e => by cases e; omega)).trans (Hn1.out.block k hk hne)⟩)
  have Hs1 := Lib.hid (show w.heap.size + 1 ≤ w1.heap.size from by have := Hat.out.2.size; rw [Hsz.out] at this; exact this)
  obtain ⟨sa, sl, sc, rfl⟩ := own_shape hown
  have Hown := Lib.hid hown
  have Hok := Lib.hid hok
  clear hc2 hown hok
  obtain ⟨r0, r1, r2⟩ := Hr2.out
  go_wp2_with fail
  exact bodyPost_ret (v := .agg #[.slice sa sl sc]) (by simp [results, Try.results39, go_sem, r0, r1, r2]) rfl
    ⟨ms, _, rfl, hms, Hok.out, own_base (own_set Hown.out (by show w.heap.size < w1.heap.size; have := Hs1.out; omega) _) (by have := Hs1.out; omega), Hn2.out.set (Nat.le_refl _) _⟩

/-! ### samples -/
theorem num_1000 : Sm 1148846080 ∧ S 1148846080 = 1000 := by
  have h : Ieee.single.read 1148846080 = .number false 16384000 (-14) := by decide
  refine ⟨⟨_, _, _, h⟩, ?_⟩
  rw [show S 1148846080 = _ from Flo.V_eq h]
  unfold Flo.val
  have := Flo.pw_neg_mul 14
  have e : Flo.pw 14 = 16384 := Flo.pw_nat 14
  rw [e] at this
  simp only [Bool.false_eq_true, if_false]
  have e2 : ((16384000 : Nat) : Rat) = 16384000 := rfl
  rw [e2]; grind

/-- a sample that MakeSmall draws, if its greatest one is at most K in absolute value -/
def Samp (K : Rat) (b : Nat) : Prop := Sm b ∧ Flo.Ab (S b) (K + K / 1000000 + 1 / 1000000)

theorem samp_ok (mb : Nat) (K : Rat) (hm : Sm mb) (hK : Flo.Ab (S mb) K) (hK60 : K ≤ Flo.pw 60) (z : Int) (h0 : 0 ≤ z) (h1 : z < 2001) :
    ∃ r1 r2, floatBits .mul .f32 mb (floatOfInt .f32 (z - 1000)) = some r1 ∧ floatBits .quo .f32 r1 1148846080 = some r2 ∧ Samp K r2 := by
  obtain ⟨n1, v1⟩ := Flo.int_single (z - 1000) (by omega)
  have hz : Flo.Ab (S (floatOfInt .f32 (z - 1000))) 1000 := by
    rw [v1]
    have a1 : (-1000 : Rat) ≤ ((z - 1000 : Int) : Rat) := Rat.intCast_le_intCast.2 (show -1000 ≤ z - 1000 by omega)
    have a2 : ((z - 1000 : Int) : Rat) ≤ 1000 := Rat.intCast_le_intCast.2 (show z - 1000 ≤ 1000 by omega)
    exact ⟨a1, a2⟩
  have hK0 := hK.nonneg
  have hp := hK.mul hz
  have e71 : Flo.pw 71 = 2048 * Flo.pw 60 := by rw [show (71 : Int) = 11 + 60 from rfl, Flo.pw_add, show Flo.pw 11 = 2048 from Flo.pw_nat 11]
  have l71 := Flo.pw_lt (a := 71) (b := 126) (by omega)
  have l72 := Flo.pw_lt (a := 126) (b := 127) (by omega)
  have o60 : 1 ≤ Flo.pw 60 := by rw [← Flo.pw_zero]; exact Flo.pw_le (by omega)
  have ve := Flo.v_eq
  have v0 := Flo.v_pos
  have es0 := Flo.es_pos
  have ev : Flo.es ≤ Flo.v := Flo.pw_le (by omega)
  have hKv : K * Flo.v = K / 16777216 := by
    have : Flo.v = 1 / 16777216 := by grind
    rw [this]; grind
  obtain ⟨r1, a1, a2, a3⟩ := Flo.s_mul _ _ hm n1 (K * 1000) hp (by grind)
  have hq : (S r1 / 1000) * S 1148846080 = S r1 := by rw [num_1000.2]; grind
  have h1000 : Flo.Ab (S r1) (K * 1000 + K * 1000 * Flo.v + Flo.es) := ((a3.add hp).eq (by grind)).mono (by grind)
  have hq2 : Flo.Ab (S r1 / 1000) (K + K * Flo.v + Flo.es) := by
    unfold Flo.Ab at *; constructor <;> grind
  obtain ⟨r2, b1, b2, b3⟩ := Flo.s_div r1 1148846080 a2 num_1000.1 (by rw [num_1000.2]; grind) _ _ hq hq2 (by grind)
  refine ⟨r1, r2, a1, b1, b2, ?_⟩
  refine ((b3.add hq2).eq (show S r2 - S r1 / 1000 + S r1 / 1000 = S r2 by grind)).mono ?_
  have hKvv : K * Flo.v * Flo.v = K / 16777216 / 16777216 := by
    rw [hKv]; have : Flo.v = 1 / 16777216 := by grind
    rw [this]; grind
  have hev : Flo.es * Flo.v ≤ Flo.es := by
    have := Rat.mul_le_mul_of_nonneg_left (show Flo.v ≤ 1 by grind) (Rat.le_of_lt es0); grind
  grind

theorem info_f32 : (Try.prog.info? 31).map (fun i => (i.zero, i.size, i.bytes)) = some (some (.float .f32 0), 1, 4) := by kernel_rfl

/-- the cells of a row of samples -/
def cellsS (xs : List Nat) : List Value := xs.map (Value.float .f32)

def SmallI (B : Nat) (w0 : World) (a : Option Addr) (len cap c base : Nat) (K : Rat) (v i : Value) (wr : World) : Prop :=
  ∃ (k : Nat) (xs : List Nat), i = .int .i64 (k : Int) ∧ k + xs.length ≤ 11 ∧ At B w0 a len cap c wr ∧ wr.ownsRow base 31 1 v xs.length (cellsS xs) ∧ (∀ x ∈ xs, Samp K x) ∧ base ≤ wr.heap.size

/-- at most eleven samples, in memory of the call's own -/
def SmallP (K : Rat) (w : World) (e : Ending) (w' : World) : Prop :=
  ∃ (xs : List Nat) (v : Value), e = .returned v ∧ xs.length ≤ 11 ∧ (∀ x ∈ xs, Samp K x) ∧ w'.ownsRow w.heap.size 31 1 v xs.length (cellsS xs) ∧ Nw w w'

theorem makeSmall_any (a : Option Addr) (len cap mb : Nat) (K : Rat) (hm : Sm mb) (hK : Flo.Ab (S mb) K) (hK60 : K ≤ Flo.pw 60) (w : World) (hb : Bys w.heap.size a len w) :
    Calls Try.prog 10 #[.slice a len cap, .float .f32 mb] w (SmallP K w) := by
  obtain ⟨i0, hi, hz0, hz1, hz2⟩ := info_parts info_f32
  have Hb := Lib.hid hb
  have HK := Lib.hid hK
  clear hb hK
  go_enter Try.func10, Try.ntmps10
  go_wp2_with fail
  refine (l01New_any _ _ _ _ Hb.out).mono ?_
  rintro e w1 ⟨rfl, hat⟩
  have Hat := Lib.hid hat
  clear hat
  go_wp2_with fail
  have Hs1 := Lib.hid (show w.heap.size + 1 ≤ w1.heap.size from Hat.out.1.2.1)
  refine (below_at _ _ _ _ _ _ _ (by omega) (by omega) _ (Hat.out.alloc _).here).mono ?_
  rintro e w2 ⟨z, z0, z1, rfl, hc2⟩
  have Hown2 := Lib.hid (own_kp (World.ownsRow_lit (base := w.heap.size + 1) (e := 31) (size := 1) w1 #[] 0 Hs1.out (by decide) rfl) hc2.2 (by omega))
  have Hs2 := Lib.hid (show w.heap.size + 1 ≤ w2.heap.size from by have := hc2.2.size; have := Hs1.out; simp at *; omega)
  have Hc2 := Lib.hid (show At w.heap.size w a len cap w.heap.size w2 from ⟨hc2.1, (Hat.out.alloc _).2.trans hc2.2⟩)
  clear hc2
  go_wp2_with fail
  go_loopw [6, 7] (fun v i wr => SmallI w.heap.size w a len cap w.heap.size (w.heap.size + 1) K v i wr) (fun _ i _ => (intOf i).toNat)
  case atStart => exact ⟨z.toNat, [], by rw [Int.toNat_of_nonneg z0], by simp; omega, Hc2.out, Hown2.out, by simp, Hs2.out⟩
  case round =>
    obtain ⟨k, xs, rfl, hk, hat, hown, hok, hbase⟩ := hrel
    have Hat := Lib.hid hat
    obtain ⟨sa, sl, sc, rfl⟩ := own_shape hown
    have Hown := Lib.hid hown
    have Hok := Lib.hid hok
    clear hat hown hok
    by_cases hk0 : 0 < k
    · go_wp2_with fail
      refine (below_at _ _ _ _ _ _ _ (by omega) (by omega) _ Hat.out.here).mono ?_
      rintro e w3 ⟨y, y0, y1, rfl, hc3⟩
      have Hc3 := Lib.hid (show At w.heap.size w a len cap w.heap.size w3 from ⟨hc3.1, Hat.out.2.trans hc3.2⟩)
      have Hown3 := Lib.hid (own_kp Hown.out hc3.2 (by omega))
      have Hs3 := Lib.hid (show w.heap.size + 1 ≤ w3.heap.size from by have := hc3.2.size; omega)
      clear hc3
      obtain ⟨r1, r2, q1, q2, q3⟩ := samp_ok mb K hm HK.out hK60 y y0 y1
      have f1 : ∀ w, fres w .mul .f32 mb (floatOfInt .f32 (y - 1000)) = r1 := fun w => by unfold fres; rw [q1]
      have f2 : ∀ w, fres w .quo .f32 r1 1148846080 = r2 := fun w => by unfold fres; rw [q2]
      have d1 : fdr .mul .f32 mb (floatOfInt .f32 (y - 1000)) = 0 := by unfold fdr; rw [q1]; rfl
      have d2 : fdr .quo .f32 r1 1148846080 = 0 := by unfold fdr; rw [q2]; rfl
      have Hq := Lib.hid q3
      clear q1 q2 q3
      go_wp2_with (at_builtin; refine wpList_append_own _ rfl _ _ 28 rfl (w.heap.size + 1) 31 i0 (.float .f32 0) 1 4 Try.underlying28 hi hz0 hz1 hz2 rfl (by decide) _ _ _ rfl (Hown3.out.alloc _) ⟨w3.heap.size, 0, none⟩ 1 1 [.float .f32 r2] rfl rfl ?c1 ?c2 ?c3 ?c4 ?c5 ?_)
      case c1 =>
        intro j u hj
        match j, hj with
        | 0, hj => simp at hj; subst hj; simp [Addr.add]
      case c2 => intro u hu; simp at hu; subst hu; rfl
      case c3 => unfold maxLen; omega
      case c4 => omega
      case c5 => have := Hs3.out; simp; omega
      · intro v' w4 hown4 hgrow _
        have hrow : ∀ q, (Value.slice sa sl sc).ownBlock = some q → w.heap.size + 1 ≤ q := fun q hq => own_ge Hown3.out q hq
        have Hc4 := Lib.hid ((Hc3.out.alloc _).grown hgrow hrow (by omega) (by omega) (by omega))
        have Hs4 := Lib.hid (show w.heap.size + 1 ≤ w4.heap.size from by have := hgrow.size; have := Hs3.out; simp at *; omega)
        rw [show cellsS xs ++ [Value.float .f32 r2] = cellsS (xs ++ [r2]) from by simp [cellsS], show xs.length + 1 = (xs ++ [r2]).length from by simp] at hown4
        have Hown4 := Lib.hid hown4
        have Hok4 := Lib.hid (show ∀ x ∈ xs ++ [r2], Samp K x from by
          intro x hx
          rcases List.mem_append.1 hx with hx | hx
          · exact Hok.out x hx
          · simp at hx; subst hx; exact Hq.out)
        clear hown4 hgrow hrow
        go_wp2_with fail
        go_roundw
        case rel => exact ⟨k - 1, xs ++ [r2], by rw [show ((k - 1 : Nat) : Int) = (k : Int) - 1 from by omega], by simp; omega, Hc4.out, Hown4.out, Hok4.out, Hs4.out⟩
        case measure => simp only [intOf]; omega
    · go_wp2_with fail
      go_ret
      exact ⟨xs, _, rfl, by omega, Hok.out, own_base Hown.out (by omega), Hat.out.toNw (Nat.le_refl _)⟩

/-! ### the laws' own bytes -/
theorem ret_int' {k : IntKind} {a b : Int} (h : a = b) : Ending.returned (.int k a) = .returned (.int k b) := by rw [h]
def AtP (w : World) (e : Ending) (w' : World) : Prop := ∃ z : Nat, z ≤ 255 ∧ e = .returned (.int .i64 (z : Int)) ∧ w = w'
theorem at_any (a : Option Addr) (len cap i : Nat) (hl : len ≤ 1048576) (hi : i ≤ 100) (w : World) (hb : Bys w.heap.size a len w) :
    Calls Try.prog 12 #[.slice a len cap, .int .i64 (i : Int)] w (AtP w) := by
  by_cases hlt : i < len
  · rcases hb.2 with h00 | ⟨blk, off, rfl, hblk, hcell⟩
    · omega
    · obtain ⟨x, hx, hcx⟩ := hcell i hlt
      clear hcell hb
      go_enter Try.func12, Try.ntmps12
      go_wp2
      go_ret
      exact ⟨x, hx, rfl, rfl⟩
  · clear hb
    go_enter Try.func12, Try.ntmps12
    go_wp2
    go_ret
    exact ⟨(i * 37 + len * 11) % 256, by omega, ret_int' (show ((i : Int) * 37 + len * 11) % 256 = (((i * 37 + len * 11) % 256 : Nat) : Int) by omega), rfl⟩

end Go.Proofs.Ytlhhcchncobmhaa
