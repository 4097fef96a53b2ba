/- The walk of what draws bodies: the result's modes are valid, and lie in memory of its own.
   Conditions: those that each statement names. -/
import Derived.Test.YtlhhcchncobmhaaBeat
namespace Go.Proofs.Ytlhhcchncobmhaa
set_option linter.unusedSimpArgs false
set_option linter.unusedVariables false
open Go Go.RowKit

structure M4 where
  pr : Nat
  pi : Nat
  gr : Nat
  gi : Nat
def M4.ok (m : M4) : Prop := Valid m.pr m.pi m.gr m.gi
def M4.cells (m : M4) : List Value := [.complex .f32 m.pr m.pi, .complex .f32 m.gr m.gi]
def cellsM (ms : List M4) : List Value := ms.flatMap M4.cells
theorem cellsM_len (ms : List M4) : (cellsM ms).length = ms.length * 2 := by
  induction ms with
  | nil => rfl
  | cons m ms ih => simp only [cellsM, List.flatMap_cons, List.length_append, List.length_cons] at *; simp [M4.cells] at *; omega
theorem cellsM_snoc (ms : List M4) (m : M4) : cellsM (ms ++ [m]) = cellsM ms ++ m.cells := by simp [cellsM]
theorem cellsM_at (ms : List M4) (k : Nat) (m : M4) (h : ms[k]? = some m) : (cellsM ms)[2 * k]? = some (.complex .f32 m.pr m.pi) ∧ (cellsM ms)[2 * k + 1]? = some (.complex .f32 m.gr m.gi) := by
  induction ms generalizing k with
  | nil => simp at h
  | cons a ms ih =>
    cases k with
    | zero => simp at h; subst h; simp [cellsM, M4.cells]
    | succ k =>
      have := ih k (by simpa using h)
      rw [show 2 * (k + 1) = 2 * k + 2 from by omega, show 2 * k + 2 + 1 = 2 * k + 1 + 2 from by omega]
      simpa [cellsM, M4.cells] using this

theorem At.grown {B : Nat} {w0 : World} {a : Option Addr} {len cap c base : Nat} {w w1 : World} {row : Option Nat} (h : At B w0 a len cap c w) (hg : w.grownBy w1 row) (hr : ∀ k, row = some k → base ≤ k) (hc : c < base) (hB : B ≤ base) (hw : w0.heap.size ≤ base) : At B w0 a len cap c w1 := by
  obtain ⟨⟨h1, h2, h3, i, j, h4, h5, h6, h7, h8, h9, h10⟩, hk⟩ := h
  have hb : w1.heap[c]? = w.heap[c]? := hg.block c h2 (fun e => by have := hr c e.symm; omega)
  have k : ∀ q : Addr, q.block = c → w1.cell? q = w.cell? q := fun q hq => World.cell?_of_block (w := w) (by rw [hq]; exact hb)
  have f : ∀ q : Addr, q.block = c → w1.frozen? q = w.frozen? q := fun q hq => World.frozen?_of_block (w := w) (by rw [hq]; exact hb)
  have hs := hg.size
  exact ⟨⟨h1, by omega, h3.below ⟨hg.os, hg.tape, hg.output, hg.size, fun q hq => hg.block q (by omega) (fun e => by have := hr q e.symm; omega)⟩, i, j, h4, by rw [k _ rfl]; exact h5, by rw [k _ rfl]; exact h6, by rw [k _ rfl]; exact h7, by rw [f _ rfl]; exact h8, by rw [f _ rfl]; exact h9, by rw [f _ rfl]; exact h10⟩,
    hg.os.trans hk.os, hg.tape.trans hk.tape, hg.output.trans hk.output, by have := hk.size; omega, fun q hq hne => (hg.block q (by have := hk.size; omega) (fun e => by have := hr q e.symm; omega)).trans (hk.block q hq hne)⟩

/-- block b holds one cell -/
def Has1 (w : World) (b : Nat) (v : Value) : Prop := b < w.heap.size ∧ w.cell? ⟨b, 0, none⟩ = some v ∧ w.frozen? ⟨b, 0, none⟩ = false
theorem Has1.of {w w' : World} {b : Nat} {v : Value} (h : Has1 w b v) (hs : w.heap.size ≤ w'.heap.size) (hb : w'.heap[b]? = w.heap[b]?) : Has1 w' b v := by
  obtain ⟨h0, h1, h3⟩ := h
  have k : ∀ p : Addr, p.block = b → w'.cell? p = w.cell? p := fun p hp => World.cell?_of_block (w := w) (by rw [hp]; exact hb)
  have f : ∀ p : Addr, p.block = b → w'.frozen? p = w.frozen? p := fun p hp => World.frozen?_of_block (w := w) (by rw [hp]; exact hb)
  exact ⟨by omega, by rw [k _ rfl]; exact h1, by rw [f _ rfl]; exact h3⟩
theorem Has1.kp {c : Nat} {w w' : World} {b : Nat} {v : Value} (h : Has1 w b v) (hk : Kp c w w') (hne : b ≠ c) : Has1 w' b v := h.of hk.size (hk.block b h.1 (fun e => hne (by cases e; rfl)))
theorem Has1.nw {w w' : World} {b : Nat} {v : Value} (h : Has1 w b v) (hk : Nw w w') : Has1 w' b v := h.of hk.size (hk.block b h.1 (by simp))
theorem Has1.grown {w w' : World} {b : Nat} {v : Value} {row : Option Nat} (h : Has1 w b v) (hk : w.grownBy w' row) (hr : row ≠ some b) : Has1 w' b v := h.of hk.size (hk.block b h.1 (fun e => hr e.symm))
theorem Has1.alloc {w : World} {b : Nat} {v : Value} (h : Has1 w b v) (o : Obj) : Has1 (w.alloc o) b v := h.nw ((Nw.refl _).alloc _)
theorem Has1.draw {w : World} {b : Nat} {v : Value} (h : Has1 w b v) (n : Nat) : Has1 (w.drewN n) b v := h.nw ((Nw.refl _).draw _)
theorem Has1.set {w : World} {b : Nat} {v : Value} (h : Has1 w b v) {p : Addr} (hp : p.block ≠ b) (u : Value) : Has1 (w.setCell p u) b v :=
  h.of (by simp [World.setCell]) (Below.heap_setCell _ _ _ _ (fun e => hp e.symm))
theorem Has1.put {w : World} {b : Nat} {v : Value} (h : Has1 w b v) (u : Value) : Has1 (w.setCell ⟨b, 0, none⟩ u) b u := by
  obtain ⟨h0, h1, h2⟩ := h
  refine ⟨by simpa using h0, ?_, ?_⟩ <;> go_simp
theorem Has1.new (w : World) (T : TypeId) (v : Value) : Has1 (w.alloc (.cells #[v] T (0, 0))) w.heap.size v := by
  refine ⟨by simp, ?_, ?_⟩ <;> go_simp

section
variable {w w' : World} {base : Nat} {E : TypeId} {size : Nat} {v : Value} {n : Nat} {xs : List Value}
theorem own_shape (h : w.ownsRow base E size v n xs) : ∃ a l c, v = .slice a l c := by
  rcases h.2 with ⟨rfl, _⟩ | ⟨g, cap, cur, rfl, _⟩
  · exact ⟨_, _, _, rfl⟩
  · exact ⟨_, _, _, rfl⟩
theorem own_ge (h : w.ownsRow base E size v n xs) (k : Nat) (hk : v.ownBlock = some k) : base ≤ k := (h.lt k hk).1
theorem own_kp {c : Nat} (h : w.ownsRow base E size v n xs) (hk : Kp c w w') (hc : c < base) : w'.ownsRow base E size v n xs := by
  refine h.kept hk ?_
  cases hv : v.ownBlock with
  | none => exact .inl rfl
  | some k => right; intro e; cases e; have := own_ge h _ hv; omega
theorem own_nw (h : w.ownsRow base E size v n xs) (hk : Nw w w') : w'.ownsRow base E size v n xs := h.kept hk (by cases hv : v.ownBlock <;> simp)
theorem own_set (h : w.ownsRow base E size v n xs) {p : Addr} (hp : p.block < base) (u : Value) : (w.setCell p u).ownsRow base E size v n xs := ownsRow_setCell_below h hp u
theorem own_base {b' : Nat} (h : w.ownsRow base E size v n xs) (hb : b' ≤ base) : w.ownsRow b' E size v n xs := by
  refine ⟨h.1, ?_⟩
  rcases h.2 with h | ⟨g, cap, cur, hv, hg, r⟩
  · exact .inl h
  · exact .inr ⟨g, cap, cur, hv, by omega, r⟩
end
theorem At.nw {B : Nat} {w0 : World} {a : Option Addr} {len cap c : Nat} {w w1 : World} (h : At B w0 a len cap c w) (hg : Nw w w1) : At B w0 a len cap c w1 :=
  h.grown (base := max (c + 1) (max B w0.heap.size)) hg (fun k hk => by cases hk) (by omega) (by omega) (by omega)

theorem info_mode : (Try.prog.info? 61).map (fun i => (i.zero, i.size, i.bytes)) = some (some (.agg #[.complex .f32 0 0, .complex .f32 0 0]), 2, 16) := by kernel_rfl

/-- what the loop of l2Body holds -/
def BodyI (B : Nat) (w0 : World) (a : Option Addr) (len cap c bb br base M : Nat) (i : Value) (wr : World) : Prop :=
  ∃ (k : Nat) (ms : List M4) (v : Value), i = .int .i64 (k : Int) ∧ k + ms.length ≤ M ∧ At B w0 a len cap c wr ∧ Has1 wr bb v ∧ (∃ u, Has1 wr br u) ∧ wr.ownsRow base 61 2 v ms.length (cellsM ms) ∧ (∀ m ∈ ms, m.ok) ∧ base ≤ wr.heap.size

/-- a body with at most M modes, all valid, in memory from 'base' on -/
def BodyP (B : Nat) (w0 : World) (a : Option Addr) (len cap c M base : Nat) (e : Ending) (w' : World) : Prop :=
  ∃ (ms : List M4) (v : Value), e = .returned (.agg #[v]) ∧ ms.length ≤ M ∧ (∀ m ∈ ms, m.ok) ∧ w'.ownsRow base 61 2 v ms.length (cellsM ms) ∧ At B w0 a len cap c w'

set_option maxHeartbeats 1600000 in
theorem l2Body_at (B : Nat) (w0 : World) (a : Option Addr) (len cap c M : Nat) (hM : M ≤ 16) (w : World) (hc : At B w0 a len cap c w) :
    Calls Try.prog 81 #[.pointer (some ⟨c, 0, none⟩), .int .i64 (M : Int)] w (BodyP B w0 a len cap c M w.heap.size) := by
  obtain ⟨i0, hi, hz0, hz1, hz2⟩ := info_parts info_mode
  have hcs : c < w.heap.size := hc.1.2.1
  have hBc : B ≤ c := hc.1.1
  have hw0 : w0.heap.size ≤ w.heap.size := hc.2.size
  have Hc := Lib.hid hc
  clear hc
  go_enter Try.func81, Try.ntmps81
  have hsz : ∀ o o', ((w.alloc o).alloc o').heap.size = w.heap.size + 2 := fun o o' => by simp
  have Hsz := Lib.hid hsz
  clear hsz
  go_wp2_with fail
  refine (below_at _ _ _ _ _ _ _ (by omega) (by omega) _ ((Hc.out.alloc _).alloc _).here).mono ?_
  rintro e w1 ⟨x, x0, x1, rfl, hc1⟩
  have Hb1 := Lib.hid ((show Has1 ((w.alloc (.cells #[.slice none 0 0] 69 (0, 0))).alloc (.cells #[.slice none 0 0] 69 (0, 0))) (w.heap.size + 1) (.slice none 0 0) from by
    simpa using Has1.new (w.alloc (.cells #[.slice none 0 0] 69 (0, 0))) 69 (.slice none 0 0)).kp hc1.2 (by omega))
  have Hr1 := Lib.hid (((Has1.new w 69 (.slice none 0 0)).alloc (.cells #[.slice none 0 0] 69 (0, 0))).kp hc1.2 (by omega))
  have Hs1 := Lib.hid (show w.heap.size + 2 ≤ w1.heap.size from by have := hc1.2.size; rw [Hsz.out] at this; exact this)
  have Hc1 := Lib.hid (show At B w0 a len cap c w1 from ⟨hc1.1, ((Hc.out.alloc _).alloc _).2.trans hc1.2⟩)
  clear hc1
  go_wp2_with fail
  go_loopw [6] (fun i wr => BodyI B w0 a len cap c (w.heap.size + 1) w.heap.size (w.heap.size + 2) M i wr) (fun i _ => (intOf i).toNat)
  case atStart => exact ⟨x.toNat, [], _, by rw [Int.toNat_of_nonneg x0], by simp; omega, Hc1.out, Hb1.out, ⟨_, Hr1.out⟩, World.ownsRow_nil _ _ _ _, by simp, Hs1.out⟩
  case round =>
    obtain ⟨k, ms, v, rfl, hk, hat, hbb, ⟨u, hbr⟩, hown, hok, hbase⟩ := hrel
    have Hat := Lib.hid hat
    have Hbb := Lib.hid hbb
    have Hbr := Lib.hid hbr
    have Hown := Lib.hid hown
    have Hok := Lib.hid hok
    clear hat hbb hbr hown hok
    by_cases hk0 : 0 < k
    · go_wp2_with fail
      refine (l2Mode_at _ _ _ _ _ _ _ Hat.out.here).mono ?_
      rintro e w2 ⟨pr, pi, gr, gi, rfl, hc2⟩
      have Hc2 := Lib.hid (show At B w0 a len cap c w2 from ⟨hc2.1, Hat.out.2.trans hc2.2⟩)
      have Hbb2 := Lib.hid (Hbb.out.kp hc2.2 (by omega))
      have Hbr2 := Lib.hid (Hbr.out.kp hc2.2 (by omega))
      have Hown2 := Lib.hid (own_kp Hown.out hc2.2 (by omega))
      have Hs2 := Lib.hid (show w.heap.size + 2 ≤ w2.heap.size from by have := hc2.2.size; omega)
      clear hc2
      go_wp2_with fail
      refine (specMode_any _ _ _ _ _).mono ?_
      rintro e w3 ⟨rfl, n3⟩
      have Hc3 := Lib.hid (At.nw (Hc2.out.alloc _) n3)
      have Hm3 := Lib.hid ((HasMode.new w2 61 pr pi gr gi).nw n3)
      have Hbb3 := Lib.hid ((Hbb2.out.alloc _).nw n3)
      have Hbr3 := Lib.hid ((Hbr2.out.alloc _).nw n3)
      have Hown3 := Lib.hid (own_nw (Hown2.out.alloc _) n3)
      have Hs3 := Lib.hid (show w.heap.size + 2 ≤ w3.heap.size from by have := n3.size; have := Hs2.out; simp at *; omega)
      clear n3
      obtain ⟨sa, sl, sc, rfl⟩ := own_shape Hown3.out
      obtain ⟨m0, m1, m2, -, -⟩ := Hm3.out
      obtain ⟨b0, b1, b2⟩ := Hbb3.out
      cases hv : modeB pr pi gr gi labs
      · go_wp2_with fail
        go_roundw
        case rel => exact ⟨k - 1, ms, _, by rw [show ((k - 1 : Nat) : Int) = (k : Int) - 1 from by omega], by omega, Hc3.out, Hbb3.out, ⟨_, Hbr3.out⟩, Hown3.out, Hok.out, Hs3.out⟩
        case measure => simp only [intOf]; omega
      · go_wp2_with (at_builtin; refine wpList_append_own _ rfl _ _ 23 rfl (w.heap.size + 2) 61 i0 (.agg #[.complex .f32 0 0, .complex .f32 0 0]) 2 16 Try.underlying23 hi hz0 hz1 hz2 rfl (by decide) _ _ _ rfl (Hown3.out.alloc _) ⟨w3.heap.size, 0, none⟩ 1 1 [.complex .f32 pr pi, .complex .f32 gr gi] rfl rfl ?c1 ?c2 ?c3 ?c4 ?c5 ?_)
        case c1 =>
          intro j u hj
          match j, hj with
          | 0, hj => simp at hj; subst hj; simp [Addr.add]
          | 1, hj => simp at hj; subst hj; simp [Addr.add]
        case c2 => intro u hu; simp at hu; rcases hu with rfl | rfl <;> rfl
        case c3 => unfold maxLen; omega
        case c4 => omega
        case c5 => have := Hs3.out; simp; omega
        · intro v' w4 hown4 hgrow _
          have hrow : ∀ q, (Value.slice sa sl sc).ownBlock = some q → w.heap.size + 2 ≤ q := fun q hq => own_ge Hown3.out q hq
          have Hc4 := Lib.hid ((Hc3.out.alloc _).grown hgrow hrow (by omega) (by omega) (by omega))
          have Hbb4 := Lib.hid ((Hbb3.out.alloc _).grown hgrow (fun e => by have := hrow _ e; omega))
          have Hbr4 := Lib.hid ((Hbr3.out.alloc _).grown hgrow (fun e => by have := hrow _ e; omega))
          have Hs4 := Lib.hid (show w.heap.size + 2 ≤ w4.heap.size from by have := hgrow.size; have := Hs3.out; simp at *; omega)
          rw [show cellsM ms ++ [Value.complex .f32 pr pi, Value.complex .f32 gr gi] = cellsM (ms ++ [⟨pr, pi, gr, gi⟩]) from (cellsM_snoc ms ⟨pr, pi, gr, gi⟩).symm, show ms.length + 1 = (ms ++ [(⟨pr, pi, gr, gi⟩ : M4)]).length from by simp] at hown4
          obtain ⟨ta, tl, tc, rfl⟩ := own_shape hown4
          have Hown4 := Lib.hid hown4
          have Hok4 := Lib.hid (show ∀ m ∈ ms ++ [(⟨pr, pi, gr, gi⟩ : M4)], m.ok from by
            intro m hm
            rcases List.mem_append.1 hm with hm | hm
            · exact Hok.out m hm
            · simp at hm; subst hm; exact hv)
          clear hown4 hgrow hrow b0 b1 b2 m0 m1 m2
          obtain ⟨b0, b1, b2⟩ := Hbb4.out
          go_wp2_with fail
          go_roundw
          case rel => exact ⟨k - 1, ms ++ [⟨pr, pi, gr, gi⟩], _, by rw [show ((k - 1 : Nat) : Int) = (k : Int) - 1 from by omega], by simp; omega, Hc4.out.set (by show w.heap.size + 1 ≠ c; omega) (by show B ≤ w.heap.size + 1; omega) (by show w0.heap.size ≤ w.heap.size + 1; omega) _, Hbb4.out.put _, ⟨_, Hbr4.out.set (by show w.heap.size + 1 ≠ w.heap.size; omega) _⟩, own_set Hown4.out (by show w.heap.size + 1 < w.heap.size + 2; omega) _, Hok4.out, by simpa using Hs4.out⟩
          case measure => simp only [intOf]; omega
    · obtain ⟨sa, sl, sc, rfl⟩ := own_shape Hown.out
      obtain ⟨b0, b1, b2⟩ := Hbb.out
      obtain ⟨r0, r1, r2⟩ := Hbr.out
      go_wp2_with fail
      exact bodyPost_ret (v := .agg #[.slice sa sl sc]) (by simp [results, Try.results81, go_sem, r0, r1, r2]) rfl
        ⟨ms, _, rfl, by omega, Hok.out, own_base (own_set Hown.out (by show w.heap.size < w.heap.size + 2; omega) _) (by omega), Hat.out.set (by show w.heap.size ≠ c; omega) (by show B ≤ w.heap.size; omega) hw0 _⟩

end Go.Proofs.Ytlhhcchncobmhaa
