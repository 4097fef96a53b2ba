/- Samples read through a slice that may begin within a row; the walk of equal.
   Conditions: those that each statement names. -/
import Derived.Test.YtfgofmcpgfofaaaSame
import Derived.Laws.AppendOwnNone
import Derived.Deep.RegionLawGrows
namespace Go.Proofs.Ytfgofmcpgfofaaa
open Go Go.RowKit

/-- a slice leads to these samples -/
def Sam (w : World) (a : Option Addr) (n : Nat) (xs : List Nat) : Prop :=
  xs.length = n ∧ (n = 0 ∨ ∃ b o, a = some ⟨b, o, none⟩ ∧ b < w.heap.size ∧ ∀ (k : Nat) x, xs[k]? = some x → w.cell? ⟨b, o + k, none⟩ = some (.float .f32 x))
theorem Sam.nw {w w' : World} {a : Option Addr} {n : Nat} {xs : List Nat} (h : Sam w a n xs) (hn : Nw w w') : Sam w' a n xs := by
  obtain ⟨h1, h2⟩ := h
  refine ⟨h1, ?_⟩
  rcases h2 with h0 | ⟨b, o, rfl, hb, hc⟩
  · exact .inl h0
  · exact .inr ⟨b, o, rfl, Nat.lt_of_lt_of_le hb hn.size, fun k x hx => by rw [hn.cell (by exact hb)]; exact hc k x hx⟩
theorem Sam.at {w : World} {a : Option Addr} {n : Nat} {xs : List Nat} (h : Sam w a n xs) {k x : Nat} (hx : xs[k]? = some x) : ∃ b o, a = some ⟨b, o, none⟩ ∧ w.cell? ⟨b, o + k, none⟩ = some (.float .f32 x) := by
  obtain ⟨h1, h2⟩ := h
  have := (List.getElem?_eq_some_iff.1 hx).1
  rcases h2 with h0 | ⟨b, o, rfl, hb, hc⟩
  · omega
  · exact ⟨b, o, rfl, hc k x hx⟩
/-- an own row, from its place j on -/
theorem own_sam {w : World} {base n g cap j m : Nat} {xs : List Nat} (h : w.ownsRow base 49 1 (.slice (some ⟨g, 0, none⟩) n cap) n (cellsS xs)) (hl : xs.length = n) (hm : j + m = n) : Sam w (some ⟨g, j, none⟩) m (xs.drop j) := by
  refine ⟨by rw [List.length_drop]; omega, ?_⟩
  by_cases h0 : m = 0
  · exact .inl h0
  · right
    refine ⟨g, j, rfl, (h.lt g rfl).2, fun k x hx => ?_⟩
    rw [List.getElem?_drop] at hx
    obtain ⟨g1, cap1, hv, -, -, -, e⟩ := own_sample h hx hl.symm
    cases hv
    exact e
theorem own_prefix {w : World} {base n g cap k : Nat} {xs : List Nat} (h : w.ownsRow base 49 1 (.slice (some ⟨g, 0, none⟩) n cap) n (cellsS xs)) (hl : xs.length = n) (hk : k ≤ n) :
    w.ownsRow base 49 1 (.slice (some ⟨g, 0, none⟩) k cap) k (cellsS (xs.take k)) := by
  obtain ⟨h1, h2⟩ := h
  refine ⟨by simp [cellsS]; omega, ?_⟩
  rcases h2 with ⟨e, _⟩ | ⟨g', cap', cur, e, hb, hg, hc, hm, hs, ht⟩
  · cases e
  · cases e
    refine .inr ⟨g, cap, cur, rfl, hb, hg, by omega, hm, hs, ?_⟩
    have e2 : cur.toList.take (k * 1) = (cur.toList.take (n * 1)).take (k * 1) := by rw [List.take_take]; congr 1; omega
    rw [e2, ht]
    simp [cellsS, List.map_take]

set_option maxRecDepth 100000 in
theorem equal_ok (xs ys : List Nat) (n ca cb : Nat) (a b : Option Addr) (hn : n ≤ 1048576) (w : World) (ha : Sam w a n xs) (hb : Sam w b n ys)
    (heq : ∀ (k : Nat) x y, xs[k]? = some x → ys[k]? = some y → (FloatKind.f32.format.order x y == some .eq) = true) :
    Calls Try.prog 34 #[.slice a n ca, .slice b n cb] w fun e w' => e = .returned (.bool true) ∧ Nw w w' := by
  have Ha := Lib.hid ha
  have Hb := Lib.hid hb
  have He := Lib.hid heq
  clear ha hb heq
  go_enter Try.func34, Try.ntmps34
  go_wp2_with fail
  go_loopw [13] (fun i wr => SameI n w i wr) (fun i _ => n - (intOf i).toNat)
  case atStart => exact ⟨0, by omega, rfl, Nw.refl _⟩
  case round =>
    obtain ⟨k, hk, rfl, hN⟩ := hrel
    have Nr := Lib.hid hN
    clear hN
    by_cases hlt : k < n
    · obtain ⟨x, hxk⟩ : ∃ x, xs[k]? = some x := ⟨xs[k]'(by rw [Ha.out.1]; exact hlt), List.getElem?_eq_getElem _⟩
      obtain ⟨y, hyk⟩ : ∃ y, ys[k]? = some y := ⟨ys[k]'(by rw [Hb.out.1]; exact hlt), List.getElem?_eq_getElem _⟩
      obtain ⟨b1, o1, rfl, e1⟩ := (Ha.out.nw Nr.out).at hxk
      obtain ⟨b2, o2, rfl, e2⟩ := (Hb.out.nw Nr.out).at hyk
      have hb := He.out k x y hxk hyk
      have hne : (FloatKind.f32.format.order x y != some .eq) = false := by unfold bne; rw [hb]; rfl
      clear hxk hyk
      go_wp2_with fail
      go_quiet (fail)
      have N2 := Lib.hid (Nr.out.draw nq)
      go_wp2_with fail
      go_roundw
      case rel => exact ⟨k + 1, by omega, by rw [show ((k + 1 : Nat) : Int) = (k : Int) + 1 from by omega], N2.out⟩
      case measure => simp only [intOf]; omega
    · obtain rfl : k = n := by omega
      go_wp2_with fail
      go_ret
      exact ⟨rfl, Nr.out⟩


/-- append of one own row of samples to another, as a step of a region that draws its order -/
theorem step_append_samples {ops : Array Oper} {o : Oper} {a : Act} {w : World} {K : Act → World → Prop} {Q : Exit → Act → World → Prop} {E : Prop} (hg : o.guard = none) (s x : Operand)
    (hop : o.op = Op.call { callee := Callee.builtin Builtin.append, args := #[s, x], argTypes := #[47, 47] }) (base b2 n m : Nat) (v u : Value) (xs ys : List Nat) (hs : a.eval s = v) (hx : a.eval x = u)
    (hv : w.ownsRow base 49 1 v n (cellsS xs)) (hu : w.ownsRow b2 49 1 u m (cellsS ys)) (hy : ys.length = m) (hnm : n + m ≤ 1048576) (hb : base ≤ w.heap.size)
    (hK : ∀ v' w', w'.ownsRow base 49 1 v' (n + m) (cellsS (xs ++ ys)) → w.grownBy w' v.ownBlock → K (a.put o.dst v') w') :
    if Region.wanted o (yielded ops a.tmps) = true then Oper.wp Try.prog o a w K Q else E := by
  have hw : Region.wanted o (yielded ops a.tmps) = true := by simp [Region.wanted, hg]
  rw [if_pos hw]
  obtain ⟨f0, hf, hfz0, hfz1, hfz2⟩ := info_parts info_f32
  rcases hu.2 with ⟨h1, h2⟩ | ⟨g, cap, cur, h1, hbk, hgk, hc, hmx, hsk, ht⟩
  · subst h1
    have hy0 : ys = [] := List.eq_nil_of_length_eq_zero (by omega)
    subst h2; subst hy0
    have hrun := run_append_owned_none (P := Try.prog) (w := w) base 47 o.type 49 f0 1 Try.underlying47 hf v n (cellsS xs) hv
    unfold Oper.wp
    simp [execOp, hop, resolve, invoke, builtin, hs, hx, hrun, Result.andThen]
    exact hK v w (by simpa using hv) (World.grownBy.refl _ _)
  · subst h1
    refine wp_append_own w s x 47 hop base 49 f0 (.float .f32 0) 1 4 Try.underlying47 hf hfz0 hfz1 hfz2 rfl (by decide) v n (cellsS xs) hs hv ⟨g, 0, none⟩ m cap (cellsS ys) hx (by simp [cellsS, hy]) ?_ ?_ (by unfold maxLen; omega) (by omega) hb ?_
    · intro j z hj
      have hjl : j < m := by
        have := (List.getElem?_eq_some_iff.1 hj).1
        simp [cellsS] at this; omega
      have c1 := hu.cellAt j (by omega)
      rw [hj] at c1
      rw [show (⟨g, 0, none⟩ : Addr).add j = ⟨g, j, none⟩ from by simp [Addr.add]; first | done | (intro h; omega)]
      exact c1
    · intro z hz
      obtain ⟨q, _, rfl⟩ := List.mem_map.1 hz
      rfl
    · intro v' w' h1 h2 _
      exact hK v' w' (by simpa [cellsS] using h1) h2

end Go.Proofs.Ytfgofmcpgfofaaa
