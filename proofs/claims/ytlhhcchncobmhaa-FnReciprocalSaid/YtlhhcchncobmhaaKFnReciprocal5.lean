/- Texts of a proof, put together: Sam, Row, Fls, En, EnN, Loud, LoudS, Recip, RoomU.
   Conditions: those that each statement names. -/
import Derived.Test.YtlhhcchncobmhaaKFnReciprocal4
import Derived.Laws.AppendOwnNone
import Derived.Deep.RegionLawGrows
import Derived.ProofKit
import Derived.OpenShut
import Derived.ShutString
import Derived.ChangeOld
import Derived.Deep.RegionHeld3
/- Samples read through a slice that may begin within a row; the walk of equal.
   Conditions: those that each statement names. -/
namespace Go.Proofs.Ytlhhcchncobmhaa
set_option linter.unusedSimpArgs false
set_option linter.unusedVariables false
open Go Go.RowKit

/-- a slice leads to these samples -/
def Sam (w : World) (a : Option Addr) (n : Nat) (xs : List Nat) : Prop :=
  xs.length = n ∧ (n = 0 ∨ ∃ b o, a = some ⟨b, o, none⟩ ∧ b < w.heap.size ∧ ∀ (k : Nat) x, xs[k]? = some x → w.cell? ⟨b, o + k, none⟩ = some (.float .f32 x))
theorem Sam.nw {w w' : World} {a : Option Addr} {n : Nat} {xs : List Nat} (h : Sam w a n xs) (hn : Nw w w') : Sam w' a n xs := by
  obtain ⟨h1, h2⟩ := h
  refine ⟨h1, ?_⟩
  rcases h2 with h0 | ⟨b, o, rfl, hb, hc⟩
  · exact .inl h0
  · exact .inr ⟨b, o, rfl, Nat.lt_of_lt_of_le hb hn.size, fun k x hx => by rw [hn.cell (by exact hb)]; exact hc k x hx⟩
theorem Sam.at {w : World} {a : Option Addr} {n : Nat} {xs : List Nat} (h : Sam w a n xs) {k x : Nat} (hx : xs[k]? = some x) : ∃ b o, a = some ⟨b, o, none⟩ ∧ w.cell? ⟨b, o + k, none⟩ = some (.float .f32 x) := by
  obtain ⟨h1, h2⟩ := h
  have := (List.getElem?_eq_some_iff.1 hx).1
  rcases h2 with h0 | ⟨b, o, rfl, hb, hc⟩
  · omega
  · exact ⟨b, o, rfl, hc k x hx⟩
/-- an own row, from its place j on -/
theorem own_sam {w : World} {base n g cap j m : Nat} {xs : List Nat} (h : w.ownsRow base 31 1 (.slice (some ⟨g, 0, none⟩) n cap) n (cellsS xs)) (hl : xs.length = n) (hm : j + m = n) : Sam w (some ⟨g, j, none⟩) m (xs.drop j) := by
  refine ⟨by rw [List.length_drop]; omega, ?_⟩
  by_cases h0 : m = 0
  · exact .inl h0
  · right
    refine ⟨g, j, rfl, (h.lt g rfl).2, fun k x hx => ?_⟩
    rw [List.getElem?_drop] at hx
    obtain ⟨g1, cap1, hv, -, -, -, e⟩ := own_sample h hx hl.symm
    cases hv
    exact e
theorem own_prefix {w : World} {base n g cap k : Nat} {xs : List Nat} (h : w.ownsRow base 31 1 (.slice (some ⟨g, 0, none⟩) n cap) n (cellsS xs)) (hl : xs.length = n) (hk : k ≤ n) :
    w.ownsRow base 31 1 (.slice (some ⟨g, 0, none⟩) k cap) k (cellsS (xs.take k)) := by
  obtain ⟨h1, h2⟩ := h
  refine ⟨by simp [cellsS]; omega, ?_⟩
  rcases h2 with ⟨e, _⟩ | ⟨g', cap', cur, e, hb, hg, hc, hm, hs, ht⟩
  · cases e
  · cases e
    refine .inr ⟨g, cap, cur, rfl, hb, hg, by omega, hm, hs, ?_⟩
    have e2 : cur.toList.take (k * 1) = (cur.toList.take (n * 1)).take (k * 1) := by rw [List.take_take]; congr 1; omega
    rw [e2, ht]
    simp [cellsS, List.map_take]

set_option maxRecDepth 100000 in
theorem equal_ok (xs ys : List Nat) (n ca cb : Nat) (a b : Option Addr) (hn : n ≤ 1048576) (w : World) (ha : Sam w a n xs) (hb : Sam w b n ys)
    (heq : ∀ (k : Nat) x y, xs[k]? = some x → ys[k]? = some y → (FloatKind.f32.format.order x y == some .eq) = true) :
    Calls Try.prog 17 #[.slice a n ca, .slice b n cb] w fun e w' => e = .returned (.bool true) ∧ Nw w w' := by
  have Ha := Lib.hid ha
  have Hb := Lib.hid hb
  have He := Lib.hid heq
  clear ha hb heq
  go_enter Try.func17, Try.ntmps17
  go_wp2_with fail
  go_loopw [13] (fun i wr => SameI n w i wr) (fun i _ => n - (intOf i).toNat)
  case atStart => exact ⟨0, by omega, rfl, Nw.refl _⟩
  case round =>
    obtain ⟨k, hk, rfl, hN⟩ := hrel
    have Nr := Lib.hid hN
    clear hN
    by_cases hlt : k < n
    · obtain ⟨x, hxk⟩ : ∃ x, xs[k]? = some x := ⟨xs[k]'(by rw [Ha.out.1]; exact hlt), List.getElem?_eq_getElem _⟩
      obtain ⟨y, hyk⟩ : ∃ y, ys[k]? = some y := ⟨ys[k]'(by rw [Hb.out.1]; exact hlt), List.getElem?_eq_getElem _⟩
      obtain ⟨b1, o1, rfl, e1⟩ := (Ha.out.nw Nr.out).at hxk
      obtain ⟨b2, o2, rfl, e2⟩ := (Hb.out.nw Nr.out).at hyk
      have hb := He.out k x y hxk hyk
      have hne : (FloatKind.f32.format.order x y != some .eq) = false := by unfold bne; rw [hb]; rfl
      clear hxk hyk
      go_wp2_with fail
      go_quiet (fail)
      have N2 := Lib.hid (Nr.out.draw nq)
      go_wp2_with fail
      go_roundw
      case rel => exact ⟨k + 1, by omega, by rw [show ((k + 1 : Nat) : Int) = (k : Int) + 1 from by omega], N2.out⟩
      case measure => simp only [intOf]; omega
    · obtain rfl : k = n := by omega
      go_wp2_with fail
      go_ret
      exact ⟨rfl, Nr.out⟩


/-- append of one own row of samples to another, as a step of a region that draws its order -/
theorem step_append_samples {ops : Array Oper} {o : Oper} {a : Act} {w : World} {K : Act → World → Prop} {Q : Exit → Act → World → Prop} {E : Prop} (hg : o.guard = none) (s x : Operand)
    (hop : o.op = Op.call { callee := Callee.builtin Builtin.append, args := #[s, x], argTypes := #[28, 28] }) (base b2 n m : Nat) (v u : Value) (xs ys : List Nat) (hs : a.eval s = v) (hx : a.eval x = u)
    (hv : w.ownsRow base 31 1 v n (cellsS xs)) (hu : w.ownsRow b2 31 1 u m (cellsS ys)) (hy : ys.length = m) (hnm : n + m ≤ 1048576) (hb : base ≤ w.heap.size)
    (hK : ∀ v' w', w'.ownsRow base 31 1 v' (n + m) (cellsS (xs ++ ys)) → w.grownBy w' v.ownBlock → K (a.put o.dst v') w') :
    if Region.wanted o (yielded ops a.tmps) = true then Oper.wp Try.prog o a w K Q else E := by
  have hw : Region.wanted o (yielded ops a.tmps) = true := by simp [Region.wanted, hg]
  rw [if_pos hw]
  obtain ⟨f0, hf, hfz0, hfz1, hfz2⟩ := info_parts info_f32
  rcases hu.2 with ⟨h1, h2⟩ | ⟨g, cap, cur, h1, hbk, hgk, hc, hmx, hsk, ht⟩
  · subst h1
    have hy0 : ys = [] := List.eq_nil_of_length_eq_zero (by omega)
    subst h2; subst hy0
    have hrun := run_append_owned_none (P := Try.prog) (w := w) base 28 o.type 31 f0 1 Try.underlying28 hf v n (cellsS xs) hv
    unfold Oper.wp
    simp [execOp, hop, resolve, invoke, builtin, hs, hx, hrun, Result.andThen]
    exact hK v w (by simpa using hv) (World.grownBy.refl _ _)
  · subst h1
    refine wp_append_own w s x 28 hop base 31 f0 (.float .f32 0) 1 4 Try.underlying28 hf hfz0 hfz1 hfz2 rfl (by decide) v n (cellsS xs) hs hv ⟨g, 0, none⟩ m cap (cellsS ys) hx (by simp [cellsS, hy]) ?_ ?_ (by unfold maxLen; omega) (by omega) hb ?_
    · intro j z hj
      have hjl : j < m := by
        have := (List.getElem?_eq_some_iff.1 hj).1
        simp [cellsS] at this; omega
      have c1 := hu.cellAt j (by omega)
      rw [hj] at c1
      rw [show (⟨g, 0, none⟩ : Addr).add j = ⟨g, j, none⟩ from by simp [Addr.add]; first | done | (intro h; omega)]
      exact c1
    · intro z hz
      obtain ⟨q, _, rfl⟩ := List.mem_map.1 hz
      rfl
    · intro v' w' h1 h2 _
      exact hK v' w' (by simpa [cellsS] using h1) h2

end Go.Proofs.Ytlhhcchncobmhaa

/- What a proof of a law over one slice of bytes begins with: the argument, opened.
   Conditions: those that each statement names. -/
namespace Go.Proofs.Ytlhhcchncobmhaa
set_option linter.unusedSimpArgs false
set_option linter.unusedVariables false
open Go Go.ChangeShapes Go.WideShapes Go.ChangeAt Go.RowKit

theorem own : ownKnob Try.prog.godebug = none := by kernel_rfl
theorem laidOut : laidOutB Try.prog = true := by kernel_rfl

/-- WHAT THE WALK IS TOLD OF A SLICE OF INTEGERS THAT CAME IN: it is nil; or it leads to a row of 'cap' cells, the numbers 'zs' (the first 'len' are its elements, the rest its spare room), each fitting its kind. -/
def IsRow (k : IntKind) (w : World) (a : Option Addr) (len cap : Nat) (zs : List Int) : Prop :=
  (a = none ∧ len = 0 ∧ cap = 0 ∧ zs = []) ∨
  ∃ x, a = some x ∧ len ≤ cap ∧ cap ≤ maxLen ∧ zs.length = cap ∧ (∀ i, i < zs.length → w.cell? (x.add i) = some (.int k (zs.getD i 0))) ∧ ∀ n ∈ zs, (Lit.int k n).wf = true


theorem cell_lt {w : World} {p : Addr} {v : Value} (h : w.cell? p = some v) : p.block < w.heap.size ∧ p.spot = none := by
  unfold World.cell? at h
  split at h
  · rename_i c _ _ hb
    have hs : p.spot.isSome = false := by
      cases hp : p.spot.isSome
      · rfl
      · rw [hp] at h; simp at h
    refine ⟨?_, by simpa using hs⟩
    rcases Nat.lt_or_ge p.block w.heap.size with g | g
    · exact g
    · rw [Array.getElem?_eq_none g] at hb; cases hb
  · cases h

theorem bys_of_row {w : World} {a : Option Addr} {len cap : Nat} {zs : List Int} (h : IsRow .u8 w a len cap zs) (hl : len ≤ 140737488351232) : Bys w.heap.size a len w := by
  refine ⟨hl, ?_⟩
  rcases h with ⟨rfl, rfl, _, _⟩ | ⟨x, rfl, hlc, hcm, hz, hcell, hwf⟩
  · exact .inl rfl
  · by_cases h0 : len = 0
    · exact .inl h0
    · right
      have c0 := hcell 0 (by omega)
      have e0 : x.add 0 = x := by unfold Addr.add; rw [if_pos rfl]
      rw [e0] at c0
      obtain ⟨hb, hs⟩ := cell_lt c0
      refine ⟨x.block, x.off, by cases x; simp at hs; subst hs; rfl, hb, fun k hk => ?_⟩
      have hc := hcell k (by omega)
      have hmem : zs.getD k 0 ∈ zs := by
        rw [List.getD_eq_getElem?_getD, List.getElem?_eq_getElem (by omega), Option.getD_some]
        exact List.getElem_mem _
      have hw := hwf _ hmem
      have hadd : x.add k = ⟨x.block, x.off + k, none⟩ := by
        unfold Addr.add; split
        · rename_i h0; subst h0; cases x; simp at hs; subst hs; rfl
        · rfl
      rw [hadd] at hc
      generalize zs.getD k 0 = z at hw hc
      have hz2 : 0 ≤ z ∧ z ≤ 255 := by simpa [Lit.wf, IntKind.min, IntKind.max, IntKind.signed, IntKind.bits, Int.le_sub_one_iff] using hw
      exact ⟨z.toNat, by omega, by rw [hc]; congr 2; omega⟩

end Go.Proofs.Ytlhhcchncobmhaa

/- An argument that is a slice of samples, opened; the walks of sameFloat, toFloat32S and eqFloat32S.
   Conditions: those that each statement names. -/
namespace Go.Proofs.Ytlhhcchncobmhaa
set_option linter.unusedSimpArgs false
set_option linter.unusedVariables false
open Go Go.ChangeShapes Go.WideShapes Go.ChangeAt Go.RowKit

theorem trod_float {H : Type} {enc : TypeId × Value → H} {P : Program} {w : World} {base : Nat} {spare : Nat → Bool} {held : Bool} {fuel : Nat} {t : TypeId} {cs : List Value} {x : DataW H × List MemPlace} {k : FloatKind}
    (ht : P.underlying t = some (.float k)) (h : DataW.trod enc P w base spare held fuel t cs = some x) : ∃ n, cs = [.float k n] ∧ (Lit.float k n).wf = true := by
  cases fuel with
  | zero => simp [DataW.trod] at h
  | succ n =>
    unfold DataW.trod at h
    rw [ht] at h
    split at h <;> simp_all
theorem open_floats {H : Type} {enc : TypeId × Value → H} {P : Program} {w : World} {base : Nat} {spare : Nat → Bool} {held : Bool} {fuel : Nat} {t e : TypeId} {cs : List Value} {x : DataW H × List MemPlace} {k : FloatKind}
    (ht : P.underlying t = some (.slice e)) (he : P.underlying e = some (.float k)) (hc : P.cellsOf e = 1) (h : DataW.trod enc P w base spare held fuel t cs = some x) :
    cs = [.slice none 0 0] ∨ ∃ (a : Addr) (len cap : Nat), cs = [.slice (some a) len cap] ∧ len ≤ cap ∧ cap ≤ maxLen ∧ ∀ i, i < len → ∃ b, w.cell? (a.add i) = some (.float k b) ∧ (Lit.float k b).wf = true := by
  rcases DataW.trod_slice ht h with ⟨h0, _⟩ | ⟨a, len, cap, elems, rest, n, _, rfl, rfl, hb, hl, hm, hlen, hel, hsp, hns⟩
  · exact .inl h0
  · refine .inr ⟨a, len, cap, rfl, hl, hm, fun i hi => ?_⟩
    have h1 := hel i hi
    rw [List.getElem?_eq_getElem (by omega), hc, Nat.mul_one, Option.bind_eq_some_iff] at h1
    obtain ⟨cs', hcs, hy'⟩ := h1
    obtain ⟨m, rfl, hw⟩ := trod_float he hy'
    exact ⟨m, cell_of_cells?_one hcs, hw⟩

/-- WHAT THE WALK IS TOLD OF A SLICE OF SAMPLES: its numbers, below the block B -/
def Fls (B : Nat) (a : Option Addr) (len : Nat) (zs : List Nat) (w : World) : Prop :=
  zs.length = len ∧ (∀ z ∈ zs, z < 2 ^ 32) ∧ (len = 0 ∨ ∃ b o, a = some ⟨b, o, none⟩ ∧ b < B ∧ ∀ (k : Nat) x, zs[k]? = some x → w.cell? ⟨b, o + k, none⟩ = some (.float .f32 x))
theorem Fls.nw {B : Nat} {a : Option Addr} {len : Nat} {zs : List Nat} {w w' : World} (h : Fls B a len zs w) (hB : B ≤ w.heap.size) (hn : Nw w w') : Fls B a len zs w' := by
  obtain ⟨h1, h2, h3⟩ := h
  refine ⟨h1, h2, ?_⟩
  rcases h3 with h0 | ⟨b, o, rfl, hb, hc⟩
  · exact .inl h0
  · exact .inr ⟨b, o, rfl, hb, fun k x hx => by rw [hn.cell (by show b < w.heap.size; omega)]; exact hc k x hx⟩
theorem Fls.at {B : Nat} {a : Option Addr} {len : Nat} {zs : List Nat} {w : World} (h : Fls B a len zs w) {k x : Nat} (hx : zs[k]? = some x) :
    ∃ b o, a = some ⟨b, o, none⟩ ∧ b < B ∧ w.cell? ⟨b, o + k, none⟩ = some (.float .f32 x) := by
  obtain ⟨h1, h2, h3⟩ := h
  have := (List.getElem?_eq_some_iff.1 hx).1
  rcases h3 with h0 | ⟨b, o, rfl, hb, hc⟩
  · omega
  · exact ⟨b, o, rfl, hb, hc k x hx⟩
theorem fls_of {w : World} {a : Addr} {len : Nat} (h : ∀ i, i < len → ∃ b, w.cell? (a.add i) = some (.float .f32 b) ∧ (Lit.float .f32 b).wf = true) : ∃ zs, Fls w.heap.size (some a) len zs w := by
  have hz : ∀ n, n ≤ len → ∃ zs : List Nat, zs.length = n ∧ ∀ (k : Nat) x, zs[k]? = some x → w.cell? (a.add k) = some (.float .f32 x) ∧ x < 2 ^ 32 := by
    intro n
    induction n with
    | zero => intro _; exact ⟨[], rfl, fun k x hx => by simp at hx⟩
    | succ n ih =>
      intro hn
      obtain ⟨zs, hl, hk⟩ := ih (by omega)
      obtain ⟨b, hb, hw⟩ := h n (by omega)
      refine ⟨zs ++ [b], by simp [hl], fun k x hx => ?_⟩
      by_cases hkn : k < n
      · exact hk k x (by rwa [List.getElem?_append_left (by omega)] at hx)
      · rw [List.getElem?_append_right (by omega)] at hx
        have hk0 : k - zs.length = 0 := by
          have := (List.getElem?_eq_some_iff.1 hx).1
          simp at this; omega
        rw [hk0] at hx
        simp at hx
        subst hx
        obtain rfl : k = n := by omega
        exact ⟨hb, by simpa [Lit.wf] using hw⟩
  obtain ⟨zs, hl, hk⟩ := hz len (Nat.le_refl _)
  refine ⟨zs, hl, fun z hz => ?_, ?_⟩
  · obtain ⟨i, hi⟩ := List.getElem?_of_mem hz
    exact (hk i z hi).2
  · by_cases h0 : len = 0
    · exact .inl h0
    · right
      obtain ⟨b, hb, -⟩ := h 0 (by omega)
      have e0 : a.add 0 = a := by unfold Addr.add; rw [if_pos rfl]
      rw [e0] at hb
      obtain ⟨h1, h2⟩ := cell_lt hb
      refine ⟨a.block, a.off, by cases a; simp at h2; subst h2; rfl, h1, fun k x hx => ?_⟩
      have := (hk k x hx).1
      have hadd : a.add k = ⟨a.block, a.off + k, none⟩ := by
        unfold Addr.add; split
        · rename_i h0; subst h0; cases a; simp at h2; subst h2; rfl
        · rfl
      rwa [hadd] at this

/-! ### sameFloat -/
theorem one_quoF (a : Nat) (h : nan64 a = false) : ∃ r, floatBits .quo .f64 4607182418800017408 a = some r := by
  have h1 : Ieee.double.read 4607182418800017408 = .number false 4503599627370496 (-52) := by decide
  have h : (Ieee.double.read a).isNaN = false := h
  show ∃ r, Ieee.double.div 4607182418800017408 a = some r
  unfold Ieee.Format.div
  rw [h1]
  cases hd : Ieee.double.read a with
  | number s m p => by_cases hm : m = 0 <;> simp [Ieee.Datum.quotient, hm]
  | infinity s => exact ⟨_, rfl⟩
  | nan s f => rw [hd] at h; simp [Ieee.Datum.isNaN] at h

def fillF (zs : List Nat) (n k : Nat) : List Nat := zs.take k ++ List.replicate (n - k) 0
theorem fillF_zero (zs : List Nat) (n : Nat) : fillF zs n 0 = List.replicate n 0 := by simp [fillF]
theorem fillF_full (zs : List Nat) (n : Nat) (h : zs.length = n) : fillF zs n n = zs := by subst h; simp [fillF]
theorem fillF_set (zs : List Nat) (n k x : Nat) (hx : zs[k]? = some x) (hl : zs.length = n) : (cellsS (fillF zs n k)).set k (.float .f32 x) = cellsS (fillF zs n (k + 1)) := by
  obtain ⟨h, he⟩ := List.getElem?_eq_some_iff.1 hx
  unfold fillF
  rw [List.take_succ_eq_append_getElem h, he, show n - k = (n - (k + 1)) + 1 from by omega, List.replicate_succ]
  simp only [cellsS, List.map_append, List.map_cons, List.map_nil, List.append_assoc, List.singleton_append]
  rw [List.set_append_right _ _ (by simp; omega)]
  simp [Nat.min_eq_left (Nat.le_of_lt h)]
theorem fillF_cell (zs : List Nat) (n k : Nat) (h : k < n) (hl : zs.length = n) : (cellsS (fillF zs n k))[k]? = some (.float .f32 0) := by
  unfold fillF cellsS
  rw [List.getElem?_map, List.getElem?_append_right (by simp; omega)]
  simp [List.getElem?_replicate]
  omega

def CopyI (B g n : Nat) (zs : List Nat) (w : World) (i : Value) (wr : World) : Prop :=
  ∃ k : Nat, k ≤ n ∧ i = .int .i64 (k : Int) ∧ wr.ownsRow B 31 1 (.slice (some ⟨g, 0, none⟩) n n) n (cellsS (fillF zs n k)) ∧ Nw w wr
def CopyP (zs : List Nat) (n : Nat) (w : World) (e : Ending) (w' : World) : Prop :=
  ∃ g : Nat, e = .returned (.slice (some ⟨g, 0, none⟩) n n) ∧ w'.ownsRow w.heap.size 31 1 (.slice (some ⟨g, 0, none⟩) n n) n (cellsS zs) ∧ Nw w w'

theorem widen_sameF (x : Nat) (w1 w2 : World) : sameF (fcv w1 .f32 x .f64) (fcv w2 .f32 x .f64) = true :=
  sameF_fab (by rw [fab_wide, fab_wide])
def CountI (n : Nat) (w : World) (i : Value) (wr : World) : Prop := ∃ k : Nat, k ≤ n ∧ i = .int .i64 (k : Int) ∧ Nw w wr

end Go.Proofs.Ytlhhcchncobmhaa

/- The walks of EnergyOf, the program's and the model's: the sum of the squares, but for the bits of NaN; of finite samples it is a number.
   Conditions: those that each statement names. -/
namespace Go.Proofs.Ytlhhcchncobmhaa
set_option linter.unusedSimpArgs false
set_option linter.unusedVariables false
open Go Go.RowKit

/-- the sum of the squares, but for the bits of NaN -/
def enA (zs : List Nat) : Option Nat := zs.foldl (fun s x => fA .add .f64 s (fA .mul .f64 (wA x) (wA x))) (fab .f64 0)
theorem enA_take (zs : List Nat) (k x : Nat) (h : zs[k]? = some x) : enA (zs.take (k + 1)) = fA .add .f64 (enA (zs.take k)) (fA .mul .f64 (wA x) (wA x)) := by
  obtain ⟨hk, he⟩ := List.getElem?_eq_some_iff.1 h
  unfold enA
  rw [List.take_succ_eq_append_getElem hk, List.foldl_append, he]; rfl

def EnI (zs : List Nat) (n : Nat) (w : World) (y i : Value) (wr : World) : Prop :=
  ∃ k s : Nat, k ≤ n ∧ i = .int .i64 (k : Int) ∧ y = .float .f64 s ∧ fab .f64 s = enA (zs.take k) ∧ Nw w wr
def EnP (zs : List Nat) (w : World) (e : Ending) (w' : World) : Prop := ∃ s, e = .returned (.float .f64 s) ∧ fab .f64 s = enA zs ∧ Nw w w'

end Go.Proofs.Ytlhhcchncobmhaa

/- The energy of finite samples is a number: plain facts, and the walk of EnergyOf that says its bits.
   Conditions: those that each statement names. -/
namespace Go.Proofs.Ytlhhcchncobmhaa
set_option linter.unusedSimpArgs false
set_option linter.unusedVariables false
open Go Go.RowKit

/-! ### the energy of finite samples is a number -/
def enB : Rat := Flo.pw 260
theorem en_step (s x : Nat) (k : Nat) (hk : k ≤ 1000) (hs : Flo.Nm s) (hb : Flo.Ab (Flo.W s) ((k : Rat) * enB)) (hx : Sm x) :
    ∃ r, fA .add .f64 (some s) (fA .mul .f64 (wA x) (wA x)) = some r ∧ Flo.Nm r ∧ Flo.Ab (Flo.W r) (((k + 1 : Nat) : Rat) * enB) := by
  obtain ⟨n, v⟩ := wid_num hx
  have hwa : wA x = some (wid x) := by unfold wA; rw [show nan32 x = false from by obtain ⟨s, m, p, h⟩ := hx; unfold nan32; rw [show FloatKind.f32.decode x = _ from h]; rfl]; rfl
  have a := single_abs hx
  have hm := a.mul a
  have e256 : Flo.pw 128 * Flo.pw 128 = Flo.pw 256 := by rw [← Flo.pw_add]; rfl
  rw [e256, ← v] at hm
  have l1 : Flo.pw 256 < Flo.pw 1023 := Flo.pw_lt (by omega)
  have l2 : Flo.pw 260 = 16 * Flo.pw 256 := by rw [show (260 : Int) = 4 + 256 from rfl, Flo.pw_add, show Flo.pw 4 = 16 from Flo.pw_nat 4]
  have l3 : Flo.pw 280 < Flo.pw 1023 := Flo.pw_lt (by omega)
  have l4 : Flo.pw 280 = 1048576 * Flo.pw 260 := by rw [show (280 : Int) = 20 + 260 from rfl, Flo.pw_add, show Flo.pw 20 = 1048576 from Flo.pw_nat 20]
  have p0 : 1 ≤ Flo.pw 256 := by rw [← Flo.pw_zero]; exact Flo.pw_le (by omega)
  have u1 := Flo.u_le
  have u0 := Flo.u_pos
  have e0 := Flo.et_pos
  have eu : Flo.et ≤ Flo.u := Flo.pw_le (by omega)
  obtain ⟨r1, q1, q2, q3⟩ := Flo.d_mul (wid x) (wid x) n n _ hm l1
  have k0 : (0 : Rat) ≤ (k : Rat) := by exact_mod_cast Nat.zero_le k
  have k1 : (k : Rat) ≤ 1000 := by
    have : ((k : Nat) : Rat) ≤ ((1000 : Nat) : Rat) := by exact_mod_cast hk
    exact this
  have u2 : Flo.u ≤ 1 / 1048576 := by grind
  have hP := Rat.mul_le_mul_of_nonneg_left u2 (show (0 : Rat) ≤ Flo.pw 256 by grind)
  have hr1 : Flo.Ab (Flo.W r1) (2 * Flo.pw 256) := ((q3.add hm).eq (by grind)).mono (by grind)
  have hsum : Flo.Ab (Flo.W s + Flo.W r1) ((k : Rat) * enB + 2 * Flo.pw 256) := hb.add hr1
  have hkb : (k : Rat) * enB ≤ 1000 * enB := Rat.mul_le_mul_of_nonneg_right k1 (by unfold enB; grind)
  unfold enB at *
  obtain ⟨r2, t1, t2, t3⟩ := Flo.d_add s r1 hs q2 _ hsum (by grind)
  refine ⟨r2, ?_, t2, ?_⟩
  · rw [hwa]
    show fA .add .f64 (some s) (floatBits .mul .f64 (wid x) (wid x)) = _
    rw [q1]
    exact t1
  · have hB : 0 ≤ (k : Rat) * Flo.pw 260 + 2 * Flo.pw 256 := hsum.nonneg
    have hu := Rat.mul_le_mul_of_nonneg_left u2 hB
    have e1 : ((k + 1 : Nat) : Rat) = (k : Rat) + 1 := by push_cast; rfl
    rw [e1]
    refine ((t3.add hsum).eq (by grind)).mono ?_
    grind
theorem en_fold : ∀ (zs : List Nat) (s k : Nat), k + zs.length ≤ 1000 → Flo.Nm s → Flo.Ab (Flo.W s) ((k : Rat) * enB) → (∀ x ∈ zs, Sm x) → ∃ r, zs.foldl (fun s x => fA .add .f64 s (fA .mul .f64 (wA x) (wA x))) (some s) = some r ∧ Flo.Nm r
  | [], s, k, _, hs, _, _ => ⟨s, rfl, hs⟩
  | x :: zs, s, k, hk, hs, hb, hx => by
    simp only [List.length_cons] at hk
    obtain ⟨r, h1, h2, h3⟩ := en_step s x k (by omega) hs hb (hx x (List.mem_cons_self ..))
    rw [List.foldl_cons, h1]
    exact en_fold zs r (k + 1) (by omega) h2 h3 (fun y hy => hx y (List.mem_cons_of_mem _ hy))
theorem zero_double : Flo.Nm 0 ∧ Flo.W 0 = 0 := by
  have h : Ieee.double.read 0 = .number false 0 (-1074) := by decide
  refine ⟨⟨_, _, _, h⟩, ?_⟩
  rw [show Flo.W 0 = _ from Flo.V_eq h, Flo.val_zero]
/-- the energy's bits -/
def enN (zs : List Nat) : Nat := (enA zs).getD 0
theorem en_num (zs : List Nat) (hl : zs.length ≤ 1000) (hx : ∀ x ∈ zs, Sm x) : enA zs = some (enN zs) ∧ Flo.Nm (enN zs) := by
  have h0 : fab .f64 0 = some 0 := fab_some (by decide)
  obtain ⟨r, h1, h2⟩ := en_fold zs 0 0 (by omega) zero_double.1 (by rw [zero_double.2]; unfold enB; have := Flo.pw_pos 260; constructor <;> grind) hx
  have e : enA zs = some r := by unfold enA; rw [h0]; exact h1
  unfold enN
  rw [e]
  exact ⟨rfl, h2⟩
theorem fab_eq {k : FloatKind} {s r : Nat} (h : fab k s = some r) : s = r := by
  unfold fab at h
  split at h
  · cases h
  · injection h
end Go.Proofs.Ytlhhcchncobmhaa

/- The walk of LoudestEar over valid rooms: the place whose ringing has the greatest energy, the first of these.
   Conditions: those that each statement names. -/
namespace Go.Proofs.Ytlhhcchncobmhaa
set_option linter.unusedSimpArgs false
set_option linter.unusedVariables false
open Go Go.RowKit

/-! ### the loudest place -/
/-- E best is the greatest of the first k, and the first such -/
def Arg (E : Nat → Rat) (k best : Nat) : Prop := best < k ∧ ∀ j, j < k → E j ≤ E best ∧ (j < best → E j < E best)
theorem Arg.first (E : Nat → Rat) : Arg E 1 0 := ⟨by omega, fun j hj => by
  have h0 : j = 0 := by omega
  rw [h0]
  exact ⟨Rat.le_refl, fun h => by omega⟩⟩
theorem Arg.more {E : Nat → Rat} {k best : Nat} (h : Arg E k best) (hg : E best < E k) : Arg E (k + 1) k :=
  ⟨by omega, fun j hj => by
    by_cases hk : j < k
    · have := (h.2 j hk).1
      exact ⟨by grind, fun _ => by grind⟩
    · obtain rfl : j = k := by omega
      exact ⟨Rat.le_refl, fun h => by omega⟩⟩
theorem Arg.stay {E : Nat → Rat} {k best : Nat} (h : Arg E k best) (hg : ¬ E best < E k) : Arg E (k + 1) best :=
  ⟨by have := h.1; omega, fun j hj => by
    by_cases hk : j < k
    · exact h.2 j hk
    · obtain rfl : j = k := by omega
      exact ⟨by grind, fun h2 => by have := h.1; omega⟩⟩
theorem gt_iff {a b : Nat} (ha : Flo.Nm a) (hb : Flo.Nm b) : (FloatKind.f64.format.order a b == some .gt) = decide (Flo.W b < Flo.W a) := by
  have o := Flo.order_num Ieee.double a b ha hb
  rw [show FloatKind.f64.format = Ieee.double from rfl]
  by_cases h : Flo.W b < Flo.W a
  · rw [o.2.2.2 h]; simp [h]
  · have : ¬ Ieee.double.order a b = some .gt := fun e => h (o.2.2.1 e)
    simp [h, this]

/-- what a place's ringing is -/
def earS (ms : List M4) (rows : List (List Nat)) (s n : Nat) (xs : List Nat) (j : Nat) : List Nat := ringS (weighL ms (mulW (rows.getD s []) (rows.getD j []))) (inputOf xs) n
def earE (ms : List M4) (rows : List (List Nat)) (s n : Nat) (xs : List Nat) (j : Nat) : Nat := enN (earS ms rows s n xs j)
def topB (k z : Nat) : Nat := if k = 0 then 0 else z
theorem topB_pos {k z : Nat} (h : ¬ k = 0) : topB k z = z := by unfold topB; rw [if_neg h]
def LoudI (ms : List M4) (rows : List (List Nat)) (s n P : Nat) (xs : List Nat) (w : World) (best great i : Value) (wr : World) : Prop :=
  ∃ k bst : Nat, k ≤ P ∧ i = .int .i64 (k : Int) ∧ best = .int .i64 (bst : Int) ∧ great = .float .f64 (topB k (earE ms rows s n xs bst)) ∧ (k = 0 ∧ bst = 0 ∨ Arg (fun j => Flo.W (earE ms rows s n xs j)) k bst) ∧ Nw w wr
def LoudP (ms : List M4) (rows : List (List Nat)) (s n P : Nat) (xs : List Nat) (w : World) (e : Ending) (w' : World) : Prop :=
  ∃ bst : Nat, e = .returned (.tuple #[.int .i64 (bst : Int), .bool true]) ∧ Arg (fun j => Flo.W (earE ms rows s n xs j)) P bst ∧ Nw w w'

end Go.Proofs.Ytlhhcchncobmhaa

/- The walks of the model's IsRoom, and of its LoudestEar where the source is no place; of the laws' own bytes.
   Conditions: those that each statement names. -/
namespace Go.Proofs.Ytlhhcchncobmhaa
set_option linter.unusedSimpArgs false
set_option linter.unusedVariables false
open Go Go.RowKit

theorem sixteen_d : Flo.Nm 4625196817309499392 ∧ Flo.W 4625196817309499392 = 16 := by
  have h : Ieee.double.read 4625196817309499392 = .number false 4503599627370496 (-48) := by decide
  refine ⟨⟨_, _, _, h⟩, ?_⟩
  rw [show Flo.W 4625196817309499392 = _ from Flo.V_eq h]
  unfold Flo.val
  have := Flo.pw_neg_mul 48
  rw [show Flo.pw 48 = 281474976710656 from Flo.pw_nat 48] at this
  simp only [Bool.false_eq_true, if_false]
  have e2 : ((4503599627370496 : Nat) : Rat) = 4503599627370496 := rfl
  rw [e2]; grind
theorem wt_leB (x : Nat) (hx : Wt x) : (FloatKind.f64.format.order (labs (wid x)) 4625196817309499392 == some .lt || FloatKind.f64.format.order (labs (wid x)) 4625196817309499392 == some .eq) = true := by
  obtain ⟨n, v⟩ := wid_num hx.1
  obtain ⟨l, lv⟩ := labs_num _ (wid_lt x) n
  have := (leB_iff l sixteen_d.1).2 (by rw [lv, v, sixteen_d.2]; have := ra_one hx.2; grind)
  exact this

def RowJ (q : Nat) (w1 : World) (i : Value) (wr : World) : Prop := ∃ k : Nat, k ≤ q ∧ i = .int .i64 (k : Int) ∧ Nw w1 wr

/-! ### the laws' own bytes, once more -/
theorem at_fix (a : Option Addr) (len cap i : Nat) (hl : len ≤ 1048576) (hi : i ≤ 100) (w : World) (hb : Bys w.heap.size a len w) :
    ∃ z : Nat, z ≤ 255 ∧ Calls Try.prog 12 #[.slice a len cap, .int .i64 (i : Int)] w fun e w' => e = .returned (.int .i64 (z : Int)) ∧ w' = w := by
  by_cases hlt : i < len
  · rcases hb.2 with h00 | ⟨blk, off, rfl, hblk, hcell⟩
    · omega
    · obtain ⟨x, hx, hcx⟩ := hcell i hlt
      clear hcell hb
      refine ⟨x, hx, ?_⟩
      go_enter Try.func12, Try.ntmps12
      go_wp2
      go_ret
      exact ⟨rfl, rfl⟩
  · clear hb
    refine ⟨(i * 37 + len * 11) % 256, by omega, ?_⟩
    go_enter Try.func12, Try.ntmps12
    go_wp2
    go_ret
    exact ⟨ret_int' (show ((i : Int) * 37 + len * 11) % 256 = (((i * 37 + len * 11) % 256 : Nat) : Int) by omega), rfl⟩
end Go.Proofs.Ytlhhcchncobmhaa

/- Plain facts for rooms that are exchanged, listened to at weights of 1, and shared by a door that is shut; rows appended to rows.
   Conditions: those that each statement names. -/
namespace Go.Proofs.Ytlhhcchncobmhaa
set_option linter.unusedSimpArgs false
set_option linter.unusedVariables false
open Go Go.RowKit

theorem weighL_append : ∀ (ms ms' : List M4) (a b : List Nat), a.length = ms.length → weighL (ms ++ ms') (a ++ b) = weighL ms a ++ weighL ms' b
  | [], ms', [], b, _ => rfl
  | m :: ms, ms', x :: a, b, h => by
    show weighM x m :: weighL (ms ++ ms') (a ++ b) = weighM x m :: (weighL ms a ++ weighL ms' b)
    rw [weighL_append ms ms' a b (by simpa using h)]
theorem mulW_append : ∀ (a b c d : List Nat), a.length = c.length → mulW (a ++ b) (c ++ d) = mulW a c ++ mulW b d
  | [], b, [], d, _ => rfl
  | x :: a, b, y :: c, d, h => by
    show opB .mul .f32 x y :: mulW (a ++ b) (c ++ d) = opB .mul .f32 x y :: (mulW a c ++ mulW b d)
    rw [mulW_append a b c d (by simpa using h)]
theorem scale_zr (xs : List Nat) (h : ∀ x ∈ xs, Wt x) : ∀ x ∈ scaleL xs 0, Flo.Zr Ieee.single x := by
  intro x hx
  obtain ⟨y, hy, rfl⟩ := List.mem_map.1 hx
  exact mul_zr'' (k := .f32) zr_zero (h y hy).1
theorem mulW_zr (xs ys : List Nat) (hx : ∀ x ∈ xs, Flo.Zr Ieee.single x) (hy : ∀ x ∈ ys, Wt x) : ∀ x ∈ mulW xs ys, Flo.Zr Ieee.single x := by
  intro x hx'
  obtain ⟨p, hp, q, hq, rfl⟩ := zipw_mem _ _ _ _ hx'
  exact mul_zr' (k := .f32) (hx p hp) (hy q hq).1
theorem weighL_mute (ms : List M4) (ws : List Nat) (h : ∀ m ∈ ms, m.ok) (hw : ∀ w ∈ ws, Flo.Zr Ieee.single w) : ∀ m ∈ weighL ms ws, Mute m := by
  intro m hm
  obtain ⟨m0, h0, w, h1, rfl⟩ := zipw_mem _ _ _ _ hm
  obtain ⟨s1, s2, s3, s4⟩ := (h m0 h0).nums
  exact ⟨mul_zr'' (k := .f32) (hw w h1) s3, mul_zr'' (k := .f32) (hw w h1) s4⟩

theorem ring_states (ms : List M4) (x : Nat → Nat) (n : Nat) (h : RingOk ms x (n + 1)) : ∀ i, i < n → ∀ s ∈ stAt ms x (i + 1), Sm s.1 := by
  intro i hi s hs
  obtain ⟨k, hk⟩ := List.getElem?_of_mem hs
  have hkl := (List.getElem?_eq_some_iff.1 hk).1
  rw [stAt_len] at hkl
  exact ((h (i + 1) (by omega)).1 k ms[k] s (List.getElem?_eq_getElem hkl) hk).s1
theorem ring_less (ms : List M4) (x : Nat → Nat) (n : Nat) (h : RingOk ms x (n + 1)) : RingOk ms x n := fun i hi => h i (by omega)
theorem ring_len' (ms : List M4) (x : Nat → Nat) (n : Nat) : (ringS ms x n).length = n := by simp [ringS]
theorem ring_get' (ms : List M4) (x : Nat → Nat) (n k : Nat) (h : k < n) : (ringS ms x n)[k]? = some (outS (stAt ms x (k + 1))) := by simp [ringS, h]
theorem same_self' (xs : List Nat) : ∀ (k : Nat) x y, xs[k]? = some x → xs[k]? = some y → sameB (wid x) (wid y) = true := fun k x y h1 h2 => by rw [h1] at h2; cases h2; exact sameB_self _

/-- behind a door that is shut -/
theorem shut_ring (ms ms' : List M4) (rs re z z' : List Nat) (xs : List Nat) (n : Nat) (hl : rs.length = ms.length) (hl2 : re.length = ms.length) (h' : ∀ m ∈ ms', m.ok) (hz : ∀ x ∈ z, Wt x) (hz' : ∀ x ∈ z', Wt x) (zz : ∀ x ∈ z, Flo.Zr Ieee.single x)
    (hx : ∀ x ∈ xs, Sm x) (hs : ∀ x ∈ ringS (weighL ms (mulW rs re)) (inputOf xs) n, Sm x) :
    ∀ (k : Nat) x y, (ringS (weighL (ms ++ ms') (mulW (rs ++ z) (re ++ z'))) (inputOf xs) n)[k]? = some x → (ringS (weighL ms (mulW rs re)) (inputOf xs) n)[k]? = some y → (FloatKind.f32.format.order x y == some .eq) = true := by
  intro k x y h1 h2
  have hk : k < n := by
    have := (List.getElem?_eq_some_iff.1 h2).1
    rwa [ring_len'] at this
  have hy := hs y (List.mem_of_getElem? h2)
  rw [mulW_append rs z re z' (by omega), weighL_append ms ms' _ _ (by rw [mulW_len rs re (by omega), hl])] at h1
  rw [ring_get' _ _ _ _ hk] at h1 h2
  cases h1
  cases h2
  have hm := weighL_mute ms' (mulW z z') h' (mulW_zr z z' zz hz')
  obtain ⟨a1, a2⟩ := mute_out (weighL ms (mulW rs re)) (weighL ms' (mulW z z')) (fun m hm' => ⟨weighL_ok ms' _ h' (mulW_wt z z' hz hz') m hm', hm m hm'⟩) (inputOf xs) (input_sm xs hx) (k + 1) hy
  exact val_order a1 hy a2

/-! ### rows behind rows -/
theorem RowsR.ones {w : World} {base q : Nat} {sv : Value} {rows : List (List Nat)} {vs : List Value} (ho : w.ownsRow base 28 1 sv rows.length vs)
    (hi : ∀ (p : Nat) r, rows[p]? = some r → r.length = q ∧ ∃ v, vs[p]? = some v ∧ w.ownsRow base 31 1 v q (cellsS r)) : ∀ u ∈ vs, u.oneCell' = true := by
  intro u hu
  obtain ⟨p, hp⟩ := List.getElem?_of_mem hu
  have hpl := (List.getElem?_eq_some_iff.1 hp).1
  have hl := ho.1
  obtain ⟨-, v, h2, h3⟩ := hi p rows[p] (List.getElem?_eq_getElem (by omega))
  rw [hp] at h2
  cases h2
  obtain ⟨a, c, rfl⟩ := own_shape' h3
  rfl
/-- append of all rows of a slice to an empty one, as a step of a region that draws its order -/
theorem step_append_rows {ops : Array Oper} {o : Oper} {a : Act} {w : World} {K : Act → World → Prop} {Q : Exit → Act → World → Prop} {E : Prop} (hg : o.guard = none) (s x : Operand)
    (hop : o.op = Op.call { callee := Callee.builtin Builtin.append, args := #[s, x], argTypes := #[24, 24] }) (base b2 n m : Nat) (v u : Value) (vs us : List Value) (hs : a.eval s = v) (hx : a.eval x = u)
    (hv : w.ownsRow base 28 1 v n vs) (hu : w.ownsRow b2 28 1 u m us) (h1 : ∀ z ∈ us, z.oneCell' = true) (hnm : n + m ≤ 1048576) (hb : base ≤ w.heap.size)
    (hK : ∀ v' w', w'.ownsRow base 28 1 v' (n + m) (vs ++ us) → w.grownBy w' v.ownBlock → K (a.put o.dst v') w') :
    if Region.wanted o (yielded ops a.tmps) = true then Oper.wp Try.prog o a w K Q else E := by
  have hw : Region.wanted o (yielded ops a.tmps) = true := by simp [Region.wanted, hg]
  rw [if_pos hw]
  obtain ⟨j0, hj, hy0, hy1, hy2⟩ := info_parts info_rows
  rcases hu.2 with ⟨h1', h2⟩ | ⟨g, cap, cur, h1', hbk, hgk, hc, hmx, hsk, ht⟩
  · subst h1'
    subst h2
    have hu0 : us = [] := List.eq_nil_of_length_eq_zero (by have := hu.1; omega)
    subst hu0
    have hrun := run_append_owned_none (P := Try.prog) (w := w) base 24 o.type 28 j0 1 Try.underlying24 hj v n vs hv
    unfold Oper.wp
    simp [execOp, hop, resolve, invoke, builtin, hs, hx, hrun, Result.andThen]
    exact hK v w (by simpa using hv) (World.grownBy.refl _ _)
  · subst h1'
    refine wp_append_own w s x 24 hop base 28 j0 (.slice none 0 0) 1 24 Try.underlying24 hj hy0 hy1 hy2 rfl (by decide) v n vs hs hv ⟨g, 0, none⟩ m cap us hx (by have := hu.1; omega) (fun j z hj => hu.cells rfl j z hj) h1 (by unfold maxLen; omega) (by omega) hb ?_
    · intro v' w' h1 h2 _
      exact hK v' w' h1 h2

end Go.Proofs.Ytlhhcchncobmhaa

/- A room with one place more, made in a region that draws its order: what each order leaves.
   Conditions: those that each statement names. -/
namespace Go.Proofs.Ytlhhcchncobmhaa
set_option linter.unusedSimpArgs false
set_option linter.unusedVariables false
open Go Go.RowKit

/-- the box of a room, as it is made -/
structure TB (w : World) (D : Nat) : Prop where
  here : w.heap[D]? = some (.cells #[.slice none 0 0, .slice none 0 0] 26 (0, 0))
theorem tb_new (W : World) (D : Nat) (h : W.heap.size = D) : TB (W.alloc (.cells #[.slice none 0 0, .slice none 0 0] 26 (0, 0))) D := by
  subst h; exact ⟨heap_alloc_new W _⟩
theorem TB.lt {w : World} {D : Nat} (h : TB w D) : D < w.heap.size := (Array.getElem?_eq_some_iff.1 h.here).1
theorem TB.grown {w w' : World} {D : Nat} {row : Option Nat} (h : TB w D) (hg : w.grownBy w' row) (hne : some D ≠ row) : TB w' D := ⟨(hg.block D h.lt hne).trans h.here⟩
theorem TB.nw {w w' : World} {D : Nat} (h : TB w D) (hg : Nw w w') : TB w' D := h.grown hg (by simp)
theorem TB.alloc {w : World} {D : Nat} (h : TB w D) (o : Obj) : TB (w.alloc o) D := h.nw ((Nw.refl w).alloc o)
theorem TB.draw {w : World} {D : Nat} (h : TB w D) : TB w.drew D := ⟨h.here⟩
theorem TB.has2 {w : World} {D : Nat} (h : TB w D) : Has2 w D (.slice none 0 0) (.slice none 0 0) := by
  refine ⟨h.lt, ?_, ?_, ?_, ?_⟩
  · rw [cell_of_row w D 0 _ _ (0, 0) h.here]; rfl
  · rw [cell_of_row w D 1 _ _ (0, 0) h.here]; rfl
  · unfold World.frozen?; rw [h.here]; rfl
  · unfold World.frozen?; rw [h.here]; rfl
/-- a block of cells of type T -/
def TyAt (w : World) (D : Nat) (T : TypeId) : Prop := ∃ cur fz, w.heap[D]? = some (.cells cur T fz)
theorem TB.ty {w : World} {D : Nat} (h : TB w D) : TyAt w D 26 := ⟨_, _, h.here⟩
theorem TyAt.set {w : World} {D o : Nat} {T : TypeId} (h : TyAt w D T) (u : Value) : TyAt (w.setCell ⟨D, o, none⟩ u) D T := by
  obtain ⟨cur, fz, h⟩ := h
  refine ⟨cur.setIfInBounds o u, fz, ?_⟩
  simp [World.setCell, Array.getElem?_modify, h]
theorem own_off {w : World} {b : Nat} {E : TypeId} {size n : Nat} {v : Value} {xs : List Value} (h : w.ownsRow b E size v n xs) {D : Nat} {T : TypeId} (hD : TyAt w D T) (hT : E ≠ T) : v.ownBlock ≠ some D := by
  obtain ⟨cur', fz, hD⟩ := hD
  rcases h.2 with ⟨rfl, _⟩ | ⟨g, cap, cur, rfl, hb, hg, _⟩
  · simp [Value.ownBlock]
  · intro e
    simp [Value.ownBlock] at e
    subst e
    rw [hg] at hD
    injection hD with hD
    injection hD with h1 h2 h3
    exact hT h2
theorem RowsR.setne {w : World} {base q : Nat} {sv : Value} {rows : List (List Nat)} (h : RowsR w base q sv rows) {D o : Nat} (hD : TyAt w D 26) (u : Value) : RowsR (w.setCell ⟨D, o, none⟩ u) base q sv rows := by
  obtain ⟨vs, h1, h2⟩ := h
  exact ⟨vs, own_setne h1 (own_off h1 hD (by decide)) u, fun p r hp => ⟨(h2 p r hp).1, by obtain ⟨v, a, b⟩ := (h2 p r hp).2; exact ⟨v, a, own_setne b (own_off b hD (by decide)) u⟩⟩⟩

theorem nw_drew {a w : World} (h : Nw a w) : Nw a w.drew := h.trans ⟨rfl, rfl, rfl, Nat.le_refl _, fun _ _ _ => rfl⟩
theorem nw_alloc {a w : World} {o : Obj} (h : Nw a w) : Nw a (w.alloc o) := h.alloc o
theorem tb_alloc {w : World} {D : Nat} {o : Obj} (h : TB w D) : TB (w.alloc o) D := h.alloc o
theorem own_alloc {w : World} {b : Nat} {E : TypeId} {size n : Nat} {v : Value} {xs : List Value} {o : Obj} (h : w.ownsRow b E size v n xs) : (w.alloc o).ownsRow b E size v n xs := h.alloc o
theorem own_drew {w : World} {b : Nat} {E : TypeId} {size n : Nat} {v : Value} {xs : List Value} (h : w.ownsRow b E size v n xs) : w.drew.ownsRow b E size v n xs := h.drew
theorem RowsR.alloc {w : World} {base q : Nat} {sv : Value} {rows : List (List Nat)} (h : RowsR w base q sv rows) (o : Obj) : RowsR (w.alloc o) base q sv rows := h.nw ((Nw.refl w).alloc o)

/-- two cells behind two stores elsewhere -/
theorem keep2 {w : World} {b D : Nat} {m s u v : Value} (h1 : w.cell? ⟨b, 0, none⟩ = some m) (h2 : w.cell? ⟨b, 1, none⟩ = some s) (hne : D ≠ b) :
    ((w.setCell ⟨D, 0, none⟩ u).setCell ⟨D, 1, none⟩ v).cell? ⟨b, 0, none⟩ = some m ∧ ((w.setCell ⟨D, 0, none⟩ u).setCell ⟨D, 1, none⟩ v).cell? ⟨b, 1, none⟩ = some s := by
  have k : ∀ (w : World) (o : Nat) (z : Value) (q : Addr), q.block = b → (w.setCell ⟨D, o, none⟩ z).cell? q = w.cell? q := fun w o z q hq => World.cell?_of_block (w := w) (Below.heap_setCell _ _ _ _ (by rw [hq]; exact fun e => hne e.symm))
  exact ⟨by rw [k _ _ _ _ rfl, k _ _ _ _ rfl]; exact h1, by rw [k _ _ _ _ rfl, k _ _ _ _ rfl]; exact h2⟩

/-- all rows of a slice, appended to an empty one with no room: a fresh slice -/
theorem step_fresh_rows {ops : Array Oper} {o : Oper} {a : Act} {w : World} {K : Act → World → Prop} {Q : Exit → Act → World → Prop} {E : Prop} (hg : o.guard = none) (s x : Operand)
    (hop : o.op = Op.call { callee := Callee.builtin Builtin.append, args := #[s, x], argTypes := #[24, 24] }) (b2 m g : Nat) (u : Value) (us : List Value) (hs : a.eval s = .slice (some ⟨g, 0, none⟩) 0 0) (hx : a.eval x = u)
    (hu : w.ownsRow b2 28 1 u m us) (h1 : ∀ z ∈ us, z.oneCell' = true) (hm0 : 0 < m) (hnm : m ≤ 1048576)
    (hK : ∀ v' w', w'.ownsRow w.heap.size 28 1 v' m us → w.grownBy w' none → K (a.put o.dst v') w') :
    if Region.wanted o (yielded ops a.tmps) = true then Oper.wp Try.prog o a w K Q else E := by
  obtain ⟨j0, hj, hy0, hy1, hy2⟩ := info_parts info_rows
  rcases hu.2 with ⟨h1', h2⟩ | ⟨h, cap, cur, h1', hbk, hgk, hc, hmx, hsk, ht⟩
  · omega
  · subst h1'
    refine step_append_grows hg s x 24 hop 28 j0 (.slice none 0 0) 1 24 Try.underlying24 hj hy0 hy1 hy2 rfl (by decide) (some ⟨g, 0, none⟩) 0 0 [] hs (fun e => by cases e) rfl (fun b hb j u hu => by simp at hu) ⟨h, 0, none⟩ m cap us hx (by have := hu.1; omega) (fun j z hj => hu.cells rfl j z hj) h1 (by omega) (by unfold maxLen; omega) (by omega) ?_
    intro v' w' h1 h2
    exact hK v' w' (by simpa using h1) h2

/-- what the second append leaves -/
theorem final_rows {wr W2 w2' : World} {B base q P : Nat} {v v2 rv : Value} {vs : List Value} {rows : List (List Nat)} {r : List Nat} {b2 : Nat} (NW : Nw wr W2) (hg : W2.grownBy w2' v.ownBlock) (hO : W2.ownsRow B 28 1 v P vs) (hB : base ≤ B) (hBw : wr.heap.size ≤ B) (hPl : rows.length = P)
    (hin : ∀ (p : Nat) r, rows[p]? = some r → r.length = q ∧ ∃ v, vs[p]? = some v ∧ wr.ownsRow base 31 1 v q (cellsS r)) (hr : wr.ownsRow b2 31 1 rv q (cellsS r)) (hb : base ≤ b2) (hq : r.length = q)
    (hn : w2'.ownsRow B 28 1 v2 (P + 1) (vs ++ [rv])) : RowsR w2' base q v2 (rows ++ [r]) ∧ Nw wr w2' := by
  refine ⟨RowsR.snoc (w := W2) (by rw [hPl]; exact own_base hO hB) (fun p r hp => ⟨(hin p r hp).1, by obtain ⟨v, a, b⟩ := (hin p r hp).2; exact ⟨v, a, own_nw b NW⟩⟩) (own_nw hr NW) hb hq (by rw [hPl]; exact own_base hn hB) hg, NW.grown hg (fun k hk => by have := (hO.lt k hk).1; omega)⟩
end Go.Proofs.Ytlhhcchncobmhaa
