/- An argument that is a slice of rows of samples, opened; the walks of szFloat32SS and toFloat32SS.
   Conditions: those that each statement names. -/
import Derived.Test.YtcodiiajmffdoaaMk
import Derived.Test.YtcodiiajmffdoaaClone
namespace Go.Proofs.Ytcodiiajmffdoaa
open Go Go.ChangeShapes Go.WideShapes Go.ChangeAt Go.RowKit

theorem info_rows : (Try.prog.info? 23).map (fun i => (i.zero, i.size, i.bytes)) = some (some (.slice none 0 0), 1, 24) := by kernel_rfl
theorem own_setne {w : World} {base : Nat} {E : TypeId} {size n : Nat} {v : Value} {xs : List Value} (h : w.ownsRow base E size v n xs) {p : Addr} (hne : v.ownBlock ≠ some p.block) (u : Value) : (w.setCell p u).ownsRow base E size v n xs :=
  h.kept (row := some p.block) ⟨rfl, rfl, rfl, by simp [World.setCell], fun k hk hne => Below.heap_setCell _ _ _ _ (fun e => hne (by rw [e]))⟩ (.inr hne)

/-! ### the argument -/
/-- a slice as it is told: where it lies, its length, its capacity -/
abbrev Sl := Option Addr × Nat × Nat
def Sl.v (p : Sl) : Value := .slice p.1 p.2.1 p.2.2
/-- WHAT THE WALK IS TOLD OF A SLICE OF ROWS OF SAMPLES, all of them below the block B -/
def Flss (B : Nat) (a : Option Addr) (n : Nat) (ps : List Sl) (rows : List (List Nat)) (w : World) : Prop :=
  ps.length = n ∧ rows.length = n ∧ n ≤ maxLen ∧ (∀ (k : Nat) p r, ps[k]? = some p → rows[k]? = some r → Fls B p.1 p.2.1 r w ∧ p.2.1 ≤ maxLen) ∧
    (n = 0 ∨ ∃ b o, a = some ⟨b, o, none⟩ ∧ b < B ∧ ∀ (k : Nat) p, ps[k]? = some p → w.cell? ⟨b, o + k, none⟩ = some p.v)
theorem Flss.nw {B : Nat} {a : Option Addr} {n : Nat} {ps : List Sl} {rows : List (List Nat)} {w w' : World} (h : Flss B a n ps rows w) (hB : B ≤ w.heap.size) (hn : Nw w w') : Flss B a n ps rows w' := by
  obtain ⟨h1, h2, h3, h4, h5⟩ := h
  refine ⟨h1, h2, h3, fun k p r hp hr => ⟨(h4 k p r hp hr).1.nw hB hn, (h4 k p r hp hr).2⟩, ?_⟩
  rcases h5 with h0 | ⟨b, o, rfl, hb, hc⟩
  · exact .inl h0
  · exact .inr ⟨b, o, rfl, hb, fun k x hx => by rw [hn.cell (by show b < w.heap.size; omega)]; exact hc k x hx⟩
theorem Flss.at {B : Nat} {a : Option Addr} {n : Nat} {ps : List Sl} {rows : List (List Nat)} {w : World} (h : Flss B a n ps rows w) {k : Nat} {p : Sl} (hp : ps[k]? = some p) :
    ∃ b o r, a = some ⟨b, o, none⟩ ∧ b < B ∧ w.cell? ⟨b, o + k, none⟩ = some (.slice p.1 p.2.1 p.2.2) ∧ rows[k]? = some r ∧ Fls B p.1 p.2.1 r w ∧ p.2.1 ≤ maxLen := by
  obtain ⟨h1, h2, h3, h4, h5⟩ := h
  have hk := (List.getElem?_eq_some_iff.1 hp).1
  have hr : rows[k]? = some (rows[k]'(by omega)) := List.getElem?_eq_getElem _
  rcases h5 with h0 | ⟨b, o, rfl, hb, hc⟩
  · omega
  · exact ⟨b, o, _, rfl, hb, hc k p hp, hr, (h4 k p _ hp hr).1, (h4 k p _ hp hr).2⟩

theorem szFloat32S_ok (a : Option Addr) (n c : Nat) (q : Int) (hn : n ≤ maxLen) (h0 : 0 ≤ q) (h1 : q ≤ 1048576) (w : World) :
    Calls Try.prog 82 #[.slice a n c, .int .i64 q] w fun e w' => e = .returned (.int .i64 (if (n : Int) ≤ q then q - n else -1)) ∧ w = w' := by
  unfold maxLen at hn
  by_cases h : (n : Int) ≤ q
  · rw [if_pos h]
    go_enter Try.func82, Try.ntmps82
    go_wp2
    go_ret
    exact ⟨rfl, rfl⟩
  · rw [if_neg h]
    go_enter Try.func82, Try.ntmps82
    go_wp2
    go_ret
    exact ⟨rfl, rfl⟩

def SzI (n : Nat) (ps : List Sl) (w : World) (l i : Value) (wr : World) : Prop :=
  ∃ (k : Nat) (q : Int), k ≤ n ∧ i = .int .i64 (k : Int) ∧ l = .int .i64 q ∧ 0 ≤ q ∧ q ≤ 1048576 ∧ (∀ (j : Nat) p, j < k → ps[j]? = some p → p.2.1 ≤ 1048576) ∧ w = wr
def SzP (n : Nat) (ps : List Sl) (w : World) (e : Ending) (w' : World) : Prop :=
  ∃ q : Int, e = .returned (.int .i64 q) ∧ (q = -1 ∨ 0 ≤ q ∧ q ≤ 1048576 ∧ n ≤ 1048576 ∧ ∀ p ∈ ps, p.2.1 ≤ 1048576) ∧ w = w'
set_option maxRecDepth 100000 in
theorem szFloat32SS_ok (B : Nat) (a : Option Addr) (n c : Nat) (ps : List Sl) (rows : List (List Nat)) (w : World) (h : Flss B a n ps rows w) :
    Calls Try.prog 46 #[.slice a n c, .int .i64 1048576] w (SzP n ps w) := by
  have H := Lib.hid h
  have hm := h.2.2.1
  unfold maxLen at hm
  clear h
  by_cases hn : n ≤ 1048576
  · go_enter Try.func46, Try.ntmps46
    go_wp2_with fail
    go_loopw [1, 5] (fun l i wr => SzI n ps w l i wr) (fun _ i _ => n - (intOf i).toNat)
    case atStart => exact ⟨0, 1048576 - (n : Int), by omega, rfl, rfl, by omega, by omega, fun j p hj => by omega, rfl⟩
    case round =>
      obtain ⟨k, q, hk, rfl, rfl, q0, q1, hps, rfl⟩ := hrel
      have Hps := Lib.hid hps
      clear hps
      by_cases hlt : k < n
      · obtain ⟨p, hp⟩ : ∃ p, ps[k]? = some p := ⟨ps[k]'(by rw [H.out.1]; exact hlt), List.getElem?_eq_getElem _⟩
        obtain ⟨b, o, r, rfl, hb, e0, hr, hf, hpm⟩ := H.out.at hp
        have Hp := Lib.hid hp
        clear hp hr hf hb
        go_wp2_with fail
        refine (szFloat32S_ok _ _ _ q hpm q0 q1 _).mono ?_
        rintro e w1 ⟨rfl, rfl⟩
        by_cases hq : (p.2.1 : Int) ≤ q
        · rw [if_pos hq]
          go_wp2_with fail
          go_roundw
          case rel =>
            refine ⟨k + 1, q - p.2.1, by omega, by rw [show ((k + 1 : Nat) : Int) = (k : Int) + 1 from by omega], rfl, by omega, by omega, fun j p' hj hp' => ?_, rfl⟩
            by_cases hjk : j < k
            · exact Hps.out j p' hjk hp'
            · obtain rfl : j = k := by omega
              rw [Hp.out] at hp'
              cases hp'
              omega
          case measure => simp only [intOf]; omega
        · rw [if_neg hq]
          go_wp2_with fail
          go_ret
          exact ⟨-1, rfl, .inl rfl, rfl⟩
      · obtain rfl : k = n := by omega
        go_wp2_with fail
        go_ret
        refine ⟨q, rfl, .inr ⟨q0, q1, hn, fun p hp => ?_⟩, rfl⟩
        obtain ⟨j, hj⟩ := List.getElem?_of_mem hp
        exact Hps.out j p (by have := (List.getElem?_eq_some_iff.1 hj).1; have := H.out.1; omega) hj
  · go_enter Try.func46, Try.ntmps46
    go_wp2_with fail
    go_ret
    exact ⟨-1, rfl, .inl rfl, rfl⟩

/-! ### the copy -/
def rowV (h : Nat) (r : List Nat) : Value := .slice (some ⟨h, 0, none⟩) r.length r.length
def cellsG (gs : List Nat) (rows : List (List Nat)) : List Value := List.zipWith rowV gs rows
/-- ROWS AS THE LAW COPIES THEM: the outer row in block g, the inner ones in the blocks gs, all of their own -/
def SRows (w : World) (base g n : Nat) (gs : List Nat) (rows : List (List Nat)) : Prop :=
  gs.length = n ∧ rows.length = n ∧ gs.Nodup ∧ w.ownsRow base 23 1 (.slice (some ⟨g, 0, none⟩) n n) n (cellsG gs rows) ∧
    ∀ (k : Nat) h r, gs[k]? = some h → rows[k]? = some r → w.ownsRow base 25 1 (rowV h r) r.length (cellsS r)
theorem SRows.nw {w w' : World} {base g n : Nat} {gs : List Nat} {rows : List (List Nat)} (h : SRows w base g n gs rows) (hn : Nw w w') : SRows w' base g n gs rows := by
  obtain ⟨h1, h2, h3, h4, h5⟩ := h
  exact ⟨h1, h2, h3, own_nw h4 hn, fun k x r hx hr => own_nw (h5 k x r hx hr) hn⟩
theorem SRows.at {w : World} {base g n : Nat} {gs : List Nat} {rows : List (List Nat)} (h : SRows w base g n gs rows) {k : Nat} (hk : k < n) :
    ∃ x r, gs[k]? = some x ∧ rows[k]? = some r ∧ w.cell? ⟨g, k, none⟩ = some (.slice (some ⟨x, 0, none⟩) r.length r.length) ∧ w.ownsRow base 25 1 (rowV x r) r.length (cellsS r) := by
  obtain ⟨h1, h2, h3, h4, h5⟩ := h
  have e1 : gs[k]? = some (gs[k]'(by omega)) := List.getElem?_eq_getElem _
  have e2 : rows[k]? = some (rows[k]'(by omega)) := List.getElem?_eq_getElem _
  refine ⟨_, _, e1, e2, ?_, h5 k _ _ e1 e2⟩
  rw [h4.cellAt k (by omega)]
  unfold cellsG
  rw [List.getElem?_zipWith, e1, e2]
  rfl

theorem cellsG_set (gs : List Nat) (rows : List (List Nat)) (n k h : Nat) (r : List Nat) (hg : gs.length = k) (hr : rows[k]? = some r) (hk : k < n) :
    (cellsG gs (rows.take k) ++ List.replicate (n - k) (Value.slice none 0 0)).set k (rowV h r) = cellsG (gs ++ [h]) (rows.take (k + 1)) ++ List.replicate (n - (k + 1)) (Value.slice none 0 0) := by
  obtain ⟨hlt, he⟩ := List.getElem?_eq_some_iff.1 hr
  rw [show n - k = (n - (k + 1)) + 1 from by omega, List.replicate_succ, List.take_succ_eq_append_getElem hlt, he]
  unfold cellsG
  rw [List.zipWith_append (by simp; omega), List.set_append_right _ _ (by simp; omega)]
  simp [hg, Nat.min_eq_left (Nat.le_of_lt hlt)]
theorem cellsG_len (gs : List Nat) (rows : List (List Nat)) (k : Nat) (hg : gs.length = k) (hr : k ≤ rows.length) : (cellsG gs (rows.take k)).length = k := by
  unfold cellsG; simp; omega
theorem cellsG_hole (gs : List Nat) (rows : List (List Nat)) (n k : Nat) (hg : gs.length = k) (hr : k ≤ rows.length) (hk : k < n) : (cellsG gs (rows.take k) ++ List.replicate (n - k) (Value.slice none 0 0))[k]? = some (.slice none 0 0) := by
  have := cellsG_len gs rows k hg hr
  rw [List.getElem?_append_right (by omega), this]
  simp [List.getElem?_replicate]
  omega

def CopySI (B g n : Nat) (rows : List (List Nat)) (w : World) (i : Value) (wr : World) : Prop :=
  ∃ (k : Nat) (gs : List Nat), k ≤ n ∧ i = .int .i64 (k : Int) ∧ gs.length = k ∧ gs.Nodup ∧ (∀ x ∈ gs, x < wr.heap.size) ∧
    wr.ownsRow B 23 1 (.slice (some ⟨g, 0, none⟩) n n) n (cellsG gs (rows.take k) ++ List.replicate (n - k) (Value.slice none 0 0)) ∧
    (∀ (j : Nat) h r, gs[j]? = some h → rows[j]? = some r → h ≠ g ∧ wr.ownsRow B 25 1 (rowV h r) r.length (cellsS r)) ∧ Nw w wr
def CopySP (rows : List (List Nat)) (n : Nat) (w : World) (e : Ending) (w' : World) : Prop :=
  ∃ (g : Nat) (gs : List Nat), e = .returned (.slice (some ⟨g, 0, none⟩) n n) ∧ SRows w' w.heap.size g n gs rows ∧ Nw w w'

set_option maxRecDepth 100000 in
theorem toFloat32SS_ok (B : Nat) (a : Option Addr) (n cap : Nat) (ps : List Sl) (rows : List (List Nat)) (hn : n ≤ 1048576) (hps : ∀ p ∈ ps, p.2.1 ≤ 1048576) (w : World) (hB : B ≤ w.heap.size) (hf : Flss B a n ps rows w) :
    Calls Try.prog 48 #[.slice a n cap] w (CopySP rows n w) := by
  obtain ⟨f0, hf0, hfz0, hfz1, hfz2⟩ := info_parts info_rows
  have Hf := Lib.hid hf
  have Hps := Lib.hid hps
  clear hf hps
  go_enter Try.func48, Try.ntmps48
  go_wp2_with (first
    | (at_make; refine wpList_make_full _ rfl _ _ 68 rfl w.heap.size 23 f0 (.slice none 0 0) 1 Try.underlying68 hf0 hfz0 hfz1 _ _ _ _ n rfl rfl rfl rfl (by rw [hfz2]; omega) (by unfold maxLen; omega) (Nat.le_refl _) ?_))
  intro w3 hown3 hgrow3
  have O3 := Lib.hid (show w3.ownsRow w.heap.size 23 1 (.slice (some ⟨w.heap.size, 0, none⟩) n n) n (cellsG [] (rows.take 0) ++ List.replicate (n - 0) (Value.slice none 0 0)) from by
    rw [toList_madeCells_one] at hown3
    simpa [cellsG] using hown3)
  have N3 := Lib.hid (show Nw w w3 from hgrow3)
  clear hown3 hgrow3
  go_wp2_with fail
  go_loopw [4] (fun i wr => CopySI w.heap.size w.heap.size n rows w i wr) (fun i _ => n - (intOf i).toNat)
  case atStart => exact ⟨0, [], by omega, rfl, rfl, List.nodup_nil, fun x hx => by simp at hx, O3.out, fun j h r hj => by simp at hj, N3.out⟩
  case round =>
    obtain ⟨k, gs, hk, rfl, hgl, hnd, hgx, how, hin, hnw⟩ := hrel
    have Gs := Lib.hid (And.intro hgl (And.intro hnd hgx))
    have Ow := Lib.hid how
    have In := Lib.hid hin
    have Nr := Lib.hid hnw
    clear how hnw hin hgl hnd hgx
    by_cases hlt : k < n
    · obtain ⟨p, hpk⟩ : ∃ p, ps[k]? = some p := ⟨ps[k]'(by rw [Hf.out.1]; exact hlt), List.getElem?_eq_getElem _⟩
      obtain ⟨b, o, r, rfl, hbB, e0, hr, hfr, hpm⟩ := (Hf.out.nw hB Nr.out).at hpk
      have Hr := Lib.hid hr
      have Fr := Lib.hid hfr
      have hp20 := Hps.out p (List.mem_of_getElem? hpk)
      clear hr hfr hpk hpm
      go_wp2_with fail
      refine (toFloat32S_ok B _ _ _ r hp20 _ (Nat.le_trans hB Nr.out.size) Fr.out).mono ?_
      rintro e w5 ⟨h5, rfl, own5, n5⟩
      have hrl := Fr.out.1
      have Own5 := Lib.hid own5
      have N5 := Lib.hid n5
      have Ow5 := Lib.hid (own_nw Ow.out n5)
      have h5lt := own5.lt h5 rfl
      have hnw5 := Nr.out.size
      clear own5 n5
      have e1 := Ow5.out.cellAt k (by omega)
      rw [cellsG_hole gs rows n k Gs.out.1 (by have := Hf.out.2.1; omega) hlt] at e1
      have e2 := Ow5.out.frozenAt k
      have hg0 : w.heap.size < wr.heap.size := (Ow.out.lt w.heap.size rfl).2
      have hset := Ow5.out.stored k (rowV h5 r)
      rw [cellsG_set gs rows n k h5 r Gs.out.1 Hr.out hlt] at hset
      have F := Lib.hid hset.1
      have N2 := Lib.hid ((Nr.out.trans N5.out).set (p := ⟨w.heap.size, k, none⟩) (by show w.heap.size ≤ w.heap.size; omega) (rowV h5 r))
      have hrv : rowV h5 r = .slice (some ⟨h5, 0, none⟩) p.2.1 p.2.1 := by unfold rowV; rw [hrl]
      rw [hrv] at N2 F
      have I2 := Lib.hid (show ∀ (j : Nat) h r', (gs ++ [h5])[j]? = some h → rows[j]? = some r' → h ≠ w.heap.size ∧ (w5.setCell ⟨w.heap.size, k, none⟩ (.slice (some ⟨h5, 0, none⟩) p.2.1 p.2.1)).ownsRow w.heap.size 25 1 (rowV h r') r'.length (cellsS r') from by
        intro j h r' hj hr'
        by_cases hjk : j < k
        · rw [List.getElem?_append_left (by rw [Gs.out.1]; exact hjk)] at hj
          obtain ⟨a1, a2⟩ := In.out j h r' hj hr'
          exact ⟨a1, own_setne (own_nw a2 N5.out) (by simp [rowV, Value.ownBlock]; exact a1) _⟩
        · rw [List.getElem?_append_right (by rw [Gs.out.1]; omega)] at hj
          have hb := (List.getElem?_eq_some_iff.1 hj).1
          simp at hb
          have hgl := Gs.out.1
          have e : j = k := by omega
          subst e
          rw [hgl, Nat.sub_self] at hj
          simp at hj
          subst hj
          rw [Hr.out] at hr'
          cases hr'
          refine ⟨by omega, own_setne ?_ (by simp [rowV, Value.ownBlock]; omega) _⟩
          rw [hrv, hrl]
          exact own_base Own5.out (by omega))
      have G2 := Lib.hid (show (gs ++ [h5]).length = k + 1 ∧ (gs ++ [h5]).Nodup ∧ ∀ x ∈ gs ++ [h5], x < (w5.setCell ⟨w.heap.size, k, none⟩ (.slice (some ⟨h5, 0, none⟩) p.2.1 p.2.1)).heap.size from by
        have hs5 := N5.out.size
        refine ⟨by rw [List.length_append, Gs.out.1]; rfl, ?_, fun x hx => ?_⟩
        · rw [List.nodup_append]
          refine ⟨Gs.out.2.1, by simp, fun x hx y hy => ?_⟩
          simp at hy
          subst hy
          have := Gs.out.2.2 x hx
          omega
        · have : x < w5.heap.size := by
            rcases List.mem_append.1 hx with h | h
            · have := Gs.out.2.2 x h; omega
            · simp at h; subst h; exact h5lt.2
          simpa [World.setCell] using this)
      clear hset hrv
      go_wp2_with fail
      go_roundw
      case rel => exact ⟨k + 1, gs ++ [h5], by omega, by rw [show ((k + 1 : Nat) : Int) = (k : Int) + 1 from by omega], G2.out.1, G2.out.2.1, G2.out.2.2, F.out, I2.out, N2.out⟩
      case measure => simp only [intOf]; omega
    · obtain rfl : k = n := by omega
      go_wp2_with fail
      go_ret
      refine ⟨_, gs, rfl, ⟨Gs.out.1, Hf.out.2.1, Gs.out.2.1, ?_, fun j h r hj hr => (In.out j h r hj hr).2⟩, Nr.out⟩
      have h := Ow.out
      rw [List.take_of_length_le (by rw [Hf.out.2.1]; exact Nat.le_refl _), Nat.sub_self, List.replicate_zero, List.append_nil] at h
      exact h

end Go.Proofs.Ytcodiiajmffdoaa
