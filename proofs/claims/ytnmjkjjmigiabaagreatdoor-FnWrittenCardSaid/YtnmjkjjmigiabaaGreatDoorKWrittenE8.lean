/- Texts of a proof, put together: WdT, FoW, Can, FoC, FrC, RmC, FwA, Same, Rec, Pole, FwM, Wid2, FwF, RingD, TrajS, Ev, DampB, Fill, Less, Touch, Drift.
   Conditions: those that each statement names. -/
import Derived.Test.YtnmjkjjmigiabaaGreatDoorKWrittenE7
import Derived.StillTailTactics
import Derived.BigQuiet
import Derived.Deep.CutBlock
import Derived.Deep.RegionHeld3
/- impl.ParseWide; the model's FormatWide and ParseWide.
   Conditions: those that each statement names. -/
namespace Go.Proofs.YtnmjkjjmigiabaaGreatDoor
set_option linter.unusedSimpArgs false
set_option linter.unusedVariables false
open Go Go.RowKit

def PwP (l : List UInt8) (w : World) (e : Ending) (w' : World) : Prop :=
  Nw w w' ∧ ((∃ (ms : List W4) (v : Value), GoodW l ms ∧ e = .returned (.tuple #[v, .bool true]) ∧ w'.ownsRow w.heap.size 115 2 v ms.length (cellsW ms)) ∨
    ((∀ ms, ¬ GoodW l ms) ∧ e = .returned (.tuple #[.slice none 0 0, .bool false])))
set_option maxHeartbeats 3200000 in
set_option maxRecDepth 100000 in
theorem implParseWide (s : ByteArray) (hs : s.size ≤ 1048576) (w : World) (hL : LibW w) :
    Calls Tryz.prog 23 #[.string s] w (PwP s.data.toList w) := by
  have C := Lib.hid (readLinesW s hs)
  have L := Lib.hid hL
  clear hL
  go_enter Tryz.func23, Tryz.ntmps23
  go_wp2_with fail
  refine (C.out _ L.out).mono ?_
  rintro e w1 ⟨ms, r, v, rfl, hrd, own, n1⟩
  obtain ⟨va, vc, rfl⟩ := own_shape' own
  have Rd := Lib.hid hrd
  have O1 := Lib.hid own
  have N1 := Lib.hid n1
  have hfin : ∀ m ∈ ms, m.Fin ∧ m.bits := by
    obtain ⟨ps, h1, -⟩ := hrd
    intro m hm
    obtain ⟨p, hp⟩ := h1.memr m hm
    exact lineW_fin hp
  have Hf := Lib.hid hfin
  have h16 : ms.length ≤ 16 := by obtain ⟨ps, -, -, h, -⟩ := hrd; exact h
  clear hrd own n1 hfin
  by_cases hr : r = []
  · subst hr
    go_wp2_with fail
    refine (implAreWide_any ms (fun m hm => (Hf.out m hm).2) ms.length _ _ rfl (by omega) _ O1.out).mono ?_
    rintro e w3 ⟨rfl, n3⟩
    have O3 := Lib.hid (own_nw O1.out n3)
    have N3 := Lib.hid (N1.out.trans n3)
    clear n3
    cases hb : areB ms with
    | true =>
      go_wp2_with fail
      go_ret2
      exact ⟨N3.out, .inl ⟨ms, _, ⟨hb, Rd.out.done⟩, rfl, O3.out⟩⟩
    | false =>
      go_wp2_with fail
      go_ret2
      refine ⟨N3.out, .inr ⟨fun ns h => ?_, rfl⟩⟩
      have e := LinesT.val lineW_K Rd.out.done h.2
      rw [e, h.1] at hb
      cases hb
  · have hr0 : (r == []) = false := by simpa using hr
    go_wp2_with fail
    go_ret2
    refine ⟨N1.out, .inr ⟨fun ns h => ?_, rfl⟩⟩
    exact hr (Rd.out.rest lineW_K h.2 ((areB_iff ns).1 h.1).1)

/-! ### the model's text -/
def TextWI (ms : List W4) (n : Nat) (w : World) (o i : Value) (wr : World) : Prop :=
  ∃ (k : Nat) (l : List UInt8), k ≤ n ∧ i = .int .i64 (k : Int) ∧ o = .string ⟨l.toArray⟩ ∧ LinesT LineW (ms.take k) l ∧ l.length ≤ k * 300 ∧ Nw w wr
def TextWP (ms : List W4) (w : World) (e : Ending) (w' : World) : Prop :=
  ∃ l, e = .returned (.string ⟨l.toArray⟩) ∧ LinesT LineW ms l ∧ l.length ≤ 5000 ∧ Nw w w'
set_option maxRecDepth 100000 in
theorem specFormatWide_ok (ms : List W4) (hf : ∀ m ∈ ms, m.Fin ∧ m.bits) (n bm : Nat) (v : Value) (hn : ms.length = n) (hok : areB ms = true) (w : World) (hm : w.ownsRow bm 115 2 v n (cellsW ms)) :
    Calls Tryz.prog 27 #[v] w (TextWP ms w) := by
  obtain ⟨va, vc, rfl⟩ := own_shape' hm
  have hn16 : n ≤ 16 := by have := ((areB_iff ms).1 hok).1; omega
  have H := Lib.hid hm
  have Hf := Lib.hid hf
  have Hn := Lib.hid hn
  have Ho := Lib.hid hok
  clear hm hf hn hok
  go_enter Tryz.func27, Tryz.ntmps27
  go_wp2_with fail
  refine (specAreWide_any ms n bm _ Hn.out (by omega) _ H.out).mono ?_
  rintro e w0 ⟨rfl, n0⟩
  rw [Ho.out]
  have N0 := Lib.hid n0
  clear n0
  go_wp2_with fail
  go_loopw [3, 12] (fun o i wr => TextWI ms n w o i wr) (fun _ i _ => n - (intOf i).toNat)
  case atStart => exact ⟨0, [], by omega, rfl, rfl, ⟨[], trivial, rfl⟩, by simp, N0.out⟩
  case round =>
    obtain ⟨k, l, hk, rfl, rfl, hT, hl, hN⟩ := hrel
    have Nr := Lib.hid hN
    have T := Lib.hid hT
    clear hN hT
    by_cases hlt : k < n
    · obtain ⟨m, hmk⟩ : ∃ m, ms[k]? = some m := ⟨ms[k]'(by rw [Hn.out]; exact hlt), List.getElem?_eq_getElem _⟩
      obtain ⟨g, cap, hv, hcap, hmax, hgs, e1, e2⟩ := own_wide (own_nw H.out Nr.out) hmk Hn.out.symm
      cases hv
      unfold maxLen at hmax
      have Hm := Lib.hid (Hf.out m (List.mem_of_getElem? hmk))
      have Hk := Lib.hid hmk
      clear hmk
      have C := Lib.hid (fun w => l6Line_ok wWide (by decide) (by decide) m.a m.b m.c m.d ⟨Hm.out.2.1, Hm.out.1.1⟩ ⟨Hm.out.2.2.1, Hm.out.1.2.1⟩ ⟨Hm.out.2.2.2.1, Hm.out.1.2.2.1⟩ ⟨Hm.out.2.2.2.2, Hm.out.1.2.2.2⟩ w)
      go_wp2_with fail
      refine (C.out _).mono ?_
      rintro e w1 ⟨p, rfl, hp, hpl, n1⟩
      have N1 := Lib.hid n1
      have P := Lib.hid hp
      have hpl2 : p.length ≤ 248 := hpl
      clear n1 hp hpl
      go_wp2_with fail
      go_roundw
      case rel =>
        refine ⟨k + 1, l ++ (p ++ [10]), by omega, by rw [show ((k + 1 : Nat) : Int) = (k : Int) + 1 from by omega], rfl, ?_, by simp; omega, (Nr.out.alloc _).trans N1.out⟩
        obtain ⟨ps, h1, h2⟩ := T.out
        obtain ⟨hk', he⟩ := List.getElem?_eq_some_iff.1 Hk.out
        refine ⟨ps ++ [p], ?_, by rw [h2, glue_snoc]⟩
        rw [List.take_succ_eq_append_getElem hk', he]
        exact h1.snoc P.out
      case measure => simp only [intOf]; omega
    · obtain rfl : k = n := by omega
      go_wp2_with fail
      go_ret
      refine ⟨l, rfl, ?_, by omega, Nr.out⟩
      have h := T.out
      rw [List.take_of_length_le (by have := Hn.out; omega)] at h
      exact h

/-! ### the model's ParseWide -/
def Rd2 (p : List UInt8) (m : W4) : Prop := (m.Fin ∧ m.bits) ∧ ∀ m', LineW p m' → m = m'
def PwI (ps : List (List UInt8)) (B : Nat) (w0 : World) (v i : Value) (wr : World) : Prop :=
  ∃ (k : Nat) (ms : List W4), k ≤ ps.length ∧ i = .int .i64 (k : Int) ∧ ms.length = k ∧ All2 Rd2 (ps.take k) ms ∧ wr.ownsRow B 115 2 v k (cellsW ms) ∧ Nw w0 wr
theorem rd2_good {l r : List UInt8} {ps : List (List UInt8)} {ms ns : List W4} (hsp : spl 10 l = ps ++ [r]) (h : All2 Rd2 ps ms) (g : GoodW l ns) : ms = ns := by
  obtain ⟨qs, h2, e⟩ := g.2.spl lineW_K
  rw [hsp] at e
  have e2 := (List.append_inj' e rfl).1
  subst e2
  exact go h h2
where
  go : ∀ {ps : List (List UInt8)} {ms ns : List W4}, All2 Rd2 ps ms → All2 LineW ps ns → ms = ns
  | [], [], [], _, _ => rfl
  | _ :: _, _ :: _, _ :: _, h, k => by rw [h.1.2 _ k.1, go h.2 k.2]
  | [], _ :: _, _, h, _ => h.elim
  | _ :: _, [], _, h, _ => h.elim
  | [], [], _ :: _, _, k => k.elim
  | _ :: _, _ :: _, [], _, k => k.elim

set_option maxHeartbeats 12800000 in
set_option maxRecDepth 100000 in
theorem specParseWide (s : ByteArray) (hs : s.size ≤ 1048576) (w : World) :
    Calls Tryz.prog 32 #[.string s] w (PwP s.data.toList w) := by
  obtain ⟨i0, hi, hz0, hz1, hz2⟩ := info_parts info_wideV
  have C := Lib.hid (l1Split_any 10 s hs)
  go_enter Tryz.func32, Tryz.ntmps32
  go_wp2_with fail
  refine (C.out _).mono ?_
  rintro e w1 ⟨ps, r, v, rfl, hl, hps, hr, own, n1⟩
  have hsp : spl 10 s.data.toList = ps ++ [r] := by rw [hl, spl_glue hps, spl_none hr]
  obtain ⟨va, vc, rfl⟩ := own_shape' own
  have Sp := Lib.hid hsp
  have hw1 : w.heap.size ≤ w1.heap.size := n1.size
  have N1 := Lib.hid n1
  have O1 := Lib.hid own
  have hpl : ps.length ≤ 1048576 := by
    have h1 := spl_le 10 s.data.toList
    have h2 : s.data.toList.length = s.size := Array.length_toList
    rw [hsp] at h1
    simp at h1
    omega
  obtain ⟨g, hva, hcv⟩ : ∃ g, va = some ⟨g, 0, none⟩ ∧ ps.length + 1 ≤ vc ∧ vc ≤ maxLen := by
    rcases O1.out.2 with ⟨h0, h1⟩ | ⟨g, cap, cur, hv, hb, hg, hc, hm, -, -⟩
    · omega
    · cases hv; exact ⟨g, rfl, hc, hm⟩
  subst hva
  unfold maxLen at hcv
  have Z := Lib.hid (World.ownsRow_lit (base := w1.heap.size) (e := 115) (size := 2) w1 #[] 0 (Nat.le_refl _) (by decide) rfl)
  clear hl hps hr own n1 hsp
  by_cases h17 : ps.length + 1 ≤ 17
  · have hi17 : ¬ ((17 : Int) < (ps.length : Int) + 1) := by omega
    go_wp2_with fail
    go_loopw [5, 20] (fun v i wr => PwI ps w1.heap.size w1 v i wr) (fun _ i _ => ps.length - (intOf i).toNat)
    case atStart => exact ⟨0, [], by omega, rfl, rfl, trivial, by simpa [cellsW] using Z.out, (Nw.refl w1).alloc _⟩
    case round =>
      obtain ⟨k, ms, hk, rfl, hmk, hal, hown, hN⟩ := hrel
      have Al := Lib.hid hal
      have Ow := Lib.hid hown
      have Nr := Lib.hid hN
      have Mk := Lib.hid hmk
      obtain ⟨sa, sl, sc, rfl⟩ := own_shape hown
      clear hal hown hN hmk
      by_cases hlt : k < ps.length
      · obtain ⟨p, hpk⟩ : ∃ p, ps[k]? = some p := ⟨ps[k]'hlt, List.getElem?_eq_getElem _⟩
        have e0 := (own_nw O1.out Nr.out).cellAt k (by omega)
        rw [show (cellsT (ps ++ [r]))[k]? = some (.string ⟨p.toArray⟩) from by unfold cellsT; rw [List.getElem?_map, List.getElem?_append_left hlt, hpk]; rfl] at e0
        have hts : (⟨p.toArray⟩ : ByteArray).size ≤ 1048576 := by
          have h1 : p ∈ spl 10 s.data.toList := by rw [Sp.out]; exact List.mem_append_left _ (List.mem_of_getElem? hpk)
          have h1 := spl_len h1
          have h2 : s.data.toList.length = s.size := Array.length_toList
          have h3 : (⟨p.toArray⟩ : ByteArray).size = p.length := List.size_toArray
          omega
        have Pk := Lib.hid hpk
        clear hpk
        have K1 := Lib.hid (l6Wide_ok ⟨p.toArray⟩ hts wr)
        clear hts
        go_wp2_with fail
        refine K1.out.mono ?_
        rintro e w6 ⟨n6, m, hf6, hb6, hm6, rfl⟩
        have N6 := Lib.hid (Nr.out.trans n6)
        have Ow6 := Lib.hid (own_nw Ow.out n6)
        have Rm := Lib.hid (show Rd2 p m from ⟨⟨hf6, hb6⟩, hm6⟩)
        have hs6 := Lib.hid (show w1.heap.size ≤ w6.heap.size from N6.out.size)
        clear n6 hf6 hb6 hm6 e0
        go_wp2_with (at_builtin; refine wpList_append_own _ rfl _ _ 45 rfl w1.heap.size 115 i0 (.agg #[.complex .f64 0 0, .complex .f64 0 0]) 2 32 Tryz.underlying45 hi hz0 hz1 hz2 rfl (by decide) _ _ _ rfl (Ow6.out.alloc _) ⟨w6.heap.size, 0, none⟩ 1 1 [.complex .f64 m.a m.b, .complex .f64 m.c m.d] rfl rfl ?c1 ?c2 ?c3 ?c4 ?c5 ?_)
        case c1 =>
          intro j u hj
          match j, hj with
          | 0, hj => simp at hj; subst hj; simp [Addr.add]
          | 1, hj => simp at hj; subst hj; simp [Addr.add]
        case c2 => intro u hu; simp at hu; rcases hu with rfl | rfl <;> rfl
        case c3 => unfold maxLen; omega
        case c4 => omega
        case c5 => have := hs6.out; simp; omega
        · intro v' w7 own7 gr7 _
          have hrow : ∀ q, (Value.slice sa sl sc).ownBlock = some q → w1.heap.size ≤ q := fun q hq => own_ge Ow6.out q hq
          have N7 := Lib.hid (nwg (N6.out.alloc _) gr7 hrow)
          rw [show cellsW ms ++ [Value.complex .f64 m.a m.b, Value.complex .f64 m.c m.d] = cellsW (ms ++ [m]) from (cellsW_snoc ms m).symm] at own7
          have Ow7 := Lib.hid own7
          clear own7 gr7 hrow
          go_wp2_with fail
          go_roundw
          case rel =>
            refine ⟨k + 1, ms ++ [m], by omega, by rw [show ((k + 1 : Nat) : Int) = (k : Int) + 1 from by omega], by rw [List.length_append, List.length_singleton, Mk.out], ?_, Ow7.out, N7.out⟩
            rw [List.take_add_one, Pk.out]
            exact Al.out.snoc Rm.out
          case measure => simp only [intOf]; omega
      · have hkn : k = ps.length := by omega
        subst hkn
        obtain ⟨xa, xc, hv⟩ := own_shape' Ow.out
        cases hv
        have hall : All2 Rd2 ps ms := by
          have h := Al.out
          rw [List.take_of_length_le (Nat.le_refl _)] at h
          exact h
        have All := Lib.hid hall
        have hfin : ∀ m ∈ ms, m.Fin ∧ m.bits := fun m hm => by
          obtain ⟨p, hp⟩ := hall.memr m hm
          exact hp.1
        have Hf := Lib.hid hfin
        clear hall hfin
        go_wp2_with fail
        refine (specAreWide_any ms _ _ _ Mk.out (by omega) _ Ow.out).mono ?_
        rintro e w3 ⟨rfl, n3⟩
        have O3 := Lib.hid (own_nw Ow.out n3)
        have N3 := Lib.hid ((N1.out.trans Nr.out).trans n3)
        clear n3
        cases hb : areB ms with
        | false =>
          go_wp2_with fail
          go_ret2
          refine ⟨N3.out, .inr ⟨fun ns h => ?_, rfl⟩⟩
          have e := rd2_good Sp.out All.out h
          rw [e, h.1] at hb
          cases hb
        | true =>
          go_wp2_with fail
          refine (specFormatWide_ok ms Hf.out _ _ _ Mk.out hb _ O3.out).mono ?_
          rintro e w4 ⟨t, rfl, hT, htl, n4⟩
          have O4 := Lib.hid (own_nw O3.out n4)
          have N4 := Lib.hid (N3.out.trans n4)
          have T := Lib.hid hT
          clear n4 hT
          by_cases ht : t = s.data.toList
          · have g : (t == s.toList) = true := by rw [ByteArray.toList_eq]; simpa using ht
            have g2 : ((⟨t.toArray⟩ : ByteArray).toList == s.toList) = true := by rw [ByteArray.toList_eq, ByteArray.toList_eq]; simpa using ht
            have g3 : (t == s.data.toList) = true := by simpa using ht
            go_wp2_with fail
            go_ret2
            exact ⟨N4.out, .inl ⟨ms, _, ⟨hb, by rw [← ht]; exact T.out⟩, rfl, by rw [Mk.out]; exact own_base O4.out hw1⟩⟩
          · have g : (t == s.toList) = false := by rw [ByteArray.toList_eq]; simpa using ht
            have g2 : ((⟨t.toArray⟩ : ByteArray).toList == s.toList) = false := by rw [ByteArray.toList_eq, ByteArray.toList_eq]; simpa using ht
            have g3 : (t == s.data.toList) = false := by simpa using ht
            go_wp2_with fail
            go_ret2
            refine ⟨N4.out, .inr ⟨fun ns h => ?_, rfl⟩⟩
            have e := rd2_good Sp.out All.out h
            have hT := T.out
            rw [e] at hT
            obtain ⟨p1, a1, e1⟩ := hT
            obtain ⟨p2, a2, e2⟩ := h.2
            apply ht
            rw [e1, e2, All2.left (R := LineW) (fun _ _ _ h k => LineT.txt txD_K h k) a1 a2]
  · have hi17 : ((17 : Int) < (ps.length : Int) + 1) := by omega
    go_wp2_with fail
    go_ret2
    refine ⟨N1.out.alloc _, .inr ⟨fun ns h => ?_, rfl⟩⟩
    obtain ⟨qs, h2, e⟩ := h.2.spl lineW_K
    rw [Sp.out] at e
    have e2 := (List.append_inj' e rfl).1
    subst e2
    have h3 := h2.len
    have h4 := ((areB_iff ns).1 h.1).1
    omega
end Go.Proofs.YtnmjkjjmigiabaaGreatDoor

/- impl.FormatWide of valid wide modes.
   Conditions: those that each statement names. -/
namespace Go.Proofs.YtnmjkjjmigiabaaGreatDoor
set_option linter.unusedSimpArgs false
set_option linter.unusedVariables false
open Go Go.RowKit

theorem implTxD (x : Nat) (hx : x < 18446744073709551616) (hf : fin .f64 x = true) (w : World) (hL : LibW w) : Calls Tryz.prog 9 #[.float .f64 x] w (TxDP x w) := by
  refine (implText x hx w hL.1 hL.2.1).mono ?_
  rintro e w' ⟨xs, rfl, ht, hn⟩
  exact ⟨byts xs, rfl, ⟨hx, hf, xs, ht, rfl⟩, by unfold byts; rw [List.length_map]; exact txt_str ht, hn⟩

def implFormatWideI (ms : List W4) (n b : Nat) (w w1 : World) (i : Value) (wr : World) : Prop :=
  ∃ (k : Nat) (l : List UInt8), k ≤ n ∧ i = .int .i64 (k : Int) ∧ Lib.IsBuilderF 98 5 b b (Lib.byteCells l) wr ∧ LinesT LineW (ms.take k) l ∧ l.length ≤ k * 300 ∧ Nw w wr ∧ Nw w1 wr
set_option maxHeartbeats 12800000 in
set_option maxRecDepth 100000 in
theorem implFormatWide (ms : List W4) (hf : ∀ m ∈ ms, m.Fin ∧ m.bits) (n bm : Nat) (v : Value) (hn : ms.length = n) (hok : areB ms = true) (w : World) (hL : LibW w) (hm : w.ownsRow bm 115 2 v n (cellsW ms)) :
    Calls Tryz.prog 24 #[v] w (TextWP ms w) := by
  obtain ⟨va, vc, rfl⟩ := own_shape' hm
  have hn16 : n ≤ 16 := by have := ((areB_iff ms).1 hok).1; omega
  have H := Lib.hid hm
  have L := Lib.hid hL
  have Hf := Lib.hid hf
  have Hn := Lib.hid hn
  have Ho := Lib.hid hok
  clear hm hf hn hok hL
  go_enter Tryz.func24, Tryz.ntmps24
  go_wp2_with fail
  refine (implAreWide_any ms (fun m hm => (Hf.out m hm).2) n bm _ Hn.out (by omega) _ H.out).mono ?_
  rintro e w1 ⟨rfl, n1⟩
  rw [Ho.out]
  have N1 := Lib.hid n1
  have H1 := Lib.hid (own_nw H.out n1)
  clear n1
  obtain ⟨b, hb⟩ : ∃ b, b = w1.heap.size := ⟨_, rfl⟩
  have hwb : w.heap.size ≤ b := by rw [hb]; exact N1.out.size
  have hw1b : w1.heap.size ≤ b := by omega
  have Bn := Lib.hid (Lib.IsBuilderF.of (builder_new w1))
  have HB := Lib.hid hb
  clear hb
  go_wp2_with fail
  rw [← HB.out] at Bn
  try rw [← HB.out]
  go_loopw [11] (fun i wr => implFormatWideI ms n b w w1 i wr) (fun i _ => n - (intOf i).toNat)
  case atStart => exact ⟨0, [], by omega, rfl, Bn.out, ⟨[], trivial, rfl⟩, by simp, N1.out.alloc _, (Nw.refl w1).alloc _⟩
  case round =>
    obtain ⟨k, l, hk, rfl, hbd, hT, hl, hN, hNb⟩ := hrel
    have Bd := Lib.hid hbd
    have Nr := Lib.hid (And.intro hN hNb)
    have T := Lib.hid hT
    have hbw : b < wr.heap.size := builderF_lt hbd
    clear hN hT hbd hNb
    by_cases hlt : k < n
    · obtain ⟨m, hmk⟩ : ∃ m, ms[k]? = some m := ⟨ms[k]'(by rw [Hn.out]; exact hlt), List.getElem?_eq_getElem _⟩
      obtain ⟨g, cap, hv, hcap, hmax, hgs, e1, e2⟩ := own_wide (own_nw H.out Nr.out.1) hmk Hn.out.symm
      cases hv
      unfold maxLen at hmax
      have Hm := Lib.hid (Hf.out m (List.mem_of_getElem? hmk))
      have Hk := Lib.hid hmk
      clear hmk
      go_wp2_with fail
      clear e1 e2
      have A0' : Nw wr (wr.alloc (.cells #[.complex .f64 m.a m.b, .complex .f64 m.c m.d] 115 (0, 0))) := (Nw.refl wr).alloc _
      have hW0' : (wr.alloc (.cells #[.complex .f64 m.a m.b, .complex .f64 m.c m.d] 115 (0, 0))).heap[wr.heap.size]? = some (.cells #[.complex .f64 m.a m.b, .complex .f64 m.c m.d] 115 (0, 0)) := heap_alloc_new wr _
      have hq' : wr.heap.size < (wr.alloc (.cells #[.complex .f64 m.a m.b, .complex .f64 m.c m.d] 115 (0, 0))).heap.size := by simp
      obtain ⟨q, hqq⟩ : ∃ q, q = wr.heap.size := ⟨_, rfl⟩
      rw [← hqq] at hW0' hq' hbw ⊢
      obtain ⟨W0, hWW⟩ : ∃ W0, W0 = wr.alloc (.cells #[.complex .f64 m.a m.b, .complex .f64 m.c m.d] 115 (0, 0)) := ⟨_, rfl⟩
      rw [← hWW] at A0' hW0' hq' ⊢
      have A0 := Lib.hid A0'
      have hW0 := hW0'
      have hq := hq'
      have N0 := Lib.hid (Nr.out.1.trans A0')
      have N1b := Lib.hid (Nr.out.2.trans A0')
      have Keep := Lib.hid (show ∀ W, Nw W0 W → W.cell? ⟨q, 0, none⟩ = some (.complex .f64 m.a m.b) ∧ W.cell? ⟨q, 1, none⟩ = some (.complex .f64 m.c m.d) from fun W hW => heap_cells ((hW.block q hq (by simp)).trans hW0))
      clear A0' hW0' hq' hWW hqq
      go_upto_region 7 with fail
      refine wp_region_held_drew (S := fun w' => w'.cell? ⟨q, 0, none⟩ = some (.complex .f64 m.a m.b) ∧ w'.cell? ⟨q, 1, none⟩ = some (.complex .f64 m.c m.d)) (by kernel_rfl) ?_ (fun hHeld => ?_)
      · ((try dsimp only) ; exact Keep.out _ (nwx_drew (Nw.refl _)))
      refine wpAnyH_take (i := 0) (oi := _) (v := ?_) rfl (by kernel_rfl) (by kernel_rfl) (by kernel_rfl) (fun _ _ _ h => h) (_root_.Or.inl ⟨by rfl, ?_⟩) (by assumption) ?_
      rotate_left
      · intro w hSw
        (try dsimp only at hSw)
        go_simp
        all_goals with_reducible rfl
      try simp only [Act.put, List.setIfInBounds_toArray, List.set_cons_zero, List.set_cons_succ]
      refine wpAnyH_take (i := 1) (oi := _) (v := ?_) rfl (by kernel_rfl) (by kernel_rfl) (by kernel_rfl) (fun _ _ _ h => h) (_root_.Or.inl ⟨by rfl, ?_⟩) (by assumption) ?_
      rotate_left
      · intro w hSw
        (try dsimp only at hSw)
        go_simp
        all_goals with_reducible rfl
      try simp only [Act.put, List.setIfInBounds_toArray, List.set_cons_zero, List.set_cons_succ]
      refine wpAnyH_take (i := 2) (oi := _) (v := ?_) rfl (by kernel_rfl) (by kernel_rfl) (by kernel_rfl) (fun _ _ _ h => h) (_root_.Or.inl ⟨by rfl, ?_⟩) (by assumption) ?_
      rotate_left
      · intro w hSw
        (try dsimp only at hSw)
        go_simp
        all_goals with_reducible rfl
      try simp only [Act.put, List.setIfInBounds_toArray, List.set_cons_zero, List.set_cons_succ]
      refine wpAnyH_take (i := 4) (oi := _) (v := ?_) rfl (by kernel_rfl) (by kernel_rfl) (by kernel_rfl) (fun _ _ _ h => h) (_root_.Or.inl ⟨by rfl, ?_⟩) (by assumption) ?_
      rotate_left
      · intro w hSw
        (try dsimp only at hSw)
        go_simp
        all_goals with_reducible rfl
      try simp only [Act.put, List.setIfInBounds_toArray, List.set_cons_zero, List.set_cons_succ]
      refine wpAnyH_take (i := 5) (oi := _) (v := ?_) rfl (by kernel_rfl) (by kernel_rfl) (by kernel_rfl) (fun _ _ _ h => h) (_root_.Or.inl ⟨by rfl, ?_⟩) (by assumption) ?_
      rotate_left
      · intro w hSw
        (try dsimp only at hSw)
        go_simp
        all_goals with_reducible rfl
      try simp only [Act.put, List.setIfInBounds_toArray, List.set_cons_zero, List.set_cons_succ]
      refine wpAnyH_take (i := 6) (oi := _) (v := ?_) rfl (by kernel_rfl) (by kernel_rfl) (by kernel_rfl) (fun _ _ _ h => h) (_root_.Or.inl ⟨by rfl, ?_⟩) (by assumption) ?_
      rotate_left
      · intro w hSw
        (try dsimp only at hSw)
        go_simp
        all_goals with_reducible rfl
      try simp only [Act.put, List.setIfInBounds_toArray, List.set_cons_zero, List.set_cons_succ]
      refine wpAnyH_take (i := 8) (oi := _) (v := ?_) rfl (by kernel_rfl) (by kernel_rfl) (by kernel_rfl) (fun _ _ _ h => h) (_root_.Or.inl ⟨by rfl, ?_⟩) (by assumption) ?_
      rotate_left
      · intro w hSw
        (try dsimp only at hSw)
        go_simp
        all_goals with_reducible rfl
      try simp only [Act.put, List.setIfInBounds_toArray, List.set_cons_zero, List.set_cons_succ]
      refine wpAnyH_take (i := 9) (oi := _) (v := ?_) rfl (by kernel_rfl) (by kernel_rfl) (by kernel_rfl) (fun _ _ _ h => h) (_root_.Or.inl ⟨by rfl, ?_⟩) (by assumption) ?_
      rotate_left
      · intro w hSw
        (try dsimp only at hSw)
        go_simp
        all_goals with_reducible rfl
      try simp only [Act.put, List.setIfInBounds_toArray, List.set_cons_zero, List.set_cons_succ]
      refine wpAnyH_take (i := 10) (oi := _) (v := ?_) rfl (by kernel_rfl) (by kernel_rfl) (by kernel_rfl) (fun _ _ _ h => h) (_root_.Or.inl ⟨by rfl, ?_⟩) (by assumption) ?_
      rotate_left
      · intro w hSw
        (try dsimp only at hSw)
        go_simp
        all_goals with_reducible rfl
      try simp only [Act.put, List.setIfInBounds_toArray, List.set_cons_zero, List.set_cons_succ]
      refine wpAnyH_take (i := 12) (oi := _) (v := ?_) rfl (by kernel_rfl) (by kernel_rfl) (by kernel_rfl) (fun _ _ _ h => h) (_root_.Or.inl ⟨by rfl, ?_⟩) (by assumption) ?_
      rotate_left
      · intro w hSw
        (try dsimp only at hSw)
        go_simp
        all_goals with_reducible rfl
      try simp only [Act.put, List.setIfInBounds_toArray, List.set_cons_zero, List.set_cons_succ]
      refine wpAnyH_take (i := 13) (oi := _) (v := ?_) rfl (by kernel_rfl) (by kernel_rfl) (by kernel_rfl) (fun _ _ _ h => h) (_root_.Or.inl ⟨by rfl, ?_⟩) (by assumption) ?_
      rotate_left
      · intro w hSw
        (try dsimp only at hSw)
        go_simp
        all_goals with_reducible rfl
      try simp only [Act.put, List.setIfInBounds_toArray, List.set_cons_zero, List.set_cons_succ]
      refine wpAnyH_take (i := 14) (oi := _) (v := ?_) rfl (by kernel_rfl) (by kernel_rfl) (by kernel_rfl) (fun _ _ _ h => h) (_root_.Or.inl ⟨by rfl, ?_⟩) (by assumption) ?_
      rotate_left
      · intro w hSw
        (try dsimp only at hSw)
        go_simp
        all_goals with_reducible rfl
      try simp only [Act.put, List.setIfInBounds_toArray, List.set_cons_zero, List.set_cons_succ]
      refine wpAnyH_ready (rs := [3]) (by kernel_rfl) (by simp) ?_
      refine AllReadyH.cons (o := _) rfl (fun K hK => ?_) AllReadyH.nil
      go_simp
      go_at_call 9
      refine (implTxD m.a Hm.out.2.1 Hm.out.1.1 _ (L.out.nw (N0.out.trans (nwx_drew (Nw.refl W0))))).mono ?_
      rintro e w3 ⟨t1, rfl, ht1, hl1, n3⟩
      have N3 := Lib.hid (Nw.trans (nwx_drew (Nw.refl W0)) n3)
      have K1 := Lib.hid ht1
      clear n3 ht1
      go_wp2_with fail
      refine hK.out _ _ ?_ (fun hHeld => ?_)
      · ((try dsimp only) ; exact Keep.out _ N3.out)
      clear hK K
      try simp only [Act.put, List.setIfInBounds_toArray, List.set_cons_zero, List.set_cons_succ]
      refine wpAnyH_ready (rs := [7]) (by kernel_rfl) (by simp) ?_
      refine AllReadyH.cons (o := _) rfl (fun K hK => ?_) AllReadyH.nil
      go_simp
      go_at_call 9
      refine (implTxD m.b Hm.out.2.2.1 Hm.out.1.2.1 _ (L.out.nw (N0.out.trans N3.out))).mono ?_
      rintro e w4 ⟨t2, rfl, ht2, hl2, n4⟩
      have N4 := Lib.hid (Nw.trans N3.out n4)
      have K2 := Lib.hid ht2
      clear n4 ht2
      go_wp2_with fail
      refine hK.out _ _ ?_ (fun hHeld => ?_)
      · ((try dsimp only) ; exact Keep.out _ N4.out)
      clear hK K
      try simp only [Act.put, List.setIfInBounds_toArray, List.set_cons_zero, List.set_cons_succ]
      refine wpAnyH_ready (rs := [11]) (by kernel_rfl) (by simp) ?_
      refine AllReadyH.cons (o := _) rfl (fun K hK => ?_) AllReadyH.nil
      go_simp
      go_at_call 9
      refine (implTxD m.c Hm.out.2.2.2.1 Hm.out.1.2.2.1 _ (L.out.nw (N0.out.trans N4.out))).mono ?_
      rintro e w5 ⟨t3, rfl, ht3, hl3, n5⟩
      have N5 := Lib.hid (Nw.trans N4.out n5)
      have K3 := Lib.hid ht3
      clear n5 ht3
      go_wp2_with fail
      refine hK.out _ _ ?_ (fun hHeld => ?_)
      · ((try dsimp only) ; exact Keep.out _ N5.out)
      clear hK K
      try simp only [Act.put, List.setIfInBounds_toArray, List.set_cons_zero, List.set_cons_succ]
      refine wpAnyH_ready (rs := [15]) (by kernel_rfl) (by simp) ?_
      refine AllReadyH.cons (o := _) rfl (fun K hK => ?_) AllReadyH.nil
      go_simp
      go_at_call 9
      refine (implTxD m.d Hm.out.2.2.2.2 Hm.out.1.2.2.2 _ (L.out.nw (N0.out.trans N5.out))).mono ?_
      rintro e w6 ⟨t4, rfl, ht4, hl4, n6⟩
      have N6 := Lib.hid (Nw.trans N5.out n6)
      have K4 := Lib.hid ht4
      clear n6 ht4
      go_wp2_with fail
      refine hK.out _ _ ?_ (fun hHeld => ?_)
      · ((try dsimp only) ; exact Keep.out _ N6.out)
      clear hK K
      try simp only [Act.put, List.setIfInBounds_toArray, List.set_cons_zero, List.set_cons_succ]
      refine wpAnyH_ready (rs := [16]) (by kernel_rfl) (by simp) ?_
      refine AllReadyH.cons (o := _) rfl (fun K hK => ?_) AllReadyH.nil
      go_simp
      refine hK.out _ _ ?_ (fun hHeld => ?_)
      · ((try dsimp only) ; exact Keep.out _ (nwx_alloc N6.out))
      clear hK K
      try simp only [Act.put, List.setIfInBounds_toArray, List.set_cons_zero, List.set_cons_succ]
      have hlin : (lineOf [wWide, t1, t2, t3, t4]).length ≤ 248 := by rw [lineOf_cons]; simp [wWide]; omega
      have Ln := Lib.hid (show LineT TxD wWide (lineOf [wWide, t1, t2, t3, t4]) [m.a, m.b, m.c, m.d] from by rw [lineOf_cons]; exact LineT.of txD_K (by decide) ⟨K1.out, K2.out, K3.out, K4.out, trivial⟩)
      refine wpAnyH_ready (rs := [17]) (by kernel_rfl) (by simp) ?_
      refine AllReadyH.cons (o := _) rfl (fun K hK => ?_) AllReadyH.nil
      go_simp
      go_at_call 64
      refine (formatLine_ok [wWide, t1, t2, t3, t4] 5 w6.heap.size 5 rfl (Nat.le_refl _) (by omega) (by omega) _ (by simp) (fun j x hj => by match j, hj with | 0, hj => simp at hj; subst hj; go_simp; rfl | 1, hj => simp at hj; subst hj; go_simp | 2, hj => simp at hj; subst hj; go_simp | 3, hj => simp at hj; subst hj; go_simp | 4, hj => simp at hj; subst hj; go_simp)).mono ?_
      rintro e w7 ⟨rfl, n7⟩
      have N7 := Lib.hid (Nw.trans (nwx_alloc N6.out) n7)
      clear n7
      go_wp2_with fail
      refine hK.out _ _ ?_ (fun hHeld => ?_)
      · ((try dsimp only) ; exact Keep.out _ N7.out)
      clear hK K
      try simp only [Act.put, List.setIfInBounds_toArray, List.set_cons_zero, List.set_cons_succ]
      generalize lineOf [wWide, t1, t2, t3, t4] = p at *
      refine wpAnyH_ready (rs := [18]) (by kernel_rfl) (by simp) ?_
      refine AllReadyH.cons (o := _) rfl (fun K hK => ?_) AllReadyH.nil
      go_simp
      go_at_call 63
      refine (writeStringF b b (Lib.byteCells l) _ _ (builderF_nw Bd.out (A0.out.trans N7.out)) (by rw [byteCells_len]; have h3 : (⟨(p ++ [10]).toArray⟩ : ByteArray).size = (p ++ [10]).length := List.size_toArray; rw [h3]; simp; omega) (Nat.le_of_lt (builderF_lt (builderF_nw Bd.out (A0.out.trans N7.out))))).mono ?_
      rintro e w8 ⟨rfl, hb8, bel8, oth8⟩
      rw [byteCells_app] at hb8
      have B8 := Lib.hid hb8
      have N8 := Lib.hid (And.intro (nw_bel (N0.out.trans N7.out) bel8 hwb) (nw_bel (N1b.out.trans N7.out) bel8 hw1b))
      have H8 := Lib.hid (show w8.heap[q]? = _ from oth8 q _ ((N7.out.block q hq (by simp)).trans hW0) (by simp; omega) (fun c fz h => by injection h with _ h; revert h; decide))
      clear hb8 bel8 oth8
      go_wp2_with fail
      refine hK.out _ _ ?_ (fun hHeld => ?_)
      · ((try dsimp only) ; exact heap_cells H8.out)
      clear hK K
      try simp only [Act.put, List.setIfInBounds_toArray, List.set_cons_zero, List.set_cons_succ]
      refine wpAnyH_done (by kernel_rfl) ?_ _
      all_goals
        go_wp2_with fail
        go_roundw
        case rel =>
          refine ⟨k + 1, l ++ (p ++ [10]), by omega, by rw [show ((k + 1 : Nat) : Int) = (k : Int) + 1 from by omega], .inr B8.out, ?_, by simp; omega, N8.out.1, N8.out.2⟩
          obtain ⟨ps, h1, h2⟩ := T.out
          obtain ⟨hk', he⟩ := List.getElem?_eq_some_iff.1 Hk.out
          refine ⟨ps ++ [p], ?_, by rw [h2, glue_snoc]⟩
          rw [List.take_succ_eq_append_getElem hk', he]
          exact h1.snoc Ln.out
        case measure => simp only [intOf]; omega
    · obtain rfl : k = n := by omega
      go_wp2_with fail
      refine (builderStringF b b l _ Bd.out (Nat.le_of_lt hbw)).mono ?_
      rintro e w9 ⟨rfl, -, bel9⟩
      have N9 := Lib.hid (nw_bel Nr.out.1 bel9 hwb)
      clear bel9
      go_wp2_with fail
      go_ret
      refine ⟨l, rfl, ?_, by omega, N9.out⟩
      have h := T.out
      rw [List.take_of_length_le (by have := Hn.out; omega)] at h
      exact h
end Go.Proofs.YtnmjkjjmigiabaaGreatDoor

/- Numbers of single precision as words below 2^32: the same number.
   Conditions: those that each statement names. -/
namespace Go.Proofs.YtnmjkjjmigiabaaGreatDoor
set_option linter.unusedSimpArgs false
set_option linter.unusedVariables false
open Go Go.RowKit

def can (r : Nat) : Nat := FloatKind.f32.encode (FloatKind.f32.decode r)
theorem can_ok {r : Nat} (h : Sm r) : can r < 4294967296 ∧ Sm (can r) ∧ wid (can r) = wid r := by
  obtain ⟨s, m, i, hx⟩ := h
  obtain ⟨h1, h2, h3⟩ := single_bound hx
  have e1 : Ieee.single.leastPlace = -149 := by decide
  have e2 : (2 ^ Ieee.single.exponentBits : Nat) = 256 := by decide
  obtain ⟨m', p', w1, w4⟩ := Flo.write_exact_top Ieee.single (by decide) s m i m i rfl (Nat.lt_of_lt_of_le h1 (by decide)) (by omega) (by omega)
  have hc : can r = FloatKind.f32.encode (.number s m i) := by unfold can; rw [show FloatKind.f32.decode r = .number s m i from hx]
  have hr : Ieee.single.read (can r) = .number s m' p' := by rw [hc]; exact w1
  refine ⟨Ieee.Format.write_lt _ _, ⟨_, _, _, hr⟩, ?_⟩
  obtain ⟨n, j, z1, z2⟩ := wid_read hx
  obtain ⟨n', j', y1, y2⟩ := wid_read hr
  exact Flo.read_inj Ieee.double y1 z1 (wid_lt _) (wid_lt _) (by rw [y2, z2, w4])
def canM (m : M4) : M4 := ⟨can m.pr, can m.pi, can m.gr, can m.gi⟩
theorem canM_ok {m : M4} (h : m.Fin) : (canM m).Fin ∧ (canM m).bits :=
  ⟨⟨(can_ok h.1).2.1, (can_ok h.2.1).2.1, (can_ok h.2.2.1).2.1, (can_ok h.2.2.2).2.1⟩, (can_ok h.1).1, (can_ok h.2.1).1, (can_ok h.2.2.1).1, (can_ok h.2.2.2).1⟩

theorem specTxS_c (x : Nat) (hf : Sm x) (w : World) : Calls Tryz.prog 76 #[.float .f32 x] w (TxSP (can x) w) := by
  obtain ⟨c1, c2, c3⟩ := can_ok hf
  have u1 := fun w => fcv_up hf w
  have u2 := fcd_up hf
  have Hc := Lib.hid (And.intro c1 (And.intro c2 (And.intro c3 hf)))
  clear c1 c2 c3 hf
  go_enter Tryz.func76, Tryz.ntmps76
  go_wp2_with fail
  refine (specText _ (wid_lt x) _).mono ?_
  rintro e w1 ⟨xs, rfl, t1, n1⟩
  have N1 := Lib.hid n1
  have T1 := Lib.hid t1
  clear n1 t1
  go_wp2_with fail
  go_ret
  exact ⟨byts xs, rfl, ⟨Hc.out.1, Hc.out.2.1, wid_lt _, fin_wid Hc.out.2.1, xs, by rw [Hc.out.2.2.1]; exact T1.out, rfl⟩, by unfold byts; rw [List.length_map]; exact txt_str T1.out, N1.out⟩
theorem implTxS_c (x : Nat) (hf : Sm x) (w : World) (hL : LibW w) : Calls Tryz.prog 13 #[.float .f32 x] w (TxSP (can x) w) := by
  obtain ⟨c1, c2, c3⟩ := can_ok hf
  have u1 := fun w => fcv_up hf w
  have u2 := fcd_up hf
  have Hc := Lib.hid (And.intro c1 (And.intro c2 (And.intro c3 hf)))
  have L := Lib.hid hL
  clear c1 c2 c3 hf hL
  go_enter Tryz.func13, Tryz.ntmps13
  go_wp2_with fail
  refine (implText _ (wid_lt x) _ L.out.1 L.out.2.1).mono ?_
  rintro e w1 ⟨xs, rfl, t1, n1⟩
  have N1 := Lib.hid n1
  have T1 := Lib.hid t1
  clear n1 t1
  go_wp2_with fail
  go_ret
  exact ⟨byts xs, rfl, ⟨Hc.out.1, Hc.out.2.1, wid_lt _, fin_wid Hc.out.2.1, xs, by rw [Hc.out.2.2.1]; exact T1.out, rfl⟩, by unfold byts; rw [List.length_map]; exact txt_str T1.out, N1.out⟩
end Go.Proofs.YtnmjkjjmigiabaaGreatDoor

/- impl.FormatBody of a valid body, any words.
   Conditions: those that each statement names. -/
namespace Go.Proofs.YtnmjkjjmigiabaaGreatDoor
set_option linter.unusedSimpArgs false
set_option linter.unusedVariables false
open Go Go.RowKit

def implFormatBodyJ (ms : List M4) (n b : Nat) (w w1 : World) (i : Value) (wr : World) : Prop :=
  ∃ (k : Nat) (l : List UInt8), k ≤ n ∧ i = .int .i64 (k : Int) ∧ Lib.IsBuilderF 98 5 b b (Lib.byteCells l) wr ∧ LinesT LineM ((ms.take k).map canM) l ∧ l.length ≤ k * 300 ∧ Nw w wr ∧ Nw w1 wr
set_option maxHeartbeats 12800000 in
set_option maxRecDepth 100000 in
theorem implFormatBody_c (ms : List M4) (hf : ∀ m ∈ ms, m.Fin) (n bm : Nat) (v : Value) (hn : ms.length = n) (hok : bodyB ms = true) (w : World) (hL : LibW w) (hm : w.ownsRow bm 93 2 v n (cellsM ms)) :
    Calls Tryz.prog 20 #[.agg #[v]] w (TextP (ms.map canM) w) := by
  obtain ⟨va, vc, rfl⟩ := own_shape' hm
  have hn16 : n ≤ 16 := by have := ((bodyB_iff ms).1 hok).1; omega
  have H := Lib.hid hm
  have L := Lib.hid hL
  have Hf := Lib.hid hf
  have Hn := Lib.hid hn
  have Ho := Lib.hid hok
  have A := Lib.hid ((Nw.refl w).alloc (.cells #[.slice va n vc] 38 (0, 0)))
  have B := Lib.hid (Has1.new w 38 (.slice va n vc))
  clear hm hf hn hok hL
  go_enter Tryz.func20, Tryz.ntmps20
  go_wp2_with fail
  refine (implIsBody_fin ms (fun m hm => Hf.out m hm) n bm _ Hn.out (by omega) _ (own_nw H.out A.out)).mono ?_
  rintro e w1 ⟨rfl, n1⟩
  rw [Ho.out]
  have N1 := Lib.hid (A.out.trans n1)
  have H1 := Lib.hid (own_nw H.out (A.out.trans n1))
  obtain ⟨b0, b1, b2⟩ := B.out.nw n1
  clear n1
  obtain ⟨b, hb⟩ : ∃ b, b = w1.heap.size := ⟨_, rfl⟩
  have hwb : w.heap.size ≤ b := by rw [hb]; exact N1.out.size
  have hw1b : w1.heap.size ≤ b := by omega
  have Bn := Lib.hid (Lib.IsBuilderF.of (builder_new w1))
  have HB := Lib.hid hb
  clear hb
  go_wp2_with fail
  rw [← HB.out] at Bn
  try rw [← HB.out]
  go_loopw [12] (fun i wr => implFormatBodyJ ms n b w w1 i wr) (fun i _ => n - (intOf i).toNat)
  case atStart => exact ⟨0, [], by omega, rfl, Bn.out, ⟨[], trivial, rfl⟩, by simp, N1.out.alloc _, (Nw.refl w1).alloc _⟩
  case round =>
    obtain ⟨k, l, hk, rfl, hbd, hT, hl, hN, hNb⟩ := hrel
    have Bd := Lib.hid hbd
    have Nr := Lib.hid (And.intro hN hNb)
    have T := Lib.hid hT
    have hbw : b < wr.heap.size := builderF_lt hbd
    clear hN hT hbd hNb
    by_cases hlt : k < n
    · obtain ⟨m, hmk⟩ : ∃ m, ms[k]? = some m := ⟨ms[k]'(by rw [Hn.out]; exact hlt), List.getElem?_eq_getElem _⟩
      obtain ⟨g, cap, hv, hcap, hmax, hgs, e1, e2⟩ := own_mode (own_nw H.out Nr.out.1) hmk Hn.out.symm
      cases hv
      unfold maxLen at hmax
      have Hm := Lib.hid (Hf.out m (List.mem_of_getElem? hmk))
      have Hk := Lib.hid hmk
      clear hmk
      go_wp2_with fail
      clear e1 e2
      have A0' : Nw wr (wr.alloc (.cells #[.complex .f32 m.pr m.pi, .complex .f32 m.gr m.gi] 93 (0, 0))) := (Nw.refl wr).alloc _
      have hW0' : (wr.alloc (.cells #[.complex .f32 m.pr m.pi, .complex .f32 m.gr m.gi] 93 (0, 0))).heap[wr.heap.size]? = some (.cells #[.complex .f32 m.pr m.pi, .complex .f32 m.gr m.gi] 93 (0, 0)) := heap_alloc_new wr _
      have hq' : wr.heap.size < (wr.alloc (.cells #[.complex .f32 m.pr m.pi, .complex .f32 m.gr m.gi] 93 (0, 0))).heap.size := by simp
      obtain ⟨q, hqq⟩ : ∃ q, q = wr.heap.size := ⟨_, rfl⟩
      rw [← hqq] at hW0' hq' hbw ⊢
      obtain ⟨W0, hWW⟩ : ∃ W0, W0 = wr.alloc (.cells #[.complex .f32 m.pr m.pi, .complex .f32 m.gr m.gi] 93 (0, 0)) := ⟨_, rfl⟩
      rw [← hWW] at A0' hW0' hq' ⊢
      have A0 := Lib.hid A0'
      have hW0 := hW0'
      have hq := hq'
      have N0 := Lib.hid (Nr.out.1.trans A0')
      have N1b := Lib.hid (Nr.out.2.trans A0')
      have Keep := Lib.hid (show ∀ W, Nw W0 W → W.cell? ⟨q, 0, none⟩ = some (.complex .f32 m.pr m.pi) ∧ W.cell? ⟨q, 1, none⟩ = some (.complex .f32 m.gr m.gi) from fun W hW => heap_cells ((hW.block q hq (by simp)).trans hW0))
      clear A0' hW0' hq' hWW hqq
      go_upto_region 7 with fail
      refine wp_region_held_drew (S := fun w' => w'.cell? ⟨q, 0, none⟩ = some (.complex .f32 m.pr m.pi) ∧ w'.cell? ⟨q, 1, none⟩ = some (.complex .f32 m.gr m.gi)) (by kernel_rfl) ?_ (fun hHeld => ?_)
      · ((try dsimp only) ; exact Keep.out _ (nwx_drew (Nw.refl _)))
      refine wpAnyH_take (i := 0) (oi := _) (v := ?_) rfl (by kernel_rfl) (by kernel_rfl) (by kernel_rfl) (fun _ _ _ h => h) (_root_.Or.inl ⟨by rfl, ?_⟩) (by assumption) ?_
      rotate_left
      · intro w hSw
        (try dsimp only at hSw)
        go_simp
        all_goals with_reducible rfl
      try simp only [Act.put, List.setIfInBounds_toArray, List.set_cons_zero, List.set_cons_succ]
      refine wpAnyH_take (i := 1) (oi := _) (v := ?_) rfl (by kernel_rfl) (by kernel_rfl) (by kernel_rfl) (fun _ _ _ h => h) (_root_.Or.inl ⟨by rfl, ?_⟩) (by assumption) ?_
      rotate_left
      · intro w hSw
        (try dsimp only at hSw)
        go_simp
        all_goals with_reducible rfl
      try simp only [Act.put, List.setIfInBounds_toArray, List.set_cons_zero, List.set_cons_succ]
      refine wpAnyH_take (i := 2) (oi := _) (v := ?_) rfl (by kernel_rfl) (by kernel_rfl) (by kernel_rfl) (fun _ _ _ h => h) (_root_.Or.inl ⟨by rfl, ?_⟩) (by assumption) ?_
      rotate_left
      · intro w hSw
        (try dsimp only at hSw)
        go_simp
        all_goals with_reducible rfl
      try simp only [Act.put, List.setIfInBounds_toArray, List.set_cons_zero, List.set_cons_succ]
      refine wpAnyH_take (i := 4) (oi := _) (v := ?_) rfl (by kernel_rfl) (by kernel_rfl) (by kernel_rfl) (fun _ _ _ h => h) (_root_.Or.inl ⟨by rfl, ?_⟩) (by assumption) ?_
      rotate_left
      · intro w hSw
        (try dsimp only at hSw)
        go_simp
        all_goals with_reducible rfl
      try simp only [Act.put, List.setIfInBounds_toArray, List.set_cons_zero, List.set_cons_succ]
      refine wpAnyH_take (i := 5) (oi := _) (v := ?_) rfl (by kernel_rfl) (by kernel_rfl) (by kernel_rfl) (fun _ _ _ h => h) (_root_.Or.inl ⟨by rfl, ?_⟩) (by assumption) ?_
      rotate_left
      · intro w hSw
        (try dsimp only at hSw)
        go_simp
        all_goals with_reducible rfl
      try simp only [Act.put, List.setIfInBounds_toArray, List.set_cons_zero, List.set_cons_succ]
      refine wpAnyH_take (i := 6) (oi := _) (v := ?_) rfl (by kernel_rfl) (by kernel_rfl) (by kernel_rfl) (fun _ _ _ h => h) (_root_.Or.inl ⟨by rfl, ?_⟩) (by assumption) ?_
      rotate_left
      · intro w hSw
        (try dsimp only at hSw)
        go_simp
        all_goals with_reducible rfl
      try simp only [Act.put, List.setIfInBounds_toArray, List.set_cons_zero, List.set_cons_succ]
      refine wpAnyH_take (i := 8) (oi := _) (v := ?_) rfl (by kernel_rfl) (by kernel_rfl) (by kernel_rfl) (fun _ _ _ h => h) (_root_.Or.inl ⟨by rfl, ?_⟩) (by assumption) ?_
      rotate_left
      · intro w hSw
        (try dsimp only at hSw)
        go_simp
        all_goals with_reducible rfl
      try simp only [Act.put, List.setIfInBounds_toArray, List.set_cons_zero, List.set_cons_succ]
      refine wpAnyH_take (i := 9) (oi := _) (v := ?_) rfl (by kernel_rfl) (by kernel_rfl) (by kernel_rfl) (fun _ _ _ h => h) (_root_.Or.inl ⟨by rfl, ?_⟩) (by assumption) ?_
      rotate_left
      · intro w hSw
        (try dsimp only at hSw)
        go_simp
        all_goals with_reducible rfl
      try simp only [Act.put, List.setIfInBounds_toArray, List.set_cons_zero, List.set_cons_succ]
      refine wpAnyH_take (i := 10) (oi := _) (v := ?_) rfl (by kernel_rfl) (by kernel_rfl) (by kernel_rfl) (fun _ _ _ h => h) (_root_.Or.inl ⟨by rfl, ?_⟩) (by assumption) ?_
      rotate_left
      · intro w hSw
        (try dsimp only at hSw)
        go_simp
        all_goals with_reducible rfl
      try simp only [Act.put, List.setIfInBounds_toArray, List.set_cons_zero, List.set_cons_succ]
      refine wpAnyH_take (i := 12) (oi := _) (v := ?_) rfl (by kernel_rfl) (by kernel_rfl) (by kernel_rfl) (fun _ _ _ h => h) (_root_.Or.inl ⟨by rfl, ?_⟩) (by assumption) ?_
      rotate_left
      · intro w hSw
        (try dsimp only at hSw)
        go_simp
        all_goals with_reducible rfl
      try simp only [Act.put, List.setIfInBounds_toArray, List.set_cons_zero, List.set_cons_succ]
      refine wpAnyH_take (i := 13) (oi := _) (v := ?_) rfl (by kernel_rfl) (by kernel_rfl) (by kernel_rfl) (fun _ _ _ h => h) (_root_.Or.inl ⟨by rfl, ?_⟩) (by assumption) ?_
      rotate_left
      · intro w hSw
        (try dsimp only at hSw)
        go_simp
        all_goals with_reducible rfl
      try simp only [Act.put, List.setIfInBounds_toArray, List.set_cons_zero, List.set_cons_succ]
      refine wpAnyH_take (i := 14) (oi := _) (v := ?_) rfl (by kernel_rfl) (by kernel_rfl) (by kernel_rfl) (fun _ _ _ h => h) (_root_.Or.inl ⟨by rfl, ?_⟩) (by assumption) ?_
      rotate_left
      · intro w hSw
        (try dsimp only at hSw)
        go_simp
        all_goals with_reducible rfl
      try simp only [Act.put, List.setIfInBounds_toArray, List.set_cons_zero, List.set_cons_succ]
      refine wpAnyH_ready (rs := [3]) (by kernel_rfl) (by simp) ?_
      refine AllReadyH.cons (o := _) rfl (fun K hK => ?_) AllReadyH.nil
      go_simp
      go_at_call 13
      refine (implTxS_c m.pr Hm.out.1 _ (L.out.nw (N0.out.trans (nwx_drew (Nw.refl W0))))).mono ?_
      rintro e w3 ⟨t1, rfl, ht1, hl1, n3⟩
      have N3 := Lib.hid (Nw.trans (nwx_drew (Nw.refl W0)) n3)
      have K1 := Lib.hid ht1
      clear n3 ht1
      go_wp2_with fail
      refine hK.out _ _ ?_ (fun hHeld => ?_)
      · ((try dsimp only) ; exact Keep.out _ N3.out)
      clear hK K
      try simp only [Act.put, List.setIfInBounds_toArray, List.set_cons_zero, List.set_cons_succ]
      refine wpAnyH_ready (rs := [7]) (by kernel_rfl) (by simp) ?_
      refine AllReadyH.cons (o := _) rfl (fun K hK => ?_) AllReadyH.nil
      go_simp
      go_at_call 13
      refine (implTxS_c m.pi Hm.out.2.1 _ (L.out.nw (N0.out.trans N3.out))).mono ?_
      rintro e w4 ⟨t2, rfl, ht2, hl2, n4⟩
      have N4 := Lib.hid (Nw.trans N3.out n4)
      have K2 := Lib.hid ht2
      clear n4 ht2
      go_wp2_with fail
      refine hK.out _ _ ?_ (fun hHeld => ?_)
      · ((try dsimp only) ; exact Keep.out _ N4.out)
      clear hK K
      try simp only [Act.put, List.setIfInBounds_toArray, List.set_cons_zero, List.set_cons_succ]
      refine wpAnyH_ready (rs := [11]) (by kernel_rfl) (by simp) ?_
      refine AllReadyH.cons (o := _) rfl (fun K hK => ?_) AllReadyH.nil
      go_simp
      go_at_call 13
      refine (implTxS_c m.gr Hm.out.2.2.1 _ (L.out.nw (N0.out.trans N4.out))).mono ?_
      rintro e w5 ⟨t3, rfl, ht3, hl3, n5⟩
      have N5 := Lib.hid (Nw.trans N4.out n5)
      have K3 := Lib.hid ht3
      clear n5 ht3
      go_wp2_with fail
      refine hK.out _ _ ?_ (fun hHeld => ?_)
      · ((try dsimp only) ; exact Keep.out _ N5.out)
      clear hK K
      try simp only [Act.put, List.setIfInBounds_toArray, List.set_cons_zero, List.set_cons_succ]
      refine wpAnyH_ready (rs := [15]) (by kernel_rfl) (by simp) ?_
      refine AllReadyH.cons (o := _) rfl (fun K hK => ?_) AllReadyH.nil
      go_simp
      go_at_call 13
      refine (implTxS_c m.gi Hm.out.2.2.2 _ (L.out.nw (N0.out.trans N5.out))).mono ?_
      rintro e w6 ⟨t4, rfl, ht4, hl4, n6⟩
      have N6 := Lib.hid (Nw.trans N5.out n6)
      have K4 := Lib.hid ht4
      clear n6 ht4
      go_wp2_with fail
      refine hK.out _ _ ?_ (fun hHeld => ?_)
      · ((try dsimp only) ; exact Keep.out _ N6.out)
      clear hK K
      try simp only [Act.put, List.setIfInBounds_toArray, List.set_cons_zero, List.set_cons_succ]
      refine wpAnyH_ready (rs := [16]) (by kernel_rfl) (by simp) ?_
      refine AllReadyH.cons (o := _) rfl (fun K hK => ?_) AllReadyH.nil
      go_simp
      refine hK.out _ _ ?_ (fun hHeld => ?_)
      · ((try dsimp only) ; exact Keep.out _ (nwx_alloc N6.out))
      clear hK K
      try simp only [Act.put, List.setIfInBounds_toArray, List.set_cons_zero, List.set_cons_succ]
      have hlin : (lineOf [wMode, t1, t2, t3, t4]).length ≤ 248 := by rw [lineOf_cons]; simp [wMode]; omega
      have Ln := Lib.hid (show LineM (lineOf [wMode, t1, t2, t3, t4]) (canM m) from by rw [lineOf_cons]; exact LineT.of txS_K (by decide) ⟨K1.out, K2.out, K3.out, K4.out, trivial⟩)
      refine wpAnyH_ready (rs := [17]) (by kernel_rfl) (by simp) ?_
      refine AllReadyH.cons (o := _) rfl (fun K hK => ?_) AllReadyH.nil
      go_simp
      go_at_call 64
      refine (formatLine_ok [wMode, t1, t2, t3, t4] 5 w6.heap.size 5 rfl (Nat.le_refl _) (by omega) (by omega) _ (by simp) (fun j x hj => by match j, hj with | 0, hj => simp at hj; subst hj; go_simp; rfl | 1, hj => simp at hj; subst hj; go_simp | 2, hj => simp at hj; subst hj; go_simp | 3, hj => simp at hj; subst hj; go_simp | 4, hj => simp at hj; subst hj; go_simp)).mono ?_
      rintro e w7 ⟨rfl, n7⟩
      have N7 := Lib.hid (Nw.trans (nwx_alloc N6.out) n7)
      clear n7
      go_wp2_with fail
      refine hK.out _ _ ?_ (fun hHeld => ?_)
      · ((try dsimp only) ; exact Keep.out _ N7.out)
      clear hK K
      try simp only [Act.put, List.setIfInBounds_toArray, List.set_cons_zero, List.set_cons_succ]
      generalize lineOf [wMode, t1, t2, t3, t4] = p at *
      refine wpAnyH_ready (rs := [18]) (by kernel_rfl) (by simp) ?_
      refine AllReadyH.cons (o := _) rfl (fun K hK => ?_) AllReadyH.nil
      go_simp
      go_at_call 63
      refine (writeStringF b b (Lib.byteCells l) _ _ (builderF_nw Bd.out (A0.out.trans N7.out)) (by rw [byteCells_len]; have h3 : (⟨(p ++ [10]).toArray⟩ : ByteArray).size = (p ++ [10]).length := List.size_toArray; rw [h3]; simp; omega) (Nat.le_of_lt (builderF_lt (builderF_nw Bd.out (A0.out.trans N7.out))))).mono ?_
      rintro e w8 ⟨rfl, hb8, bel8, oth8⟩
      rw [byteCells_app] at hb8
      have B8 := Lib.hid hb8
      have N8 := Lib.hid (And.intro (nw_bel (N0.out.trans N7.out) bel8 hwb) (nw_bel (N1b.out.trans N7.out) bel8 hw1b))
      have H8 := Lib.hid (show w8.heap[q]? = _ from oth8 q _ ((N7.out.block q hq (by simp)).trans hW0) (by simp; omega) (fun c fz h => by injection h with _ h; revert h; decide))
      clear hb8 bel8 oth8
      go_wp2_with fail
      refine hK.out _ _ ?_ (fun hHeld => ?_)
      · ((try dsimp only) ; exact heap_cells H8.out)
      clear hK K
      try simp only [Act.put, List.setIfInBounds_toArray, List.set_cons_zero, List.set_cons_succ]
      refine wpAnyH_done (by kernel_rfl) ?_ _
      all_goals
        go_wp2_with fail
        go_roundw
        case rel =>
          refine ⟨k + 1, l ++ (p ++ [10]), by omega, by rw [show ((k + 1 : Nat) : Int) = (k : Int) + 1 from by omega], .inr B8.out, ?_, by simp; omega, N8.out.1, N8.out.2⟩
          obtain ⟨ps, h1, h2⟩ := T.out
          obtain ⟨hk', he⟩ := List.getElem?_eq_some_iff.1 Hk.out
          refine ⟨ps ++ [p], ?_, by rw [h2, glue_snoc]⟩
          rw [List.take_succ_eq_append_getElem hk', he, List.map_append]
          exact h1.snoc Ln.out
        case measure => simp only [intOf]; omega
    · obtain rfl : k = n := by omega
      go_wp2_with fail
      refine (builderStringF b b l _ Bd.out (Nat.le_of_lt hbw)).mono ?_
      rintro e w9 ⟨rfl, -, bel9⟩
      have N9 := Lib.hid (nw_bel Nr.out.1 bel9 hwb)
      clear bel9
      go_wp2_with fail
      go_ret
      refine ⟨l, rfl, ?_, by omega, N9.out⟩
      have h := T.out
      rw [List.take_of_length_le (by have := Hn.out; omega)] at h
      exact h
end Go.Proofs.YtnmjkjjmigiabaaGreatDoor

/- impl.formatPlace and impl.FormatRoom of a valid room, any words.
   Conditions: those that each statement names. -/
namespace Go.Proofs.YtnmjkjjmigiabaaGreatDoor
set_option linter.unusedSimpArgs false
set_option linter.unusedVariables false
open Go Go.RowKit

def FpIc (r : List Nat) (w : World) (v i : Value) (wr : World) : Prop :=
  ∃ (k : Nat) (ts : List (List UInt8)), k ≤ r.length ∧ i = .int .i64 (k : Int) ∧ ts.length = k ∧ All2 TxS ts ((r.take k).map can) ∧ ((ts.map (32 :: ·)).flatten).length ≤ k * 61 ∧ wr.ownsRow w.heap.size 9 1 v (k + 1) (cellsT (wPlace :: ts)) ∧ Nw w wr
def FpPc (r : List Nat) (w : World) (e : Ending) (w' : World) : Prop :=
  ∃ p, e = .returned (.string ⟨(p ++ [10]).toArray⟩) ∧ LineP p (r.map can) ∧ p.length ≤ 5 + r.length * 61 ∧ Nw w w'
set_option maxHeartbeats 3200000 in
set_option maxRecDepth 100000 in
theorem formatPlace_c (r : List Nat) (q b : Nat) (v : Value) (hr : r.length = q) (hq : q ≤ 16) (hs : ∀ x ∈ r, Sm x) (w : World) (hL : LibW w) (h : w.ownsRow b 25 1 v q (cellsS r)) :
    Calls Tryz.prog 70 #[v] w (FpPc r w) := by
  obtain ⟨i0, hi, hz0, hz1, hz2⟩ := info_parts info_str
  obtain ⟨va, vc, rfl⟩ := own_shape' h
  have H := Lib.hid h
  have L := Lib.hid hL
  have Hs := Lib.hid hs
  have Hr := Lib.hid hr
  have Z := Lib.hid (World.ownsRow_lit (base := w.heap.size) (e := 9) (size := 1) w #[.string ⟨#[112, 108, 97, 99, 101]⟩] 1 (Nat.le_refl _) (by decide) rfl)
  clear h hL hs hr
  go_enter Tryz.func70, Tryz.ntmps70
  go_wp2_with fail
  go_loopw [3, 9] (fun v i wr => FpIc r w v i wr) (fun _ i _ => q - (intOf i).toNat)
  case atStart => exact ⟨0, [], by omega, rfl, rfl, trivial, by simp, Z.out, (Nw.refl w).alloc _⟩
  case round =>
    obtain ⟨k, ts, hk, rfl, htl, hts, hfl, how, hN⟩ := hrel
    have Or := Lib.hid how
    have Nr := Lib.hid hN
    have Ts := Lib.hid (And.intro hts (And.intro htl hfl))
    obtain ⟨sa, sc, rfl⟩ := own_shape' how
    have hkq : k ≤ q := by rw [Hr.out] at hk; exact hk
    have hsz := Lib.hid (show w.heap.size ≤ wr.heap.size from hN.size)
    clear how hN hts htl hfl hk
    by_cases hlt : k < q
    · obtain ⟨x, hxk⟩ : ∃ x, r[k]? = some x := ⟨r[k]'(by rw [Hr.out]; exact hlt), List.getElem?_eq_getElem _⟩
      obtain ⟨g1, cap1, hv1, hcap1, hmax1, -, e1⟩ := own_sample (own_nw H.out Nr.out) hxk Hr.out.symm
      cases hv1
      have Hx := Lib.hid (Hs.out x (List.mem_of_getElem? hxk))
      have C := Lib.hid (implTxS_c x Hx.out wr (L.out.nw Nr.out))
      have Xk := Lib.hid hxk
      unfold maxLen at hmax1
      clear hxk
      go_wp2_with fail
      refine C.out.mono ?_
      rintro e w5 ⟨t, rfl, ht, htl3, n5⟩
      have N5 := Lib.hid (Nr.out.trans n5)
      have O5 := Lib.hid (own_nw Or.out n5)
      have Ht := Lib.hid ht
      have hs5 := Lib.hid (show w.heap.size ≤ w5.heap.size from N5.out.size)
      clear n5 ht e1
      go_wp2_with (at_builtin; refine wpList_append_own _ rfl _ _ 119 rfl w.heap.size 9 i0 (.string ⟨#[]⟩) 1 16 Tryz.underlying119 hi hz0 hz1 hz2 rfl (by decide) _ _ _ rfl (O5.out.alloc _) ⟨w5.heap.size, 0, none⟩ 1 1 [.string ⟨t.toArray⟩] rfl rfl ?c1 ?c2 ?c3 ?c4 ?c5 ?_)
      case c1 =>
        intro j u hj
        match j, hj with
        | 0, hj => simp at hj; subst hj; simp [Addr.add]
      case c2 => intro u hu; simp at hu; subst hu; rfl
      case c3 => unfold maxLen; omega
      case c4 => omega
      case c5 => have := hs5.out; simp; omega
      · intro v' w6 hown6 hgrow _
        have hrow : ∀ y, (Value.slice sa (k + 1) sc).ownBlock = some y → w.heap.size ≤ y := fun y hy => own_ge O5.out y hy
        have N6 := Lib.hid (nwg (N5.out.alloc _) hgrow hrow)
        rw [show cellsT (wPlace :: ts) ++ [Value.string ⟨t.toArray⟩] = cellsT (wPlace :: (ts ++ [t])) from by simp [cellsT]] at hown6
        have O6 := Lib.hid hown6
        clear hown6 hgrow hrow
        go_wp2_with fail
        go_roundw
        case rel =>
          obtain ⟨hk', he⟩ := List.getElem?_eq_some_iff.1 Xk.out
          have h1 := Ts.out.2.1
          have h2 := Ts.out.2.2
          refine ⟨k + 1, ts ++ [t], by omega, by rw [show ((k + 1 : Nat) : Int) = (k : Int) + 1 from by omega], by rw [List.length_append, List.length_singleton, h1], ?_, by rw [map_snoc]; simp at h2 ⊢; omega, O6.out, N6.out⟩
          rw [List.take_succ_eq_append_getElem hk', he, List.map_append]
          exact Ts.out.1.snoc Ht.out
        case measure => simp only [intOf]; omega
    · have hkq2 : k = q := by omega
      have hall : All2 TxS ts (r.map can) := by
        have h := Ts.out.1
        rw [List.take_of_length_le (by rw [Hr.out]; omega)] at h
        exact h
      have hfl := Ts.out.2.2
      have htl := Ts.out.2.1
      obtain ⟨g2, hsa, hcap2, hg2⟩ : ∃ g2, sa = some ⟨g2, 0, none⟩ ∧ k + 1 ≤ sc ∧ g2 < wr.heap.size := by
        rcases Or.out.2 with ⟨h0, h1⟩ | ⟨g, cap, cur, hv, hb, hg, hc, hm, -, -⟩
        · omega
        · cases hv; exact ⟨g, rfl, hc, (Or.out.lt g rfl).2⟩
      subst hsa
      have hll : (lineOf (wPlace :: ts)).length ≤ 5 + k * 61 := by rw [lineOf_cons, List.length_append]; simp at hfl ⊢; simp [wPlace]; omega
      have K := Lib.hid (formatLine_ok (wPlace :: ts) (k + 1) g2 sc (by simp [htl]) hcap2 (by omega) (by omega) wr hg2 (fun j x hj => by
        have hjl := (List.getElem?_eq_some_iff.1 hj).1
        simp [htl] at hjl
        have c := Or.out.cellAt j (by omega)
        rw [show (cellsT (wPlace :: ts))[j]? = some (.string ⟨x.toArray⟩) from by unfold cellsT; rw [List.getElem?_map, hj]; rfl] at c
        exact c))
      have Ln := Lib.hid (And.intro (show LineP (lineOf (wPlace :: ts)) (r.map can) from by rw [lineOf_cons]; exact LineT.of txS_K (by decide) hall) hll)
      have Kq := Lib.hid hkq2
      clear hall hfl htl hll hkq2
      unfold FlP at K
      generalize lineOf (wPlace :: ts) = z at K Ln
      go_wp2_with fail
      refine K.out.mono ?_
      rintro e w7 ⟨rfl, n7⟩
      have N7 := Lib.hid (Nr.out.trans n7)
      clear n7
      go_wp2_with fail
      go_ret
      exact ⟨z, rfl, Ln.out.1, by rw [Hr.out, ← Kq.out]; exact Ln.out.2, N7.out⟩

/-! ### the room -/
def FrIc (ms : List M4) (rows : List (List Nat)) (P b : Nat) (w w1 : World) (i : Value) (wr : World) : Prop :=
  ∃ (k : Nat) (l t1 t2 : List UInt8), k ≤ P ∧ i = .int .i64 (k : Int) ∧ Lib.IsBuilderF 98 5 b b (Lib.byteCells l) wr ∧ l = t1 ++ t2 ∧ LinesT LineM (ms.map canM) t1 ∧ LinesT LineP ((rows.take k).map (List.map can)) t2 ∧ l.length ≤ 5000 + k * 1100 ∧ Nw w wr ∧ Nw w1 wr
set_option maxHeartbeats 6400000 in
set_option maxRecDepth 100000 in
theorem implFormatRoom_c (ms : List M4) (rows : List (List Nat)) (q P bm : Nat) (mv sv : Value) (w : World) (hq : ms.length = q) (hP : rows.length = P) (hok : roomB ms rows = true) (hf : ∀ m ∈ ms, m.Fin) (hs : ∀ r ∈ rows, ∀ x ∈ r, Sm x) (hL : LibW w)
    (hm : w.ownsRow bm 93 2 mv q (cellsM ms)) (hr : RowsG w bm sv rows) :
    Calls Tryz.prog 22 #[.agg #[mv, sv]] w (TextRP (ms.map canM) (rows.map (List.map can)) w) := by
  obtain ⟨o1, o2, o3⟩ := roomB_iff.1 hok
  have hq16 : q ≤ 16 := by have := ((bodyB_iff ms).1 o1).1; omega
  have hP16 : P ≤ 16 := by omega
  have hrl : ∀ r ∈ rows, r.length = q := fun r hr => by rw [(rowB_iff.1 (o3 r hr)).1, hq]
  obtain ⟨ma, mc, rfl⟩ := own_shape' hm
  obtain ⟨sa, sc, rfl⟩ := hr.shape
  rw [hP] at hr ⊢
  have N0 := Lib.hid ((Nw.refl w).alloc (.cells #[.slice ma q mc, .slice sa P sc] 43 (0, 0)))
  have B0 := Lib.hid (Has2.new w 43 (.slice ma q mc) (.slice sa P sc))
  have Hm := Lib.hid (own_nw hm N0.out)
  have Hr := Lib.hid (hr.nw N0.out)
  have E := Lib.hid hP
  have Q := Lib.hid hq
  have Hs := Lib.hid (And.intro hf (And.intro hs hrl))
  have Ok := Lib.hid (And.intro hok o1)
  have L := Lib.hid hL
  clear hm hr hP hq hf hs hrl hok o1 o2 o3 hL
  go_enter Tryz.func22, Tryz.ntmps22
  obtain ⟨b0, b1, b2, b3, b4⟩ := B0.out
  go_wp2_with fail
  refine (implIsRoom_any ms rows q P bm (.slice ma q mc) (.slice sa P sc) _ Q.out (by omega) E.out (by omega) (fun m hm => Hs.out.1 m hm) (fun r hr => ⟨fun x hx => Hs.out.2.1 r hr x hx, by rw [Hs.out.2.2 r hr]; omega⟩) Hm.out Hr.out).mono ?_
  rintro e w1 ⟨rfl, n1⟩
  rw [Ok.out.1]
  have B1 := Lib.hid (B0.out.nw n1)
  have N1 := Lib.hid (N0.out.trans n1)
  have Hm1 := Lib.hid (own_nw Hm.out n1)
  have Hr1 := Lib.hid (Hr.out.nw n1)
  clear n1 b0 b1 b2 b3 b4
  obtain ⟨b0, b1, b2, b3, b4⟩ := B1.out
  obtain ⟨b, hb⟩ : ∃ b, b = w1.heap.size := ⟨_, rfl⟩
  have hwb : w.heap.size ≤ b := by rw [hb]; exact N1.out.size
  have hw1b : w1.heap.size ≤ b := by omega
  have Bn := Lib.hid (Lib.IsBuilderF.of (builder_new w1))
  have HB := Lib.hid hb
  clear hb
  have K1 := Lib.hid (implFormatBody_c ms Hs.out.1 q bm (.slice ma q mc) Q.out Ok.out.2 (w1.alloc (.cells #[.pointer none, .slice none 0 0] 98 (0, 0))) (L.out.nw (N1.out.alloc _)) (Hm1.out.alloc _))
  go_wp2_with fail
  refine K1.out.mono ?_
  rintro e w2 ⟨t1, rfl, hT, htl, n2⟩
  rw [← HB.out] at Bn ⊢
  have T1 := Lib.hid hT
  have N2 := Lib.hid ((N1.out.alloc (.cells #[.pointer none, .slice none 0 0] 98 (0, 0))).trans n2)
  have M2 := Lib.hid (((Nw.refl w1).alloc (.cells #[.pointer none, .slice none 0 0] 98 (0, 0))).trans n2)
  have Bd2 := Lib.hid (builderF_nw Bn.out n2)
  clear n2 hT b0 b1 b2 b3 b4
  go_wp2_with fail
  refine (writeStringF b b (Lib.byteCells []) _ _ Bd2.out (by rw [byteCells_len]; have h3 : (⟨t1.toArray⟩ : ByteArray).size = t1.length := List.size_toArray; rw [h3]; simp; omega) (Nat.le_of_lt (builderF_lt Bd2.out))).mono ?_
  rintro e w3 ⟨rfl, hb3, bel3, oth3⟩
  rw [byteCells_app, List.nil_append] at hb3
  have Bd3 := Lib.hid (show Lib.IsBuilderF 98 5 b b (Lib.byteCells t1) w3 from .inr hb3)
  have N3 := Lib.hid (nw_bel N2.out bel3 hwb)
  have M3 := Lib.hid (nw_bel M2.out bel3 hw1b)
  clear hb3 bel3 oth3
  obtain ⟨b0, b1, b2, b3, b4⟩ := B1.out.nw M3.out
  go_wp2_with fail
  go_loopw [17] (fun i wr => FrIc ms rows P b w w1 i wr) (fun i _ => P - (intOf i).toNat)
  case atStart => exact ⟨0, t1, t1, [], by omega, rfl, Bd3.out, by simp, T1.out, ⟨[], trivial, rfl⟩, by omega, N3.out, M3.out⟩
  case round =>
    obtain ⟨k, l, u1, u2, hk, rfl, hbd, hl, hu1, hu2, hll, hnw, hn1⟩ := hrel
    have Nr := Lib.hid (And.intro hnw hn1)
    have U := Lib.hid (And.intro hl (And.intro hu1 hu2))
    have Bd := Lib.hid hbd
    have hbw : b < wr.heap.size := builderF_lt hbd
    clear hnw hn1 b0 b1 b2 b3 b4 hl hu1 hu2 hbd
    by_cases hlt : k < P
    · obtain ⟨r, hrk⟩ : ∃ r, rows[k]? = some r := ⟨rows[k]'(by rw [E.out]; exact hlt), List.getElem?_eq_getElem _⟩
      obtain ⟨g, cap, ra, rc, hv, hcap, hmax, hgs, e1, own⟩ := (Hr1.out.nw Nr.out.2).at E.out.symm hrk
      cases hv
      have hrq := Hs.out.2.2 r (List.mem_of_getElem? hrk)
      have Rk := Lib.hid hrk
      have HR := Lib.hid hrq
      have hown : wr.ownsRow bm 25 1 (.slice ra q rc) q (cellsS r) := by have h := own; rw [hrq] at h; exact h
      have K := Lib.hid (formatPlace_c r q bm (.slice ra q rc) hrq hq16 (Hs.out.2.1 r (List.mem_of_getElem? hrk)) wr (L.out.nw Nr.out.1) hown)
      rw [hrq] at e1
      unfold maxLen at hmax
      clear hrk own hrq hown
      go_wp2_with fail
      refine K.out.mono ?_
      rintro e w5 ⟨p, rfl, hp, hpl, n5⟩
      rw [HR.out] at hpl
      have Pp := Lib.hid hp
      have N5 := Lib.hid (And.intro (Nr.out.1.trans n5) (Nr.out.2.trans n5))
      have Bd5 := Lib.hid (builderF_nw Bd.out n5)
      clear n5 hp e1
      go_wp2_with fail
      refine (writeStringF b b (Lib.byteCells l) _ _ Bd5.out (by rw [byteCells_len]; have h3 : (⟨(p ++ [10]).toArray⟩ : ByteArray).size = (p ++ [10]).length := List.size_toArray; rw [h3]; simp; omega) (Nat.le_of_lt (builderF_lt Bd5.out))).mono ?_
      rintro e w6 ⟨rfl, hb6, bel6, oth6⟩
      rw [byteCells_app] at hb6
      have Bd6 := Lib.hid hb6
      have N6 := Lib.hid (And.intro (nw_bel N5.out.1 bel6 hwb) (nw_bel N5.out.2 bel6 hw1b))
      clear hb6 bel6 oth6
      go_wp2_with fail
      go_roundw
      case rel =>
        obtain ⟨hk', he⟩ := List.getElem?_eq_some_iff.1 Rk.out
        obtain ⟨ps, a, e⟩ := U.out.2.2
        refine ⟨k + 1, l ++ (p ++ [10]), u1, u2 ++ (p ++ [10]), by omega, by rw [show ((k + 1 : Nat) : Int) = (k : Int) + 1 from by omega], .inr Bd6.out, by rw [U.out.1]; simp, U.out.2.1, ⟨ps ++ [p], ?_, by rw [e, glue_snoc]⟩, by simp; omega, N6.out.1, N6.out.2⟩
        rw [List.take_succ_eq_append_getElem hk', he, List.map_append]
        exact a.snoc Pp.out
      case measure => simp only [intOf]; omega
    · obtain rfl : k = P := by omega
      go_wp2_with fail
      refine (builderStringF b b l _ Bd.out (Nat.le_of_lt hbw)).mono ?_
      rintro e w9 ⟨rfl, -, bel9⟩
      have N9 := Lib.hid (nw_bel Nr.out.1 bel9 hwb)
      clear bel9
      go_wp2_with fail
      go_ret
      obtain ⟨ps, a, e⟩ := U.out.2.1
      obtain ⟨qs, a2, e2⟩ := U.out.2.2
      rw [List.take_of_length_le (by have := E.out; omega)] at a2
      exact ⟨l, rfl, ⟨ps, qs, a, a2, by rw [U.out.1, e, e2]⟩, by omega, N9.out⟩
end Go.Proofs.YtnmjkjjmigiabaaGreatDoor

/- The model's text of a valid room, any words.
   Conditions: those that each statement names. -/
namespace Go.Proofs.YtnmjkjjmigiabaaGreatDoor
set_option linter.unusedSimpArgs false
set_option linter.unusedVariables false
open Go Go.RowKit

def TextIc (ms : List M4) (n : Nat) (w : World) (o i : Value) (wr : World) : Prop :=
  ∃ (k : Nat) (l : List UInt8), k ≤ n ∧ i = .int .i64 (k : Int) ∧ o = .string ⟨l.toArray⟩ ∧ LinesT LineM ((ms.take k).map canM) l ∧ l.length ≤ k * 300 ∧ Nw w wr
set_option maxRecDepth 100000 in
theorem l6Modes_c (ms : List M4) (hf : ∀ m ∈ ms, m.Fin) (n bm : Nat) (v : Value) (hn : ms.length = n) (hn16 : n ≤ 16) (w : World) (hm : w.ownsRow bm 93 2 v n (cellsM ms)) :
    Calls Tryz.prog 75 #[v] w (TextP (ms.map canM) w) := by
  obtain ⟨va, vc, rfl⟩ := own_shape' hm
  have H := Lib.hid hm
  have Hf := Lib.hid hf
  have Hn := Lib.hid hn
  clear hm hf hn
  go_enter Tryz.func75, Tryz.ntmps75
  go_wp2_with fail
  go_loopw [3, 8] (fun o i wr => TextIc ms n w o i wr) (fun _ i _ => n - (intOf i).toNat)
  case atStart => exact ⟨0, [], by omega, rfl, rfl, ⟨[], trivial, rfl⟩, by simp, Nw.refl _⟩
  case round =>
    obtain ⟨k, l, hk, rfl, rfl, hT, hl, hN⟩ := hrel
    have Nr := Lib.hid hN
    have T := Lib.hid hT
    clear hN hT
    by_cases hlt : k < n
    · obtain ⟨m, hmk⟩ : ∃ m, ms[k]? = some m := ⟨ms[k]'(by rw [Hn.out]; exact hlt), List.getElem?_eq_getElem _⟩
      obtain ⟨g, cap, hv, hcap, hmax, hgs, e1, e2⟩ := own_mode (own_nw H.out Nr.out) hmk Hn.out.symm
      cases hv
      unfold maxLen at hmax
      have Hm := Lib.hid (Hf.out m (List.mem_of_getElem? hmk))
      have Hk := Lib.hid hmk
      have u1 := fun w => fcv_up Hm.out.1 w
      have u2 := fun w => fcv_up Hm.out.2.1 w
      have u3 := fun w => fcv_up Hm.out.2.2.1 w
      have u4 := fun w => fcv_up Hm.out.2.2.2 w
      have v1 := fcd_up Hm.out.1
      have v2 := fcd_up Hm.out.2.1
      have v3 := fcd_up Hm.out.2.2.1
      have v4 := fcd_up Hm.out.2.2.2
      clear hmk
      have C := Lib.hid (fun w => l6Line_ok wMode (by decide) (by decide) (wid m.pr) (wid m.pi) (wid m.gr) (wid m.gi) ⟨wid_lt _, fin_wid Hm.out.1⟩ ⟨wid_lt _, fin_wid Hm.out.2.1⟩ ⟨wid_lt _, fin_wid Hm.out.2.2.1⟩ ⟨wid_lt _, fin_wid Hm.out.2.2.2⟩ w)
      go_wp2_with fail
      refine (C.out _).mono ?_
      rintro e w1 ⟨p, rfl, hp, hpl, n1⟩
      have N1 := Lib.hid n1
      have P := Lib.hid hp
      have hpl2 : p.length ≤ 248 := hpl
      clear n1 hp hpl
      go_wp2_with fail
      go_roundw
      case rel =>
        refine ⟨k + 1, l ++ (p ++ [10]), by omega, by rw [show ((k + 1 : Nat) : Int) = (k : Int) + 1 from by omega], rfl, ?_, by simp; omega, (Nr.out.alloc _).trans N1.out⟩
        obtain ⟨ps, h1, h2⟩ := T.out
        obtain ⟨hk', he⟩ := List.getElem?_eq_some_iff.1 Hk.out
        refine ⟨ps ++ [p], ?_, by rw [h2, glue_snoc]⟩
        rw [List.take_succ_eq_append_getElem hk', he, List.map_append]
        have hp := P.out
        rw [← (can_ok Hm.out.1).2.2, ← (can_ok Hm.out.2.1).2.2, ← (can_ok Hm.out.2.2.1).2.2, ← (can_ok Hm.out.2.2.2).2.2] at hp
        exact h1.snoc (line_nar (m := canM m) (canM_ok Hm.out).1 (canM_ok Hm.out).2 hp)
      case measure => simp only [intOf]; omega
    · obtain rfl : k = n := by omega
      go_wp2_with fail
      go_ret
      refine ⟨l, rfl, ?_, by omega, Nr.out⟩
      have h := T.out
      rw [List.take_of_length_le (by have := Hn.out; omega)] at h
      exact h


def RmFIc (ms : List M4) (rows : List (List Nat)) (P : Nat) (w w1 : World) (o i : Value) (wr : World) : Prop :=
  ∃ (k : Nat) (l t1 t2 : List UInt8), k ≤ P ∧ i = .int .i64 (k : Int) ∧ o = .string ⟨l.toArray⟩ ∧ l = t1 ++ t2 ∧ LinesT LineM (ms.map canM) t1 ∧ LinesT LineP ((rows.take k).map (List.map can)) t2 ∧ l.length ≤ 5000 + k * 1100 ∧ Nw w wr ∧ Nw w1 wr
def RmGIc (l : List UInt8) (r : List Nat) (q : Nat) (w : World) (o i : Value) (wr : World) : Prop :=
  ∃ (j : Nat) (ts : List (List UInt8)) (z : List UInt8), j ≤ q ∧ i = .int .i64 (j : Int) ∧ o = .string ⟨z.toArray⟩ ∧ z = l ++ (wPlace ++ (ts.map (32 :: ·)).flatten) ∧ All2 TxS ts ((r.take j).map can) ∧ z.length ≤ l.length + 5 + j * 61 ∧ Nw w wr
set_option maxHeartbeats 6400000 in
set_option maxRecDepth 100000 in
theorem specFormatRoom_c (ms : List M4) (rows : List (List Nat)) (q P b : Nat) (mv sv : Value) (w : World) (hq : ms.length = q) (hP : rows.length = P) (hok : roomB ms rows = true) (hf : ∀ m ∈ ms, m.Fin) (hs : ∀ r ∈ rows, ∀ x ∈ r, Sm x)
    (hm : w.ownsRow b 93 2 mv q (cellsM ms)) (hr : RowsG w b sv rows) :
    Calls Tryz.prog 26 #[.agg #[mv, sv]] w (TextRP (ms.map canM) (rows.map (List.map can)) w) := by
  obtain ⟨o1, o2, o3⟩ := roomB_iff.1 hok
  have hq16 : q ≤ 16 := by have := ((bodyB_iff ms).1 o1).1; omega
  have hP16 : P ≤ 16 := by omega
  have hrl : ∀ r ∈ rows, r.length = q := fun r hr => by rw [(rowB_iff.1 (o3 r hr)).1, hq]
  obtain ⟨ma, mc, rfl⟩ := own_shape' hm
  obtain ⟨sa, sc, rfl⟩ := hr.shape
  rw [hP] at hr ⊢
  have N0 := Lib.hid ((Nw.refl w).alloc (.cells #[.slice ma q mc, .slice sa P sc] 43 (0, 0)))
  have B0 := Lib.hid (Has2.new w 43 (.slice ma q mc) (.slice sa P sc))
  have Hm := Lib.hid (own_nw hm N0.out)
  have Hr := Lib.hid (hr.nw N0.out)
  have E := Lib.hid hP
  have Q := Lib.hid hq
  have Hs := Lib.hid (And.intro hf (And.intro hs hrl))
  have Ok := Lib.hid hok
  clear hm hr hP hq hf hs hrl hok o1 o2 o3
  go_enter Tryz.func26, Tryz.ntmps26
  obtain ⟨b0, b1, b2, b3, b4⟩ := B0.out
  go_wp2_with fail
  refine (specIsRoom_any ms rows q P b (.slice ma q mc) (.slice sa P sc) _ Q.out (by omega) E.out (by omega) (fun r hr => ⟨fun x hx => Hs.out.2.1 r hr x hx, by rw [Hs.out.2.2 r hr]; omega⟩) Hm.out Hr.out).mono ?_
  rintro e w1 ⟨rfl, n1⟩
  rw [Ok.out]
  have B1 := Lib.hid (B0.out.nw n1)
  have N1 := Lib.hid (N0.out.trans n1)
  have Hm1 := Lib.hid (own_nw Hm.out n1)
  have Hr1 := Lib.hid (Hr.out.nw n1)
  clear n1 b0 b1 b2 b3 b4
  obtain ⟨b0, b1, b2, b3, b4⟩ := B1.out
  go_wp2_with fail
  refine (l6Modes_c ms Hs.out.1 q b _ Q.out hq16 _ Hm1.out).mono ?_
  rintro e w2 ⟨t1, rfl, hT, htl, n2⟩
  have B2 := Lib.hid (B1.out.nw n2)
  have N2 := Lib.hid (N1.out.trans n2)
  have Hr2 := Lib.hid (Hr1.out.nw n2)
  have T1 := Lib.hid hT
  clear n2 b0 b1 b2 b3 b4 hT
  obtain ⟨b0, b1, b2, b3, b4⟩ := B2.out
  go_wp2_with fail
  go_loopw [3, 17] (fun o i wr => RmFIc ms rows P w w2 o i wr) (fun _ i _ => P - (intOf i).toNat)
  case atStart => exact ⟨0, t1, t1, [], by omega, rfl, rfl, by simp, T1.out, ⟨[], trivial, rfl⟩, by omega, N2.out, Nw.refl _⟩
  case round =>
    obtain ⟨k, l, u1, u2, hk, rfl, rfl, hl, hu1, hu2, hll, hnw, hn1⟩ := hrel
    obtain ⟨wo, hwo⟩ : ∃ wo, wo = wr := ⟨_, rfl⟩
    subst hwo
    have Nr := Lib.hid (And.intro hnw hn1)
    have U := Lib.hid (And.intro hl (And.intro hu1 hu2))
    clear hnw hn1 b0 b1 b2 b3 b4 hl hu1 hu2
    by_cases hlt : k < P
    · obtain ⟨r, hrk⟩ : ∃ r, rows[k]? = some r := ⟨rows[k]'(by rw [E.out]; exact hlt), List.getElem?_eq_getElem _⟩
      obtain ⟨g, cap, ra, rc, hv, hcap, hmax, hgs, e1, own⟩ := (Hr2.out.nw Nr.out.2).at E.out.symm hrk
      cases hv
      have hrq := Hs.out.2.2 r (List.mem_of_getElem? hrk)
      have Hw := Lib.hid (Hs.out.2.1 r (List.mem_of_getElem? hrk))
      have Rk := Lib.hid hrk
      have HR := Lib.hid hrq
      have Ow := Lib.hid (show wo.ownsRow b 25 1 (.slice ra q rc) q (cellsS r) from by have h := own; rw [hrq] at h; exact h)
      rw [hrq] at e1
      unfold maxLen at hmax
      clear hrk own hrq
      go_wp2_with fail
      go_loopw [3, 25] (fun o i wx => RmGIc l r q wo o i wx) (fun _ i _ => q - (intOf i).toNat)
      case atStart => exact ⟨0, [], l ++ wPlace, by omega, rfl, rfl, by simp, trivial, by simp [wPlace], Nw.refl _⟩
      case round =>
        obtain ⟨j, ts, z, hj, rfl, rfl, hz, hts, hzl, hnj⟩ := hrel
        have Nj := Lib.hid hnj
        have Tj := Lib.hid (And.intro hts hz)
        clear hnj hts hz
        have hll2 : l.length ≤ 23000 := by omega
        have hzl2 : z.length ≤ 25000 := by omega
        by_cases hlj : j < q
        · obtain ⟨x, hxk⟩ : ∃ x, r[j]? = some x := ⟨r[j]'(by rw [HR.out]; exact hlj), List.getElem?_eq_getElem _⟩
          obtain ⟨g1, cap1, hv1, hcap1, hmax1, -, e2⟩ := own_sample (own_nw Ow.out Nj.out) hxk HR.out.symm
          cases hv1
          have Hx := Lib.hid (Hw.out x (List.mem_of_getElem? hxk))
          have C := Lib.hid (fun w => specTxS_c x Hx.out w)
          have Xk := Lib.hid hxk
          unfold maxLen at hmax1
          clear hxk
          go_wp2_with fail
          refine (C.out _).mono ?_
          rintro e w5 ⟨t, rfl, ht, htl3, n5⟩
          have N5 := Lib.hid (Nj.out.trans n5)
          have Ht := Lib.hid ht
          clear n5 ht
          go_wp2_with fail
          go_roundw
          case rel =>
            obtain ⟨hj', he⟩ := List.getElem?_eq_some_iff.1 Xk.out
            refine ⟨j + 1, ts ++ [t], z ++ ([32] ++ t), by omega, by rw [show ((j + 1 : Nat) : Int) = (j : Int) + 1 from by omega], congrArg Value.string (by apply ByteArray.ext; simp), ?_, ?_, by simp; omega, N5.out⟩
            · rw [Tj.out.2, map_snoc]; simp
            · rw [List.take_succ_eq_append_getElem hj', he, List.map_append]
              exact Tj.out.1.snoc Ht.out
          case measure => simp only [intOf]; omega
        · have hjq : j = q := by omega
          go_wp2_with fail
          go_roundw
          case rel =>
            obtain ⟨hk', he⟩ := List.getElem?_eq_some_iff.1 Rk.out
            have hall : All2 TxS ts (r.map can) := by
              have h := Tj.out.1
              rw [List.take_of_length_le (by rw [HR.out]; omega)] at h
              exact h
            obtain ⟨ps, a, e⟩ := U.out.2.2
            refine ⟨k + 1, z ++ [10], u1, u2 ++ ((wPlace ++ (ts.map (32 :: ·)).flatten) ++ [10]), by omega, by rw [show ((k + 1 : Nat) : Int) = (k : Int) + 1 from by omega], rfl, ?_, U.out.2.1, ⟨ps ++ [wPlace ++ (ts.map (32 :: ·)).flatten], ?_, ?_⟩, by simp; omega, Nr.out.1.trans Nj.out, Nr.out.2.trans Nj.out⟩
            · rw [Tj.out.2, U.out.1]; simp
            · rw [List.take_succ_eq_append_getElem hk', he, List.map_append]
              exact a.snoc (LineT.of txS_K (by decide) hall)
            · rw [e, glue_snoc]
          case measure => simp only [intOf]; omega
    · obtain rfl : k = P := by omega
      go_wp2_with fail
      go_ret
      obtain ⟨ps, a, e⟩ := U.out.2.1
      obtain ⟨qs, a2, e2⟩ := U.out.2.2
      rw [List.take_of_length_le (by have := E.out; omega)] at a2
      exact ⟨l, rfl, ⟨ps, qs, a, a2, by rw [U.out.1, e, e2]⟩, by omega, Nr.out.1⟩
end Go.Proofs.YtnmjkjjmigiabaaGreatDoor

/- What FnWritten asks of the texts of one number: the program's reading of the program's text.
   Conditions: those that each statement names. -/
namespace Go.Proofs.YtnmjkjjmigiabaaGreatDoor
set_option linter.unusedSimpArgs false
set_option linter.unusedVariables false
open Go Go.RowKit

theorem no_text {xs : List Int} (hx : xs = []) (y : Nat) : ¬ IsTxt (strOfNums xs) y := by
  rintro ⟨hy, fy, ys, ty, e⟩
  have hb : byts xs = byts ys := by rw [← byts_str, ← byts_str, e]
  have hl : xs.length = ys.length := by have := congrArg List.length hb; unfold byts at this; simpa using this
  subst hx
  have h0 : ys = [] := List.length_eq_zero_iff.1 hl.symm
  subst h0
  rcases ty with ⟨h, _⟩ | ⟨_, h⟩ | ⟨_, h⟩ | ⟨sg, m, p, a, q, b1, b2, b3, b4, b5, b6, b7, h⟩
  · rw [fy] at h; cases h
  · cases h
  · cases h
  · have := congrArg List.length h
    simp at this
theorem txt_none {x : Nat} {xs : List Int} (hf : fin .f64 x = false) (h : TxtOf x xs) : xs = [] := by
  have f0 : fin .f64 0 = true := by decide
  have f1 : fin .f64 9223372036854775808 = true := by decide
  rcases h with ⟨_, rfl⟩ | ⟨rfl, rfl⟩ | ⟨rfl, rfl⟩ | ⟨sg, m, p, a, q, b1, b2, _⟩
  · rfl
  · rw [f0] at hf; simp at hf
  · rw [f1] at hf; simp at hf
  · rw [fin_num ⟨_, _, _, b1⟩] at hf; simp at hf
theorem fin_wide {x : Nat} (hf : fin .f32 x = false) (w : World) : fin .f64 (fcv w .f32 x .f64) = false := by
  cases hn : nan32 x with
  | true => exact nan_fin64 (nan_wide hn w)
  | false =>
    rw [fcv_wide hn]
    unfold fin at hf ⊢
    cases hd : Ieee.single.read x with
    | number s m p => rw [show FloatKind.f32.decode x = .number s m p from hd] at hf; cases hf
    | infinity s => rw [show FloatKind.f64.decode (wid x) = .infinity s from wid_inf hd]
    | nan s f => unfold nan32 at hn; rw [show FloatKind.f32.decode x = .nan s f from hd] at hn; cases hn
theorem str_size {xs : List Int} (h : xs.length ≤ 60) : (strOfNums xs).size ≤ 1048576 := by
  have e : (byts xs).length = xs.length := by unfold byts; simp
  have : (strOfNums xs).size = (byts xs).length := by rw [← byts_str]; exact List.size_toArray.symm ▸ rfl
  omega

/-- the program reads its own text of a number of double precision -/
theorem readBackD (a : Nat) (ha : a < 18446744073709551616) (xs : List Int) (ht : TxtOf a xs) (w : World) (hL : LibW w) :
    Calls Tryz.prog 10 #[.string (strOfNums xs)] w fun e w' => e = .returned (.tuple #[.float .f64 (if fin .f64 a = true then a else 0), .bool (fin .f64 a)]) ∧ Nw w w' := by
  refine (implDouble _ (str_size (txt_str ht)) w hL).mono fun e w' h => ⟨?_, h.1⟩
  cases hf : fin .f64 a with
  | true =>
    have hi : IsTxt (strOfNums xs) a := ⟨ha, hf, xs, ht, rfl⟩
    rcases h.2 with ⟨y, hy, rfl⟩ | ⟨hno, _⟩
    · rw [isTxt_unique hy hi]; simp
    · exact absurd hi (hno a)
  | false =>
    rcases h.2 with ⟨y, hy, _⟩ | ⟨_, rfl⟩
    · exact absurd hy (no_text (txt_none hf ht) y)
    · simp
/-- and of single precision -/
theorem readBackS (x : Nat) (hx : x < 4294967296) (xs : List Int) (u : World) (ht : TxtOf (fcv u .f32 x .f64) xs) (w : World) (hL : LibW w) :
    Calls Tryz.prog 12 #[.string (strOfNums xs)] w fun e w' => e = .returned (.tuple #[.float .f32 (if fin .f32 x = true then x else 0), .bool (fin .f32 x)]) ∧ Nw w w' := by
  refine (implSingle _ (str_size (txt_str ht)) w hL).mono fun e w' h => ⟨?_, h.1⟩
  cases hf : fin .f32 x with
  | true =>
    have hs : Sm x := Sm_of hf
    rw [fcv_up hs] at ht
    have hi : IsTxt (strOfNums xs) (wid x) := ⟨wid_lt x, fin_wid hs, xs, ht, rfl⟩
    rcases h.2 with ⟨y, hy, sy, ty, rfl⟩ | ⟨hno, _⟩
    · have e : y = x := by rw [← (nar_back hy sy).1 default, isTxt_unique ty hi, (nar_back hx hs).1 default]
      rw [e]; simp
    · exact absurd hi (hno x hx hs)
  | false =>
    rcases h.2 with ⟨y, hy, sy, ty, _⟩ | ⟨_, rfl⟩
    · exact absurd ty (no_text (txt_none (fin_wide hf u) ht) _)
    · simp
end Go.Proofs.YtnmjkjjmigiabaaGreatDoor

/- The walks of l8Same, FirstDifference and same: what they answer of two rows of samples that are numbers.
   Conditions: those that each statement names. -/
namespace Go.Proofs.YtnmjkjjmigiabaaGreatDoor
set_option linter.unusedSimpArgs false
set_option linter.unusedVariables false
open Go Go.RowKit

/-- are two numbers the same: NaN and NaN, zeros of one sign, or equal ones -/
def sameB (a b : Nat) : Bool :=
  if (FloatKind.f64.decode a).isNaN || (FloatKind.f64.decode b).isNaN then (FloatKind.f64.decode a).isNaN && (FloatKind.f64.decode b).isNaN
  else if (FloatKind.f64.format.order a 0 == some .eq) && (FloatKind.f64.format.order b 0 == some .eq) then
    (FloatKind.f64.format.order (opB .quo .f64 4607182418800017408 a) 0 == some .gt) == (FloatKind.f64.format.order (opB .quo .f64 4607182418800017408 b) 0 == some .gt)
  else FloatKind.f64.format.order a b == some .eq

theorem one_quo (a : Nat) (h : (FloatKind.f64.decode a).isNaN = false) : Calm .quo .f64 4607182418800017408 a := by
  have h1 : Ieee.double.read 4607182418800017408 = .number false 4503599627370496 (-52) := by decide
  have hx : ∃ r, floatBits .quo .f64 4607182418800017408 a = some r := by
    unfold FloatKind.decode at h
    rw [show FloatKind.f64.format = Ieee.double from rfl] at h
    show ∃ r, Ieee.double.div 4607182418800017408 a = some r
    unfold Ieee.Format.div
    rw [h1]
    cases hd : Ieee.double.read a with
    | number s m p => by_cases hm : m = 0 <;> simp [Ieee.Datum.quotient, hm]
    | infinity s => exact ⟨_, rfl⟩
    | nan s f => rw [hd] at h; simp [Ieee.Datum.isNaN] at h
  obtain ⟨r, hr⟩ := hx
  exact (Calm.of hr).1

theorem l8Same_any (a b : Nat) (w : World) :
    Calls Tryz.prog 54 #[.float .f64 a, .float .f64 b] w fun e w' => e = .returned (.bool (sameB a b)) ∧ w = w' := by
  have o1 := order_self .f64 a
  have o2 := order_self .f64 b
  cases ha : (FloatKind.f64.decode a).isNaN
  all_goals cases hb : (FloatKind.f64.decode b).isNaN
  all_goals rw [ha] at o1; rw [hb] at o2
  case false.false =>
    have c1 := one_quo a ha
    have c2 := one_quo b hb
    have r1 := c1.res
    have r2 := c2.res
    have d1 := c1.fdr
    have d2 := c2.fdr
    go_enter Tryz.func54, Tryz.ntmps54
    go_wp2
    all_goals (go_ret; refine ⟨by simp_all [sameB], ?_⟩; first | rfl | (exfalso; simp_all))
  all_goals
    go_enter Tryz.func54, Tryz.ntmps54
    go_wp2
    all_goals (go_ret; refine ⟨by simp_all [sameB], ?_⟩; first | rfl | (exfalso; simp_all))

theorem sameB_self (a : Nat) : sameB a a = true := by
  unfold sameB
  cases ha : (FloatKind.f64.decode a).isNaN
  · have o1 := order_self .f64 a
    rw [ha] at o1
    simp only [Bool.or_self, Bool.false_eq_true, if_false, beq_self_eq_true]
    split
    · rfl
    · simpa using o1
  · simp

def SameI (n : Nat) (w : World) (i : Value) (wr : World) : Prop := ∃ k : Nat, k ≤ n ∧ i = .int .i64 (k : Int) ∧ Nw w wr

set_option maxRecDepth 100000 in
theorem firstDifference_eq (xs ys : List Nat) (n bx cy : Nat) (v u : Value) (hx : xs.length = n) (hy : ys.length = n) (hn : n ≤ 1048576) (w : World)
    (ox : w.ownsRow bx 25 1 v n (cellsS xs)) (oy : w.ownsRow cy 25 1 u n (cellsS ys)) (hsx : ∀ x ∈ xs, Sm x) (hsy : ∀ y ∈ ys, Sm y)
    (hs : ∀ (k : Nat) x y, xs[k]? = some x → ys[k]? = some y → sameB (wid x) (wid y) = true) :
    Calls Tryz.prog 55 #[v, u] w fun e w' => e = .returned (.int .i64 (-1)) ∧ Nw w w' := by
  obtain ⟨va, vc, rfl⟩ := own_shape' ox
  obtain ⟨ua, uc, rfl⟩ := own_shape' oy
  have Ox := Lib.hid ox
  have Oy := Lib.hid oy
  have Hx := Lib.hid hx
  have Hy := Lib.hid hy
  have Hsx := Lib.hid hsx
  have Hsy := Lib.hid hsy
  have Hs := Lib.hid hs
  clear ox oy hx hy hsx hsy hs
  go_enter Tryz.func55, Tryz.ntmps55
  go_wp2_with fail
  go_loopw [5] (fun i wr => SameI n w i wr) (fun i _ => n - (intOf i).toNat)
  case atStart => exact ⟨0, by omega, rfl, Nw.refl _⟩
  case round =>
    obtain ⟨k, hk, rfl, hN⟩ := hrel
    have Nr := Lib.hid hN
    clear hN
    by_cases hlt : k < n
    · obtain ⟨x, hxk⟩ : ∃ x, xs[k]? = some x := ⟨xs[k]'(by rw [Hx.out]; exact hlt), List.getElem?_eq_getElem _⟩
      obtain ⟨y, hyk⟩ : ∃ y, ys[k]? = some y := ⟨ys[k]'(by rw [Hy.out]; exact hlt), List.getElem?_eq_getElem _⟩
      obtain ⟨g1, cap1, hv1, hcap1, hmax1, -, e1⟩ := own_sample (own_nw Ox.out Nr.out) hxk Hx.out.symm
      obtain ⟨g2, cap2, hv2, hcap2, hmax2, -, e2⟩ := own_sample (own_nw Oy.out Nr.out) hyk Hy.out.symm
      cases hv1
      cases hv2
      have hb := Hs.out k x y hxk hyk
      have sx := Hsx.out x (List.mem_of_getElem? hxk)
      have sy := Hsy.out y (List.mem_of_getElem? hyk)
      have a1 := fcv_up sx
      have a2 := fcd_up sx
      have b1 := fcv_up sy
      have b2 := fcd_up sy
      unfold maxLen at hmax1 hmax2
      clear hxk hyk sx sy
      go_wp2_with fail
      go_quiet (first | (go_at_call 54; with_reducible exact quiet_eq (l8Same_any _ _ _)))
      have N2 := Lib.hid (Nr.out.draw nq)
      go_wp2_with fail
      go_roundw
      case rel => exact ⟨k + 1, by omega, by rw [show ((k + 1 : Nat) : Int) = (k : Int) + 1 from by omega], N2.out⟩
      case measure => simp only [intOf]; omega
    · obtain rfl : k = n := by omega
      go_wp2_with fail
      go_ret
      exact ⟨rfl, Nr.out⟩

theorem same_eq (xs ys : List Nat) (n bx cy : Nat) (v u : Value) (hx : xs.length = n) (hy : ys.length = n) (hn : n ≤ 1048576) (w : World)
    (ox : w.ownsRow bx 25 1 v n (cellsS xs)) (oy : w.ownsRow cy 25 1 u n (cellsS ys)) (hsx : ∀ x ∈ xs, Sm x) (hsy : ∀ y ∈ ys, Sm y)
    (hs : ∀ (k : Nat) x y, xs[k]? = some x → ys[k]? = some y → sameB (wid x) (wid y) = true) :
    Calls Tryz.prog 14 #[v, u] w fun e w' => e = .returned (.bool true) ∧ Nw w w' := by
  have Ox := Lib.hid ox
  have Oy := Lib.hid oy
  have Hs := Lib.hid (And.intro hx (And.intro hy (And.intro hsx (And.intro hsy hs))))
  clear ox oy hx hy hsx hsy hs
  go_enter Tryz.func14, Tryz.ntmps14
  go_wp2_with fail
  refine (firstDifference_eq xs ys n bx cy _ _ Hs.out.1 Hs.out.2.1 hn _ Ox.out Oy.out Hs.out.2.2.1 Hs.out.2.2.2.1 Hs.out.2.2.2.2).mono ?_
  rintro e w1 ⟨rfl, n1⟩
  have N1 := Lib.hid n1
  clear n1
  go_wp2
  go_ret
  exact ⟨rfl, N1.out⟩

end Go.Proofs.YtnmjkjjmigiabaaGreatDoor

/- The walks of the recordings' functions: RingMode of any numbers, modulo the bits of NaNs.
   Conditions: those that each statement names. -/
namespace Go.Proofs.YtnmjkjjmigiabaaGreatDoor
set_option linter.unusedSimpArgs false
set_option linter.unusedVariables false
open Go Go.RowKit

def cellsZ (zs : List (Nat × Nat)) : List Value := zs.map fun z => .complex .f64 z.1 z.2
theorem cellsZ_len (zs : List (Nat × Nat)) : (cellsZ zs).length = zs.length := by simp [cellsZ]
theorem cellsZ_at {zs : List (Nat × Nat)} {k : Nat} {z : Nat × Nat} (h : zs[k]? = some z) : (cellsZ zs)[k]? = some (.complex .f64 z.1 z.2) := by
  simp [cellsZ, h]
theorem cellsZ_set (zs : List (Nat × Nat)) (k : Nat) (x y : Nat) : (cellsZ zs).set k (.complex .f64 x y) = cellsZ (zs.set k (x, y)) := by
  simp [cellsZ, List.map_set]
theorem cellsZ_snoc (zs : List (Nat × Nat)) (x y : Nat) : cellsZ (zs ++ [(x, y)]) = cellsZ zs ++ [.complex .f64 x y] := by simp [cellsZ]

abbrev FC := Option Nat × Option Nat
def fabC (z : Nat × Nat) : FC := (fab .f64 z.1, fab .f64 z.2)
def mulC (a b : FC) : FC := (mulRe a.1 a.2 b.1 b.2, mulIm a.1 a.2 b.1 b.2)
def addC (a b : FC) : FC := (fA .add .f64 a.1 b.1, fA .add .f64 a.2 b.2)
def ringC (p s : FC) : Nat → FC
  | 0 => s
  | i + 1 => mulC (ringC p s i) p
theorem ringC_on (p s : FC) (k : Nat) : ∀ i, ringC p (ringC p s k) i = ringC p s (k + i)
  | 0 => rfl
  | i + 1 => by rw [show k + (i + 1) = (k + i) + 1 from by omega]; simp only [ringC]; rw [ringC_on p s k i]
def Wz (z : Nat × Nat) : Prop := z.1 < 2 ^ 64 ∧ z.2 < 2 ^ 64
/-- the recording of a mode's own ringing -/
def Ringing (p s : FC) (zs : List (Nat × Nat)) : Prop := ∀ (i : Nat) z, zs[i]? = some z → fabC z = ringC p s i ∧ Wz z

theorem info_z128 : (Tryz.prog.info? 23).map (fun i => (i.zero, i.size, i.bytes)) = some (some (.complex .f64 0 0), 1, 16) := by kernel_rfl

def RecP (B n : Nat) (p s : FC) (w : World) (e : Ending) (w' : World) : Prop :=
  ∃ (v : Value) (zs : List (Nat × Nat)), e = .returned (.tuple #[v, .bool true]) ∧ zs.length = n ∧ w'.ownsRow B 23 1 v n (cellsZ zs) ∧ Ringing p s zs ∧ Nw w w'

/-- the head of a round of RingMode: k numbers are laid -/
def RecI (B g n : Nat) (p s : FC) (w : World) (number i : Value) (wr : World) : Prop :=
  ∃ (k x y : Nat) (zs : List (Nat × Nat)), k ≤ n ∧ i = .int .i64 (k : Int) ∧ number = .complex .f64 x y ∧ fabC (x, y) = ringC p s k ∧ Wz (x, y) ∧ zs.length = n ∧
    wr.ownsRow B 23 1 (.slice (some ⟨g, 0, none⟩) n n) n (cellsZ zs) ∧ Ringing p s (zs.take k) ∧ Nw w wr

theorem ringing_next {p s : FC} {zs : List (Nat × Nat)} {k x y : Nat} (h : Ringing p s (zs.take k)) (hx : fabC (x, y) = ringC p s k) (hw : Wz (x, y)) (hk : k < zs.length) :
    Ringing p s ((zs.set k (x, y)).take (k + 1)) := by
  intro i z hz
  by_cases hik : i < k
  · refine h i z ?_
    rw [List.getElem?_take] at hz ⊢
    rw [if_pos (by omega)] at hz
    rw [if_pos hik]
    rwa [List.getElem?_set_ne (by omega)] at hz
  · rw [List.getElem?_take] at hz
    split at hz
    · obtain rfl : i = k := by omega
      rw [List.getElem?_set_self hk] at hz
      cases hz
      exact ⟨hx, hw⟩
    · cases hz

/-! ### a row of complex numbers, wherever it begins -/
def RowZ (w : World) (v : Value) (zs : List (Nat × Nat)) : Prop :=
  ∃ a cap, v = .slice a zs.length cap ∧ zs.length ≤ cap ∧ cap ≤ maxLen ∧ (zs = [] ∨ ∃ g off, a = some ⟨g, off, none⟩ ∧ g < w.heap.size ∧ ∀ k z, zs[k]? = some z → w.cell? ⟨g, off + k, none⟩ = some (.complex .f64 z.1 z.2))
theorem RowZ.nw {w w' : World} {v : Value} {zs : List (Nat × Nat)} (h : RowZ w v zs) (n : Nw w w') : RowZ w' v zs := by
  obtain ⟨a, cap, h1, h2, h3, h4⟩ := h
  refine ⟨a, cap, h1, h2, h3, ?_⟩
  rcases h4 with h4 | ⟨g, off, h5, h6, h7⟩
  · exact .inl h4
  · exact .inr ⟨g, off, h5, by have := n.size; omega, fun k z hz => by rw [n.cell (p := ⟨g, off + k, none⟩) h6]; exact h7 k z hz⟩
theorem RowZ.of_own {w : World} {base n : Nat} {v : Value} {zs : List (Nat × Nat)} (h : w.ownsRow base 23 1 v n (cellsZ zs)) (hn : zs.length = n) : RowZ w v zs := by
  have h0 := h
  subst hn
  rcases h.2 with ⟨rfl, h2⟩ | ⟨g, cap, cur, rfl, hb, hg, hc, hm, hs, ht⟩
  · refine ⟨none, 0, by rw [h2], by omega, by unfold maxLen; omega, .inl ?_⟩
    exact List.length_eq_zero_iff.1 h2
  · refine ⟨_, cap, rfl, hc, hm, .inr ⟨g, 0, rfl, (h0.lt g rfl).2, fun k z hz => ?_⟩⟩
    have hk := (List.getElem?_eq_some_iff.1 hz).1
    have c1 := h0.cellAt k (by omega)
    rw [cellsZ_at hz] at c1
    simpa using c1

/-! ### spectra -/
def specC (w : FC) : List FC → FC
  | [] => (some 0, some 0)
  | z :: zs => addC (mulC (specC w zs) w) z
theorem specC_drop (w : FC) (zs : List (Nat × Nat)) (k : Nat) (z : Nat × Nat) (h : zs[k]? = some z) :
    specC w ((zs.drop k).map fabC) = addC (mulC (specC w ((zs.drop (k + 1)).map fabC)) w) (fabC z) := by
  obtain ⟨hk, he⟩ := List.getElem?_eq_some_iff.1 h
  rw [List.drop_eq_getElem_cons hk, he]; rfl

def SpecI (W : FC) (zs : List (Nat × Nat)) (w : World) (number i : Value) (wr : World) : Prop :=
  ∃ (j x y : Nat), j ≤ zs.length ∧ i = .int .i64 ((j : Int) - 1) ∧ number = .complex .f64 x y ∧ fabC (x, y) = specC W ((zs.drop j).map fabC) ∧ Wz (x, y) ∧ Nw w wr
def SpecP (W : FC) (zs : List (Nat × Nat)) (w : World) (e : Ending) (w' : World) : Prop :=
  ∃ x y : Nat, e = .returned (.complex .f64 x y) ∧ fabC (x, y) = specC W (zs.map fabC) ∧ Wz (x, y) ∧ Nw w w'

end Go.Proofs.YtnmjkjjmigiabaaGreatDoor

/- The walks of MakePole, MakeStart and MakeSameComplex: what they draw, and what they say.
   Conditions: those that each statement names. -/
namespace Go.Proofs.YtnmjkjjmigiabaaGreatDoor
set_option linter.unusedSimpArgs false
set_option linter.unusedVariables false
open Go Go.RowKit

theorem sameB_fab {a b : Nat} (h : fab .f64 a = fab .f64 b) : sameB a b = true := by
  by_cases ha : (FloatKind.f64.decode a).isNaN = true
  · have hb : (FloatKind.f64.decode b).isNaN = true := by
      by_cases hb : (FloatKind.f64.decode b).isNaN = true
      · exact hb
      · rw [fab_none ha, fab_some (by simpa using hb)] at h; cases h
    unfold sameB; rw [ha, hb]; rfl
  · have ha' : (FloatKind.f64.decode a).isNaN = false := by simpa using ha
    by_cases hb : (FloatKind.f64.decode b).isNaN = true
    · rw [fab_some ha', fab_none hb] at h; cases h
    · rw [fab_some ha', fab_some (by simpa using hb)] at h
      cases h
      exact sameB_self a

set_option maxRecDepth 100000 in
theorem makeSameComplex_any (a b c d : Nat) (w : World) :
    Calls Tryz.prog 11 #[.complex .f64 a b, .complex .f64 c d] w fun e w' => e = .returned (.bool (sameB a c && sameB b d)) ∧ w = w' := by
  obtain ⟨p, hp⟩ : ∃ p, p = sameB a c := ⟨_, rfl⟩
  obtain ⟨q, hq⟩ : ∃ q, q = sameB b d := ⟨_, rfl⟩
  have r1 := l8Same_any a c
  have r2 := l8Same_any b d
  rw [← hp] at r1
  rw [← hq] at r2
  rw [← hp, ← hq]
  clear hp hq
  go_enter Tryz.func11, Tryz.ntmps11
  go_wp2_with fail
  refine (r1 _).mono ?_
  rintro e w1 ⟨rfl, rfl⟩
  cases p
  · go_wp2_with fail
    go_ret
    exact ⟨rfl, rfl⟩
  · go_wp2_with fail
    refine (r2 _).mono ?_
    rintro e w1 ⟨rfl, rfl⟩
    go_wp2_with fail
    go_ret
    exact ⟨by simp, rfl⟩

/-! ### what a pole is made of -/
theorem floatBits_wf' {op : BinOp} {x y r : Nat} (h : floatBits op .f64 x y = some r) : r < 2 ^ 64 := by have := floatBits_wf h; simpa [Lit.wf] using this
theorem read_1024 : Ieee.double.read 4652218415073722368 = .number false 4503599627370496 (10 - 52) := by decide
theorem read_16 : Ieee.double.read 4625196817309499392 = .number false 4503599627370496 (4 - 52) := by decide
def tenB (i : Int) : Nat := (floatBits .quo .f64 (floatOfInt .f64 i) 4652218415073722368).getD 0
theorem tenB_ok (i : Int) (h : i.natAbs < 9007199254740992) : floatBits .quo .f64 (floatOfInt .f64 i) 4652218415073722368 = some (tenB i) ∧ Flo.Dy (-10) i (tenB i) := by
  obtain ⟨r, h1, h2⟩ := Flo.dy_div (Flo.dy_int i h) read_1024 h (by omega) (by omega)
  unfold tenB
  rw [h1]
  exact ⟨rfl, h2⟩
theorem tenB_lt (i : Int) (h : i.natAbs < 9007199254740992) : tenB i < 2 ^ 64 := floatBits_wf' (tenB_ok i h).1
def sixB (i : Int) : Nat := (floatBits .quo .f64 (floatOfInt .f64 i) 4625196817309499392).getD 0
theorem sixB_ok (i : Int) (h : i.natAbs < 9007199254740992) : floatBits .quo .f64 (floatOfInt .f64 i) 4625196817309499392 = some (sixB i) ∧ Flo.Dy (-4) i (sixB i) := by
  obtain ⟨r, h1, h2⟩ := Flo.dy_div (Flo.dy_int i h) read_16 h (by omega) (by omega)
  unfold sixB
  rw [h1]
  exact ⟨rfl, h2⟩

def PoleB (x y : Nat) : Prop :=
  (∃ i j : Int, i.natAbs ≤ 724 ∧ j.natAbs ≤ 724 ∧ x = tenB i ∧ y = tenB j ∧ (FloatKind.f64.format.order (szd x y) 4598175219545276416 == some .lt) = false) ∨ (x = 4603579539098121011 ∧ y = 13828753015803845018)
theorem PoleB.wz {x y : Nat} (h : PoleB x y) : Wz (x, y) := by
  rcases h with ⟨i, j, hi, hj, rfl, rfl, -⟩ | ⟨rfl, rfl⟩
  · exact ⟨tenB_lt i (by omega), tenB_lt j (by omega)⟩
  · exact ⟨by decide, by decide⟩
def PoleP (w : World) (e : Ending) (w' : World) : Prop := ∃ x y, e = .returned (.complex .f64 x y) ∧ PoleB x y ∧ Below w.heap.size w w'

theorem ten_run (i : Int) (h : i.natAbs < 9007199254740992) : (∀ w, fres w .quo .f64 (floatOfInt .f64 i) 4652218415073722368 = tenB i) ∧ fdr .quo .f64 (floatOfInt .f64 i) 4652218415073722368 = 0 := by
  have q := (tenB_ok i h).1
  exact ⟨fun w => by unfold fres; rw [q], by unfold fdr; rw [q]; rfl⟩

end Go.Proofs.YtnmjkjjmigiabaaGreatDoor

/- The law's sameModes (as in XInput, with fewer imports: a claim has at most 1,500,000 bytes).
   Conditions: those that each statement names. -/
namespace Go.Proofs.YtnmjkjjmigiabaaGreatDoor
set_option linter.unusedSimpArgs false
set_option linter.unusedVariables false
open Go Go.RowKit

def SamWM (n : Nat) (w : World) (i : Value) (wr : World) : Prop := ∃ k : Nat, k ≤ n ∧ i = .int .i64 (k : Int) ∧ Nw w wr
set_option maxHeartbeats 1600000 in
theorem sameModes_m (ms ns : List M4) (n b1 b2 : Nat) (v1 v2 : Value) (h1 : ms.length = n) (h2 : ns.length = n) (hn : n ≤ 100) (hf : ∀ m ∈ ms, m.Fin) (hg : ∀ m ∈ ns, m.Fin)
    (he : ∀ (k : Nat) m m', ms[k]? = some m → ns[k]? = some m' → wid m.pr = wid m'.pr ∧ wid m.pi = wid m'.pi ∧ wid m.gr = wid m'.gr ∧ wid m.gi = wid m'.gi) (w : World)
    (o1 : w.ownsRow b1 93 2 v1 n (cellsM ms)) (o2 : w.ownsRow b2 93 2 v2 n (cellsM ns)) :
    Calls Tryz.prog 25 #[v1, v2] w (TestP true w) := by
  obtain ⟨a1, c1, rfl⟩ := own_shape' o1
  obtain ⟨a2, c2, rfl⟩ := own_shape' o2
  have O1 := Lib.hid o1
  have O2 := Lib.hid o2
  have H := Lib.hid (And.intro h1 (And.intro h2 (And.intro hf (And.intro hg he))))
  clear o1 o2 h1 h2 hf hg he
  go_enter Tryz.func25, Tryz.ntmps25
  go_wp2_with fail
  go_loopw [13] (fun i wr => SamWM n w i wr) (fun i _ => n - (intOf i).toNat)
  case atStart => exact ⟨0, by omega, rfl, Nw.refl _⟩
  case round =>
    obtain ⟨k, hk, rfl, hnw⟩ := hrel
    have Hnw := Lib.hid hnw
    clear hnw
    by_cases hlt : k < n
    · obtain ⟨m, hm⟩ : ∃ x, ms[k]? = some x := ⟨ms[k]'(by rw [H.out.1]; exact hlt), List.getElem?_eq_getElem _⟩
      obtain ⟨m', hm'⟩ : ∃ y, ns[k]? = some y := ⟨ns[k]'(by rw [H.out.2.1]; exact hlt), List.getElem?_eq_getElem _⟩
      obtain ⟨q1, q2, q3, q4⟩ := H.out.2.2.2.2 k m m' hm hm'
      obtain ⟨f1, f2, f3, f4⟩ := H.out.2.2.1 m (List.mem_of_getElem? hm)
      obtain ⟨g1, g2, g3, g4⟩ := H.out.2.2.2.1 m' (List.mem_of_getElem? hm')
      obtain ⟨g1', cap1, hv1, hcap1, hmax1, hg1, e1, e2⟩ := own_mode (own_nw O1.out Hnw.out) hm H.out.1.symm
      obtain ⟨g2', cap2, hv2, hcap2, hmax2, hg2, e3, e4⟩ := own_mode (own_nw O2.out Hnw.out) hm' H.out.2.1.symm
      cases hv1
      cases hv2
      unfold maxLen at hmax1 hmax2
      have cx : ∀ (a b : Nat) (_ : Sm a) (_ : Sm b) (w : World), (convert 91 23 (.complex .f32 a b)).run Tryz.prog w = .ok (.complex .f64 (wid a) (wid b)) w := by
        intro a b ha hb w
        rw [run_convert_cx w 91 23 .f32 .f64 a b (by rw [Tryz.underlying91]; rfl) Tryz.underlying23, fcv_up ha, fcv_up hb, fcd_up ha, fcd_up hb]
        rfl
      have x1 := cx m.pr m.pi f1 f2
      have x2 := cx m.gr m.gi f3 f4
      have x3 := cx m'.pr m'.pi g1 g2
      have x4 := cx m'.gr m'.gi g3 g4
      have C1 := Lib.hid (fun w => makeSameComplex_any (wid m.pr) (wid m.pi) (wid m'.pr) (wid m'.pi) w)
      rw [q1, q2, sameB_self, sameB_self] at C1
      have C2 := Lib.hid (fun w => makeSameComplex_any (wid m.gr) (wid m.gi) (wid m'.gr) (wid m'.gi) w)
      rw [q3, q4, sameB_self, sameB_self] at C2
      rw [q1, q2] at x1
      rw [q3, q4] at x2
      clear hm hm' cx f1 f2 f3 f4 g1 g2 g3 g4 q1 q2 q3 q4
      go_wp2_with fail
      go_quiet (first
        | (go_at_call 11; with_reducible exact quiet_eq (C1.out _))
        | (go_at_call 11; with_reducible exact quiet_eq (C2.out _)))
      go_wp2_with fail
      go_roundw
      case rel => exact ⟨k + 1, by omega, by rw [show ((k + 1 : Nat) : Int) = (k : Int) + 1 from by omega], Hnw.out.draw _⟩
      case measure => simp only [intOf]; omega
    · go_wp2_with fail
      go_ret
      exact ⟨rfl, Hnw.out⟩

end Go.Proofs.YtnmjkjjmigiabaaGreatDoor

/- The walks of what draws wide modes: the result's tests are met.
   Conditions: those that each statement names. -/
namespace Go.Proofs.YtnmjkjjmigiabaaGreatDoor
set_option linter.unusedSimpArgs false
set_option linter.unusedVariables false
open Go Go.RowKit

theorem info_wide : (Tryz.prog.info? 115).map (fun i => (i.zero, i.size, i.bytes)) = some (some (.agg #[.complex .f64 0 0, .complex .f64 0 0]), 2, 32) := by kernel_rfl
theorem scaleSpecD_any (x y k : Nat) (w : World) :
    Calls Tryz.prog 126 #[.complex .f64 x y, .float .f64 k] w fun e w' => ∃ w1 n, e = .returned (.complex .f64 (fres w .mul .f64 x k) (fres w1 .mul .f64 y k)) ∧ w' = w.drewN n := by
  go_enter Tryz.func126, Tryz.ntmps126
  go_wp2
  all_goals (go_ret; exact ⟨_, _, rfl, rfl⟩)

theorem fcv_up_lt (w : World) (b : Nat) : fcv w .f32 b .f64 < 2 ^ 64 := by
  unfold fcv
  rw [if_neg (by decide)]
  split
  · show (w.tape w.drawn _ % 2) * 2 ^ 63 + 0x7ff0000000000000 + 1 + (w.tape w.drawn _ / 2) % (2 ^ 52 - 1) < 2 ^ 64
    have h1 := Nat.mod_lt (w.tape w.drawn (Question.nanConv .f64 b)) (y := 2) (by decide)
    have h2 := Nat.mod_lt (w.tape w.drawn (Question.nanConv .f64 b) / 2) (y := 2 ^ 52 - 1) (by decide)
    omega
  · exact FloatKind.f64.format.write_lt _
  · split
    · have h1 := Nat.mod_lt (w.tape w.drawn (Question.floatToFloat b)) (y := 2 ^ 32) (by decide)
      exact Nat.lt_trans h1 (by decide)
    · exact FloatKind.f64.format.write_lt _

/-- a box of a wide mode of some bits -/
def HasW (w : World) (b : Nat) : Prop := ∃ m : W4, m.bits ∧ HasC w b m.cells
theorem HasW.nw {w w' : World} {b : Nat} (h : HasW w b) (n : Nw w w') : HasW w' b := by
  obtain ⟨m, h1, h2⟩ := h
  exact ⟨m, h1, h2.nw n⟩
theorem HasW.kp {c : Nat} {w w' : World} {b : Nat} (h : HasW w b) (hk : Kp c w w') (hne : b ≠ c) : HasW w' b := by
  obtain ⟨m, h1, h2⟩ := h
  exact ⟨m, h1, h2.kp hk hne⟩
theorem HasW.set0 {w : World} {b : Nat} (h : HasW w b) (x y : Nat) (hx : x < 2 ^ 64) (hy : y < 2 ^ 64) : HasW (w.setCell ⟨b, 0, none⟩ (.complex .f64 x y)) b := by
  obtain ⟨m, h1, h2⟩ := h
  exact ⟨⟨x, y, m.c, m.d⟩, ⟨hx, hy, h1.2.2⟩, h2.set 0 _⟩
theorem HasW.set1 {w : World} {b : Nat} (h : HasW w b) (x y : Nat) (hx : x < 2 ^ 64) (hy : y < 2 ^ 64) : HasW (w.setCell ⟨b, 1, none⟩ (.complex .f64 x y)) b := by
  obtain ⟨m, h1, h2⟩ := h
  exact ⟨⟨m.a, m.b, x, y⟩, ⟨h1.1, h1.2.1, hx, hy⟩, h2.set 1 _⟩

/-- what holds within a round of l6Draw: the row so far, the box of the mode -/
def WLoc (B : Nat) (w0 : World) (a : Option Addr) (len cap c base k : Nat) (ms : List W4) (v : Value) (bm : Nat) (wx : World) : Prop :=
  At B w0 a len cap c wx ∧ (bm ≠ c ∧ B ≤ bm ∧ w0.heap.size ≤ bm) ∧ HasW wx bm ∧ wx.ownsRow base 115 2 v ms.length (cellsW ms) ∧ v.ownBlock ≠ some bm
theorem WLoc.step {B : Nat} {w0 : World} {a : Option Addr} {len cap c base k : Nat} {ms : List W4} {v : Value} {bm : Nat} {w w' : World} (h : WLoc B w0 a len cap c base k ms v bm w) (hb : c < base) (g : At B w a len cap c w') : WLoc B w0 a len cap c base k ms v bm w' := by
  obtain ⟨h1, h2, h3, h4, h5⟩ := h
  exact ⟨⟨g.1, h1.2.trans g.2⟩, h2, h3.kp g.2 h2.1, own_kp h4 g.2 hb, h5⟩
theorem WLoc.nw {B : Nat} {w0 : World} {a : Option Addr} {len cap c base k : Nat} {ms : List W4} {v : Value} {bm : Nat} {w w' : World} (h : WLoc B w0 a len cap c base k ms v bm w) (g : Nw w w') : WLoc B w0 a len cap c base k ms v bm w' := by
  obtain ⟨h1, h2, h3, h4, h5⟩ := h
  exact ⟨h1.nw g, h2, h3.nw g, own_nw h4 g, h5⟩
theorem own_sete {w : World} {base : Nat} {E : TypeId} {size : Nat} {v : Value} {n : Nat} {xs : List Value} (h : w.ownsRow base E size v n xs) {b o : Nat} (hp : v.ownBlock ≠ some b) (u : Value) : (w.setCell ⟨b, o, none⟩ u).ownsRow base E size v n xs :=
  h.kept (Kp.set (Kp.refl b w) o u) (.inr hp)
theorem WLoc.set0 {B : Nat} {w0 : World} {a : Option Addr} {len cap c base k : Nat} {ms : List W4} {v : Value} {bm : Nat} {w : World} (h : WLoc B w0 a len cap c base k ms v bm w) (x y : Nat) (hx : x < 2 ^ 64) (hy : y < 2 ^ 64) : WLoc B w0 a len cap c base k ms v bm (w.setCell ⟨bm, 0, none⟩ (.complex .f64 x y)) := by
  obtain ⟨h1, h2, h3, h4, h5⟩ := h
  exact ⟨h1.set h2.1 h2.2.1 h2.2.2 _, h2, h3.set0 x y hx hy, own_sete h4 h5 _, h5⟩
theorem WLoc.set1 {B : Nat} {w0 : World} {a : Option Addr} {len cap c base k : Nat} {ms : List W4} {v : Value} {bm : Nat} {w : World} (h : WLoc B w0 a len cap c base k ms v bm w) (x y : Nat) (hx : x < 2 ^ 64) (hy : y < 2 ^ 64) : WLoc B w0 a len cap c base k ms v bm (w.setCell ⟨bm, 1, none⟩ (.complex .f64 x y)) := by
  obtain ⟨h1, h2, h3, h4, h5⟩ := h
  exact ⟨h1.set h2.1 h2.2.1 h2.2.2 _, h2, h3.set1 x y hx hy, own_sete h4 h5 _, h5⟩

theorem toList_madeCells_two (z : Value) (n : Nat) : (madeCells #[z, z] n).toList = List.replicate n z := by
  apply List.ext_getElem?
  intro j
  by_cases hj : j < n
  · have h2 : j % 2 = 0 ∨ j % 2 = 1 := by omega
    rcases h2 with h | h <;> simp [madeCells, hj, h]
  · simp [madeCells, hj]
def WDrawI (B : Nat) (w0 : World) (a : Option Addr) (len cap c base M : Nat) (v i : Value) (wr : World) : Prop :=
  ∃ (k : Nat) (ms : List W4), i = .int .i64 (k : Int) ∧ k + ms.length ≤ M ∧ At B w0 a len cap c wr ∧ wr.ownsRow base 115 2 v ms.length (cellsW ms) ∧ (∀ m ∈ ms, m.bits) ∧ base ≤ wr.heap.size
def WDrawP (B : Nat) (w0 : World) (a : Option Addr) (len cap c base : Nat) (e : Ending) (w' : World) : Prop :=
  ∃ (ms : List W4) (v : Value), e = .returned v ∧ ms.length ≤ 17 ∧ (∀ m ∈ ms, m.bits) ∧ w'.ownsRow base 115 2 v ms.length (cellsW ms) ∧ At B w0 a len cap c w'

set_option maxHeartbeats 3200000 in
set_option maxRecDepth 100000 in
theorem l6Draw_at (B : Nat) (w0 : World) (a : Option Addr) (len cap c : Nat) (w : World) (hc : At B w0 a len cap c w) :
    Calls Tryz.prog 58 #[.pointer (some ⟨c, 0, none⟩)] w (WDrawP B w0 a len cap c w.heap.size) := by
  obtain ⟨i0, hi, hz0, hz1, hz2⟩ := info_parts info_wide
  have hcs : c < w.heap.size := hc.1.2.1
  have hBc : B ≤ c := hc.1.1
  have hw0 : w0.heap.size ≤ w.heap.size := hc.2.size
  have Hc := Lib.hid hc
  have L0 := Lib.hid (World.ownsRow_lit (base := w.heap.size) (e := 115) (size := 2) w #[] 0 (Nat.le_refl _) (by decide) rfl)
  have H0 := Lib.hid (hc.alloc (.cells #[] 115 (0, 0)))
  have s0 : (w.alloc (.cells #[] 115 (0, 0))).heap.size = w.heap.size + 1 := by simp
  clear hc
  go_enter Tryz.func58, Tryz.ntmps58
  go_wp2_with fail
  refine (below_at _ _ _ _ _ _ _ (by omega) (by omega) _ H0.out.here).mono ?_
  rintro e w1 ⟨x, x0, x1, rfl, hc1⟩
  have Hs1 := Lib.hid (show w.heap.size ≤ w1.heap.size from by have := hc1.2.size; omega)
  have R1 := Lib.hid (own_kp L0.out hc1.2 hcs)
  have H1 := Lib.hid (show At B w0 a len cap c w1 from ⟨hc1.1, H0.out.2.trans hc1.2⟩)
  clear hc1
  go_wp2_with fail
  go_loopw [3, 4] (fun v i wr => WDrawI B w0 a len cap c w.heap.size 5 v i wr) (fun _ i _ => (intOf i).toNat)
  case atStart => exact ⟨x.toNat, [], by rw [Int.toNat_of_nonneg x0], by simp; omega, H1.out, R1.out, by simp, Hs1.out⟩
  case round =>
    obtain ⟨k, ms, rfl, hk, hat, hown, hok, hbase⟩ := hrel
    obtain ⟨va, vn, vc, rfl⟩ := own_shape hown
    have Hat := Lib.hid hat
    have Hown := Lib.hid hown
    have Hok := Lib.hid hok
    clear hat hown hok
    by_cases hk0 : 0 < k
    · go_wp2_with fail
      refine (l2Turn_at _ _ _ _ _ _ _ Hat.out.here).mono ?_
      rintro e w2 ⟨p, q, rfl, hc2⟩
      have H2 := Lib.hid (show At B w0 a len cap c w2 from ⟨hc2.1, Hat.out.2.trans hc2.2⟩)
      have R2 := Lib.hid (own_kp Hown.out hc2.2 hcs)
      have s2 : w.heap.size ≤ w2.heap.size := by have := hc2.2.size; omega
      clear hc2
      go_wp2_with fail
      refine (l1Some_at _ _ _ _ _ _ _ (H2.out.here.draw _)).mono ?_
      rintro e w3 ⟨g1, rfl, hg1, hc3⟩
      have H3 := Lib.hid (show At B w0 a len cap c w3 from ⟨hc3.1, H2.out.2.trans hc3.2⟩)
      have R3 := Lib.hid (own_kp R2.out hc3.2 hcs)
      have s3 : w.heap.size ≤ w3.heap.size := by have := hc3.2.size; omega
      clear hc3
      go_wp2_with fail
      refine (l1Some_at _ _ _ _ _ _ _ (H3.out.here.draw _)).mono ?_
      rintro e w4 ⟨g2, rfl, hg2, hc4⟩
      have H4 := Lib.hid (show At B w0 a len cap c w4 from ⟨hc4.1, H3.out.2.trans hc4.2⟩)
      have R4 := Lib.hid (own_kp R3.out hc4.2 hcs)
      have s4 : w.heap.size ≤ w4.heap.size := by have := hc4.2.size; omega
      clear hc4
      obtain ⟨m4, hm4⟩ : ∃ m : W4, m = ⟨fcv w2 .f32 p .f64, fcv (w2.drewN (fcd .f32 p .f64)) .f32 q .f64, fres w3 .quo .f64 g1 4652218415073722368, fres w4 .quo .f64 g2 4652218415073722368⟩ := ⟨_, rfl⟩
      have Hm4 := Lib.hid (show m4.bits from by rw [hm4]; exact ⟨fcv_up_lt _ _, fcv_up_lt _ _, fres_wf _ _ _ _ _, fres_wf _ _ _ _ _⟩)
      have e1 : fcv w2 .f32 p .f64 = m4.a := by rw [hm4]
      have e2 : fcv (w2.drewN (fcd .f32 p .f64)) .f32 q .f64 = m4.b := by rw [hm4]
      have e3 : fres w3 .quo .f64 g1 4652218415073722368 = m4.c := by rw [hm4]
      have e4 : fres w4 .quo .f64 g2 4652218415073722368 = m4.d := by rw [hm4]
      clear hm4
      simp only [e1, e2, e3]
      obtain ⟨w5, hw5⟩ : ∃ w5, w5 = (w4.alloc (.cells #[.complex .f64 m4.a m4.b, .complex .f64 m4.c m4.d] 115 (0, 0))).drewN (fdr .quo .f64 g2 4652218415073722368) := ⟨_, rfl⟩
      have Ew5 := Lib.hid hw5
      have hW5 : WLoc B w0 a len cap c w.heap.size k ms (.slice va vn vc) w4.heap.size w5 := by
        rw [hw5]
        refine WLoc.nw ⟨H4.out.alloc _, ⟨by have := H4.out.1.2.1; omega, by omega, by omega⟩, ⟨m4, Hm4.out, new2 _ _ _ _⟩, R4.out.alloc _, ?_⟩ ((Nw.refl _).draw _)
        intro e
        have := (R4.out.lt _ e).2
        omega
      have HW5 := Lib.hid hW5
      have Hok' := Hok.out
      clear hw5 hW5 H2 H3 H4 R2 R3 R4
      go_wp2_with fail
      rw [← Ew5.out]
      clear Ew5
      refine (below_at _ _ _ _ _ _ _ (by omega) (by omega) _ HW5.out.1.here).mono ?_
      rintro e w6 ⟨x6, x60, x61, rfl, hc6⟩
      have HW6 := Lib.hid (HW5.out.step hcs hc6)
      have hb6 : w4.heap.size ≠ c := HW6.out.2.1.1
      clear hc6 e1 e2 e3 e4
      obtain ⟨bm, hbm⟩ : ∃ bm, bm = w4.heap.size := ⟨_, rfl⟩
      rw [← hbm] at HW6 hb6
      rw [← hbm]
      have hbmw : w.heap.size ≤ bm := by rw [hbm]; exact s4
      clear hbm
      go_upto_block 2 with fail
      go_cut [] (fun wx => WLoc B w0 a len cap c w.heap.size k ms (.slice va vn vc) bm wx)
      case first =>
        obtain ⟨m5, hm5, hx5⟩ := HW6.out.2.2.1
        obtain ⟨⟨c0, f0⟩, ⟨c1, f1⟩⟩ := two_at hx5
        by_cases h0 : x6 = 0
        · subst h0
          have hq : ∀ z, fdr .quo .f64 (floatOfInt .f64 z) 4652016104934211584 = 0 := fun z => quo_calm (int_nn _ _) (show FloatKind.f64.decode 4652016104934211584 = .number false 8804889115230208 (-43) by decide) (by decide)
          have hf : ∀ (z : Int) (w : World), fres w .quo .f64 (floatOfInt .f64 z) 4652016104934211584 = (floatBits .quo .f64 (floatOfInt .f64 z) 4652016104934211584).getD 0 := fun z w => fres_calm (hq z) w
          have hq2 : ∀ (z : Int) (w : World), (binOp .quo 26 (.float .f64 (floatOfInt .f64 z)) (.float .f64 4652016104934211584)).run Tryz.prog w = .ok (.float .f64 ((floatBits .quo .f64 (floatOfInt .f64 z) 4652016104934211584).getD 0)) w := by
            intro z w
            rw [run_fl_quo, hq, hf]; rfl
          have Hx5 := Lib.hid (show HasC (w6.drewN 1) bm [.complex .f64 m5.a m5.b, .complex .f64 m5.c m5.d] from hx5.draw 1)
          have HA := Lib.hid (HW6.out.nw ((Nw.refl _).draw 1))
          have Ha := Lib.hid HA.out.1
          clear hx5
          go_wp2_with fail
          go_region_with
            (first
              | (go_at_call 121; refine (below_at B _ a len cap c 1000 (by omega) (by omega) _ Ha.out.here).mono ?_; rintro e w7 ⟨x7, x70, x71, rfl, hc7⟩; have HW7 := Lib.hid (HA.out.step hcs hc7); have h7 : w7.cell? ⟨bm, 0, none⟩ = some (.complex .f64 m5.a m5.b) := (two_at (Hx5.out.kp hc7.2 hb6)).1.1; have h7f : w7.frozen? ⟨bm, 0, none⟩ = false := (two_at (Hx5.out.kp hc7.2 hb6)).1.2)
              | (go_at_call 126; refine (scaleSpecD_any _ _ _ _).mono ?_; rintro e w8 ⟨w9, n8, rfl, rfl⟩))
          all_goals
            go_wp2_with fail
            go_meet
            exact (HW7.out.set0 _ _ (fres_wf _ _ _ _ _) (fres_wf _ _ _ _ _)).nw ((Nw.refl _).draw _)
        · by_cases h1 : x6 = 1
          · subst h1
            go_wp2_with fail
            refine (below_at _ _ _ _ _ _ _ (by omega) (by omega) _ HW6.out.1.here).mono ?_
            rintro e w7 ⟨x7, x70, x71, rfl, hc7⟩
            have HW7 := Lib.hid (HW6.out.step hcs hc7)
            clear hc7 c0 f0 c1 f1
            go_wp2_with fail
            refine (below_at _ _ _ _ _ _ _ (by omega) (by omega) _ (HW7.out.1.here.draw _)).mono ?_
            rintro e w8 ⟨x8, x80, x81, rfl, hc8⟩
            have HW8 := Lib.hid (HW7.out.step hcs hc8)
            clear hc8
            obtain ⟨m8, hm8, hx8⟩ := HW8.out.2.2.1
            obtain ⟨⟨c0, f0⟩, ⟨c1, f1⟩⟩ := two_at hx8
            go_wp2_with fail
            go_meet
            exact (HW8.out.set0 _ _ (fres_wf _ _ _ _ _) (fres_wf _ _ _ _ _)).nw ((Nw.refl _).draw _)
          · go_wp2_with fail
            go_meet
            exact HW6.out
      case rest =>
        have Hl := Lib.hid hcut
        clear hcut HW6
        go_wp2_with fail
        refine (once_at _ _ _ _ _ _ _ (by omega) (by omega) _ Hl.out.1.here).mono ?_
        rintro e w7 ⟨b7, rfl, hc7⟩
        have Hl := Lib.hid (Hl.out.step hcs hc7)
        clear hc7
        go_upto_if 49 with fail
        go_cut [] (fun wx => WLoc B w0 a len cap c w.heap.size k ms (.slice va vn vc) bm wx)
        case first =>
          cases b7
          · go_wp2_with fail
            go_meet
            exact Hl.out
          · go_wp2_with fail
            refine (l1Double_at _ _ _ _ _ _ _ Hl.out.1.here).mono ?_
            rintro e w8 ⟨x8, y8, rfl, hx8, hy8, hc8⟩
            have Hl := Lib.hid (Hl.out.step hcs hc8)
            clear hc8
            obtain ⟨m8, hm8, hb8⟩ := Hl.out.2.2.1
            obtain ⟨⟨c0, f0⟩, ⟨c1, f1⟩⟩ := two_at hb8
            go_wp2_with fail
            go_meet
            exact Hl.out.set0 _ _ hx8 hy8
        case rest =>
          have Hl := Lib.hid hcut
          clear hcut
          go_wp2_with fail
          refine (once_at _ _ _ _ _ _ _ (by omega) (by omega) _ Hl.out.1.here).mono ?_
          rintro e w8 ⟨b8, rfl, hc8⟩
          have Hl := Lib.hid (Hl.out.step hcs hc8)
          clear hc8
          go_upto_if 54 with fail
          go_cut [] (fun wx => WLoc B w0 a len cap c w.heap.size k ms (.slice va vn vc) bm wx)
          case first =>
            cases b8
            · go_wp2_with fail
              go_meet
              exact Hl.out
            · go_wp2_with fail
              refine (l1Double_at _ _ _ _ _ _ _ Hl.out.1.here).mono ?_
              rintro e w9 ⟨x9, y9, rfl, hx9, hy9, hc9⟩
              have Hl := Lib.hid (Hl.out.step hcs hc9)
              clear hc9
              obtain ⟨m9, hm9, hb9⟩ := Hl.out.2.2.1
              obtain ⟨⟨c0, f0⟩, ⟨c1, f1⟩⟩ := two_at hb9
              go_wp2_with fail
              go_meet
              exact Hl.out.set1 _ _ hx9 hy9
          case rest =>
            have Hl := Lib.hid hcut
            clear hcut
            obtain ⟨m9, hm9, hb9⟩ := Hl.out.2.2.1
            obtain ⟨⟨c0, f0⟩, ⟨c1, f1⟩⟩ := two_at hb9
            have Hm9 := Lib.hid hm9
            obtain ⟨ma, mb, mc, md⟩ := m9
            simp only at c0 c1
            have Ho := Lib.hid Hl.out.2.2.2.1
            have hlen : vn = ms.length := by
              obtain ⟨ta, tc, ht⟩ := own_shape' Ho.out
              cases ht; rfl
            subst hlen
            go_wp2_with (at_builtin; refine wpList_append_own _ rfl _ _ 45 rfl w.heap.size 115 i0 (.agg #[.complex .f64 0 0, .complex .f64 0 0]) 2 32 Tryz.underlying45 hi hz0 hz1 hz2 rfl (by decide) _ _ _ rfl (Ho.out.alloc _) ⟨wc.heap.size, 0, none⟩ 1 1 [.complex .f64 ma mb, .complex .f64 mc md] rfl rfl ?c1 ?c2 ?c3 ?c4 ?c5 ?_)
            case c1 =>
              intro j u hj
              match j, hj with
              | 0, hj => simp at hj; subst hj; simp [Addr.add]
              | 1, hj => simp at hj; subst hj; simp [Addr.add]
            case c2 => intro u hu; simp at hu; rcases hu with rfl | rfl <;> rfl
            case c3 => unfold maxLen; omega
            case c4 => omega
            case c5 => have := hb9.1; simp; omega
            · intro v' w9 hown9 hgrow _
              have hrow : ∀ q, (Value.slice va ms.length vc).ownBlock = some q → w.heap.size ≤ q := fun q hq => own_ge Ho.out q hq
              have Hc9 := Lib.hid ((Hl.out.1.alloc _).grown hgrow hrow hcs (by omega) (by omega))
              have Hs9 := Lib.hid (show w.heap.size ≤ w9.heap.size from by have := hgrow.size; have := hb9.1; simp at *; omega)
              rw [show cellsW ms ++ [Value.complex .f64 ma mb, Value.complex .f64 mc md] = cellsW (ms ++ [⟨ma, mb, mc, md⟩]) from (cellsW_snoc ms ⟨ma, mb, mc, md⟩).symm, show ms.length + 1 = (ms ++ [(⟨ma, mb, mc, md⟩ : W4)]).length from by simp] at hown9
              obtain ⟨ta, tl, tc, rfl⟩ := own_shape hown9
              have Hown9 := Lib.hid hown9
              have Hok9 := Lib.hid (show ∀ m ∈ ms ++ [(⟨ma, mb, mc, md⟩ : W4)], m.bits from by
                intro m hm
                rcases List.mem_append.1 hm with hm | hm
                · exact Hok.out m hm
                · simp at hm; subst hm; exact Hm9.out)
              clear hown9 hgrow hrow c0 f0 c1 f1
              go_wp2_with fail
              go_roundw
              case rel => exact ⟨k - 1, ms ++ [⟨ma, mb, mc, md⟩], by rw [show ((k - 1 : Nat) : Int) = (k : Int) - 1 from by omega], by simp; omega, Hc9.out, Hown9.out, Hok9.out, Hs9.out⟩
              case measure => simp only [intOf]; omega
    · go_wp2_with fail
      refine (once_at _ _ _ _ _ _ _ (by omega) (by omega) _ Hat.out.here).mono ?_
      rintro e w2 ⟨b, rfl, hc2⟩
      have H2 := Lib.hid (show At B w0 a len cap c w2 from ⟨hc2.1, Hat.out.2.trans hc2.2⟩)
      have R2 := Lib.hid (own_kp Hown.out hc2.2 hcs)
      have s2 : w.heap.size ≤ w2.heap.size := by have := hc2.2.size; omega
      clear hc2
      have hlen : vn = ms.length := by
        obtain ⟨ta, tc, ht⟩ := own_shape' R2.out
        cases ht; rfl
      subst hlen
      cases b
      · go_wp2_with fail
        go_ret
        exact ⟨ms, .slice va ms.length vc, rfl, by omega, Hok.out, R2.out, H2.out⟩
      · go_wp2_with (first
          | (at_make; refine wpList_make_full _ rfl _ _ 45 rfl w.heap.size 115 i0 (.agg #[.complex .f64 0 0, .complex .f64 0 0]) 2 Tryz.underlying45 hi hz0 hz1 _ _ _ _ 17 rfl rfl rfl rfl (by rw [hz2]; omega) (by unfold maxLen; omega) s2 ?_))
        intro w3 hown3 hgrow3
        have R3 := Lib.hid (show w3.ownsRow w.heap.size 115 2 (.slice (some ⟨w2.heap.size, 0, none⟩) 17 17) (List.replicate 17 (⟨0, 0, 0, 0⟩ : W4)).length (cellsW (List.replicate 17 ⟨0, 0, 0, 0⟩)) from by
          have e : (madeCells #[Value.complex .f64 0 0, Value.complex .f64 0 0] 34).toList = cellsW (List.replicate 17 ⟨0, 0, 0, 0⟩) := by rw [toList_madeCells_two]; rfl
          rw [← e]; exact hown3)
        have H3 := Lib.hid (H2.out.nw hgrow3)
        clear hown3 hgrow3
        go_wp2_with fail
        go_ret
        refine ⟨List.replicate 17 ⟨0, 0, 0, 0⟩, _, rfl, by simp, ?_, R3.out, H3.out⟩
        intro m hm
        rw [List.eq_of_mem_replicate hm]
        exact ⟨by decide, by decide, by decide, by decide⟩

/-- a valid list of wide modes, of memory of its own -/
def MadeW (w : World) (e : Ending) (w' : World) : Prop := ∃ (ms : List W4) (v : Value), e = .returned v ∧ areB ms = true ∧ (∀ m ∈ ms, m.bits) ∧ w'.ownsRow w.heap.size 115 2 v ms.length (cellsW ms) ∧ Nw w w'
theorem makeWide_any (a : Option Addr) (len cap : Nat) (w : World) (hb : Bys w.heap.size a len w) :
    Calls Tryz.prog 18 #[.slice a len cap] w (MadeW w) := by
  have Hb := Lib.hid hb
  clear hb
  go_enter Tryz.func18, Tryz.ntmps18
  go_wp2_with fail
  refine (l01New_any _ _ _ _ Hb.out).mono ?_
  rintro e w1 ⟨rfl, hat⟩
  have Hn1 := Lib.hid (show Nw w w1 from hat.2.nw (by simp))
  have Hat := Lib.hid hat
  clear hat
  go_wp2_with fail
  refine (l6Draw_at _ _ _ _ _ _ _ Hat.out.here).mono ?_
  rintro e w2 ⟨ms, v, rfl, hms, hok, hown, hc2⟩
  have Hn2 := Lib.hid (show Nw w w2 from ⟨hc2.2.os.trans Hn1.out.os, hc2.2.tape.trans Hn1.out.tape, hc2.2.output.trans Hn1.out.output, Nat.le_trans Hn1.out.size hc2.2.size,
    fun k hk hne => (hc2.2.block k (Nat.lt_of_lt_of_le hk Hn1.out.size) (fun e => by cases e; omega)).trans (Hn1.out.block k hk hne)⟩)
  obtain ⟨n, hn⟩ : ∃ n, n = ms.length := ⟨_, rfl⟩
  rw [← hn] at hown hms
  have Hn := Lib.hid hn.symm
  obtain ⟨va, vc, rfl⟩ := own_shape' hown
  have Hown := Lib.hid (own_base hown Hn1.out.size)
  have Hok := Lib.hid hok
  clear hc2 hown hok hn
  go_wp2_with fail
  refine (specAreWide_any ms n _ _ Hn.out (by omega) _ Hown.out).mono ?_
  rintro e w3 ⟨rfl, n3⟩
  have Hn3 := Lib.hid (Hn2.out.trans n3)
  have Hown3 := Lib.hid (own_nw Hown.out n3)
  clear n3
  cases hb : areB ms with
  | false =>
    go_wp2_with fail
    go_ret
    exact ⟨[], .slice none 0 0, rfl, rfl, by simp, World.ownsRow_nil _ _ _ _, Hn3.out⟩
  | true =>
    go_wp2_with fail
    go_ret
    exact ⟨ms, .slice va n vc, rfl, hb, Hok.out, by rw [Hn.out]; exact Hown3.out, Hn3.out⟩

end Go.Proofs.YtnmjkjjmigiabaaGreatDoor

/- What FnWritten asks beside: sums of a number and itself, rows of one number.
   Conditions: those that each statement names. -/
namespace Go.Proofs.YtnmjkjjmigiabaaGreatDoor
set_option linter.unusedSimpArgs false
set_option linter.unusedVariables false
open Go Go.RowKit

theorem sub_self_fin32 (w : World) (x : Nat) : (FloatKind.f32.format.order (fres w .sub .f32 x x) 0 == some .eq) = fin .f32 x := by
  cases h : fin .f32 x with
  | true =>
    have hx := (fin_iff .f32 x).1 h
    obtain ⟨s, m, i, hr⟩ := hx
    have e : floatBits .sub .f32 x x = some 0 := by
      unfold floatBits Ieee.Format.sub
      rw [hr]
      unfold Ieee.Datum.opposite Ieee.Datum.sum
      simp only [Int.min_self, Int.sub_self, Int.toNat_zero]
      have : Ieee.signed s m 0 + Ieee.signed (!s) m 0 = 0 := by unfold Ieee.signed; cases s <;> simp <;> omega
      rw [this]
      cases s <;> rfl
    have : fres w .sub .f32 x x = 0 := by unfold fres; rw [e]
    rw [this]; decide
  | false =>
    have hn : floatBits .sub .f32 x x = none := by
      unfold floatBits Ieee.Format.sub
      unfold fin FloatKind.decode at h
      cases hd : FloatKind.f32.format.read x with
      | number => rw [hd] at h; simp at h
      | infinity s => cases s <;> rfl
      | nan => simp [Ieee.Datum.sum]
    have hN : (FloatKind.f32.decode (fres w .sub .f32 x x)).isNaN = true := by
      unfold fres; rw [hn]; exact nan_cut _ _ _ _
    unfold FloatKind.decode at hN
    unfold Ieee.Format.order
    cases hd : FloatKind.f32.format.read (fres w .sub .f32 x x) <;> rw [hd] at hN <;> simp [Ieee.Datum.isNaN] at hN
    simp [Ieee.Datum.order]

theorem own_litS (w : World) (x : Nat) : (w.alloc (.cells #[.float .f32 x] 25 (0, 0))).ownsRow w.heap.size 25 1 (.slice (some ⟨w.heap.size, 0, none⟩) 1 1) 1 (cellsS [x]) :=
  ⟨by simp [cellsS], .inr ⟨w.heap.size, 1, #[.float .f32 x], rfl, Nat.le_refl _, by show (w.heap.push _)[w.heap.size]? = _; simp, Nat.le_refl _, by unfold maxLen; omega, rfl, by simp [cellsS]⟩⟩
theorem bys_nw {w w1 : World} {a : Option Addr} {len : Nat} (h : Bys w.heap.size a len w) (hb : Nw w w1) : Bys w1.heap.size a len w1 :=
  (h.below ⟨hb.os, hb.tape, hb.output, hb.size, fun k hk => hb.block k hk (by simp)⟩).mono hb.size
end Go.Proofs.YtnmjkjjmigiabaaGreatDoor

/- The walk of RingDouble, where no NaN and no infinity is met: bit for bit.
   Conditions: those that each statement names. -/
namespace Go.Proofs.YtnmjkjjmigiabaaGreatDoor
set_option linter.unusedSimpArgs false
set_option linter.unusedVariables false
open Go Go.RowKit

def stepAllD (ms : List M4) (ss : List (Nat × Nat)) (x : Nat) : List (Nat × Nat) := List.zipWith (fun m s => stepD m s x) ms ss
def outD (ss : List (Nat × Nat)) : Nat := ss.foldl (fun y s => opB .add .f64 y s.1) 0
def cellsD (ss : List (Nat × Nat)) : List Value := ss.map fun s => .complex .f64 s.1 s.2
def cellsF (xs : List Nat) : List Value := xs.map (Value.float .f64)
def SumDOk (ss : List (Nat × Nat)) : Prop := ∀ (k : Nat) s, ss[k]? = some s → Calm .add .f64 (outD (ss.take k)) s.1
theorem outD_take (ss : List (Nat × Nat)) (k : Nat) (s : Nat × Nat) (h : ss[k]? = some s) : outD (ss.take (k + 1)) = opB .add .f64 (outD (ss.take k)) s.1 := by
  obtain ⟨hk, he⟩ := List.getElem?_eq_some_iff.1 h
  rw [List.take_succ_eq_append_getElem hk, he]
  simp [outD, List.foldl_append]
def mixedD (ms : List M4) (ss : List (Nat × Nat)) (x k : Nat) : List (Nat × Nat) := (stepAllD ms ss x).take k ++ ss.drop k
theorem mixedD_at (ms : List M4) (ss : List (Nat × Nat)) (x k : Nat) (s : Nat × Nat) (hl : ms.length = ss.length) (h : ss[k]? = some s) : (cellsD (mixedD ms ss x k))[k]? = some (.complex .f64 s.1 s.2) := by
  have hk := (List.getElem?_eq_some_iff.1 h).1
  have hlen : ((stepAllD ms ss x).take k).length = k := by simp [stepAllD]; omega
  unfold mixedD cellsD
  rw [List.getElem?_map, List.getElem?_append_right (by omega), hlen, Nat.sub_self, List.getElem?_drop, Nat.add_zero, h]
  rfl
theorem stepAllD_at (ms : List M4) (ss : List (Nat × Nat)) (x k : Nat) (m : M4) (s : Nat × Nat) (hm : ms[k]? = some m) (hs : ss[k]? = some s) : (stepAllD ms ss x)[k]? = some (stepD m s x) := by
  unfold stepAllD; rw [List.getElem?_zipWith, hm, hs]
theorem mixedD_step (ms : List M4) (ss : List (Nat × Nat)) (x k : Nat) (m : M4) (s : Nat × Nat) (hm : ms[k]? = some m) (hs : ss[k]? = some s) :
    (cellsD (mixedD ms ss x k)).set k (.complex .f64 (stepD m s x).1 (stepD m s x).2) = cellsD (mixedD ms ss x (k + 1)) := by
  obtain ⟨hkm, -⟩ := List.getElem?_eq_some_iff.1 hm
  obtain ⟨hks, hse⟩ := List.getElem?_eq_some_iff.1 hs
  have hat := stepAllD_at ms ss x k m s hm hs
  obtain ⟨hka, hae⟩ := List.getElem?_eq_some_iff.1 hat
  unfold mixedD
  rw [List.take_succ_eq_append_getElem hka, hae, List.drop_eq_getElem_cons hks, hse]
  simp only [cellsD, List.map_append, List.map_cons, List.map_nil, List.append_assoc, List.singleton_append]
  rw [List.set_append_right _ _ (by simp [stepAllD]; omega)]
  simp [stepAllD, show k - min k (min ms.length ss.length) = 0 from by omega]
theorem mixedD_after (ms : List M4) (ss : List (Nat × Nat)) (x k : Nat) (m : M4) (s : Nat × Nat) (hm : ms[k]? = some m) (hs : ss[k]? = some s) :
    (cellsD (mixedD ms ss x (k + 1)))[k]? = some (.complex .f64 (stepD m s x).1 (stepD m s x).2) := by
  obtain ⟨hkm, -⟩ := List.getElem?_eq_some_iff.1 hm
  obtain ⟨hks, hse⟩ := List.getElem?_eq_some_iff.1 hs
  rw [← mixedD_step ms ss x k m s hm hs, List.getElem?_set_self]
  simp [cellsD, mixedD, stepAllD]; omega
theorem mixedD_full (ms : List M4) (ss : List (Nat × Nat)) (x : Nat) (hl : ms.length = ss.length) : mixedD ms ss x ms.length = stepAllD ms ss x := by
  unfold mixedD
  rw [List.take_of_length_le (by simp [stepAllD]; omega), List.drop_of_length_le (by omega), List.append_nil]

def stDAt (ms : List M4) (x : Nat → Nat) : Nat → List (Nat × Nat)
  | 0 => ms.map fun _ => (0, 0)
  | i + 1 => stepAllD ms (stDAt ms x i) (wid (x i))
theorem stDAt_len (ms : List M4) (x : Nat → Nat) : ∀ i, (stDAt ms x i).length = ms.length
  | 0 => by simp [stDAt]
  | i + 1 => by simp [stDAt, stepAllD, stDAt_len ms x i]
def RingDOk (ms : List M4) (x : Nat → Nat) (n : Nat) : Prop :=
  ∀ i, i < n → Sm (x i) ∧ (∀ (k : Nat) m s, ms[k]? = some m → (stDAt ms x i)[k]? = some s → StepDOk m s (wid (x i))) ∧ SumDOk (stDAt ms x (i + 1))
def ringD (ms : List M4) (x : Nat → Nat) (n : Nat) : List Nat := (List.range n).map fun i => outD (stDAt ms x (i + 1))

/-- the outputs when k steps are done, and the next one is y so far -/
def outsDAt (ms : List M4) (x : Nat → Nat) (n k y : Nat) : List Nat := ((ringD ms x n).take k ++ List.replicate (n - k) 0).set k y
theorem outsD_zero (ms : List M4) (x : Nat → Nat) (n : Nat) : cellsF (outsDAt ms x n 0 0) = List.replicate n (.float .f64 0) := by
  unfold outsDAt cellsF
  cases n <;> simp [List.replicate_succ]
theorem outsD_cell (ms : List M4) (x : Nat → Nat) (n k y : Nat) (h : k < n) : (cellsF (outsDAt ms x n k y))[k]? = some (.float .f64 y) := by
  unfold outsDAt cellsF
  rw [List.getElem?_map, List.getElem?_set_self (by simp [ringD]; omega)]; rfl
theorem outsD_set (ms : List M4) (x : Nat → Nat) (n k y z : Nat) : (cellsF (outsDAt ms x n k y)).set k (.float .f64 z) = cellsF (outsDAt ms x n k z) := by
  unfold outsDAt cellsF
  rw [List.map_set, List.set_set, List.map_set]
theorem outsD_next (ms : List M4) (x : Nat → Nat) (n k : Nat) (h : k < n) : outsDAt ms x n k (outD (stDAt ms x (k + 1))) = outsDAt ms x n (k + 1) 0 := by
  have hk : k < (ringD ms x n).length := by simpa [ringD] using h
  have hv : (ringD ms x n)[k] = outD (stDAt ms x (k + 1)) := by simp [ringD]
  unfold outsDAt
  rw [List.take_succ_eq_append_getElem hk, hv, show n - k = (n - (k + 1)) + 1 from by omega, List.replicate_succ]
  rw [List.set_append_right _ _ (by simp [ringD]; omega)]
  have e : k - ((ringD ms x n).take k).length = 0 := by simp [ringD]; omega
  rw [e, List.set_cons_zero, List.append_assoc, List.singleton_append]
  rw [List.set_append_right _ _ (by simp [ringD]; omega)]
  have e2 : k + 1 - ((ringD ms x n).take k).length = 1 := by simp [ringD]; omega
  rw [e2, List.set_cons_succ]
  congr 2
  cases hq : n - (k + 1) <;> simp [List.replicate_succ]
theorem outsD_full (ms : List M4) (x : Nat → Nat) (n : Nat) : outsDAt ms x n n 0 = ringD ms x n := by
  unfold outsDAt; rw [List.take_of_length_le (by simp [ringD]), Nat.sub_self, List.replicate_zero, List.append_nil, List.set_eq_of_length_le (by simp [ringD])]

theorem info_c128 : (Tryz.prog.info? 23).map (fun i => (i.zero, i.size, i.bytes)) = some (some (.complex .f64 0 0), 1, 16) := by kernel_rfl
theorem info_f64 : (Tryz.prog.info? 26).map (fun i => (i.zero, i.size, i.bytes)) = some (some (.float .f64 0), 1, 8) := by kernel_rfl

/-- what holds at the head of a round: k steps are done; the states of the next one are done for the first j modes -/
def RingDI (B bb gs gu n q : Nat) (ms : List M4) (x : Nat → Nat) (bv : Value) (w : World) (k j y : Nat) (wr : World) : Prop :=
  wr.ownsRow B 23 1 (.slice (some ⟨gs, 0, none⟩) q q) q (cellsD (mixedD ms (stDAt ms x k) (wid (x k)) j)) ∧
    wr.ownsRow B 26 1 (.slice (some ⟨gu, 0, none⟩) n n) n (cellsF (outsDAt ms x n k y)) ∧ Has1 wr bb bv ∧ Nw w wr

def RingDP (B : Nat) (outs : List Nat) (w : World) (e : Ending) (w' : World) : Prop :=
  ∃ v : Value, e = .returned (.tuple #[v, .bool true]) ∧ w'.ownsRow B 26 1 v outs.length (cellsF outs) ∧ Nw w w'

def OutI (B bb gs gu n q : Nat) (ms : List M4) (x : Nat → Nat) (bv : Value) (w : World) (i : Value) (wr : World) : Prop :=
  ∃ k : Nat, k ≤ n ∧ i = .int .i64 (k : Int) ∧ RingDI B bb gs gu n q ms x bv w k 0 0 wr
def InI (B bb gs gu n q : Nat) (ms : List M4) (x : Nat → Nat) (bv : Value) (w : World) (k : Nat) (i : Value) (wr : World) : Prop :=
  ∃ j : Nat, j ≤ q ∧ i = .int .i64 (j : Int) ∧ RingDI B bb gs gu n q ms x bv w k j (outD ((stepAllD ms (stDAt ms x k) (wid (x k))).take j)) wr

end Go.Proofs.YtnmjkjjmigiabaaGreatDoor

/- Plain facts: ringing in single precision and in double precision stays near exact ringing. No program stands in it.
   Conditions: those that each statement names. -/
namespace Go.Proofs.YtnmjkjjmigiabaaGreatDoor
set_option linter.unusedSimpArgs false
set_option linter.unusedVariables false
open Go

/-! ### one mode -/
def st1 (m : M4) (x : Nat → Nat) : Nat → Nat × Nat
  | 0 => (0, 0)
  | i + 1 => stepS m (st1 m x i) (x i)
def st1D (m : M4) (x : Nat → Nat) : Nat → Nat × Nat
  | 0 => (0, 0)
  | i + 1 => stepD m (st1D m x i) (wid (x i))
theorem zip_map (f : M4 → Nat × Nat → Nat × Nat) (g : M4 → Nat × Nat) : ∀ ms : List M4, List.zipWith f ms (ms.map g) = ms.map fun m => f m (g m)
  | [] => rfl
  | m :: ms => by simp [zip_map f g ms]
theorem stAt_map (ms : List M4) (x : Nat → Nat) : ∀ i, stAt ms x i = ms.map fun m => st1 m x i
  | 0 => rfl
  | i + 1 => by
    simp only [stAt, stepAll, stAt_map ms x i]
    exact zip_map (fun m s => stepS m s (x i)) (fun m => st1 m x i) ms
theorem stDAt_map (ms : List M4) (x : Nat → Nat) : ∀ i, stDAt ms x i = ms.map fun m => st1D m x i
  | 0 => rfl
  | i + 1 => by
    simp only [stDAt, stepAllD, stDAt_map ms x i]
    exact zip_map (fun m s => stepD m s (wid (x i))) (fun m => st1D m x i) ms

def gm (m : M4) : Rat := ra (S m.gr) + ra (S m.gi)
theorem gm_nonneg (m : M4) : 0 ≤ gm m := by unfold gm; have := ra_nonneg (S m.gr); have := ra_nonneg (S m.gi); grind
/-- bounds, by the product P of a mode's gain and the input's sum -/
def bM' (P : Rat) : Rat := 26 / 25 * P + 60000 * Flo.es
def bM (P : Rat) : Rat := 21 / 20 * P + 65536 * Flo.es
def bL (P : Rat) : Rat := (2 * bM P + 2 * P) * Flo.v + (bM P + bM' P + P) * Flo.v / 1024 + 6 * Flo.es
theorem bL_le (P : Rat) (hP : 0 ≤ P) : 0 ≤ bL P ∧ bL P ≤ 42 / 10 * (P * Flo.v) + 7 * Flo.es := by
  have ve := Flo.v_eq
  have hv : Flo.v = 1 / 16777216 := by grind
  have e0 := Flo.es_pos
  unfold bL bM bM'
  rw [hv]
  constructor <;> grind
theorem bM'_ok (P : Rat) (hP : 0 ≤ P) (n : Nat) (hn : n ≤ 2000) : 51 / 50 * (P + (n : Rat) * (3 / 2 * bL P)) ≤ bM' P := by
  obtain ⟨h0, h1⟩ := bL_le P hP
  have hn1 : (n : Rat) ≤ 2000 := by
    have : ((n : Nat) : Rat) ≤ ((2000 : Nat) : Rat) := by exact_mod_cast hn
    exact this
  have hn0 : (0 : Rat) ≤ (n : Rat) := by exact_mod_cast Nat.zero_le n
  have k := Rat.mul_le_mul_of_nonneg_right hn1 (show 0 ≤ 3 / 2 * bL P by grind)
  have ve := Flo.v_eq
  have hv : Flo.v = 1 / 16777216 := by grind
  have e0 := Flo.es_pos
  rw [hv] at h1
  unfold bM'
  grind

theorem bounds_110 (P : Rat) (hP : 0 ≤ P) (h : P ≤ Flo.pw 100) : bM' P ≤ Flo.pw 110 ∧ bM P ≤ Flo.pw 110 ∧ P ≤ Flo.pw 110 := by
  have l : Flo.pw 110 = 1024 * Flo.pw 100 := by rw [show (110 : Int) = 10 + 100 from rfl, Flo.pw_add, show Flo.pw 10 = 1024 from Flo.pw_nat 10]
  have o : 1 ≤ Flo.pw 100 := by rw [← Flo.pw_zero]; exact Flo.pw_le (by omega)
  have es1 := small'.es1
  have e0 := Flo.es_pos
  unfold bM bM'
  refine ⟨by grind, by grind, by grind⟩

theorem inner_le (x : Nat → Rat) (X : Rat) (n i : Nat) (hi : i < n) (hX : ∀ i, i ≤ n → psum x i ≤ X) : ra (x i) ≤ X := by
  have h := hX (i + 1) (by omega)
  have := psum_nonneg x i
  simp only [psum] at h
  grind

/-- what one step needs, from the bound on the state -/
theorem step_in (m : M4) (hm : m.ok) (a b y X : Rat) (hy : ra y ≤ X) (hN : N a b (bM' (gm m * X))) :
    Flo.Ab (a * S m.pr - b * S m.pi) (bM (gm m * X)) ∧ Flo.Ab (a * S m.pi + b * S m.pr) (bM (gm m * X)) ∧ Flo.Ab (S m.gr * y) (gm m * X) ∧ Flo.Ab (S m.gi * y) (gm m * X) ∧ 0 ≤ gm m * X := by
  have hX0 : 0 ≤ X := by have := ra_nonneg y; grind
  have hP := Rat.mul_nonneg (gm_nonneg m) hX0
  have e0 := Flo.es_pos
  have k := (hN.mul (show (0 : Rat) ≤ 1 + 1 / 200000 by grind) (pole_T (Valid.square hm))).mono (show bM' (gm m * X) * (1 + 1 / 200000) ≤ bM (gm m * X) by unfold bM' bM; grind)
  have g := (N.gain (S m.gr) (S m.gi) y).mono (show (ra (S m.gr) + ra (S m.gi)) * ra y ≤ gm m * X from Rat.mul_le_mul_of_nonneg_left hy (gm_nonneg m))
  exact ⟨k.ab.1, k.ab.2, g.ab.1, g.ab.2, hP⟩

theorem zero_single : Sm 0 ∧ S 0 = 0 := by
  have h : Ieee.single.read 0 = .number false 0 (-149) := by decide
  exact ⟨⟨_, _, _, h⟩, by rw [show S 0 = _ from Flo.V_eq h]; exact Flo.val_zero _ _⟩

theorem mode_single (m : M4) (hm : m.ok) (x : Nat → Nat) (n : Nat) (hn : n ≤ 2000) (hx : ∀ i, i < n → Sm (x i)) (X : Rat) (hX : ∀ i, i ≤ n → psum (fun j => S (x j)) i ≤ X) (hP : gm m * X ≤ Flo.pw 100) (hX0 : 0 ≤ X) :
    (∀ i, i ≤ n → (Sm (st1 m x i).1 ∧ Sm (st1 m x i).2) ∧ N (S (st1 m x i).1 - (zt (S m.pr) (S m.pi) (S m.gr) (S m.gi) (fun j => S (x j)) i).1) (S (st1 m x i).2 - (zt (S m.pr) (S m.pi) (S m.gr) (S m.gi) (fun j => S (x j)) i).2) ((i : Rat) * (3 / 2 * bL (gm m * X)) * (1 + (i : Rat) / 100000)) ∧
      N (S (st1 m x i).1) (S (st1 m x i).2) (bM' (gm m * X))) ∧ ∀ i, i < n → StepOk m (st1 m x i) (x i) := by
  have hP0 := Rat.mul_nonneg (gm_nonneg m) hX0
  obtain ⟨t1, t2, t3⟩ := bounds_110 _ hP0 hP
  have l2 := Flo.pw_le (show (110 : Int) ≤ 112 by omega)
  have one : ∀ i, i < n → (Sm (st1 m x i).1 ∧ Sm (st1 m x i).2) → N (S (st1 m x i).1) (S (st1 m x i).2) (bM' (gm m * X)) → StepOk m (st1 m x i) (x i) ∧ (Sm (st1 m x (i + 1)).1 ∧ Sm (st1 m x (i + 1)).2) ∧
      Flo.Ab (S (st1 m x (i + 1)).1 - (S (st1 m x i).1 * S m.pr - S (st1 m x i).2 * S m.pi + S m.gr * S (x i))) (bL (gm m * X)) ∧ Flo.Ab (S (st1 m x (i + 1)).2 - (S (st1 m x i).1 * S m.pi + S (st1 m x i).2 * S m.pr + S m.gi * S (x i))) (bL (gm m * X)) := by
    intro i hi q hN
    obtain ⟨k1, k2, k3, k4, -⟩ := step_in m hm _ _ (S (x i)) X (inner_le (fun j => S (x j)) X n i hi hX) hN
    obtain ⟨a1, a2, a3, a4, a5⟩ := step_ok m hm (st1 m x i) (x i) q.1 q.2 (hx i hi) (bM' (gm m * X)) (bM (gm m * X)) (gm m * X) hN.ab.1 hN.ab.2 k1 k2 k3 k4 t1 (by grind) (by grind)
    exact ⟨a1, ⟨a2, a3⟩, a4.mono (by unfold bL; exact Rat.le_refl), a5.mono (by unfold bL; exact Rat.le_refl)⟩
  have tr := traj (S m.pr) (S m.pi) (S m.gr) (S m.gi) (fun j => S (x j)) (Valid.square hm) (fun i => (S (st1 m x i).1, S (st1 m x i).2)) (by simp only [st1]; rw [zero_single.2]) X (bM' (gm m * X)) (bL (gm m * X)) n hn (bL_le _ hP0).1 hX (bM'_ok _ hP0 n hn) (fun i => Sm (st1 m x i).1 ∧ Sm (st1 m x i).2) ⟨zero_single.1, zero_single.1⟩ (fun i hi q hN => (one i hi q hN).2)
  exact ⟨tr, fun i hi => (one i hi (tr i (by omega)).1 (tr i (by omega)).2.2).1⟩

theorem mode_double (m : M4) (hm : m.ok) (x : Nat → Nat) (n : Nat) (hn : n ≤ 2000) (hx : ∀ i, i < n → Sm (x i)) (X : Rat) (hX : ∀ i, i ≤ n → psum (fun j => S (x j)) i ≤ X) (hP : gm m * X ≤ Flo.pw 100) (hX0 : 0 ≤ X) :
    (∀ i, i ≤ n → (Flo.Nm (st1D m x i).1 ∧ Flo.Nm (st1D m x i).2) ∧ N (Flo.W (st1D m x i).1 - (zt (S m.pr) (S m.pi) (S m.gr) (S m.gi) (fun j => S (x j)) i).1) (Flo.W (st1D m x i).2 - (zt (S m.pr) (S m.pi) (S m.gr) (S m.gi) (fun j => S (x j)) i).2) ((i : Rat) * (3 / 2 * bL (gm m * X)) * (1 + (i : Rat) / 100000)) ∧
      N (Flo.W (st1D m x i).1) (Flo.W (st1D m x i).2) (bM' (gm m * X))) ∧ ∀ i, i < n → StepDOk m (st1D m x i) (wid (x i)) := by
  have hP0 := Rat.mul_nonneg (gm_nonneg m) hX0
  obtain ⟨t1, t2, t3⟩ := bounds_110 _ hP0 hP
  have l2 := Flo.pw_le (show (110 : Int) ≤ 112 by omega)
  have one : ∀ i, i < n → (Flo.Nm (st1D m x i).1 ∧ Flo.Nm (st1D m x i).2) → N (Flo.W (st1D m x i).1) (Flo.W (st1D m x i).2) (bM' (gm m * X)) → StepDOk m (st1D m x i) (wid (x i)) ∧ (Flo.Nm (st1D m x (i + 1)).1 ∧ Flo.Nm (st1D m x (i + 1)).2) ∧
      Flo.Ab (Flo.W (st1D m x (i + 1)).1 - (Flo.W (st1D m x i).1 * S m.pr - Flo.W (st1D m x i).2 * S m.pi + S m.gr * S (x i))) (bL (gm m * X)) ∧ Flo.Ab (Flo.W (st1D m x (i + 1)).2 - (Flo.W (st1D m x i).1 * S m.pi + Flo.W (st1D m x i).2 * S m.pr + S m.gi * S (x i))) (bL (gm m * X)) := by
    intro i hi q hN
    obtain ⟨k1, k2, k3, k4, -⟩ := step_in m hm _ _ (S (x i)) X (inner_le (fun j => S (x j)) X n i hi hX) hN
    obtain ⟨nx, vx⟩ := wid_num (hx i hi)
    rw [← vx] at k3 k4
    obtain ⟨a1, a2, a3, a4, a5⟩ := stepD_ok m hm (st1D m x i) (wid (x i)) q.1 q.2 nx (bM' (gm m * X)) (bM (gm m * X)) (gm m * X) hN.ab.1 hN.ab.2 k1 k2 k3 k4 t1 (by grind) (by grind)
    rw [vx] at a4 a5
    exact ⟨a1, ⟨a2, a3⟩, a4.mono (by unfold bL; exact Rat.le_refl), a5.mono (by unfold bL; exact Rat.le_refl)⟩
  have tr := traj (S m.pr) (S m.pi) (S m.gr) (S m.gi) (fun j => S (x j)) (Valid.square hm) (fun i => (Flo.W (st1D m x i).1, Flo.W (st1D m x i).2)) (by simp only [st1D]; rw [zero_num.2]) X (bM' (gm m * X)) (bL (gm m * X)) n hn (bL_le _ hP0).1 hX (bM'_ok _ hP0 n hn) (fun i => Flo.Nm (st1D m x i).1 ∧ Flo.Nm (st1D m x i).2) ⟨zero_num.1, zero_num.1⟩ (fun i hi q hN => (one i hi q hN).2)
  exact ⟨tr, fun i hi => (one i hi (tr i (by omega)).1 (tr i (by omega)).2.2).1⟩

end Go.Proofs.YtnmjkjjmigiabaaGreatDoor

/- Equal numbers, 0 and -0 alike: every operation takes equal numbers to equal numbers; what is read decides what an operation gives. No program stands in it.
   Conditions: none beyond those that each statement names. -/
namespace Go.Proofs.YtnmjkjjmigiabaaGreatDoor
set_option linter.unusedSimpArgs false
set_option linter.unusedVariables false
open Go
namespace Flo
open Ieee

def Zr (f : Format) (a : Nat) : Prop := ∃ s p, f.read a = .number s 0 p
/-- the same bits, or two zeros -/
def Ev (f : Format) (a b : Nat) : Prop := a = b ∨ (Zr f a ∧ Zr f b)
theorem Ev.refl (f : Format) (a : Nat) : Ev f a a := .inl rfl
theorem Ev.symm {f : Format} {a b : Nat} (h : Ev f a b) : Ev f b a := by
  rcases h with rfl | ⟨h1, h2⟩
  · exact .inl rfl
  · exact .inr ⟨h2, h1⟩
theorem Ev.trans {f : Format} {a b c : Nat} (h : Ev f a b) (k : Ev f b c) : Ev f a c := by
  rcases h with rfl | ⟨h1, h2⟩
  · exact k
  · rcases k with rfl | ⟨k1, k2⟩
    · exact .inr ⟨h1, h2⟩
    · exact .inr ⟨h1, k2⟩
theorem Ev.zr {f : Format} {a b : Nat} (h : Ev f a b) (k : Zr f b) : Zr f a := by
  rcases h with rfl | ⟨h1, h2⟩
  · exact k
  · exact h1
def EvO (f : Format) : Option Nat → Option Nat → Prop
  | none, none => True
  | some a, some b => Ev f a b
  | _, _ => False
theorem EvO.refl (f : Format) (a : Option Nat) : EvO f a a := by cases a <;> simp [EvO, Ev.refl]
theorem EvO.trans {f : Format} {a b c : Option Nat} (h : EvO f a b) (k : EvO f b c) : EvO f a c := by
  cases a <;> cases b <;> cases c <;> simp only [EvO] at * <;> first | trivial | contradiction | exact Ev.trans h k
theorem EvO.getD {f : Format} {a b : Option Nat} (h : EvO f a b) : Ev f (a.getD 0) (b.getD 0) := by
  cases a <;> cases b <;> simp only [EvO] at h <;> first | contradiction | exact Ev.refl f _ | exact h

theorem write_zero (f : Format) (s : Bool) (p : Int) : Zr f (f.write (.number s 0 p)) := by
  refine ⟨s, f.leastPlace, ?_⟩
  show f.read (f.nearest s 0 p) = _
  have : f.nearest s 0 p = f.word s 0 := by unfold Format.nearest; simp
  rw [this, zero_read]

/-- of equal numbers other than 0 the same word is written -/
theorem write_same (f : Format) (s : Bool) (m n : Nat) (p q : Int) (hm : m ≠ 0) (h : (m : Rat) * pw p = (n : Rat) * pw q) : f.write (.number s m p) = f.write (.number s n q) := by
  have hn : n ≠ 0 := by
    intro hn; subst hn
    exact hm (mag_zero (by rw [h]; simp))
  show f.nearest s m p = f.nearest s n q
  rw [nearest_eq f s m p hm, nearest_eq f s n q hn]
  have z1 := size_pw m p hm
  have z2 := size_pw n q hn
  have l1 : p + (m.log2 : Int) < q + n.log2 + 1 := lt_of_pw_lt (by grind)
  have l2 : q + (n.log2 : Int) < p + m.log2 + 1 := lt_of_pw_lt (by grind)
  have hl : lastOf f m p = lastOf f n q := by unfold lastOf; omega
  have k1 := kept_mono f s s m n p q hm hn (by rw [h]; exact Rat.le_refl)
  have k2 := kept_mono f s s n m q p hn hm (by rw [h]; exact Rat.le_refl)
  rw [hl] at k1 k2
  have hp := pw_pos (lastOf f n q)
  have e1 : keptOf f s m p ≤ keptOf f s n q := le_nat_of _ _ (lastOf f n q) (by grind)
  have e2 : keptOf f s n q ≤ keptOf f s m p := le_nat_of _ _ (lastOf f n q) (by grind)
  have e3 : keptOf f s m p = keptOf f s n q := by omega
  unfold rungOf
  rw [hl, e3]

theorem write_ev (f : Format) (s t : Bool) (m n : Nat) (p q : Int) (h : val s m p = val t n q) : Ev f (f.write (.number s m p)) (f.write (.number t n q)) := by
  have hm0 := mag_nonneg m p
  have hn0 := mag_nonneg n q
  by_cases hm : m = 0
  · subst hm
    have hn : n = 0 := by
      rw [val_zero] at h
      apply mag_zero (p := q)
      unfold val at h
      cases t <;> simp at h <;> grind
    subst hn
    exact .inr ⟨write_zero f s p, write_zero f t q⟩
  · have hmp : 0 < (m : Rat) * pw p := by
      rcases Classical.em ((m : Rat) * pw p ≤ 0) with h0 | h0
      · exact absurd (mag_zero h0) hm
      · grind
    have hst : s = t := by
      unfold val at h
      cases s <;> cases t <;> simp at h <;> first | rfl | (exfalso; grind)
    subst hst
    left
    apply write_same f s m n p q hm
    unfold val at h
    cases s <;> simp at h <;> grind

/-! ### the operations -/
theorem sum_zero (f : Format) (s t : Bool) (p q : Int) (d : Datum) : EvO f ((Datum.sum (.number s 0 p) d).map f.write) ((Datum.sum (.number t 0 q) d).map f.write) := by
  cases d with
  | nan a b => simp [Datum.sum, EvO]
  | infinity a => simp [Datum.sum, EvO, Ev.refl]
  | number u n j =>
    obtain ⟨a, k, b, h1, h2⟩ := sum_val s u 0 n p j
    obtain ⟨a', k', b', h1', h2'⟩ := sum_val t u 0 n q j
    rw [h1, h1']
    show Ev f _ _
    apply write_ev
    rw [h2, h2', val_zero, val_zero]
theorem sum_comm (a b : Datum) : a.sum b = b.sum a := by
  cases a <;> cases b <;> simp only [Datum.sum]
  · rename_i s m i t n j
    congr 2
    · rw [Int.min_comm, Int.add_comm]
      split <;> simp [Bool.and_comm]
    · rw [Int.min_comm, Int.add_comm]
    · exact Int.min_comm _ _
  · rename_i s t
    by_cases h : s = t
    · subst h; rfl
    · rw [if_neg h, if_neg (fun e => h e.symm)]
theorem add_ev_left (f : Format) (x x' y : Nat) (h : Ev f x x') : EvO f (f.add x y) (f.add x' y) := by
  rcases h with rfl | ⟨⟨s, p, h1⟩, ⟨t, q, h2⟩⟩
  · exact EvO.refl f _
  · unfold Format.add; rw [h1, h2]; exact sum_zero f s t p q _
theorem add_comm' (f : Format) (x y : Nat) : f.add x y = f.add y x := by unfold Format.add; rw [sum_comm]
theorem add_ev (f : Format) (x x' y y' : Nat) (h : Ev f x x') (k : Ev f y y') : EvO f (f.add x y) (f.add x' y') :=
  (add_ev_left f x x' y h).trans (by rw [add_comm' f x' y, add_comm' f x' y']; exact add_ev_left f y y' x' k)
theorem sub_ev (f : Format) (x x' y y' : Nat) (h : Ev f x x') (k : Ev f y y') : EvO f (f.sub x y) (f.sub x' y') := by
  refine EvO.trans (b := f.sub x' y) ?_ ?_
  · rcases h with rfl | ⟨⟨s, p, h1⟩, ⟨t, q, h2⟩⟩
    · exact EvO.refl f _
    · unfold Format.sub; rw [h1, h2]; exact sum_zero f s t p q _
  · rcases k with rfl | ⟨⟨s, p, h1⟩, ⟨t, q, h2⟩⟩
    · exact EvO.refl f _
    · unfold Format.sub; rw [h1, h2]
      show EvO f ((Datum.sum _ (.number (!s) 0 p)).map f.write) ((Datum.sum _ (.number (!t) 0 q)).map f.write)
      rw [sum_comm, sum_comm (f.read x')]
      exact sum_zero f _ _ p q _
theorem product_comm (a b : Datum) : a.product b = b.product a := by
  cases a <;> cases b <;> simp only [Datum.product, Bool.xor_comm, Nat.mul_comm, Int.add_comm]
theorem mul_comm' (f : Format) (x y : Nat) : f.mul x y = f.mul y x := by unfold Format.mul; rw [product_comm]
theorem mul_ev_left (f : Format) (x x' y : Nat) (h : Ev f x x') : EvO f (f.mul x y) (f.mul x' y) := by
  rcases h with rfl | ⟨⟨s, p, h1⟩, ⟨t, q, h2⟩⟩
  · exact EvO.refl f _
  · unfold Format.mul; rw [h1, h2]
    cases f.read y with
    | nan a b => simp [Datum.product, EvO]
    | infinity a => simp [Datum.product, EvO]
    | number u n j =>
      simp only [Datum.product, Nat.zero_mul, Option.map_some]
      exact .inr ⟨write_zero f _ _, write_zero f _ _⟩
theorem mul_ev (f : Format) (x x' y y' : Nat) (h : Ev f x x') (k : Ev f y y') : EvO f (f.mul x y) (f.mul x' y') :=
  (mul_ev_left f x x' y h).trans (by rw [mul_comm' f x' y, mul_comm' f x' y']; exact mul_ev_left f y y' x' k)
theorem mul_zr {f : Format} {x y : Nat} (h : Zr f x) (k : IsNum f y) : ∃ r, f.mul x y = some r ∧ Zr f r := by
  obtain ⟨s, p, h⟩ := h
  obtain ⟨t, n, j, k⟩ := k
  refine ⟨_, by unfold Format.mul; rw [h, k]; simp only [Datum.product, Nat.zero_mul]; rfl, write_zero f _ _⟩
theorem add_zr {f : Format} {x y : Nat} (h : Zr f x) (k : Zr f y) : ∃ r, f.add x y = some r ∧ Zr f r := by
  obtain ⟨s, p, h⟩ := h
  obtain ⟨t, q, k⟩ := k
  obtain ⟨a, c, b, h1, h2⟩ := sum_val s t 0 0 p q
  rw [val_zero, val_zero] at h2
  have hc : c = 0 := by
    apply mag_zero (p := b)
    unfold val at h2
    have := mag_nonneg c b
    cases a <;> simp at h2 <;> grind
  subst hc
  exact ⟨_, by unfold Format.add; rw [h, k, h1]; rfl, write_zero f _ _⟩
theorem sub_zr {f : Format} {x y : Nat} (h : Zr f x) (k : Zr f y) : ∃ r, f.sub x y = some r ∧ Zr f r := by
  obtain ⟨s, p, h⟩ := h
  obtain ⟨t, q, k⟩ := k
  obtain ⟨a, c, b, h1, h2⟩ := sum_val s (!t) 0 0 p q
  rw [val_zero, val_zero] at h2
  have hc : c = 0 := by
    apply mag_zero (p := b)
    unfold val at h2
    have := mag_nonneg c b
    cases a <;> simp at h2 <;> grind
  subst hc
  exact ⟨_, by unfold Format.sub; rw [h, k]; show (Datum.sum _ (.number (!t) 0 q)).map f.write = _; rw [h1]; rfl, write_zero f _ _⟩

/-- what is read is written, and read, as it is -/
theorem read_back (f : Format) (hbi : f.binade ≤ f.infRung) {b : Nat} {s : Bool} {m : Nat} {p : Int} (h : f.read b = .number s m p) : f.read (f.write (.number s m p)) = .number s m p := by
  have hb := bin_pos f
  have hbb : f.binade = 2 ^ f.fractionBits := rfl
  by_cases hm : m = 0
  · subst hm
    have hp : p = f.leastPlace := by
      unfold Format.read at h
      simp only at h
      split at h
      · injection h with a b c; exact c.symm
      · split at h
        · injection h with a b c; omega
        · split at h <;> cases h
    subst hp
    show f.read (f.nearest s 0 f.leastPlace) = _
    have : f.nearest s 0 f.leastPlace = f.word s 0 := by unfold Format.nearest; simp
    rw [this, zero_read]
  · -- the rung
    obtain ⟨r, hr, hrd⟩ : ∃ r, r < f.infRung ∧ (if r < f.binade then Datum.number s r f.leastPlace else .number s (f.binade + r % f.binade) (f.leastPlace + (r / f.binade - 1 : Nat))) = .number s m p := by
      unfold Format.read at h
      simp only at h
      by_cases h1 : b % f.signWeight < f.binade
      · rw [if_pos h1] at h
        injection h with a1 a2 a3
        refine ⟨b % f.signWeight, ?_, by rw [if_pos h1, a2, a3]⟩
        omega
      · rw [if_neg h1] at h
        by_cases h2 : b % f.signWeight < f.infRung
        · rw [if_pos h2] at h
          injection h with a1 a2 a3
          exact ⟨b % f.signWeight, h2, by rw [if_neg h1, a2, a3]⟩
        · rw [if_neg h2] at h
          split at h <;> cases h
    have hw : f.write (.number s m p) = f.word s r := by
      show f.nearest s m p = _
      rw [nearest_eq f s m p hm]
      by_cases h1 : r < f.binade
      · rw [if_pos h1] at hrd
        injection hrd with a1 a2 a3
        subst a2; subst a3
        have hl : lastOf f r f.leastPlace = f.leastPlace := by
          have : r.log2 < f.fractionBits := (Nat.log2_lt hm).2 (by rw [← hbb]; exact h1)
          unfold lastOf; omega
        have hk : keptOf f s r f.leastPlace = r := by
          unfold keptOf; rw [hl]; simp [Toward.cut, Nat.mod_one]
        unfold rungOf
        rw [hl, hk, Int.sub_self, Int.toNat_zero, Nat.zero_mul, Nat.zero_add, Nat.min_eq_left (Nat.le_of_lt hr)]
      · rw [if_neg h1] at hrd
        injection hrd with a1 a2 a3
        have hlt := Nat.mod_lt r hb
        have hlog : m.log2 = f.fractionBits := by
          have h3 : m < 2 ^ (f.fractionBits + 1) := by rw [Nat.pow_succ, ← hbb]; omega
          have h4 : 2 ^ f.fractionBits ≤ m := by rw [← hbb]; omega
          have h5 := (Nat.log2_lt hm).2 h3
          have h6 := (Nat.le_log2 hm).2 h4
          omega
        have hl : lastOf f m p = p := by unfold lastOf; omega
        have hk : keptOf f s m p = m := by
          unfold keptOf; rw [hl]; simp [Toward.cut, Nat.mod_one]
        have hdiv := Nat.div_add_mod r f.binade
        have hq : 1 ≤ r / f.binade := Nat.div_pos (by omega) hb
        unfold rungOf
        rw [hl, hk]
        have e1 : (p - f.leastPlace).toNat = r / f.binade - 1 := by omega
        rw [e1]
        have e2 : (r / f.binade - 1) * f.binade + m = r := by
          rw [Nat.sub_mul, Nat.one_mul, ← a2]
          have e3 : r / f.binade * f.binade = f.binade * (r / f.binade) := Nat.mul_comm _ _
          have e4 : f.binade ≤ f.binade * (r / f.binade) := Nat.le_mul_of_pos_right _ hq
          omega
        rw [e2, Nat.min_eq_left (Nat.le_of_lt hr)]
    rw [hw, read_word f s hr]
    exact hrd
end Flo
end Go.Proofs.YtnmjkjjmigiabaaGreatDoor

/- The walk of DampBody over a valid body and a factor from 0 to 1.
   Conditions: those that each statement names. -/
namespace Go.Proofs.YtnmjkjjmigiabaaGreatDoor
set_option linter.unusedSimpArgs false
set_option linter.unusedVariables false
open Go Go.RowKit

def dampM (t : Nat) (m : M4) : M4 := ⟨opB .mul .f32 m.pr t, opB .mul .f32 m.pi t, m.gr, m.gi⟩

/-- 'x >= 0 && x <= 1', where it holds -/
theorem isFactor_ok (t : Nat) (w : World) (ht : Sm t) (h0 : 0 ≤ S t) (h1 : S t ≤ 1) :
    Calls Tryz.prog 196 #[.float .f32 t] w fun e w' => e = .returned (.bool true) ∧ w = w' := by
  have n1 : Sm 1065353216 ∧ S 1065353216 = 1 := by
    have h : Ieee.single.read 1065353216 = .number false 8388608 (-23) := by decide
    refine ⟨⟨_, _, _, h⟩, ?_⟩
    rw [show S 1065353216 = _ from Flo.V_eq h]
    unfold Flo.val
    have := Flo.pw_neg_mul 23
    rw [show Flo.pw 23 = 8388608 from Flo.pw_nat 23] at this
    simp only [Bool.false_eq_true, if_false]
    have e2 : ((8388608 : Nat) : Rat) = 8388608 := rfl
    rw [e2]; grind
  have o0 := Flo.order_num Ieee.single t 0 ht zero_single.1
  have o1 := Flo.order_num Ieee.single t 1065353216 ht n1.1
  have z : Flo.V Ieee.single 0 = 0 := zero_single.2
  have z1 : Flo.V Ieee.single 1065353216 = 1 := n1.2
  have k0 : (FloatKind.f32.format.order t 0 == some .gt || FloatKind.f32.format.order t 0 == some .eq) = true := by
    rw [show FloatKind.f32.format = Ieee.single from rfl, Bool.or_eq_true, beq_iff_eq, beq_iff_eq, o0.2.2, o0.2.1, z]
    show 0 < S t ∨ S t = 0
    grind
  have k1 : (FloatKind.f32.format.order t 1065353216 == some .lt || FloatKind.f32.format.order t 1065353216 == some .eq) = true := by
    rw [show FloatKind.f32.format = Ieee.single from rfl, Bool.or_eq_true, beq_iff_eq, beq_iff_eq, o1.1, o1.2.1, z1]
    show S t < 1 ∨ S t = 1
    grind
  clear o0 o1 z z1 ht h0 h1
  go_enter Tryz.func196, Tryz.ntmps196
  go_wp2
  go_ret
  exact ⟨rfl, rfl⟩

def dampL (ms : List M4) (t k : Nat) : List M4 := (ms.take k).map (dampM t) ++ ms.drop k
theorem dampL_len (ms : List M4) (t k : Nat) : (dampL ms t k).length = ms.length := by simp [dampL]; omega
theorem dampL_zero (ms : List M4) (t : Nat) : dampL ms t 0 = ms := by simp [dampL]
theorem dampL_full (ms : List M4) (t n : Nat) (h : ms.length = n) : dampL ms t n = ms.map (dampM t) := by
  simp [dampL, List.take_of_length_le (Nat.le_of_eq h), List.drop_of_length_le (Nat.le_of_eq h)]
theorem dampL_at (ms : List M4) (t k : Nat) (m : M4) (h : ms[k]? = some m) : (dampL ms t k)[k]? = some m := by
  obtain ⟨hk, he⟩ := List.getElem?_eq_some_iff.1 h
  unfold dampL
  rw [List.getElem?_append_right (by simp; omega)]
  simp only [List.length_map, List.length_take, Nat.min_eq_left (Nat.le_of_lt hk), Nat.sub_self, List.getElem?_drop, Nat.add_zero, h]
theorem cellsM_set (l : List M4) (k : Nat) (m m' : M4) (h : l[k]? = some m) (hg : m'.gr = m.gr ∧ m'.gi = m.gi) :
    (cellsM l).set (k * 2) (.complex .f32 m'.pr m'.pi) = cellsM (l.set k m') := by
  induction l generalizing k with
  | nil => simp at h
  | cons x l ih =>
    cases k with
    | zero =>
      simp at h
      subst h
      simp [cellsM, M4.cells, hg.1, hg.2]
    | succ k =>
      have hk := ih k (by simpa using h)
      simp only [cellsM, List.flatMap_cons, List.set_cons_succ] at *
      rw [show (k + 1) * 2 = k * 2 + 2 from by omega]
      simp only [M4.cells, List.cons_append, List.nil_append, List.set_cons_succ]
      rw [hk]
theorem dampL_set (ms : List M4) (t k : Nat) (m : M4) (h : ms[k]? = some m) : (dampL ms t k).set k (dampM t m) = dampL ms t (k + 1) := by
  obtain ⟨hk, he⟩ := List.getElem?_eq_some_iff.1 h
  unfold dampL
  rw [List.take_succ_eq_append_getElem hk, he, List.drop_eq_getElem_cons hk, he, List.set_append_right _ _ (by simp; omega)]
  simp [Nat.min_eq_left (Nat.le_of_lt hk)]

def DampP (n : Nat) (ms : List M4) (w : World) (e : Ending) (w' : World) : Prop :=
  ∃ v : Value, e = .returned (.tuple #[.agg #[v], .bool true]) ∧ w'.ownsRow w.heap.size 93 2 v n (cellsM ms) ∧ Nw w w'
def DampI (ms : List M4) (t n base D E : Nat) (v : Value) (w : World) (i : Value) (wr : World) : Prop :=
  ∃ k : Nat, k ≤ n ∧ i = .int .i64 (k : Int) ∧ wr.ownsRow base 93 2 v n (cellsM (dampL ms t k)) ∧ Has1 wr D (.slice none 0 0) ∧ Has1 wr E v ∧ Nw w wr

end Go.Proofs.YtnmjkjjmigiabaaGreatDoor

/- Rows of samples that are filled from their beginning.
   Conditions: those that each statement names. -/
namespace Go.Proofs.YtnmjkjjmigiabaaGreatDoor
set_option linter.unusedSimpArgs false
set_option linter.unusedVariables false
open Go Go.RowKit

/-- the first k places of n are filled -/
def fillL (f : Nat → Nat) (n k : Nat) : List Nat := (List.range k).map f ++ List.replicate (n - k) 0
theorem fillL_zero (f : Nat → Nat) (n : Nat) : fillL f n 0 = List.replicate n 0 := by simp [fillL]
theorem fillL_full (f : Nat → Nat) (n : Nat) : fillL f n n = (List.range n).map f := by simp [fillL]
theorem fillL_len (f : Nat → Nat) (n k : Nat) (h : k ≤ n) : (fillL f n k).length = n := by simp [fillL]; omega
theorem fillL_set (f : Nat → Nat) (n k : Nat) (h : k < n) : (cellsS (fillL f n k)).set k (.float .f32 (f k)) = cellsS (fillL f n (k + 1)) := by
  unfold fillL
  rw [show n - k = (n - (k + 1)) + 1 from by omega, List.replicate_succ, List.range_succ]
  simp only [cellsS, List.map_append, List.map_cons, List.map_nil, List.append_assoc, List.singleton_append]
  rw [List.set_append_right _ _ (by simp)]
  simp
theorem fillL_cell (f : Nat → Nat) (n k : Nat) (h : k < n) : (cellsS (fillL f n k))[k]? = some (.float .f32 0) := by
  unfold fillL cellsS
  rw [List.getElem?_map, List.getElem?_append_right (by simp)]
  simp [List.getElem?_replicate]
  omega

end Go.Proofs.YtnmjkjjmigiabaaGreatDoor

/- Plain facts: a mode whose pole has no greater parts than a valid mode's, with the same gain, is valid: damped and tuned modes. No program stands in it.
   Conditions: those that each statement names. -/
namespace Go.Proofs.YtnmjkjjmigiabaaGreatDoor
set_option linter.unusedSimpArgs false
set_option linter.unusedVariables false
open Go

theorem M4.ok.pole4 {m : M4} (h : m.ok) : ra (S m.pr) ≤ 4 ∧ ra (S m.pi) ≤ 4 := by
  obtain ⟨p1, p2⟩ := h.pole
  have := ra_le p1
  have := ra_le p2
  constructor <;> grind

theorem ok_less (m m' : M4) (h : m.ok) (h1 : Sm m'.pr) (h2 : Sm m'.pi) (l1 : ra (S m'.pr) ≤ ra (S m.pr)) (l2 : ra (S m'.pi) ≤ ra (S m.pi)) (hg : m'.gr = m.gr ∧ m'.gi = m.gi) : m'.ok := by
  obtain ⟨s1, s2, s3, s4⟩ := h.nums
  obtain ⟨b1, b2⟩ := h.pole4
  obtain ⟨f1, f2, f3, f4, f5, f6, f7⟩ := Valid.parts h
  have hm := sqr_mono m'.pr m'.pi m.pr m.pi h1 h2 s1 s2 l1 l2 b1 b2
  obtain ⟨_, _, -, -, -, k1, k2⟩ := sqr_num s1 s2
  obtain ⟨_, _, -, -, -, k3, -⟩ := sqr_num h1 h2
  have f5' := (leB_iff k1 num_one.1).1 f5
  rw [num_one.2] at f5'
  have sq : ∀ q : Rat, 0 ≤ q * q := square_nonneg
  have q1 := sq (S m.pr)
  have q2 := sq (S m.pi)
  have u1 := Flo.u_le
  have u0 := Flo.u_pos
  have eu : Flo.et ≤ Flo.u := Flo.pw_le (by omega)
  have e0 := Flo.et_pos
  have g := Rat.mul_le_mul_of_nonneg_left (show 4 * Flo.u ≤ 1 by grind) (show 0 ≤ S m.pr * S m.pr + S m.pi * S m.pi by grind)
  have hneg : -1 ≤ Flo.W (sqr (wid m.pr) (wid m.pi)) := by
    have := k2.1
    grind
  have ha : ra (Flo.W (sqr (wid m.pr) (wid m.pi))) ≤ 1 := ra_le ⟨hneg, f5'⟩
  have hw : Flo.W (sqr (wid m'.pr) (wid m'.pi)) ≤ 1 := by
    have := ra_ab (Flo.W (sqr (wid m'.pr) (wid m'.pi)))
    have := this.2
    grind
  have f5'' : leB (sqr (wid m'.pr) (wid m'.pi)) 4607182418800017408 = true := (leB_iff k3 num_one.1).2 (by rw [num_one.2]; exact hw)
  show modeB m'.pr m'.pi m'.gr m'.gi labs = true
  unfold modeB
  rw [hg.1, hg.2, (fin_iff' .f32 _).2 h1, (fin_iff' .f32 _).2 h2, f3, f4, f5'', f6, f7]
  rfl

theorem dampM_ok (m : M4) (t : Nat) (h : m.ok) (ht : Sm t) (h0 : 0 ≤ S t) (h1 : S t ≤ 1) : (dampM t m).ok := by
  obtain ⟨s1, s2, s3, s4⟩ := h.nums
  obtain ⟨b1, b2⟩ := h.pole4
  obtain ⟨-, a1, a2⟩ := damp_part m.pr t s1 ht h0 h1 b1
  obtain ⟨-, c1, c2⟩ := damp_part m.pi t s2 ht h0 h1 b2
  exact ok_less m (dampM t m) h a1 c1 a2 c2 ⟨rfl, rfl⟩

def tuneM (m : M4) : M4 := ⟨mulSre m.pr m.pi 1065353216 0, mulSim m.pr m.pi 1065353216 0, m.gr, m.gi⟩
theorem tuneM_ok (m : M4) (h : m.ok) : (tuneM m).ok ∧ S (tuneM m).pr = S m.pr ∧ S (tuneM m).pi = S m.pi := by
  obtain ⟨s1, s2, s3, s4⟩ := h.nums
  obtain ⟨b1, b2⟩ := h.pole4
  obtain ⟨a1, a2, a3, a4⟩ := mulS_one m.pr m.pi s1 s2 b1 b2
  exact ⟨ok_less m (tuneM m) h a1 a2 (by show ra (S (mulSre m.pr m.pi 1065353216 0)) ≤ _; rw [a3]; exact Rat.le_refl) (by show ra (S (mulSim m.pr m.pi 1065353216 0)) ≤ _; rw [a4]; exact Rat.le_refl) ⟨rfl, rfl⟩, a3, a4⟩
end Go.Proofs.YtnmjkjjmigiabaaGreatDoor

/- The walk of TouchBody over a valid body, where nothing overflows.
   Conditions: those that each statement names. -/
namespace Go.Proofs.YtnmjkjjmigiabaaGreatDoor
set_option linter.unusedSimpArgs false
set_option linter.unusedVariables false
open Go Go.RowKit

/-- the states after i steps, of which those from 'from' on are the damped body's -/
def tAt (ms ds : List M4) (f : Nat) (x : Nat → Nat) : Nat → List (Nat × Nat)
  | 0 => ms.map fun _ => (0, 0)
  | i + 1 => stepAll (if f ≤ i then ds else ms) (tAt ms ds f x i) (x i)
theorem tAt_len (ms ds : List M4) (f : Nat) (x : Nat → Nat) (hl : ds.length = ms.length) : ∀ i, (tAt ms ds f x i).length = ms.length
  | 0 => by simp [tAt]
  | i + 1 => by
    unfold tAt
    split <;> simp [stepAll, tAt_len ms ds f x hl i, hl]
def TouchOk (ms ds : List M4) (f : Nat) (x : Nat → Nat) (n : Nat) : Prop :=
  ∀ i, i < n → (∀ (k : Nat) m s, (if f ≤ i then ds else ms)[k]? = some m → (tAt ms ds f x i)[k]? = some s → StepOk m s (x i)) ∧ SumOk (tAt ms ds f x (i + 1))
def touchS (ms ds : List M4) (f : Nat) (x : Nat → Nat) (n : Nat) : List Nat := (List.range n).map fun i => outS (tAt ms ds f x (i + 1))

def TouchI (B bb bd gs gu n q : Nat) (ms ds : List M4) (f : Nat) (x : Nat → Nat) (bv dv : Value) (w : World) (cur i : Value) (wr : World) : Prop :=
  ∃ k : Nat, k ≤ n ∧ i = .int .i64 (k : Int) ∧ cur = (if k ≤ f then bv else dv) ∧ wr.ownsRow B 91 1 (.slice (some ⟨gs, 0, none⟩) q q) q (cellsC (tAt ms ds f x k)) ∧
    wr.ownsRow B 25 1 (.slice (some ⟨gu, 0, none⟩) n n) n (cellsS (fillL (fun i => outS (tAt ms ds f x (i + 1))) n k)) ∧ Has1 wr bb bv ∧ Has1 wr bd dv ∧ Nw w wr

theorem touch_len (ms ds : List M4) (f : Nat) (x : Nat → Nat) (n : Nat) : (touchS ms ds f x n).length = n := by simp [touchS]

end Go.Proofs.YtnmjkjjmigiabaaGreatDoor

/- The walk of DriftOf, where nothing overflows: the drift is at most what each difference is.
   Conditions: those that each statement names. -/
namespace Go.Proofs.YtnmjkjjmigiabaaGreatDoor
set_option linter.unusedSimpArgs false
set_option linter.unusedVariables false
open Go Go.RowKit

/-- each difference between the two ringings is at most Bd -/
def DiffOk (ms : List M4) (x : Nat → Nat) (n : Nat) (Bd : Rat) : Prop :=
  ∀ i, i < n → Sm (outS (stAt ms x (i + 1))) ∧ ∃ r, floatBits .sub .f64 (outD (stDAt ms x (i + 1))) (wid (outS (stAt ms x (i + 1)))) = some r ∧ Flo.Nm r ∧ Flo.Ab (Flo.W r) Bd

def DriftP (Bd : Rat) (w : World) (e : Ending) (w' : World) : Prop :=
  ∃ g : Nat, e = .returned (.tuple #[.float .f64 g, .bool true]) ∧ Flo.Nm g ∧ Flo.W g ≤ Bd ∧ Nw w w'
def DriftI (Bd : Rat) (n : Nat) (w : World) (y i : Value) (wr : World) : Prop :=
  ∃ k g : Nat, k ≤ n ∧ i = .int .i64 (k : Int) ∧ y = .float .f64 g ∧ Flo.Nm g ∧ Flo.W g ≤ Bd ∧ Nw w wr

theorem own_f64 {w : World} {base n k : Nat} {v : Value} {xs : List Nat} (h : w.ownsRow base 26 1 v n (cellsF xs)) {x : Nat} (hk : xs[k]? = some x) (hn : n = xs.length) :
    ∃ g cap, v = .slice (some ⟨g, 0, none⟩) n cap ∧ n ≤ cap ∧ cap ≤ maxLen ∧ g < w.heap.size ∧ w.cell? ⟨g, k, none⟩ = some (.float .f64 x) := by
  have hkl := (List.getElem?_eq_some_iff.1 hk).1
  rcases h.2 with ⟨_, h0⟩ | ⟨g, cap, cur, rfl, hb, hg, hc, hm, hs, ht⟩
  · omega
  · have c1 := h.cellAt k (by omega)
    rw [show (cellsF xs)[k]? = some (.float .f64 x) from by simp [cellsF, hk]] at c1
    exact ⟨g, cap, rfl, hc, hm, (h.lt g rfl).2, c1⟩

end Go.Proofs.YtnmjkjjmigiabaaGreatDoor
