/- Texts of a proof, put together: PbT, RmA, Abs, Mk, MkM, EqM, PbL, RmR, RmI, RmF, FoL, ScoD, Has, Wid1, WdB, WdN, WdR, WdS.
   Conditions: those that each statement names. -/
import Derived.Test.YtnmjkjjmigiabaaGreatDoorKWrittenE6
import Derived.Laws.AppendOwnNone
import Derived.Deep.RegionLawGrows
import Derived.Deep.RegionHeld3
import Derived.StillTailTactics
/- The model's ParseBody.
   Conditions: those that each statement names. -/
namespace Go.Proofs.YtnmjkjjmigiabaaGreatDoor
set_option linter.unusedSimpArgs false
set_option linter.unusedVariables false
open Go Go.RowKit

theorem step_append_mode {ops : Array Oper} {o : Oper} {a : Act} {w : World} {K : Act → World → Prop} {Q : Exit → Act → World → Prop} {E : Prop} (hg : o.guard = none) (s x : Operand)
    (hop : o.op = Op.call { callee := Callee.builtin Builtin.append, args := #[s, x], argTypes := #[36, 36] }) (base n h : Nat) (v : Value) (xs : List M4) (m : M4) (hs : a.eval s = v) (hx : a.eval x = .slice (some ⟨h, 0, none⟩) 1 1)
    (hv : w.ownsRow base 93 2 v n (cellsM xs)) (hc : w.cell? ⟨h, 0, none⟩ = some (.complex .f32 m.pr m.pi) ∧ w.cell? ⟨h, 1, none⟩ = some (.complex .f32 m.gr m.gi)) (hn : n ≤ 1048576) (hb : base ≤ w.heap.size)
    (hK : ∀ v' w', w'.ownsRow base 93 2 v' (n + 1) (cellsM (xs ++ [m])) → w.grownBy w' v.ownBlock → K (a.put o.dst v') w') :
    if Region.wanted o (yielded ops a.tmps) = true then Oper.wp Tryz.prog o a w K Q else E := by
  have hw : Region.wanted o (yielded ops a.tmps) = true := by simp [Region.wanted, hg]
  rw [if_pos hw]
  obtain ⟨i0, hi, hz0, hz1, hz2⟩ := info_parts info_mode
  refine wp_append_own w s x 36 hop base 93 i0 (.agg #[.complex .f32 0 0, .complex .f32 0 0]) 2 16 Tryz.underlying36 hi hz0 hz1 hz2 rfl (by decide) v n (cellsM xs) hs hv ⟨h, 0, none⟩ 1 1 m.cells hx rfl ?_ ?_ (by unfold maxLen; omega) (by omega) hb ?_
  · intro j z hj
    match j, hj with
    | 0, hj => simp [M4.cells] at hj; subst hj; simpa [Addr.add] using hc.1
    | 1, hj => simp [M4.cells] at hj; subst hj; simpa [Addr.add] using hc.2
  · intro u hu; simp [M4.cells] at hu; rcases hu with rfl | rfl <;> rfl
  · intro v' w' h1 h2 _
    rw [← cellsM_snoc] at h1
    exact hK v' w' h1 h2

def Rd1 (p : List UInt8) (m : M4) : Prop := (m.Fin ∧ m.bits) ∧ ∀ m', LineM p m' → m = m'
def PbI (ps : List (List UInt8)) (b : Nat) (w0 : World) (i : Value) (wr : World) : Prop :=
  ∃ (k : Nat) (ms : List M4) (v : Value), k ≤ ps.length ∧ i = .int .i64 (k : Int) ∧ ms.length = k ∧ All2 Rd1 (ps.take k) ms ∧ Has1 wr b v ∧ wr.ownsRow (b + 1) 93 2 v k (cellsM ms) ∧ Nw w0 wr

/-- what is read line by line is the body, if there is one -/
theorem rd1_good {l r : List UInt8} {ps : List (List UInt8)} {ms ns : List M4} (hsp : spl 10 l = ps ++ [r]) (h : All2 Rd1 ps ms) (g : GoodB l ns) : ms = ns := by
  obtain ⟨qs, h2, e⟩ := g.2.spl lineM_K
  rw [hsp] at e
  have e2 := (List.append_inj' e rfl).1
  subst e2
  exact go h h2
where
  go : ∀ {ps : List (List UInt8)} {ms ns : List M4}, All2 Rd1 ps ms → All2 LineM ps ns → ms = ns
  | [], [], [], _, _ => rfl
  | _ :: _, _ :: _, _ :: _, h, k => by rw [h.1.2 _ k.1, go h.2 k.2]
  | [], _ :: _, _, h, _ => h.elim
  | _ :: _, [], _, h, _ => h.elim
  | [], [], _ :: _, _, k => k.elim
  | _ :: _, _ :: _, [], _, k => k.elim

set_option maxHeartbeats 12800000 in
set_option maxRecDepth 100000 in
theorem specParseBody (s : ByteArray) (hs : s.size ≤ 1048576) (w : World) :
    Calls Tryz.prog 28 #[.string s] w (PbP s.data.toList w) := by
  have C := Lib.hid (l1Split_any 10 s hs)
  have B := Lib.hid (Has1.new w 38 (.slice none 0 0))
  go_enter Tryz.func28, Tryz.ntmps28
  go_wp2_with fail
  refine (C.out _).mono ?_
  rintro e w1 ⟨ps, r, v, rfl, hl, hps, hr, own, n1⟩
  have hsp : spl 10 s.data.toList = ps ++ [r] := by rw [hl, spl_glue hps, spl_none hr]
  obtain ⟨va, vc, rfl⟩ := own_shape' own
  have Sp := Lib.hid hsp
  have B1 := Lib.hid (B.out.nw n1)
  have hw1 : w.heap.size < w1.heap.size := (B.out.nw n1).1
  have E1 := Lib.hid (Has1.new w1 38 (.slice none 0 0))
  have N1 := Lib.hid (((Nw.refl w).alloc (.cells #[.slice none 0 0] 38 (0, 0))).trans n1)
  have O1 := Lib.hid own
  have hpl : ps.length ≤ 1048576 := by
    have h1 := spl_le 10 s.data.toList
    have h2 : s.data.toList.length = s.size := Array.length_toList
    rw [hsp] at h1
    simp at h1
    omega
  obtain ⟨g, hva, hcv⟩ : ∃ g, va = some ⟨g, 0, none⟩ ∧ ps.length + 1 ≤ vc ∧ vc ≤ maxLen := by
    rcases O1.out.2 with ⟨h0, h1⟩ | ⟨g, cap, cur, hv, hb, hg, hc, hm, -, -⟩
    · omega
    · cases hv; exact ⟨g, rfl, hc, hm⟩
  subst hva
  have hgw : g < w1.heap.size := (O1.out.lt g rfl).2
  unfold maxLen at hcv
  have hne : w.heap.size ≠ w1.heap.size := by omega
  clear hl hps hr own n1 hsp
  by_cases h17 : ps.length + 1 ≤ 17
  · have hi17 : ¬ ((17 : Int) < (ps.length : Int) + 1) := by omega
    obtain ⟨d0, d1, d2⟩ := E1.out
    go_wp2_with fail
    clear d0 d1 d2
    go_loopw [21] (fun i wr => PbI ps w1.heap.size w1 i wr) (fun i _ => ps.length - (intOf i).toNat)
    case atStart => exact ⟨0, [], _, by omega, rfl, rfl, trivial, E1.out, World.ownsRow_nil _ _ _ _, (Nw.refl w1).alloc _⟩
    case round =>
      obtain ⟨k, ms, v, hk, rfl, hmk, hal, hbx, hown, hN⟩ := hrel
      have Al := Lib.hid hal
      have Bx := Lib.hid hbx
      have Ow := Lib.hid hown
      have Nr := Lib.hid hN
      have Mk := Lib.hid hmk
      have hws := Lib.hid (show w1.heap.size < wr.heap.size from hbx.1)
      have R := Lib.hid (B1.out.nw hN)
      obtain ⟨sa, sl, sc, rfl⟩ := own_shape hown
      clear hal hbx hown hN hmk
      by_cases hlt : k < ps.length
      · obtain ⟨p, hpk⟩ : ∃ p, ps[k]? = some p := ⟨ps[k]'hlt, List.getElem?_eq_getElem _⟩
        have e0 := (own_nw O1.out Nr.out).cellAt k (by omega)
        rw [show (cellsT (ps ++ [r]))[k]? = some (.string ⟨p.toArray⟩) from by unfold cellsT; rw [List.getElem?_map, List.getElem?_append_left hlt, hpk]; rfl] at e0
        have hts : (⟨p.toArray⟩ : ByteArray).size ≤ 1048576 := by
          have h1 : p ∈ spl 10 s.data.toList := by rw [Sp.out]; exact List.mem_append_left _ (List.mem_of_getElem? hpk)
          have h1 := spl_len h1
          have h2 : s.data.toList.length = s.size := Array.length_toList
          have h3 : (⟨p.toArray⟩ : ByteArray).size = p.length := List.size_toArray
          omega
        have Pk := Lib.hid hpk
        clear hpk
        go_wp2_with fail
        go_upto_region 8 with fail
        have K1 := Lib.hid (l6Mode_ok ⟨p.toArray⟩ hts wr.drew)
        obtain ⟨d0, d1, d2⟩ := Bx.out
        clear e0 hts
        go_region_law (first
          | (go_simp
             go_at_call 79
             with_reducible refine K1.out.mono ?_
             rintro e w6 ⟨n6, m, hf6, hb6, hm6, rfl⟩
             have N6 := Lib.hid (((Nw.refl wr).draw 1).trans n6)
             have Ow6 := Lib.hid (own_nw Ow.out N6.out)
             have Bx6 := Lib.hid (Bx.out.nw N6.out)
             have Rm := Lib.hid (show Rd1 p m from ⟨⟨hf6, hb6⟩, hm6⟩)
             have hs6 := Lib.hid (show w1.heap.size < w6.heap.size from Bx6.out.1)
             obtain ⟨x0, x1, x2⟩ := Bx6.out
             clear n6 hf6 hb6 hm6)
          | (refine step_append_mode rfl (.tmp 26) (.tmp 29) rfl (w1.heap.size + 1) k w6.heap.size (.slice sa sl sc) ms m rfl rfl (Ow6.out.alloc _) ⟨by go_simp, by go_simp⟩ (by omega) (by have := hs6.out; simp; omega) ?_
             intro v7 w7 own7 gr7
             have hrow : ∀ q, (Value.slice sa sl sc).ownBlock = some q → w1.heap.size + 1 ≤ q := fun q hq => own_ge Ow6.out q hq
             have Bx7 := Lib.hid ((Bx6.out.alloc _).grown gr7 (fun e => by have := hrow _ e; omega))
             have N7 := Lib.hid (nwg ((Nr.out.trans N6.out).alloc _) gr7 (fun q hq => by have := hrow q hq; omega))
             have Ow7 := Lib.hid own7
             obtain ⟨ta, tl, tc, rfl⟩ := own_shape own7
             clear x0 x1 x2
             obtain ⟨x0, x1, x2⟩ := Bx7.out
             clear own7 gr7 hrow))
        all_goals
          go_wp2_with fail
          go_roundw
          case rel =>
            refine ⟨k + 1, ms ++ [m], _, by omega, by rw [show ((k + 1 : Nat) : Int) = (k : Int) + 1 from by omega], by rw [List.length_append, List.length_singleton, Mk.out], ?_, Bx7.out.put _, own_set Ow7.out (by show w1.heap.size < w1.heap.size + 1; omega) _, N7.out.set (by show w1.heap.size ≤ w1.heap.size; omega) _⟩
            rw [List.take_add_one, Pk.out]
            exact Al.out.snoc Rm.out
          case measure => simp only [intOf]; omega
      · have hkn : k = ps.length := by omega
        subst hkn
        obtain ⟨xa, xc, hv⟩ := own_shape' Ow.out
        cases hv
        have hall : All2 Rd1 ps ms := by
          have h := Al.out
          rw [List.take_of_length_le (Nat.le_refl _)] at h
          exact h
        have All := Lib.hid hall
        have hfin : ∀ m ∈ ms, m.Fin ∧ m.bits := fun m hm => by
          obtain ⟨p, hp⟩ := hall.memr m hm
          exact hp.1
        have Hf := Lib.hid hfin
        clear hall hfin
        obtain ⟨d0, d1, d2⟩ := Bx.out
        go_wp2_with fail
        refine (specIsBody_fin ms _ _ _ Mk.out (by omega) _ Ow.out).mono ?_
        rintro e w3 ⟨rfl, n3⟩
        have O3 := Lib.hid (own_nw Ow.out n3)
        have B3 := Lib.hid (Bx.out.nw n3)
        have R3 := Lib.hid (R.out.nw n3)
        have N3 := Lib.hid ((N1.out.trans Nr.out).trans n3)
        clear n3 d0 d1 d2
        obtain ⟨d0, d1, d2⟩ := B3.out
        obtain ⟨b0, b1, b2⟩ := R3.out
        cases hb : bodyB ms with
        | false =>
          go_wp2_with fail
          refine bodyPost_ret (v := .tuple #[.agg #[.slice none 0 0], .bool false]) (by simp [results, Tryz.results28, go_sem, b0, b1, b2]) rfl
            ⟨N3.out.set (by show w.heap.size ≤ w.heap.size; omega) _, .inr ⟨fun ns h => ?_, rfl⟩⟩
          have e := rd1_good Sp.out All.out h
          rw [e, h.1] at hb
          cases hb
        | true =>
          go_wp2_with fail
          refine (specFormatBody_ok ms Hf.out _ _ _ Mk.out hb _ O3.out).mono ?_
          rintro e w4 ⟨t, rfl, hT, htl, n4⟩
          have O4 := Lib.hid (own_nw O3.out n4)
          have B4 := Lib.hid (B3.out.nw n4)
          have R4 := Lib.hid (R3.out.nw n4)
          have N4 := Lib.hid (N3.out.trans n4)
          have T := Lib.hid hT
          clear n4 d0 d1 d2 b0 b1 b2 hT
          obtain ⟨d0, d1, d2⟩ := B4.out
          obtain ⟨b0, b1, b2⟩ := R4.out
          have hss : s = ⟨s.data.toList.toArray⟩ := rfl
          by_cases ht : t = s.data.toList
          · have g : (t == s.toList) = true := by rw [ByteArray.toList_eq]; simpa using ht
            have g2 : ((⟨t.toArray⟩ : ByteArray).toList == s.toList) = true := by rw [ByteArray.toList_eq, ByteArray.toList_eq]; simpa using ht
            have g3 : (t == s.data.toList) = true := by simpa using ht
            go_wp2_with fail
            exact bodyPost_ret (v := .tuple #[.agg #[.slice sa ps.length sc], .bool true]) (by simp [results, Tryz.results28, go_sem, b0, b1, b2]) rfl
              ⟨N4.out.set (by show w.heap.size ≤ w.heap.size; omega) _, .inl ⟨ms, _, ⟨hb, by rw [← ht]; exact T.out⟩, Hf.out, rfl, by rw [Mk.out]; exact own_base (own_set O4.out (by show w.heap.size < w1.heap.size + 1; omega) _) (by omega)⟩⟩
          · have g : (t == s.toList) = false := by rw [ByteArray.toList_eq]; simpa using ht
            have g2 : ((⟨t.toArray⟩ : ByteArray).toList == s.toList) = false := by rw [ByteArray.toList_eq, ByteArray.toList_eq]; simpa using ht
            have g3 : (t == s.data.toList) = false := by simpa using ht
            go_wp2_with fail
            refine bodyPost_ret (v := .tuple #[.agg #[.slice none 0 0], .bool false]) (by simp [results, Tryz.results28, go_sem, b0, b1, b2]) rfl
              ⟨N4.out.set (by show w.heap.size ≤ w.heap.size; omega) _, .inr ⟨fun ns h => ?_, rfl⟩⟩
            have e := rd1_good Sp.out All.out h
            have hT := T.out
            rw [e] at hT
            obtain ⟨p1, a1, e1⟩ := hT
            obtain ⟨p2, a2, e2⟩ := h.2
            apply ht
            rw [e1, e2, All2.left (R := LineM) (fun _ _ _ h k => LineT.txt txS_K h k) a1 a2]
  · have hi17 : ((17 : Int) < (ps.length : Int) + 1) := by omega
    obtain ⟨d0, d1, d2⟩ := E1.out
    obtain ⟨b0, b1, b2⟩ := B1.out
    go_wp2_with fail
    refine bodyPost_ret (v := .tuple #[.agg #[.slice none 0 0], .bool false]) (by simp [results, Tryz.results28, go_sem, b0, b1, b2]) rfl
      ⟨(N1.out.set (by show w.heap.size ≤ w.heap.size; omega) _).alloc _, .inr ⟨fun ns h => ?_, rfl⟩⟩
    obtain ⟨qs, h2, e⟩ := h.2.spl lineM_K
    rw [Sp.out] at e
    have e2 := (List.append_inj' e rfl).1
    subst e2
    have h3 := h2.len
    have h4 := ((bodyB_iff ns).1 h.1).1
    omega
end Go.Proofs.YtnmjkjjmigiabaaGreatDoor

/- Texts of rooms: lines of modes, then lines of places: plain.
   Conditions: those that each statement names. -/
namespace Go.Proofs.YtnmjkjjmigiabaaGreatDoor
set_option linter.unusedSimpArgs false
set_option linter.unusedVariables false
open Go Go.RowKit

theorem cutC {c : UInt8} {p q r t : List UInt8} (h : p ++ c :: r = q ++ c :: t) (hp : c ∉ p) (hq : c ∉ q) : p = q ∧ r = t := by
  induction p generalizing q with
  | nil =>
    cases q with
    | nil => simp at h; exact ⟨rfl, h⟩
    | cons b q =>
      simp at h
      exact absurd (by rw [← h.1]; exact List.mem_cons_self) hq
  | cons a p ih =>
    cases q with
    | nil =>
      simp at h
      exact absurd (by rw [h.1]; exact List.mem_cons_self) hp
    | cons b q =>
      simp at h
      obtain ⟨e1, e2⟩ := ih h.2 (fun hm => hp (List.mem_cons_of_mem _ hm)) (fun hm => hq (List.mem_cons_of_mem _ hm))
      exact ⟨by rw [h.1, e1], e2⟩

def Stop {α : Type} (L : List UInt8 → α → Prop) (r : List UInt8) : Prop := ∃ p q, r = p ++ 10 :: q ∧ 10 ∉ p ∧ ∀ m, ¬ L p m
theorem glue_cons (c : UInt8) (p : List UInt8) (ps : List (List UInt8)) (r : List UInt8) : glueC c (p :: ps) ++ r = p ++ c :: (glueC c ps ++ r) := by simp [glueC]
/-- what is read of a text is what stands there, up to what is no such line -/
theorem read_split {α : Type} {L : List UInt8 → α → Prop} (K : LnK L) {most : Nat} : ∀ {ps qs : List (List UInt8)} {ms ns : List α} {r l2 : List UInt8} {k : Nat}, All2 L ps ms → All2 L qs ns → glueC 10 ps ++ r = glueC 10 qs ++ l2 →
    (ms.length + k = most ∨ 10 ∉ r ∨ Stop L r) → ns.length + k ≤ most → (l2 = [] ∨ Stop L l2) → ms = ns ∧ r = l2
  | [], [], [], [], r, l2, k, _, _, he, _, _, _ => ⟨rfl, by simpa [glueC] using he⟩
  | [], q :: qs, [], n :: ns, r, l2, k, _, h2, he, hs, hl, _ => by
    rw [glue_cons] at he
    have he : r = q ++ 10 :: (glueC 10 qs ++ l2) := by simpa [glueC] using he
    rcases hs with h | h | ⟨p, t, e, hp, hno⟩
    · simp at h hl; omega
    · exact absurd (by rw [he]; simp) h
    · rw [e] at he
      obtain ⟨e1, -⟩ := cutC he hp (K.nl h2.1)
      subst e1
      exact absurd h2.1 (hno n)
  | p :: ps, [], m :: ms, [], r, l2, k, h1, _, he, _, _, h3 => by
    rw [glue_cons] at he
    have he : p ++ 10 :: (glueC 10 ps ++ r) = l2 := by simpa [glueC] using he
    rcases h3 with h | ⟨q, t, e, hq, hno⟩
    · rw [h] at he; simp at he
    · rw [e] at he
      obtain ⟨e1, -⟩ := cutC he (K.nl h1.1) hq
      subst e1
      exact absurd h1.1 (hno m)
  | p :: ps, q :: qs, m :: ms, n :: ns, r, l2, k, h1, h2, he, hs, hl, h3 => by
    rw [glue_cons, glue_cons] at he
    obtain ⟨e1, e2⟩ := cutC he (K.nl h1.1) (K.nl h2.1)
    subst e1
    obtain ⟨f1, f2⟩ := read_split K (most := most) (k := k + 1) h1.2 h2.2 e2 (by rcases hs with h | h; exact .inl (by simp at h; omega); exact .inr h) (by simp at hl; omega) h3
    exact ⟨by rw [K.val h1.1 h2.1, f1], f2⟩
  | [], _, _ :: _, _, _, _, _, h, _, _, _, _, _ => h.elim
  | _ :: _, _, [], _, _, _, _, h, _, _, _, _, _ => h.elim
  | [], [], [], _ :: _, _, _, _, _, h, _, _, _, _ => h.elim
  | [], _ :: _, [], [], _, _, _, _, h, _, _, _, _ => h.elim
  | _ :: _, [], _ :: _, _ :: _, _, _, _, _, h, _, _, _, _ => h.elim
  | _ :: _, _ :: _, _ :: _, [], _, _, _, _, h, _, _, _, _ => h.elim

/-! ### places -/
def wPlace : List UInt8 := [112, 108, 97, 99, 101]
def LineP (p : List UInt8) (r : List Nat) : Prop := LineT TxS wPlace p r
theorem lineP_K : LnK LineP where
  val h k := LineT.val txS_K h k
  nl h := LineT.nl txS_K (by decide) h
/-- a line of a place with n weights -/
def LinePn (n : Nat) (p : List UInt8) (r : List Nat) : Prop := LineP p r ∧ r.length = n
theorem linePn_K (n : Nat) : LnK (LinePn n) where
  val h k := lineP_K.val h.1 k.1
  nl h := lineP_K.nl h.1
def isP (p : List UInt8) : Bool := (spl 32 p).head? == some wPlace
theorem isP_place {p : List UInt8} {r : List Nat} (h : LineP p r) : isP p = true := by
  obtain ⟨ts, e, -⟩ := h
  unfold isP
  rw [e]; rfl
theorem isP_mode {p : List UInt8} {m : M4} (h : LineM p m) : isP p = false := by
  obtain ⟨ts, e, -⟩ := h
  unfold isP
  rw [e]; rfl
theorem place_no {p : List UInt8} {r : List Nat} (h : LineP p r) (m : M4) : ¬ LineM p m := fun k => by
  have h1 := isP_place h
  rw [isP_mode k] at h1
  cases h1

/-! ### rooms -/
def wgt (x : Nat) : Bool := leB (labs (wid x)) 4625196817309499392
def rowB (q : Nat) (r : List Nat) : Bool := decide (r.length = q) && r.all wgt
def roomB (ms : List M4) (rows : List (List Nat)) : Bool := bodyB ms && (decide (rows.length ≤ 16) && rows.all (rowB ms.length))
theorem roomB_iff {ms : List M4} {rows : List (List Nat)} : roomB ms rows = true ↔ bodyB ms = true ∧ rows.length ≤ 16 ∧ ∀ r ∈ rows, rowB ms.length r = true := by
  unfold roomB
  rw [Bool.and_eq_true, Bool.and_eq_true, decide_eq_true_iff, List.all_eq_true]
theorem rowB_iff {q : Nat} {r : List Nat} : rowB q r = true ↔ r.length = q ∧ ∀ x ∈ r, wgt x = true := by
  unfold rowB
  rw [Bool.and_eq_true, decide_eq_true_iff, List.all_eq_true]
/-- a text of a valid room -/
def TextR (l : List UInt8) (ms : List M4) (rows : List (List Nat)) : Prop := ∃ ps qs, All2 LineM ps ms ∧ All2 LineP qs rows ∧ l = glueC 10 ps ++ glueC 10 qs
def GoodR (l : List UInt8) (ms : List M4) (rows : List (List Nat)) : Prop := roomB ms rows = true ∧ TextR l ms rows
theorem All2.imp {α β : Type} {R S : α → β → Prop} : ∀ {l : List α} {m : List β}, All2 R l m → (∀ a b, b ∈ m → R a b → S a b) → All2 S l m
  | [], [], _, _ => trivial
  | x :: l, y :: m, h, f => ⟨f _ _ List.mem_cons_self h.1, h.2.imp (fun a b hb k => f a b (List.mem_cons_of_mem _ hb) k)⟩
  | [], _ :: _, h, _ => h.elim
  | _ :: _, [], h, _ => h.elim
/-- what is read of a valid room's text: the room, to its end -/
theorem room_read {l r1 r2 : List UInt8} {ms ms' : List M4} {rows rows' : List (List Nat)} (h1 : ReadT LineM 16 l ms r1) (h2 : ReadT (LinePn ms.length) 16 r1 rows r2) (g : GoodR l ms' rows') : ms = ms' ∧ rows = rows' ∧ r2 = [] := by
  obtain ⟨gb, ps', qs', a1, a2, e⟩ := g
  obtain ⟨b1, b2, b3⟩ := roomB_iff.1 gb
  obtain ⟨ps, c1, f1, d1, s1⟩ := h1
  obtain ⟨e1, e2⟩ := read_split lineM_K (most := 16) (k := 0) c1 a1 (f1.symm.trans e) (by rcases s1 with h | h | h; exact .inl h; exact .inr (.inl h); exact .inr (.inr h)) (by have := ((bodyB_iff ms').1 b1).1; simpa using this) (by
    cases qs' with
    | nil => left; rfl
    | cons q qs =>
      right
      cases rows' with
      | nil => exact a2.elim
      | cons row rows' => exact ⟨q, glueC 10 qs, by simp [glueC], lineP_K.nl a2.1, fun m => place_no a2.1 m⟩)
  subst e1
  obtain ⟨qs, c2, f2, d2, s2⟩ := h2
  have a3 : All2 (LinePn ms.length) qs' rows' := a2.imp (fun a b hb k => ⟨k, (rowB_iff.1 (b3 b hb)).1⟩)
  obtain ⟨e3, e4⟩ := read_split (linePn_K ms.length) (most := 16) (l2 := []) (k := 0) c2 a3 (by rw [← f2, e2, List.append_nil]) (by rcases s2 with h | h | h; exact .inl h; exact .inr (.inl h); exact .inr (.inr h)) (by simpa using b2) (.inl rfl)
  exact ⟨rfl, e3, e4⟩
theorem room_text {l r1 : List UInt8} {ms : List M4} {rows : List (List Nat)} (h1 : ReadT LineM 16 l ms r1) (h2 : ReadT (LinePn ms.length) 16 r1 rows []) : TextR l ms rows := by
  obtain ⟨ps, c1, f1, -, -⟩ := h1
  obtain ⟨qs, c2, f2, -, -⟩ := h2
  exact ⟨ps, qs, c1, c2.imp (fun _ _ _ k => k.1), by rw [f1, f2, List.append_nil]⟩
theorem textR_txt {l l' : List UInt8} {ms : List M4} {rows : List (List Nat)} (h : TextR l ms rows) (k : TextR l' ms rows) : l = l' := by
  obtain ⟨ps, qs, a1, a2, e⟩ := h
  obtain ⟨ps', qs', b1, b2, e'⟩ := k
  rw [e, e', All2.left (R := LineM) (fun _ _ _ h k => LineT.txt txS_K h k) a1 b1, All2.left (R := LineP) (fun _ _ _ h k => LineT.txt txS_K h k) a2 b2]

/-! ### read line by line -/
def Its (ls : List (List UInt8)) (ms : List M4) (rows : List (List Nat)) : Prop := All2 Rd1 (ls.filter (fun p => !isP p)) ms ∧ All2 LineP (ls.filter isP) rows
theorem Its.mode {ls : List (List UInt8)} {ms : List M4} {rows : List (List Nat)} {p : List UInt8} {m : M4} (h : Its ls ms rows) (hp : isP p = false) (r : Rd1 p m) : Its (ls ++ [p]) (ms ++ [m]) rows := by
  unfold Its
  rw [List.filter_append, List.filter_append, show [p].filter (fun p => !isP p) = [p] from by simp [hp], show [p].filter isP = [] from by simp [hp], List.append_nil]
  exact ⟨h.1.snoc r, h.2⟩
theorem Its.place {ls : List (List UInt8)} {ms : List M4} {rows : List (List Nat)} {p : List UInt8} {row : List Nat} (h : Its ls ms rows) (r : LineP p row) : Its (ls ++ [p]) ms (rows ++ [row]) := by
  have hp := isP_place r
  unfold Its
  rw [List.filter_append, List.filter_append, show [p].filter (fun p => !isP p) = [] from by simp [hp], show [p].filter isP = [p] from by simp [hp], List.append_nil]
  exact ⟨h.1, h.2.snoc r⟩
theorem glue_app (c : UInt8) (ps qs : List (List UInt8)) : glueC c (ps ++ qs) = glueC c ps ++ glueC c qs := by simp [glueC]
theorem textR_lines {l r : List UInt8} {ls : List (List UInt8)} {ms : List M4} {rows : List (List Nat)} (hsp : spl 10 l = ls ++ [r]) (g : TextR l ms rows) :
    ∃ ps qs, All2 LineM ps ms ∧ All2 LineP qs rows ∧ ls = ps ++ qs := by
  obtain ⟨ps, qs, a1, a2, e⟩ := g
  refine ⟨ps, qs, a1, a2, ?_⟩
  have hn : ∀ p ∈ ps ++ qs, 10 ∉ p := fun p hp => by
    rcases List.mem_append.1 hp with h | h
    · exact a1.clean lineM_K p h
    · exact a2.clean lineP_K p h
  have h := spl_glue (l := []) hn
  rw [List.append_nil, glue_app, ← e] at h
  rw [h] at hsp
  have e2 := (List.append_inj' hsp rfl).1
  exact e2.symm
theorem its_good {l r : List UInt8} {ls : List (List UInt8)} {ms ms' : List M4} {rows rows' : List (List Nat)} (hsp : spl 10 l = ls ++ [r]) (h : Its ls ms rows) (g : TextR l ms' rows') : ms = ms' ∧ rows = rows' := by
  obtain ⟨ps, qs, a1, a2, rfl⟩ := textR_lines hsp g
  have f1 : (ps ++ qs).filter (fun p => !isP p) = ps := by
    rw [List.filter_append, List.filter_eq_self.2 (fun p hp => by obtain ⟨m, hm⟩ := a1.mem p hp; rw [isP_mode hm]; rfl), List.filter_eq_nil_iff.2 (fun p hp => by obtain ⟨m, hm⟩ := a2.mem p hp; rw [isP_place hm]; simp), List.append_nil]
  have f2 : (ps ++ qs).filter isP = qs := by
    rw [List.filter_append, List.filter_eq_nil_iff.2 (fun p hp => by obtain ⟨m, hm⟩ := a1.mem p hp; rw [isP_mode hm]; simp), List.filter_eq_self.2 (fun p hp => by obtain ⟨m, hm⟩ := a2.mem p hp; exact isP_place hm), List.nil_append]
  obtain ⟨h1, h2⟩ := h
  rw [f1] at h1
  rw [f2] at h2
  exact ⟨rd1_good.go h1 a1, All2.right (R := LineP) (fun _ _ _ h k => lineP_K.val h k) h2 a2⟩
theorem its_no {l r p : List UInt8} {ls : List (List UInt8)} {ms' : List M4} {rows' : List (List Nat)} (hsp : spl 10 l = ls ++ [r]) (hp : p ∈ ls) (hi : isP p = true) (hno : ∀ row, ¬ LineP p row) : ¬ TextR l ms' rows' := fun g => by
  obtain ⟨ps, qs, a1, a2, rfl⟩ := textR_lines hsp g
  rcases List.mem_append.1 hp with h | h
  · obtain ⟨m, hm⟩ := a1.mem p h
    rw [isP_mode hm] at hi
    cases hi
  · obtain ⟨row, hr⟩ := a2.mem p h
    exact hno row hr
end Go.Proofs.YtnmjkjjmigiabaaGreatDoor

/- Absolute values of single precision: the walk of absoluteSingle.
   Conditions: those that each statement names. -/
namespace Go.Proofs.YtnmjkjjmigiabaaGreatDoor
set_option linter.unusedSimpArgs false
set_option linter.unusedVariables false
open Go Go.RowKit

theorem implAbs_wide (x : Nat) (hx : nan32 x = false) (w : World) :
    Calls Tryz.prog 215 #[.float .f32 x] w fun e w' => (∃ p, e = .returned (.float .f32 p) ∧ Tw p (labs (wid x))) ∧ w = w' := by
  have a1 := fcv_wide hx
  have a2 := fcd_wide hx
  have a3 := fun w => (tw_abs hx w).2
  have a3 := a3 w
  have lt := wid_lt x
  go_enter Tryz.func215, Tryz.ntmps215
  go_wp2_with (go_at_call 50; refine (abs_any _ _ lt).mono ?_; rintro e w' ⟨rfl, rfl⟩)
  all_goals (go_ret; exact ⟨⟨_, rfl, (tw_abs hx _).1⟩, rfl⟩)
theorem nan_abs {z : Nat} (h : nan64 z = true) (w : World) : nan32 (fcv w .f64 (z % signBit) .f32) = true := by
  unfold nan64 at h
  have hm := mod_read z
  cases hd : FloatKind.f64.decode z with
  | number s m p => rw [hd] at h; cases h
  | infinity s => rw [hd] at h; cases h
  | nan s f =>
    rw [hd] at hm
    unfold fcv
    rw [if_neg (by decide), hm]
    exact nan_conv _ _ _
theorem nan_order {k : FloatKind} {z : Nat} (h : (k.decode z).isNaN = true) (b : Nat) : (k.format.order z b == some .gt) = false := by
  unfold Ieee.Format.order
  unfold FloatKind.decode at h
  cases hd : k.format.read z <;> rw [hd] at h <;> simp [Ieee.Datum.isNaN] at h
  simp [Ieee.Datum.order]
theorem nan_labs {z : Nat} (h : nan64 z = true) : labs z = z := by
  have h0 : FloatKind.f64.format.order z 0 = none := by
    unfold Ieee.Format.order
    unfold nan64 FloatKind.decode at h
    cases hd : FloatKind.f64.format.read z <;> rw [hd] at h <;> simp [Ieee.Datum.isNaN] at h
    simp [Ieee.Datum.order]
  unfold labs; rw [h0]; simp
theorem implAbs_nan (x : Nat) (hx : nan32 x = true) (h32 : x < 2 ^ 32) (w : World) :
    Calls Tryz.prog 215 #[.float .f32 x] w fun e w' => (∃ p, e = .returned (.float .f32 p) ∧ nan32 p = true) ∧ Nw w w' := by
  have lt := fun w => fcv_wf w .f32 x .f64 (show x < 2 ^ FloatKind.f32.format.width from h32)
  have hn := fun w => nan_wide hx w
  go_enter Tryz.func215, Tryz.ntmps215
  go_wp2_with (go_at_call 50; refine (abs_any _ _ (lt _)).mono ?_; rintro e w' ⟨rfl, rfl⟩)
  all_goals (go_ret; exact ⟨⟨_, rfl, nan_abs (hn _) _⟩, ⟨rfl, rfl, rfl, Nat.le_refl _, fun _ _ _ => rfl⟩⟩)

end Go.Proofs.YtnmjkjjmigiabaaGreatDoor

/- The marks that the exact laws set on a row of samples, and how they find them again.
   Conditions: those that each statement names. -/
namespace Go.Proofs.YtnmjkjjmigiabaaGreatDoor
set_option linter.unusedSimpArgs false
set_option linter.unusedVariables false
open Go Go.RowKit

/-! ### marks -/
/-- the first k places are marked -/
def mkL (zs : List Nat) (k : Nat) : List Nat := (List.range k).map (fun i : Nat => floatOfInt .f32 ((i : Int) + 1)) ++ zs.drop k
theorem mk_zero (zs : List Nat) : mkL zs 0 = zs := by simp [mkL]
theorem mk_len (zs : List Nat) (k : Nat) (h : k ≤ zs.length) : (mkL zs k).length = zs.length := by simp [mkL]; omega
theorem mk_set (zs : List Nat) (k : Nat) (h : k < zs.length) : (cellsS (mkL zs k)).set k (.float .f32 (floatOfInt .f32 ((k : Int) + 1))) = cellsS (mkL zs (k + 1)) := by
  unfold mkL
  rw [List.drop_eq_getElem_cons h, List.range_succ]
  simp only [cellsS, List.map_append, List.map_cons, List.map_nil, List.append_assoc, List.singleton_append]
  rw [List.set_append_right _ _ (by simp)]
  simp
theorem mk_get (zs : List Nat) (n k : Nat) (h : k < n) : (mkL zs n)[k]? = some (floatOfInt .f32 ((k : Int) + 1)) := by
  unfold mkL
  rw [List.getElem?_append_left (by simpa using h)]
  simp [h]
theorem mk_at (zs : List Nat) (k x : Nat) (h : zs[k]? = some x) : (mkL zs k)[k]? = some x := by
  unfold mkL
  rw [List.getElem?_append_right (by simp)]
  simpa using h
theorem self_eq (k : Nat) : (FloatKind.f32.format.order (floatOfInt .f32 ((k : Int) + 1)) (floatOfInt .f32 ((k : Int) + 1)) == some .eq) = true := by
  rw [order_self, int_nn]; rfl

theorem self_ne (k : Nat) : (FloatKind.f32.format.order (floatOfInt .f32 ((k : Int) + 1)) (floatOfInt .f32 ((k : Int) + 1)) != some .eq) = false := by unfold bne; rw [self_eq k]; rfl

theorem kp_of_own {g : Nat} {c : Option Nat} {w w' : World} (e : c = some g) (h : Kp g w w') : w.grownBy w' c := by subst e; exact h
def MarkI (zs : List Nat) (n b : Nat) (v : Value) (w : World) (m i : Value) (wr : World) : Prop :=
  ∃ k : Nat, k ≤ n ∧ i = .int .i64 (k : Int) ∧ m = .int .i64 ((k : Int) + 1) ∧ wr.ownsRow b 25 1 v n (cellsS (mkL zs k)) ∧ w.grownBy wr v.ownBlock
def MarkP (zs : List Nat) (n b : Nat) (v : Value) (w : World) (e : Ending) (w' : World) : Prop :=
  e = .returned (.int .i64 ((n : Int) + 1)) ∧ w'.ownsRow b 25 1 v n (cellsS (mkL zs n)) ∧ w.grownBy w' v.ownBlock
theorem mark_ok (zs : List Nat) (n b : Nat) (v : Value) (hl : zs.length = n) (hn : n ≤ 1048576) (w : World) (h : w.ownsRow b 25 1 v n (cellsS zs)) :
    Calls Tryz.prog 145 #[v, .int .i64 1] w (MarkP zs n b v w) := by
  obtain ⟨va, vc, rfl⟩ := own_shape' h
  have H := Lib.hid h
  have Hl := Lib.hid hl
  clear h hl
  go_enter Tryz.func145, Tryz.ntmps145
  go_wp2_with fail
  go_loopw [1, 5] (fun m i wr => MarkI zs n b (.slice va n vc) w m i wr) (fun _ i _ => n - (intOf i).toNat)
  case atStart => exact ⟨0, by omega, rfl, rfl, by rw [mk_zero]; exact H.out, World.grownBy.refl _ _⟩
  case round =>
    obtain ⟨k, hk, rfl, rfl, how, hgr⟩ := hrel
    have Ow := Lib.hid how
    have Gr := Lib.hid hgr
    clear how hgr
    by_cases hlt : k < n
    · obtain ⟨x, hxk⟩ : ∃ x, zs[k]? = some x := ⟨zs[k]'(by rw [Hl.out]; exact hlt), List.getElem?_eq_getElem _⟩
      obtain ⟨g1, cap1, hv1, hcap1, hmax1, -, e1⟩ := own_sample Ow.out (mk_at zs k x hxk) (by rw [mk_len zs k (by rw [Hl.out]; exact hk)]; exact Hl.out.symm)
      cases hv1
      unfold maxLen at hmax1
      have e2 := Ow.out.frozenAt k
      have hset := Ow.out.stored k (.float .f32 (floatOfInt .f32 ((k : Int) + 1)))
      rw [mk_set zs k (by rw [Hl.out]; exact hlt)] at hset
      have F := Lib.hid hset.1
      have G2 := Lib.hid (Kp.set (c := g1) Gr.out k (.float .f32 (floatOfInt .f32 ((k : Int) + 1))))
      clear hset hxk
      go_wp2_with fail
      go_roundw
      case rel => exact ⟨k + 1, by omega, by rw [show ((k + 1 : Nat) : Int) = (k : Int) + 1 from by omega], by rw [show ((k + 1 : Nat) : Int) + 1 = (k : Int) + 1 + 1 from by omega], F.out, G2.out⟩
      case measure => simp only [intOf]; omega
    · obtain rfl : k = n := by omega
      go_wp2_with fail
      go_ret
      exact ⟨rfl, Ow.out, Gr.out⟩

def HeldI (n : Nat) (w : World) (m i : Value) (wr : World) : Prop := ∃ k : Nat, k ≤ n ∧ i = .int .i64 (k : Int) ∧ m = .int .i64 ((k : Int) + 1) ∧ Nw w wr
theorem held_ok (zs : List Nat) (n b : Nat) (v : Value) (hl : zs.length = n) (hn : n ≤ 1048576) (w : World) (h : w.ownsRow b 25 1 v n (cellsS (mkL zs n))) :
    Calls Tryz.prog 146 #[v, .int .i64 1] w fun e w' => e = .returned (.int .i64 ((n : Int) + 1)) ∧ Nw w w' := by
  obtain ⟨va, vc, rfl⟩ := own_shape' h
  have H := Lib.hid h
  have Hl := Lib.hid hl
  clear h hl
  go_enter Tryz.func146, Tryz.ntmps146
  go_wp2_with fail
  go_loopw [1, 5] (fun m i wr => HeldI n w m i wr) (fun _ i _ => n - (intOf i).toNat)
  case atStart => exact ⟨0, by omega, rfl, rfl, Nw.refl _⟩
  case round =>
    obtain ⟨k, hk, rfl, rfl, hN⟩ := hrel
    have Nr := Lib.hid hN
    clear hN
    by_cases hlt : k < n
    · obtain ⟨g1, cap1, hv1, hcap1, hmax1, -, e1⟩ := own_sample (own_nw H.out Nr.out) (mk_get zs n k hlt) (by rw [mk_len zs n (by rw [Hl.out]; exact Nat.le_refl _)]; exact Hl.out.symm)
      cases hv1
      unfold maxLen at hmax1
      have hself := self_ne k
      go_wp2_with fail
      go_roundw
      case rel => exact ⟨k + 1, by omega, by rw [show ((k + 1 : Nat) : Int) = (k : Int) + 1 from by omega], by rw [show ((k + 1 : Nat) : Int) + 1 = (k : Int) + 1 + 1 from by omega], Nr.out⟩
      case measure => simp only [intOf]; omega
    · obtain rfl : k = n := by omega
      go_wp2_with fail
      go_ret
      exact ⟨rfl, Nr.out⟩

end Go.Proofs.YtnmjkjjmigiabaaGreatDoor

/- Modes compared with themselves, marked, and found marked: what the exact laws over bodies ask.
   Conditions: those that each statement names. -/
namespace Go.Proofs.YtnmjkjjmigiabaaGreatDoor
set_option linter.unusedSimpArgs false
set_option linter.unusedVariables false
open Go Go.RowKit

/-! ### small whole numbers in both precisions -/
def mkW (k : Nat) : Nat := floatOfInt .f32 (k : Int)
theorem mkW_all : ∀ k : Fin 64, wid (mkW k.val) = floatOfInt .f64 ((k.val : Nat) : Int) ∧ fin .f32 (mkW k.val) = true ∧ mkW k.val < 4294967296 := by decide +kernel
theorem mkW_nar (k : Nat) (h : k < 64) (z : Int) (hz : z = (k : Int)) : (∀ w, fcv w .f64 (floatOfInt .f64 z) .f32 = mkW k) ∧ fcd .f64 (floatOfInt .f64 z) .f32 = 0 := by
  subst hz
  obtain ⟨h1, h2, h3⟩ := mkW_all ⟨k, h⟩
  rw [← h1]
  exact nar_back h3 (Sm_of h2)
theorem one_nar : (∀ w, fcv w .f64 4607182418800017408 .f32 = 1065353216) ∧ fcd .f64 4607182418800017408 .f32 = 0 := by
  have e : wid 1065353216 = 4607182418800017408 := by decide +kernel
  rw [← e]
  exact nar_back (by decide) ⟨false, 8388608, -23, by decide⟩
theorem mkW_self (k : Nat) (h : k < 64) : (FloatKind.f32.format.order (mkW k) (mkW k) == some .eq) = true := by
  obtain ⟨h1, h2, h3⟩ := mkW_all ⟨k, h⟩
  have h2 : fin .f32 (mkW k) = true := h2
  rw [order_self]
  unfold fin at h2
  cases hd : FloatKind.f32.decode (mkW k) <;> rw [hd] at h2 <;> simp_all [Ieee.Datum.isNaN]
theorem one_self : (FloatKind.f32.format.order 1065353216 1065353216 == some .eq) = true := by decide +kernel

/-! ### the marks -/
def mkE (k : Nat) : M4 := ⟨mkW (2 * k + 1), 1065353216, mkW (2 * k + 2), 1065353216⟩
/-- the first k modes are marked -/
def mkM (ms : List M4) (k : Nat) : List M4 := (List.range k).map mkE ++ ms.drop k
theorem mkM_zero (ms : List M4) : mkM ms 0 = ms := by simp [mkM]
theorem mkM_len (ms : List M4) (k : Nat) (h : k ≤ ms.length) : (mkM ms k).length = ms.length := by simp [mkM]; omega
theorem mkM_get (ms : List M4) (n k : Nat) (h : k < n) : (mkM ms n)[k]? = some (mkE k) := by
  unfold mkM
  rw [List.getElem?_append_left (by simpa using h)]
  simp [h]
theorem mkM_at (ms : List M4) (k : Nat) (x : M4) (h : ms[k]? = some x) : (mkM ms k)[k]? = some x := by
  unfold mkM
  rw [List.getElem?_append_right (by simp)]
  simpa using h
theorem mkM_set (ms : List M4) (k : Nat) (h : k < ms.length) : (mkM ms k).set k (mkE k) = mkM ms (k + 1) := by
  unfold mkM
  rw [List.drop_eq_getElem_cons h, List.range_succ]
  simp only [List.map_append, List.map_cons, List.map_nil, List.append_assoc, List.singleton_append]
  rw [List.set_append_right _ _ (by simp)]
  simp only [List.length_map, List.length_range, Nat.sub_self, List.set_cons_zero]
theorem cellsM_set2 (l : List M4) (k : Nat) (m m' : M4) (h : l[k]? = some m) :
    ((cellsM l).set (k * 2) (.complex .f32 m'.pr m'.pi)).set (k * 2 + 1) (.complex .f32 m'.gr m'.gi) = cellsM (l.set k m') := by
  induction l generalizing k with
  | nil => simp at h
  | cons x l ih =>
    cases k with
    | zero => simp [cellsM, M4.cells]
    | succ k =>
      have hk := ih k (by simpa using h)
      simp only [cellsM, List.flatMap_cons, List.set_cons_succ] at *
      rw [show (k + 1) * 2 = k * 2 + 2 from by omega, show k * 2 + 2 + 1 = k * 2 + 1 + 2 from by omega]
      simp only [M4.cells, List.cons_append, List.nil_append, List.set_cons_succ]
      rw [hk]

def MarkMI (ms : List M4) (n b : Nat) (v : Value) (w : World) (m i : Value) (wr : World) : Prop :=
  ∃ k : Nat, k ≤ n ∧ i = .int .i64 (k : Int) ∧ m = .int .i64 (2 * (k : Int) + 1) ∧ wr.ownsRow b 93 2 v n (cellsM (mkM ms k)) ∧ w.grownBy wr v.ownBlock
def MarkMP (ms : List M4) (n b : Nat) (v : Value) (w : World) (e : Ending) (w' : World) : Prop :=
  e = .returned (.int .i64 (2 * (n : Int) + 1)) ∧ w'.ownsRow b 93 2 v n (cellsM (mkM ms n)) ∧ w.grownBy w' v.ownBlock
set_option maxHeartbeats 6400000 in
set_option maxRecDepth 100000 in
theorem markM_ok (ms : List M4) (n b : Nat) (v : Value) (hl : ms.length = n) (hn : n ≤ 16) (w : World) (h : w.ownsRow b 93 2 v n (cellsM ms)) :
    Calls Tryz.prog 83 #[v, .int .i64 1] w (MarkMP ms n b v w) := by
  obtain ⟨va, vc, rfl⟩ := own_shape' h
  have H := Lib.hid h
  have Hl := Lib.hid hl
  clear h hl
  obtain ⟨o1, o2⟩ := one_nar
  go_enter Tryz.func83, Tryz.ntmps83
  go_wp2_with fail
  go_loopw [1, 5] (fun m i wr => MarkMI ms n b (.slice va n vc) w m i wr) (fun _ i _ => n - (intOf i).toNat)
  case atStart => exact ⟨0, by omega, rfl, rfl, by rw [mkM_zero]; exact H.out, World.grownBy.refl _ _⟩
  case round =>
    obtain ⟨k, hk, rfl, rfl, how, hgr⟩ := hrel
    have Ow := Lib.hid how
    have Gr := Lib.hid hgr
    clear how hgr
    by_cases hlt : k < n
    · obtain ⟨x, hxk⟩ : ∃ x, ms[k]? = some x := ⟨ms[k]'(by rw [Hl.out]; exact hlt), List.getElem?_eq_getElem _⟩
      obtain ⟨g1, cap1, hv1, hcap1, hmax1, -, d1, d2⟩ := own_mode Ow.out (mkM_at ms k x hxk) (by rw [mkM_len ms k (by rw [Hl.out]; exact hk)]; exact Hl.out.symm)
      cases hv1
      unfold maxLen at hmax1
      have e2 := Ow.out.frozenAt (k * 2)
      have e3 := Ow.out.frozenAt (k * 2 + 1)
      obtain ⟨c1, c2⟩ := mkW_nar (2 * k + 1) (by omega) (2 * (k : Int) + 1) (by omega)
      obtain ⟨c3, c4⟩ := mkW_nar (2 * k + 2) (by omega) (2 * (k : Int) + 1 + 1) (by omega)
      have s1 := Ow.out.stored (k * 2) (.complex .f32 (mkW (2 * k + 1)) 1065353216)
      have s2 := s1.1.stored (k * 2 + 1) (.complex .f32 (mkW (2 * k + 2)) 1065353216)
      have e5 := cellsM_set2 (mkM ms k) k x (mkE k) (mkM_at ms k x hxk)
      rw [mkM_set ms k (by rw [Hl.out]; exact hlt)] at e5
      rw [show ((cellsM (mkM ms k)).set (k * 2) (.complex .f32 (mkW (2 * k + 1)) 1065353216)).set (k * 2 + 1) (.complex .f32 (mkW (2 * k + 2)) 1065353216) = cellsM (mkM ms (k + 1)) from e5] at s2
      have F := Lib.hid s2.1
      have G2 := Lib.hid (Kp.set (c := g1) (Kp.set (c := g1) Gr.out (k * 2) (.complex .f32 (mkW (2 * k + 1)) 1065353216)) (k * 2 + 1) (.complex .f32 (mkW (2 * k + 2)) 1065353216))
      clear s1 s2 hxk e5
      go_wp2_with fail
      go_roundw
      case rel => exact ⟨k + 1, by omega, by rw [show ((k + 1 : Nat) : Int) = (k : Int) + 1 from by omega], by rw [show 2 * ((k + 1 : Nat) : Int) + 1 = 2 * (k : Int) + 1 + 1 + 1 from by omega], F.out, G2.out⟩
      case measure => simp only [intOf]; omega
    · obtain rfl : k = n := by omega
      go_wp2_with fail
      go_ret
      exact ⟨rfl, Ow.out, Gr.out⟩

def HeldMI (n : Nat) (w : World) (m i : Value) (wr : World) : Prop := ∃ k : Nat, k ≤ n ∧ i = .int .i64 (k : Int) ∧ m = .int .i64 (2 * (k : Int) + 1) ∧ Nw w wr
set_option maxHeartbeats 6400000 in
set_option maxRecDepth 100000 in
theorem heldM_ok (ms : List M4) (n b : Nat) (v : Value) (hl : ms.length = n) (hn : n ≤ 16) (w : World) (h : w.ownsRow b 93 2 v n (cellsM (mkM ms n))) :
    Calls Tryz.prog 84 #[v, .int .i64 1] w fun e w' => e = .returned (.int .i64 (2 * (n : Int) + 1)) ∧ Nw w w' := by
  obtain ⟨va, vc, rfl⟩ := own_shape' h
  have H := Lib.hid h
  have Hl := Lib.hid hl
  clear h hl
  obtain ⟨o1, o2⟩ := one_nar
  have o3 := one_self
  go_enter Tryz.func84, Tryz.ntmps84
  go_wp2_with fail
  go_loopw [1, 5] (fun m i wr => HeldMI n w m i wr) (fun _ i _ => n - (intOf i).toNat)
  case atStart => exact ⟨0, by omega, rfl, rfl, Nw.refl _⟩
  case round =>
    obtain ⟨k, hk, rfl, rfl, hN⟩ := hrel
    have Nr := Lib.hid hN
    clear hN
    by_cases hlt : k < n
    · obtain ⟨g1, cap1, hv1, hcap1, hmax1, -, e1, e2⟩ := own_mode (own_nw H.out Nr.out) (mkM_get ms n k hlt) (by rw [mkM_len ms n (by rw [Hl.out]; exact Nat.le_refl _)]; exact Hl.out.symm)
      cases hv1
      unfold maxLen at hmax1
      obtain ⟨c1, c2⟩ := mkW_nar (2 * k + 1) (by omega) (2 * (k : Int) + 1) (by omega)
      obtain ⟨c3, c4⟩ := mkW_nar (2 * k + 2) (by omega) (2 * (k : Int) + 1 + 1) (by omega)
      have q1 := mkW_self (2 * k + 1) (by omega)
      have q2 := mkW_self (2 * k + 2) (by omega)
      unfold mkE at e1 e2
      simp only at e1 e2
      go_wp2_with fail
      go_roundw
      case rel => exact ⟨k + 1, by omega, by rw [show ((k + 1 : Nat) : Int) = (k : Int) + 1 from by omega], by rw [show 2 * ((k + 1 : Nat) : Int) + 1 = 2 * (k : Int) + 1 + 1 + 1 from by omega], Nr.out⟩
      case measure => simp only [intOf]; omega
    · obtain rfl : k = n := by omega
      go_wp2_with fail
      go_ret
      exact ⟨rfl, Nr.out⟩

end Go.Proofs.YtnmjkjjmigiabaaGreatDoor

/- eqBody, markBody, heldBody.
   Conditions: those that each statement names. -/
namespace Go.Proofs.YtnmjkjjmigiabaaGreatDoor
set_option linter.unusedSimpArgs false
set_option linter.unusedVariables false
open Go Go.RowKit

set_option maxRecDepth 100000 in
theorem sameComplex_self (a b : Nat) (w : World) :
    Calls Tryz.prog 143 #[.complex .f64 a b, .complex .f64 a b] w fun e w' => e = .returned (.bool true) ∧ w = w' := by
  go_enter Tryz.func143, Tryz.ntmps143
  go_wp2_with (go_at_call 100; refine (sameFloat_any _ _ _).mono ?_; rintro e w5 ⟨rfl, rfl⟩; rw [sameF_self])
  all_goals
    go_ret
    exact ⟨rfl, rfl⟩

set_option maxRecDepth 100000 in
theorem eqMode_ok (m : M4) (hm : m.Fin) (w : World) :
    Calls Tryz.prog 141 #[.agg #[.complex .f32 m.pr m.pi, .complex .f32 m.gr m.gi], .agg #[.complex .f32 m.pr m.pi, .complex .f32 m.gr m.gi]] w fun e w' => e = .returned (.bool true) ∧ Nw w w' := by
  have u1 := fun w => fcv_up hm.1 w
  have u2 := fun w => fcv_up hm.2.1 w
  have u3 := fun w => fcv_up hm.2.2.1 w
  have u4 := fun w => fcv_up hm.2.2.2 w
  have v1 := fcd_up hm.1
  have v2 := fcd_up hm.2.1
  have v3 := fcd_up hm.2.2.1
  have v4 := fcd_up hm.2.2.2
  go_enter Tryz.func141, Tryz.ntmps141
  go_wp2_with (go_at_call 143; refine (sameComplex_self _ _ _).mono ?_; rintro e w5 ⟨rfl, rfl⟩)
  all_goals
    go_ret
    exact ⟨rfl, ((Nw.refl _).alloc _).alloc _⟩

set_option maxHeartbeats 6400000 in
set_option maxRecDepth 100000 in
theorem eqModeS_ok (ms : List M4) (hf : ∀ m ∈ ms, m.Fin) (n b1 b2 : Nat) (v u : Value) (hl : ms.length = n) (hn : n ≤ 1048576) (w : World) (h1 : w.ownsRow b1 93 2 v n (cellsM ms)) (h2 : w.ownsRow b2 93 2 u n (cellsM ms)) :
    Calls Tryz.prog 82 #[v, u] w fun e w' => e = .returned (.bool true) ∧ Nw w w' := by
  obtain ⟨va, vc, rfl⟩ := own_shape' h1
  obtain ⟨ua, uc, rfl⟩ := own_shape' h2
  have H1 := Lib.hid h1
  have H2 := Lib.hid h2
  have Hl := Lib.hid hl
  have Hf := Lib.hid hf
  clear h1 h2 hl hf
  go_enter Tryz.func82, Tryz.ntmps82
  go_wp2_with fail
  go_loopw [5] (fun i wr => CountI n w i wr) (fun i _ => n - (intOf i).toNat)
  case atStart => exact ⟨0, by omega, rfl, Nw.refl _⟩
  case round =>
    obtain ⟨k, hk, rfl, hN⟩ := hrel
    have Nr := Lib.hid hN
    clear hN
    by_cases hlt : k < n
    · obtain ⟨x, hxk⟩ : ∃ x, ms[k]? = some x := ⟨ms[k]'(by rw [Hl.out]; exact hlt), List.getElem?_eq_getElem _⟩
      obtain ⟨g1, cap1, hv1, hcap1, hmax1, -, e1, e1'⟩ := own_mode (own_nw H1.out Nr.out) hxk Hl.out.symm
      obtain ⟨g2, cap2, hv2, hcap2, hmax2, -, e2, e2'⟩ := own_mode (own_nw H2.out Nr.out) hxk Hl.out.symm
      cases hv1
      cases hv2
      unfold maxLen at hmax1 hmax2
      have Fx := Lib.hid (Hf.out x (List.mem_of_getElem? hxk))
      clear hxk
      go_upto_region 6 with fail
      have K1 := Lib.hid (eqMode_ok x Fx.out wr.drew)
      go_region_with (first
        | (go_at_call 141
           refine K1.out.mono ?_
           rintro e w5 ⟨rfl, n5⟩
           have N5 := Lib.hid (((Nw.refl wr).draw 1).trans n5)
           clear n5))
      all_goals
        go_wp2_with fail
        go_roundw
        case rel => exact ⟨k + 1, by omega, by rw [show ((k + 1 : Nat) : Int) = (k : Int) + 1 from by omega], Nr.out.trans N5.out⟩
        case measure => simp only [intOf]; omega
    · obtain rfl : k = n := by omega
      go_wp2_with fail
      go_ret
      exact ⟨rfl, Nr.out⟩

set_option maxRecDepth 100000 in
theorem eqBody_ok (ms : List M4) (hf : ∀ m ∈ ms, m.Fin) (n b1 b2 : Nat) (v u : Value) (hl : ms.length = n) (hn : n ≤ 1048576) (w : World) (h1 : w.ownsRow b1 93 2 v n (cellsM ms)) (h2 : w.ownsRow b2 93 2 u n (cellsM ms)) :
    Calls Tryz.prog 29 #[.agg #[v], .agg #[u]] w fun e w' => e = .returned (.bool true) ∧ Nw w w' := by
  obtain ⟨va, vc, rfl⟩ := own_shape' h1
  obtain ⟨ua, uc, rfl⟩ := own_shape' h2
  have C := Lib.hid (fun w => eqModeS_ok ms hf n b1 b2 (.slice va n vc) (.slice ua n uc) hl hn w)
  have H1 := Lib.hid h1
  have H2 := Lib.hid h2
  clear h1 h2 hl hf
  go_enter Tryz.func29, Tryz.ntmps29
  go_wp2_with fail
  refine (C.out _ ((H1.out.alloc _).alloc _) ((H2.out.alloc _).alloc _)).mono ?_
  rintro e w1 ⟨rfl, n1⟩
  have N1 := Lib.hid ((((Nw.refl w).alloc _).alloc _).trans n1)
  clear n1
  go_wp2_with fail
  go_ret
  exact ⟨rfl, N1.out⟩
set_option maxRecDepth 100000 in
theorem markBody_ok (ms : List M4) (n b : Nat) (v : Value) (hl : ms.length = n) (hn : n ≤ 16) (w : World) (h : w.ownsRow b 93 2 v n (cellsM ms)) :
    Calls Tryz.prog 30 #[.agg #[v], .int .i64 1] w (MarkMP ms n b v w) := by
  obtain ⟨va, vc, rfl⟩ := own_shape' h
  have C := Lib.hid (fun w => markM_ok ms n b (.slice va n vc) hl hn w)
  have H := Lib.hid h
  clear h hl
  go_enter Tryz.func30, Tryz.ntmps30
  go_wp2_with fail
  refine (C.out _ (H.out.alloc _)).mono ?_
  rintro e w1 ⟨rfl, o1, g1⟩
  have O1 := Lib.hid o1
  have G1 := Lib.hid ((World.grownBy_alloc w _ (Value.slice va n vc).ownBlock).trans' g1)
  clear o1 g1
  go_wp2_with fail
  go_ret
  exact ⟨rfl, O1.out, G1.out⟩
set_option maxRecDepth 100000 in
theorem heldBody_ok (ms : List M4) (n b : Nat) (v : Value) (hl : ms.length = n) (hn : n ≤ 16) (w : World) (h : w.ownsRow b 93 2 v n (cellsM (mkM ms n))) :
    Calls Tryz.prog 31 #[.agg #[v], .int .i64 1] w fun e w' => e = .returned (.int .i64 (2 * (n : Int) + 1)) ∧ Nw w w' := by
  obtain ⟨va, vc, rfl⟩ := own_shape' h
  have C := Lib.hid (fun w => heldM_ok ms n b (.slice va n vc) hl hn w)
  have H := Lib.hid h
  clear h hl
  go_enter Tryz.func31, Tryz.ntmps31
  go_wp2_with fail
  refine (C.out _ (H.out.alloc _)).mono ?_
  rintro e w1 ⟨rfl, n1⟩
  have N1 := Lib.hid (((Nw.refl w).alloc _).trans n1)
  clear n1
  have h0 : ¬ (2 * (n : Int) + 1 < 0) := by omega
  go_wp2_with fail
  go_ret
  exact ⟨rfl, N1.out⟩
end Go.Proofs.YtnmjkjjmigiabaaGreatDoor

/- The law FnExactParseBody as a call.
   Conditions: those that each statement names. -/
namespace Go.Proofs.YtnmjkjjmigiabaaGreatDoor
set_option linter.unusedSimpArgs false
set_option linter.unusedVariables false
open Go Go.RowKit

/-- the answer: the body of these modes, or the empty one and false -/
def PbQ (ms : List M4) (b : Bool) (w : World) (e : Ending) (w' : World) : Prop :=
  ∃ v, e = .returned (.tuple #[.agg #[v], .bool b]) ∧ w'.ownsRow w.heap.size 93 2 v ms.length (cellsM ms) ∧ Nw w w'
theorem parseBody_both (s : ByteArray) (hs : s.size ≤ 1048576) : ∃ ms b, (∀ m ∈ ms, m.Fin) ∧ ms.length ≤ 16 ∧ (∀ w, Calls Tryz.prog 28 #[.string s] w (PbQ ms b w)) ∧ (∀ w, LibW w → Calls Tryz.prog 19 #[.string s] w (PbQ ms b w)) := by
  by_cases h : ∃ ms, GoodB s.data.toList ms
  · obtain ⟨ms, g⟩ := h
    have hf : ∀ m ∈ ms, m.Fin := fun m hm => by
      obtain ⟨ps, a, -⟩ := g.2
      obtain ⟨p, hp⟩ := a.memr m hm
      exact (lineM_fin hp).1
    have key : ∀ w e w', PbP s.data.toList w e w' → PbQ ms true w e w' := by
      rintro w e w' ⟨hn, ⟨ns, v, g2, -, rfl, own⟩ | ⟨hno, -⟩⟩
      · have e := LinesT.val lineM_K g2.2 g.2
        subst e
        exact ⟨v, rfl, own, hn⟩
      · exact absurd g (hno ms)
    exact ⟨ms, true, hf, ((bodyB_iff ms).1 g.1).1, fun w => (specParseBody s hs w).mono fun e w' h => key w e w' h, fun w hL => (implParseBody s hs w hL).mono fun e w' h => key w e w' h⟩
  · have hno : ∀ ms, ¬ GoodB s.data.toList ms := fun ms g => h ⟨ms, g⟩
    have key : ∀ w e w', PbP s.data.toList w e w' → PbQ [] false w e w' := by
      rintro w e w' ⟨hn, ⟨ns, v, g2, -⟩ | ⟨-, rfl⟩⟩
      · exact absurd g2 (hno ns)
      · exact ⟨_, rfl, World.ownsRow_nil _ _ _ _, hn⟩
    exact ⟨[], false, by simp, by simp, fun w => (specParseBody s hs w).mono fun e w' h => key w e w' h, fun w hL => (implParseBody s hs w hL).mono fun e w' h => key w e w' h⟩

theorem nw_gr {a w w' : World} {v : Value} {base : Nat} {E : TypeId} {size n : Nat} {xs : List Value} (h : Nw a w) (hg : w.grownBy w' v.ownBlock) (ho : w.ownsRow base E size v n xs) (hb : a.heap.size ≤ base) : Nw a w' :=
  nwg h hg (fun q hq => Nat.le_trans hb (own_ge ho q hq))
theorem own_gr {w w' : World} {v u : Value} {b1 b2 : Nat} {E F : TypeId} {s1 s2 n1 n2 : Nat} {xs ys : List Value} {W : World} (h0 : W.ownsRow b1 E s1 v n1 xs) (hb : W.heap.size ≤ b2) (h : w.ownsRow b1 E s1 v n1 xs) (h2 : w.ownsRow b2 F s2 u n2 ys) (hg : w.grownBy w' u.ownBlock) : w'.ownsRow b1 E s1 v n1 xs := by
  refine h.kept hg ?_
  cases hv : v.ownBlock with
  | none => exact .inl rfl
  | some q =>
    right
    intro e
    have a1 := (h0.lt q hv).2
    have a2 := own_ge h2 q e.symm
    omega

set_option maxHeartbeats 12800000 in
set_option maxRecDepth 100000 in
theorem law_parseBody (s : ByteArray) (w : World) (hL : LibW w) :
    Calls Tryz.prog 4 #[.string s] w fun e w' => e = .returned (.bool true) ∧ Nw w w' := by
  by_cases hs : s.size ≤ 1048576
  · obtain ⟨ms, b, hf, h16, k1, k2⟩ := parseBody_both s hs
    obtain ⟨n, hn⟩ : ∃ n, n = ms.length := ⟨_, rfl⟩
    unfold PbQ at k1 k2
    rw [← hn] at k1 k2 h16
    have Hn := Lib.hid hn.symm
    have Hf := Lib.hid hf
    have C1 := Lib.hid k1
    have C2 := Lib.hid k2
    have L := Lib.hid hL
    clear hn hf k1 k2 hL
    go_enter Tryz.func4, Tryz.ntmps4
    go_wp2_with fail
    refine (C1.out _).mono ?_
    rintro e w1 ⟨v0, rfl, own0, n1⟩
    obtain ⟨va, vc, rfl⟩ := own_shape' own0
    have B0 := Lib.hid (Has1.new w1 38 (.slice va n vc))
    have O1 := Lib.hid (own0.alloc (.cells #[.slice va n vc] 38 (0, 0)))
    have N1 := Lib.hid (n1.alloc (.cells #[.slice va n vc] 38 (0, 0)))
    have hs1 := Lib.hid (show w.heap.size ≤ w1.heap.size from n1.size)
    have hs1' := Lib.hid (show (w1.alloc (.cells #[.slice va n vc] 38 (0, 0))).heap.size = w1.heap.size + 1 from by simp)
    clear own0 n1
    go_wp2_with fail
    refine (C2.out _ (L.out.nw N1.out)).mono ?_
    rintro e w2 ⟨g0, rfl, own1, n2⟩
    rw [hs1'.out] at own1
    obtain ⟨ga, gc, rfl⟩ := own_shape' own1
    have B1 := Lib.hid ((B0.out.nw n2).alloc (.cells #[.slice ga n gc] 38 (0, 0)))
    have D1 := Lib.hid (Has1.new w2 38 (.slice ga n gc))
    have O2 := Lib.hid ((own_nw O1.out n2).alloc (.cells #[.slice ga n gc] 38 (0, 0)))
    have G2 := Lib.hid (own1.alloc (.cells #[.slice ga n gc] 38 (0, 0)))
    have N2 := Lib.hid ((N1.out.trans n2).alloc (.cells #[.slice ga n gc] 38 (0, 0)))
    have hs2 : w1.heap.size < w2.heap.size := by have := (B0.out.nw n2).1; omega
    have Gb := Lib.hid (fun q hq => (own1.lt q hq).2)
    clear own1 n2
    obtain ⟨x0, x1, x2⟩ := B1.out
    obtain ⟨y0, y1, y2⟩ := D1.out
    go_wp2_with fail
    refine (eqBody_ok ms Hf.out n _ _ (.slice ga n gc) (.slice va n vc) Hn.out (by omega) _ G2.out O2.out).mono ?_
    rintro e w3 ⟨rfl, n3⟩
    have B3 := Lib.hid (B1.out.nw n3)
    have D3 := Lib.hid (D1.out.nw n3)
    have O3 := Lib.hid (own_nw O2.out n3)
    have G3 := Lib.hid (own_nw G2.out n3)
    have N3 := Lib.hid (N2.out.trans n3)
    clear n3 x0 x1 x2 y0 y1 y2
    obtain ⟨x0, x1, x2⟩ := B3.out
    obtain ⟨y0, y1, y2⟩ := D3.out
    have h0 : ¬ (2 * (n : Int) + 1 < 0) := by omega
    go_wp2_with fail
    refine (markBody_ok ms n _ _ Hn.out h16 _ G3.out).mono ?_
    rintro e w4 ⟨rfl, g4, gr4⟩
    have hrow : ∀ q, (Value.slice ga n gc).ownBlock = some q → w1.heap.size + 1 ≤ q ∧ q < w2.heap.size := fun q hq => ⟨own_ge G3.out q hq, Gb.out q hq⟩
    have B4 := Lib.hid (B3.out.grown gr4 (fun e => by have := (hrow _ e).1; omega))
    have D4 := Lib.hid (D3.out.grown gr4 (fun e => by have := (hrow _ e).2; omega))
    have O4 := Lib.hid (own_gr O1.out (by rw [hs1'.out]; exact Nat.le_refl _) O3.out G3.out gr4)
    have G4 := Lib.hid g4
    have N4 := Lib.hid (nw_gr N3.out gr4 G3.out (by have := hs1.out; omega))
    clear g4 gr4 hrow x0 x1 x2 y0 y1 y2
    obtain ⟨x0, x1, x2⟩ := B4.out
    obtain ⟨y0, y1, y2⟩ := D4.out
    go_wp2_with fail
    refine (heldBody_ok ms n _ _ Hn.out h16 _ G4.out).mono ?_
    rintro e w5 ⟨rfl, n5⟩
    have B5 := Lib.hid (B4.out.nw n5)
    have D5 := Lib.hid (D4.out.nw n5)
    have O5 := Lib.hid (own_nw O4.out n5)
    have G5 := Lib.hid (own_nw G4.out n5)
    have N5 := Lib.hid (N4.out.trans n5)
    clear n5 x0 x1 x2 y0 y1 y2
    go_wp2_with fail
    refine (C2.out _ (L.out.nw N5.out)).mono ?_
    rintro e w6 ⟨h0', rfl, own6, n6⟩
    obtain ⟨ha, hc, rfl⟩ := own_shape' own6
    have B6 := Lib.hid ((B5.out.nw n6).alloc (.cells #[.slice ha n hc] 38 (0, 0)))
    have D6 := Lib.hid ((D5.out.nw n6).alloc (.cells #[.slice ha n hc] 38 (0, 0)))
    have E6 := Lib.hid (Has1.new w6 38 (.slice ha n hc))
    have O6 := Lib.hid ((own_nw O5.out n6).alloc (.cells #[.slice ha n hc] 38 (0, 0)))
    have G6 := Lib.hid ((own_nw G5.out n6).alloc (.cells #[.slice ha n hc] 38 (0, 0)))
    have H6 := Lib.hid (own6.alloc (.cells #[.slice ha n hc] 38 (0, 0)))
    have N6 := Lib.hid ((N5.out.trans n6).alloc (.cells #[.slice ha n hc] 38 (0, 0)))
    clear own6 n6
    obtain ⟨x0, x1, x2⟩ := B6.out
    obtain ⟨z0, z1, z2⟩ := E6.out
    go_wp2_with fail
    refine (eqBody_ok ms Hf.out n _ _ (.slice ha n hc) (.slice va n vc) Hn.out (by omega) _ H6.out O6.out).mono ?_
    rintro e w7 ⟨rfl, n7⟩
    have D7 := Lib.hid (D6.out.nw n7)
    have G7 := Lib.hid (own_nw G6.out n7)
    have N7 := Lib.hid (N6.out.trans n7)
    clear n7 x0 x1 x2 z0 z1 z2
    obtain ⟨y0, y1, y2⟩ := D7.out
    go_wp2_with fail
    refine (heldBody_ok ms n _ _ Hn.out h16 _ G7.out).mono ?_
    rintro e w8 ⟨rfl, n8⟩
    have N8 := Lib.hid (N7.out.trans n8)
    clear n8
    go_wp2_with fail
    go_ret
    exact ⟨rfl, N8.out⟩
  · have hs' : 1048576 < s.size := by omega
    clear hs hL
    go_enter Tryz.func4, Tryz.ntmps4
    go_wp2_with fail
    all_goals
      go_ret
      exact ⟨rfl, Nw.refl _⟩
end Go.Proofs.YtnmjkjjmigiabaaGreatDoor

/- Rows of rows of any lengths in memory; the walks of both IsRoom, over any rooms whose numbers are finite.
   Conditions: those that each statement names. -/
namespace Go.Proofs.YtnmjkjjmigiabaaGreatDoor
set_option linter.unusedSimpArgs false
set_option linter.unusedVariables false
open Go Go.RowKit

/-- a slice of rows of samples -/
def RowsG (w : World) (base : Nat) (sv : Value) (rows : List (List Nat)) : Prop :=
  ∃ vs : List Value, w.ownsRow base 35 1 sv rows.length vs ∧ ∀ (p : Nat) r, rows[p]? = some r → ∃ v, vs[p]? = some v ∧ w.ownsRow base 25 1 v r.length (cellsS r)
theorem RowsG.nil (w : World) (base : Nat) : RowsG w base (.slice none 0 0) [] := ⟨[], World.ownsRow_nil _ _ _ _, fun p r h => by simp at h⟩
theorem RowsG.nw {w w' : World} {base : Nat} {sv : Value} {rows : List (List Nat)} (h : RowsG w base sv rows) (hk : Nw w w') : RowsG w' base sv rows := by
  obtain ⟨vs, h1, h2⟩ := h
  exact ⟨vs, own_nw h1 hk, fun p r hp => by obtain ⟨v, a, b⟩ := h2 p r hp; exact ⟨v, a, own_nw b hk⟩⟩
theorem RowsG.base {w : World} {base b' : Nat} {sv : Value} {rows : List (List Nat)} (h : RowsG w base sv rows) (hb : b' ≤ base) : RowsG w b' sv rows := by
  obtain ⟨vs, h1, h2⟩ := h
  exact ⟨vs, own_base h1 hb, fun p r hp => by obtain ⟨v, a, b⟩ := h2 p r hp; exact ⟨v, a, own_base b hb⟩⟩
theorem RowsG.set {w : World} {base : Nat} {sv : Value} {rows : List (List Nat)} (h : RowsG w base sv rows) {p : Addr} (hp : p.block < base) (u : Value) : RowsG (w.setCell p u) base sv rows := by
  obtain ⟨vs, h1, h2⟩ := h
  exact ⟨vs, own_set h1 hp u, fun p r hp' => by obtain ⟨v, a, b⟩ := h2 p r hp'; exact ⟨v, a, own_set b hp u⟩⟩
theorem RowsG.shape {w : World} {base : Nat} {sv : Value} {rows : List (List Nat)} (h : RowsG w base sv rows) : ∃ a c, sv = .slice a rows.length c := by
  obtain ⟨vs, h1, h2⟩ := h
  exact own_shape' h1
theorem RowsG.lt {w : World} {base : Nat} {sv : Value} {rows : List (List Nat)} (h : RowsG w base sv rows) : ∀ k, sv.ownBlock = some k → base ≤ k ∧ k < w.heap.size := by
  obtain ⟨vs, h1, h2⟩ := h
  exact h1.lt
/-- a row behind the others -/
theorem RowsG.snoc {w w' : World} {base b2 : Nat} {sv sv' rv : Value} {rows : List (List Nat)} {vs : List Value} {r : List Nat} (ho : w.ownsRow base 35 1 sv rows.length vs)
    (hi : ∀ (p : Nat) r, rows[p]? = some r → ∃ v, vs[p]? = some v ∧ w.ownsRow base 25 1 v r.length (cellsS r)) (hr : w.ownsRow b2 25 1 rv r.length (cellsS r)) (hb : base ≤ b2)
    (hn : w'.ownsRow base 35 1 sv' (rows.length + 1) (vs ++ [rv])) (hg : w.grownBy w' sv.ownBlock) : RowsG w' base sv' (rows ++ [r]) := by
  refine ⟨vs ++ [rv], by rw [List.length_append]; exact hn, fun p r' hp => ?_⟩
  have hv : vs.length = rows.length := by have := ho.1; omega
  by_cases h : p < rows.length
  · rw [List.getElem?_append_left h] at hp
    obtain ⟨v, b, c⟩ := hi p r' hp
    exact ⟨v, by rw [List.getElem?_append_left (by omega)]; exact b, c.kept hg (own_apart c ho (by decide))⟩
  · have h2 := (List.getElem?_eq_some_iff.1 hp).1
    rw [List.length_append] at h2
    obtain rfl : p = rows.length := by simp at h2; omega
    rw [List.getElem?_append_right (Nat.le_refl _), Nat.sub_self] at hp
    simp at hp
    subst hp
    exact ⟨rv, by rw [← hv, List.getElem?_append_right (Nat.le_refl _), Nat.sub_self]; rfl, own_base (hr.kept hg (own_apart hr ho (by decide))) hb⟩
/-- one row, read -/
theorem RowsG.at {w : World} {base n : Nat} {sv : Value} {rows : List (List Nat)} (h : RowsG w base sv rows) (hn : n = rows.length) {p : Nat} {r : List Nat} (hp : rows[p]? = some r) :
    ∃ g cap a c, sv = .slice (some ⟨g, 0, none⟩) n cap ∧ n ≤ cap ∧ cap ≤ maxLen ∧ g < w.heap.size ∧ w.cell? ⟨g, p, none⟩ = some (.slice a r.length c) ∧ w.ownsRow base 25 1 (.slice a r.length c) r.length (cellsS r) := by
  obtain ⟨vs, ho, hi⟩ := h
  obtain ⟨v, h2, h3⟩ := hi p r hp
  have hk := (List.getElem?_eq_some_iff.1 hp).1
  obtain ⟨a, c, rfl⟩ := own_shape' h3
  rcases ho.2 with ⟨_, h0⟩ | ⟨g, cap, cur, hv, hb, hg, hc, hm, hs, ht⟩
  · omega
  · subst hv
    have c1 := ho.cellAt p (by omega)
    rw [h2] at c1
    exact ⟨g, cap, a, c, by rw [hn], by omega, hm, (ho.lt g rfl).2, c1, h3⟩

/-! ### weights -/
theorem isWeight_any (x : Nat) (hx : Sm x) (w : World) :
    Calls Tryz.prog 188 #[.float .f32 x] w fun e w' => e = .returned (.bool (wgt x)) ∧ w = w' := by
  have hn : nan32 1098907648 = false := by decide
  have hx' : nan32 x = false := by
    obtain ⟨t, k, l, hr⟩ := hx
    unfold nan32; rw [show FloatKind.f32.decode x = _ from hr]; rfl
  go_enter Tryz.func188, Tryz.ntmps188
  go_wp2_with fail
  refine (implAbs_wide x hx' _).mono ?_
  rintro e w1 ⟨⟨q, rfl, hq⟩, rfl⟩
  have hr : (FloatKind.f32.format.order q 1098907648 == some .lt || FloatKind.f32.format.order q 1098907648 == some .eq) = wgt x := by
    unfold wgt leB
    rw [show (4625196817309499392 : Nat) = wid 1098907648 from by decide +kernel, show FloatKind.f64.format.order (labs (wid x)) (wid 1098907648) = FloatKind.f32.format.order q 1098907648 from hq.order_wid hn]
  go_wp2
  go_ret
  exact ⟨by rw [← hr]; rfl, rfl⟩

def WgtI (xs : List Nat) (n : Nat) (w : World) (i : Value) (wr : World) : Prop := ∃ k : Nat, k ≤ n ∧ i = .int .i64 (k : Int) ∧ (∀ j : Nat, j < k → ∀ x, xs[j]? = some x → wgt x = true) ∧ Nw w wr
theorem wgt_all {xs : List Nat} (h : ∀ j : Nat, j < xs.length → ∀ x, xs[j]? = some x → wgt x = true) : xs.all wgt = true := by
  rw [List.all_eq_true]
  intro x hx
  obtain ⟨j, hj⟩ := List.getElem?_of_mem hx
  exact h j (List.getElem?_eq_some_iff.1 hj).1 x hj
theorem wgt_bad {xs : List Nat} {x : Nat} (hx : x ∈ xs) (h : wgt x = false) : xs.all wgt = false := by
  cases hb : xs.all wgt
  · rfl
  · have := (List.all_eq_true.1 hb) x hx
    rw [h] at this; cases this
theorem areWeights_any (xs : List Nat) (n b : Nat) (v : Value) (hn : xs.length = n) (hn16 : n ≤ 1048576) (hx : ∀ x ∈ xs, Sm x) (w : World) (h : w.ownsRow b 25 1 v n (cellsS xs)) :
    Calls Tryz.prog 135 #[v] w (TestP (xs.all wgt) w) := by
  obtain ⟨va, vc, rfl⟩ := own_shape' h
  have H := Lib.hid h
  have Hn := Lib.hid hn
  have Hx := Lib.hid hx
  clear h hn hx
  go_enter Tryz.func135, Tryz.ntmps135
  go_wp2_with fail
  go_loopw [7] (fun i wr => WgtI xs n w i wr) (fun i _ => n - (intOf i).toNat)
  case atStart => exact ⟨0, by omega, rfl, fun j hj => absurd hj (by omega), Nw.refl _⟩
  case round =>
    obtain ⟨k, hk, rfl, hal, hnw⟩ := hrel
    have Nr := Lib.hid hnw
    have Al := Lib.hid hal
    clear hnw hal
    by_cases hlt : k < n
    · obtain ⟨x, hxk⟩ : ∃ x, xs[k]? = some x := ⟨xs[k]'(by rw [Hn.out]; exact hlt), List.getElem?_eq_getElem _⟩
      obtain ⟨g1, cap1, hv1, hcap1, hmax1, -, e1⟩ := own_sample (own_nw H.out Nr.out) hxk Hn.out.symm
      cases hv1
      have Hw := Lib.hid (Hx.out x (List.mem_of_getElem? hxk))
      unfold maxLen at hmax1
      have Xk := Lib.hid hxk
      clear hxk
      go_wp2_with fail
      refine (isWeight_any x Hw.out _).mono ?_
      rintro e w5 ⟨rfl, rfl⟩
      cases hb : wgt x with
      | true =>
        go_wp2_with fail
        go_roundw
        case rel =>
          refine ⟨k + 1, by omega, by rw [show ((k + 1 : Nat) : Int) = (k : Int) + 1 from by omega], fun j hj y hy => ?_, Nr.out⟩
          by_cases hjk : j < k
          · exact Al.out j hjk y hy
          · obtain rfl : j = k := by omega
            rw [Xk.out] at hy
            cases hy
            exact hb
        case measure => simp only [intOf]; omega
      | false =>
        go_wp2_with fail
        go_ret
        exact ⟨by rw [wgt_bad (List.mem_of_getElem? Xk.out) hb]; first | done | rfl, Nr.out⟩
    · go_wp2_with fail
      go_ret
      exact ⟨by rw [wgt_all (fun j hj => Al.out j (by have := Hn.out; omega))]; first | done | rfl, Nr.out⟩

/-! ### rooms -/
theorem roomB_body {ms : List M4} {rows : List (List Nat)} (h : bodyB ms = false) : roomB ms rows = false := by unfold roomB; rw [h]; rfl
theorem roomB_long {ms : List M4} {rows : List (List Nat)} (h : 16 < rows.length) : roomB ms rows = false := by unfold roomB; rw [decide_eq_false (by omega)]; simp
theorem roomB_row {ms : List M4} {rows : List (List Nat)} {r : List Nat} (hr : r ∈ rows) (h : rowB ms.length r = false) : roomB ms rows = false := by
  cases hb : roomB ms rows
  · rfl
  · have := (roomB_iff.1 hb).2.2 r hr
    rw [h] at this; cases this
theorem roomB_all {ms : List M4} {rows : List (List Nat)} (h1 : bodyB ms = true) (h2 : rows.length ≤ 16) (h : ∀ j : Nat, j < rows.length → ∀ r, rows[j]? = some r → rowB ms.length r = true) : roomB ms rows = true := by
  refine roomB_iff.2 ⟨h1, h2, fun r hr => ?_⟩
  obtain ⟨j, hj⟩ := List.getElem?_of_mem hr
  exact h j (List.getElem?_eq_some_iff.1 hj).1 r hj
def RoomJ (rows : List (List Nat)) (q P : Nat) (w w1 : World) (i : Value) (wr : World) : Prop := ∃ k : Nat, k ≤ P ∧ i = .int .i64 (k : Int) ∧ (∀ j : Nat, j < k → ∀ r, rows[j]? = some r → rowB q r = true) ∧ Nw w wr ∧ Nw w1 wr

set_option maxHeartbeats 1600000 in
set_option maxRecDepth 100000 in
theorem implIsRoom_any (ms : List M4) (rows : List (List Nat)) (q P b : Nat) (mv sv : Value) (w : World) (hq : ms.length = q) (hq16 : q ≤ 64) (hP : rows.length = P) (hP16 : P ≤ 64) (hf : ∀ m ∈ ms, m.Fin) (hs : ∀ r ∈ rows, (∀ x ∈ r, Sm x) ∧ r.length ≤ 1048576)
    (hm : w.ownsRow b 93 2 mv q (cellsM ms)) (hr : RowsG w b sv rows) :
    Calls Tryz.prog 69 #[.agg #[mv, sv]] w (TestP (roomB ms rows) w) := by
  obtain ⟨ma, mc, rfl⟩ := own_shape' hm
  obtain ⟨sa, sc, rfl⟩ := hr.shape
  rw [hP] at hr ⊢
  have N0 := Lib.hid ((Nw.refl w).alloc (.cells #[.slice ma q mc, .slice sa P sc] 43 (0, 0)))
  have B0 := Lib.hid (Has2.new w 43 (.slice ma q mc) (.slice sa P sc))
  have Hm := Lib.hid hm
  have Hr := Lib.hid hr
  have E := Lib.hid hP
  have Q := Lib.hid hq
  have Hs := Lib.hid (And.intro hf hs)
  clear hm hr hP hq hf hs
  go_enter Tryz.func69, Tryz.ntmps69
  obtain ⟨b0, b1, b2, b3, b4⟩ := B0.out
  go_wp2_with fail
  refine (implIsBody_fin ms Hs.out.1 q b _ Q.out hq16 _ (own_nw Hm.out N0.out)).mono ?_
  rintro e w1 ⟨rfl, n1⟩
  have B1 := Lib.hid (B0.out.nw n1)
  have N1 := Lib.hid (N0.out.trans n1)
  clear n1 b0 b1 b2 b3 b4
  obtain ⟨b0, b1, b2, b3, b4⟩ := B1.out
  cases hb : bodyB ms with
  | false =>
    go_wp2_with fail
    go_ret
    exact ⟨by rw [roomB_body hb]; first | done | rfl, N1.out⟩
  | true =>
    by_cases hP2 : P ≤ 16
    · have hi : ¬ ((16 : Int) < (P : Int)) := by omega
      go_wp2_with fail
      go_loopw [19] (fun i wr => RoomJ rows q P w w1 i wr) (fun i _ => P - (intOf i).toNat)
      case atStart => exact ⟨0, by omega, rfl, fun j hj => absurd hj (by omega), N1.out, Nw.refl _⟩
      case round =>
        obtain ⟨k, hk, rfl, hal, hnw, hn1⟩ := hrel
        have Nr := Lib.hid (And.intro hnw hn1)
        have Al := Lib.hid hal
        clear hnw hn1 b0 b1 b2 b3 b4 hal
        by_cases hlt : k < P
        · obtain ⟨r, hrk⟩ : ∃ r, rows[k]? = some r := ⟨rows[k]'(by rw [E.out]; exact hlt), List.getElem?_eq_getElem _⟩
          obtain ⟨g, cap, ra, rc, hv, hcap, hmax, hgs, e1, own⟩ := (Hr.out.nw Nr.out.1).at E.out.symm hrk
          cases hv
          have Hw := Lib.hid (Hs.out.2 r (List.mem_of_getElem? hrk))
          have Ow := Lib.hid own
          have B2 := Lib.hid (B1.out.nw Nr.out.2)
          have Rk := Lib.hid hrk
          obtain ⟨b0, b1, b2, b3, b4⟩ := B2.out
          unfold maxLen at hmax
          clear hrk own
          by_cases hrq : r.length = q
          · have HR := Lib.hid hrq
            have Ow2 := Lib.hid (show wr.ownsRow b 25 1 (.slice ra q rc) q (cellsS r) from by have h := Ow.out; rw [hrq] at h; exact h)
            rw [hrq] at e1
            have hqr : q ≤ 1048576 := by omega
            clear hrq Ow
            go_wp2_with fail
            refine (areWeights_any r q _ _ HR.out hqr Hw.out.1 _ Ow2.out).mono ?_
            rintro e w5 ⟨rfl, n5⟩
            have N5 := Lib.hid (And.intro (Nr.out.1.trans n5) (Nr.out.2.trans n5))
            clear n5 e1 b0 b1 b2 b3 b4
            cases hwb : r.all wgt with
            | true =>
              go_wp2_with fail
              go_roundw
              case rel =>
                refine ⟨k + 1, by omega, by rw [show ((k + 1 : Nat) : Int) = (k : Int) + 1 from by omega], fun j hj r' hr' => ?_, N5.out.1, N5.out.2⟩
                by_cases hjk : j < k
                · exact Al.out j hjk r' hr'
                · obtain rfl : j = k := by omega
                  rw [Rk.out] at hr'
                  cases hr'
                  unfold rowB
                  rw [decide_eq_true HR.out, hwb]; rfl
              case measure => simp only [intOf]; omega
            | false =>
              go_wp2_with fail
              go_ret
              exact ⟨by rw [roomB_row (List.mem_of_getElem? Rk.out) (by unfold rowB; rw [hwb]; simp)]; first | done | rfl, N5.out.1⟩
          · have hri : ((r.length : Int) == (q : Int)) = false := by simp; omega
            go_wp2_with fail
            go_ret
            exact ⟨by rw [roomB_row (List.mem_of_getElem? Rk.out) (by unfold rowB; rw [decide_eq_false (by rw [Q.out]; exact hrq)]; rfl)]; first | done | rfl, Nr.out.1⟩
        · go_wp2_with fail
          go_ret
          exact ⟨by rw [roomB_all hb (by rw [E.out]; exact hP2) (fun j hj r hr => by rw [Q.out]; exact Al.out j (by have := E.out; omega) r hr)]; first | done | rfl, Nr.out.1⟩
    · have hi : ((16 : Int) < (P : Int)) := by omega
      go_wp2_with fail
      go_ret
      exact ⟨by rw [roomB_long (by rw [E.out]; omega)]; first | done | rfl, N1.out⟩

def RowK (r : List Nat) (w1 : World) (i : Value) (wr : World) : Prop := ∃ k : Nat, k ≤ r.length ∧ i = .int .i64 (k : Int) ∧ (∀ j : Nat, j < k → ∀ x, r[j]? = some x → wgt x = true) ∧ Nw w1 wr
set_option maxHeartbeats 3200000 in
set_option maxRecDepth 100000 in
theorem specIsRoom_any (ms : List M4) (rows : List (List Nat)) (q P b : Nat) (mv sv : Value) (w : World) (hq : ms.length = q) (hq16 : q ≤ 64) (hP : rows.length = P) (hP16 : P ≤ 64) (hs : ∀ r ∈ rows, (∀ x ∈ r, Sm x) ∧ r.length ≤ 1048576)
    (hm : w.ownsRow b 93 2 mv q (cellsM ms)) (hr : RowsG w b sv rows) :
    Calls Tryz.prog 74 #[.agg #[mv, sv]] w (TestP (roomB ms rows) w) := by
  obtain ⟨ma, mc, rfl⟩ := own_shape' hm
  obtain ⟨sa, sc, rfl⟩ := hr.shape
  rw [hP] at hr ⊢
  have N0 := Lib.hid ((Nw.refl w).alloc (.cells #[.slice ma q mc, .slice sa P sc] 43 (0, 0)))
  have B0 := Lib.hid (Has2.new w 43 (.slice ma q mc) (.slice sa P sc))
  have Hm := Lib.hid hm
  have Hr := Lib.hid hr
  have E := Lib.hid hP
  have Q := Lib.hid hq
  have Hs := Lib.hid hs
  clear hm hr hP hq hs
  go_enter Tryz.func74, Tryz.ntmps74
  obtain ⟨b0, b1, b2, b3, b4⟩ := B0.out
  go_wp2_with fail
  refine (specModes_fin ms q b _ Q.out hq16 _ (own_nw Hm.out N0.out)).mono ?_
  rintro e w1 ⟨rfl, n1⟩
  have B1 := Lib.hid (B0.out.nw n1)
  have N1 := Lib.hid (N0.out.trans n1)
  clear n1 b0 b1 b2 b3 b4
  obtain ⟨b0, b1, b2, b3, b4⟩ := B1.out
  cases hb : bodyB ms with
  | false =>
    go_wp2_with fail
    go_ret
    exact ⟨by rw [roomB_body hb]; first | done | rfl, N1.out⟩
  | true =>
    by_cases hP2 : P ≤ 16
    · have hi : ¬ ((16 : Int) < (P : Int)) := by omega
      go_wp2_with fail
      go_loopw [20] (fun i wr => RoomJ rows q P w w1 i wr) (fun i _ => P - (intOf i).toNat)
      case atStart => exact ⟨0, by omega, rfl, fun j hj => absurd hj (by omega), N1.out, Nw.refl _⟩
      case round =>
        obtain ⟨k, hk, rfl, hal, hnw, hn1⟩ := hrel
        obtain ⟨wo, hwo⟩ : ∃ wo, wo = wr := ⟨_, rfl⟩
        subst hwo
        have Nr := Lib.hid (And.intro hnw hn1)
        have Al := Lib.hid hal
        clear hnw hn1 b0 b1 b2 b3 b4 hal
        by_cases hlt : k < P
        · obtain ⟨r, hrk⟩ : ∃ r, rows[k]? = some r := ⟨rows[k]'(by rw [E.out]; exact hlt), List.getElem?_eq_getElem _⟩
          obtain ⟨g, cap, ra, rc, hv, hcap, hmax, hgs, e1, own⟩ := (Hr.out.nw Nr.out.1).at E.out.symm hrk
          cases hv
          have Hw := Lib.hid (Hs.out r (List.mem_of_getElem? hrk))
          have B2 := Lib.hid (B1.out.nw Nr.out.2)
          have Rk := Lib.hid hrk
          obtain ⟨b0, b1, b2, b3, b4⟩ := B2.out
          unfold maxLen at hmax
          clear hrk
          by_cases hrq : r.length = q
          · have HR := Lib.hid hrq
            have Ow2 := Lib.hid (show wo.ownsRow b 25 1 (.slice ra q rc) q (cellsS r) from by have h := own; rw [hrq] at h; exact h)
            rw [hrq] at e1
            have hqr : q ≤ 1048576 := by omega
            clear hrq own
            go_wp2_with fail
            go_loopw [32] (fun i wx => RowK r wo i wx) (fun i _ => q - (intOf i).toNat)
            case atStart => exact ⟨0, by omega, rfl, fun j hj => absurd hj (by omega), Nw.refl _⟩
            case round =>
              obtain ⟨j, hj, rfl, haj, hnj⟩ := hrel
              have Nj := Lib.hid hnj
              have Aj := Lib.hid haj
              have hjq : j ≤ q := by rw [HR.out] at hj; exact hj
              clear hnj haj hj
              by_cases hlj : j < q
              · obtain ⟨x, hxk⟩ : ∃ x, r[j]? = some x := ⟨r[j]'(by rw [HR.out]; exact hlj), List.getElem?_eq_getElem _⟩
                obtain ⟨g1, cap1, hv1, hcap1, hmax1, -, e2⟩ := own_sample (own_nw Ow2.out Nj.out) hxk HR.out.symm
                cases hv1
                have hsm := Hw.out.1 x (List.mem_of_getElem? hxk)
                have a1 := fcv_up hsm
                have a2 := fcd_up hsm
                have a3 : (FloatKind.f64.format.order (labs (wid x)) 4625196817309499392 == some .lt || FloatKind.f64.format.order (labs (wid x)) 4625196817309499392 == some .eq) = wgt x := rfl
                have Xk := Lib.hid hxk
                unfold maxLen at hmax1
                clear hxk hsm
                cases hwb : wgt x with
                | true =>
                  rw [hwb] at a3
                  go_wp2_with fail
                  refine (l1Abs_any _ _).mono ?_
                  rintro e w' ⟨rfl, rfl⟩
                  go_wp2_with fail
                  go_roundw
                  case rel =>
                    refine ⟨j + 1, by rw [HR.out]; omega, by rw [show ((j + 1 : Nat) : Int) = (j : Int) + 1 from by omega], fun i hi y hy => ?_, Nj.out⟩
                    by_cases hij : i < j
                    · exact Aj.out i hij y hy
                    · obtain rfl : i = j := by omega
                      rw [Xk.out] at hy
                      cases hy
                      exact hwb
                  case measure => simp only [intOf]; omega
                | false =>
                  rw [hwb] at a3
                  go_wp2_with fail
                  refine (l1Abs_any _ _).mono ?_
                  rintro e w' ⟨rfl, rfl⟩
                  go_wp2_with fail
                  go_ret
                  exact ⟨by rw [roomB_row (List.mem_of_getElem? Rk.out) (by unfold rowB; rw [wgt_bad (List.mem_of_getElem? Xk.out) hwb]; simp)]; first | done | rfl, Nr.out.1.trans Nj.out⟩
              · go_wp2_with fail
                go_roundw
                case rel =>
                  refine ⟨k + 1, by omega, by rw [show ((k + 1 : Nat) : Int) = (k : Int) + 1 from by omega], fun i hi r' hr' => ?_, Nr.out.1.trans Nj.out, Nr.out.2.trans Nj.out⟩
                  by_cases hij : i < k
                  · exact Al.out i hij r' hr'
                  · obtain rfl : i = k := by omega
                    rw [Rk.out] at hr'
                    cases hr'
                    unfold rowB
                    rw [decide_eq_true HR.out, wgt_all (fun i hi => Aj.out i (by have := HR.out; omega))]; rfl
                case measure => simp only [intOf]; omega
          · have hri : ((r.length : Int) == (q : Int)) = false := by simp; omega
            go_wp2_with fail
            go_ret
            exact ⟨by rw [roomB_row (List.mem_of_getElem? Rk.out) (by unfold rowB; rw [decide_eq_false (by rw [Q.out]; exact hrq)]; rfl)]; first | done | rfl, Nr.out.1⟩
        · go_wp2_with fail
          go_ret
          exact ⟨by rw [roomB_all hb (by rw [E.out]; exact hP2) (fun j hj r hr => by rw [Q.out]; exact Al.out j (by have := E.out; omega) r hr)]; first | done | rfl, Nr.out.1⟩
    · have hi : ((16 : Int) < (P : Int)) := by omega
      go_wp2_with fail
      go_ret
      exact ⟨by rw [roomB_long (by rw [E.out]; omega)]; first | done | rfl, N1.out⟩
end Go.Proofs.YtnmjkjjmigiabaaGreatDoor

/- impl.ParseRoom.
   Conditions: those that each statement names. -/
namespace Go.Proofs.YtnmjkjjmigiabaaGreatDoor
set_option linter.unusedSimpArgs false
set_option linter.unusedVariables false
open Go Go.RowKit

def RdPP (n : Nat) (l : List UInt8) (w : World) (e : Ending) (w' : World) : Prop :=
  Nw w w' ∧ ((∃ row v, LinePn n l row ∧ e = .returned (.tuple #[v, .bool true]) ∧ w'.ownsRow w.heap.size 25 1 v n (cellsS row)) ∨
    ((∀ row, ¬ LinePn n l row) ∧ e = .returned (.tuple #[.slice none 0 0, .bool false])))
theorem linePn_sm {n : Nat} {p : List UInt8} {row : List Nat} (h : LineP p row) : ∀ x ∈ row, Sm x := by
  obtain ⟨ts, -, a⟩ := h
  intro x hx
  obtain ⟨t, ht⟩ := a.memr x hx
  exact ht.2.1
set_option maxHeartbeats 3200000 in
set_option maxRecDepth 100000 in
theorem readPlace_ok (n : Nat) (hn : n ≤ 16) (s : ByteArray) (hs : s.size ≤ 1048576) (b : Nat) (ma : Option Addr) (mc : Nat) (w : World) (hL : LibW w) (hB : Has1 w b (.slice ma n mc)) :
    Calls Tryz.prog 66 #[.string s, .pointer (some ⟨b, 0, none⟩)] w (RdPP n s.data.toList w) := by
  have C := Lib.hid (fun w h => readNumbersS wPlace (by decide) s hs n hn w h)
  have L := Lib.hid hL
  obtain ⟨b0, b1, b2⟩ := hB
  clear hL
  go_enter Tryz.func66, Tryz.ntmps66
  go_wp2_with fail
  refine (C.out _ L.out).mono ?_
  rintro e w1 ⟨n1, ⟨xs, v, hx, hl, rfl, own⟩ | ⟨hno, rfl⟩⟩
  · have N1 := Lib.hid n1
    have O1 := Lib.hid own
    have H := Lib.hid (show LinePn n s.data.toList xs from ⟨hl, hx⟩)
    clear n1 own hx hl b0 b1 b2
    go_wp2_with fail
    go_ret2
    exact ⟨N1.out, .inl ⟨xs, v, H.out, rfl, O1.out⟩⟩
  · have N1 := Lib.hid n1
    have H := Lib.hid (show ∀ row, ¬ LinePn n s.data.toList row from fun row h => hno row h.2 h.1)
    clear n1 hno b0 b1 b2
    go_wp2_with fail
    go_ret2
    exact ⟨N1.out, .inr ⟨H.out, rfl⟩⟩

/-- rows that lie apart -/
def Dis (vs : List Value) : Prop := ∀ (i j : Nat) v u, i < j → vs[i]? = some v → vs[j]? = some u → v.ownBlock = none ∨ v.ownBlock ≠ u.ownBlock
def RowsH (w : World) (base : Nat) (sv : Value) (rows : List (List Nat)) : Prop :=
  ∃ vs : List Value, w.ownsRow base 35 1 sv rows.length vs ∧ (∀ (p : Nat) r, rows[p]? = some r → ∃ v, vs[p]? = some v ∧ w.ownsRow base 25 1 v r.length (cellsS r)) ∧ Dis vs
theorem RowsH.g {w : World} {base : Nat} {sv : Value} {rows : List (List Nat)} (h : RowsH w base sv rows) : RowsG w base sv rows := by
  obtain ⟨vs, h1, h2, -⟩ := h
  exact ⟨vs, h1, h2⟩
theorem RowsH.nil (w : World) (base : Nat) : RowsH w base (.slice none 0 0) [] := ⟨[], World.ownsRow_nil _ _ _ _, fun p r h => by simp at h, fun i j v u _ h => by simp at h⟩
theorem RowsH.nw {w w' : World} {base : Nat} {sv : Value} {rows : List (List Nat)} (h : RowsH w base sv rows) (hk : Nw w w') : RowsH w' base sv rows := by
  obtain ⟨vs, h1, h2, h3⟩ := h
  exact ⟨vs, own_nw h1 hk, fun p r hp => by obtain ⟨v, a, b⟩ := h2 p r hp; exact ⟨v, a, own_nw b hk⟩, h3⟩
theorem RowsH.base {w : World} {base b' : Nat} {sv : Value} {rows : List (List Nat)} (h : RowsH w base sv rows) (hb : b' ≤ base) : RowsH w b' sv rows := by
  obtain ⟨vs, h1, h2, h3⟩ := h
  exact ⟨vs, own_base h1 hb, fun p r hp => by obtain ⟨v, a, b⟩ := h2 p r hp; exact ⟨v, a, own_base b hb⟩, h3⟩
theorem RowsH.set {w : World} {base : Nat} {sv : Value} {rows : List (List Nat)} (h : RowsH w base sv rows) {p : Addr} (hp : p.block < base) (u : Value) : RowsH (w.setCell p u) base sv rows := by
  obtain ⟨vs, h1, h2, h3⟩ := h
  exact ⟨vs, own_set h1 hp u, fun p r hp' => by obtain ⟨v, a, b⟩ := h2 p r hp'; exact ⟨v, a, own_set b hp u⟩, h3⟩
theorem Dis.snoc {w : World} {base b2 n : Nat} {vs : List Value} {rv : Value} {rows : List (List Nat)} {r : List Nat} {W : World} (hd : Dis vs) (hl : vs.length = rows.length)
    (hi : ∀ (p : Nat) r, rows[p]? = some r → ∃ v, vs[p]? = some v ∧ W.ownsRow base 25 1 v r.length (cellsS r)) (hr : w.ownsRow b2 25 1 rv n (cellsS r)) (hb : W.heap.size ≤ b2) : Dis (vs ++ [rv]) := by
  intro i j v u hij hv hu
  have hjl := (List.getElem?_eq_some_iff.1 hu).1
  simp at hjl
  by_cases hj : j < vs.length
  · rw [List.getElem?_append_left hj] at hu
    rw [List.getElem?_append_left (by omega)] at hv
    exact hd i j v u hij hv hu
  · obtain rfl : j = vs.length := by omega
    rw [List.getElem?_append_right (Nat.le_refl _), Nat.sub_self] at hu
    simp at hu
    subst hu
    rw [List.getElem?_append_left hij] at hv
    obtain ⟨r', hr'⟩ : ∃ r', rows[i]? = some r' := ⟨rows[i]'(by omega), List.getElem?_eq_getElem _⟩
    obtain ⟨v', h1, h2⟩ := hi i r' hr'
    rw [hv] at h1
    cases h1
    cases hvb : v.ownBlock with
    | none => exact .inl rfl
    | some q =>
      right
      intro e
      have a1 := (h2.lt q hvb).2
      have a2 := own_ge hr q e.symm
      omega

theorem RowsH.snoc {w w' : World} {base b2 : Nat} {sv sv' rv : Value} {rows : List (List Nat)} {vs : List Value} {r : List Nat} (ho : w.ownsRow base 35 1 sv rows.length vs)
    (hi : ∀ (p : Nat) r, rows[p]? = some r → ∃ v, vs[p]? = some v ∧ w.ownsRow base 25 1 v r.length (cellsS r)) (hr : w.ownsRow b2 25 1 rv r.length (cellsS r)) (hb : base ≤ b2)
    (hn : w'.ownsRow base 35 1 sv' (rows.length + 1) (vs ++ [rv])) (hg : w.grownBy w' sv.ownBlock) (hd : Dis (vs ++ [rv])) : RowsH w' base sv' (rows ++ [r]) := by
  refine ⟨vs ++ [rv], by rw [List.length_append]; exact hn, fun p r' hp => ?_, hd⟩
  have hv : vs.length = rows.length := by have := ho.1; omega
  by_cases h : p < rows.length
  · rw [List.getElem?_append_left h] at hp
    obtain ⟨v, b, c⟩ := hi p r' hp
    exact ⟨v, by rw [List.getElem?_append_left (by omega)]; exact b, c.kept hg (own_apart c ho (by decide))⟩
  · have h2 := (List.getElem?_eq_some_iff.1 hp).1
    rw [List.length_append] at h2
    obtain rfl : p = rows.length := by simp at h2; omega
    rw [List.getElem?_append_right (Nat.le_refl _), Nat.sub_self] at hp
    simp at hp
    subst hp
    exact ⟨rv, by rw [← hv, List.getElem?_append_right (Nat.le_refl _), Nat.sub_self]; rfl, own_base (hr.kept hg (own_apart hr ho (by decide))) hb⟩

def LinesPI (n : Nat) (l : List UInt8) (w0 : World) (t v i : Value) (wr : World) : Prop :=
  ∃ (k : Nat) (rows : List (List Nat)) (ps : List (List UInt8)) (r : List UInt8), k ≤ 16 ∧ rows.length = k ∧ i = .int .i64 (k : Int) ∧ t = .string ⟨r.toArray⟩ ∧ All2 (LinePn n) ps rows ∧ l = glueC 10 ps ++ r ∧ RowsH wr w0.heap.size v rows ∧ Nw w0 wr
def LinesPP (n : Nat) (l : List UInt8) (w : World) (e : Ending) (w' : World) : Prop :=
  ∃ (rows : List (List Nat)) (r : List UInt8) (v : Value), e = .returned (.tuple #[v, .string ⟨r.toArray⟩]) ∧ ReadT (LinePn n) 16 l rows r ∧ RowsH w' w.heap.size v rows ∧ Nw w w'
set_option maxHeartbeats 6400000 in
set_option maxRecDepth 100000 in
theorem readLinesP (n : Nat) (hn : n ≤ 16) (s : ByteArray) (hs : s.size ≤ 1048576) (b : Nat) (ma : Option Addr) (mc : Nat) (w : World) (hL : LibW w) (hB : Has1 w b (.slice ma n mc)) :
    Calls Tryz.prog 68 #[.string s, .int .i64 16, .func (.func 66) #[] #[.pointer (some ⟨b, 0, none⟩)]] w (LinesPP n s.data.toList w) := by
  obtain ⟨i0, hi, hz0, hz1, hz2⟩ := info_parts info_rows
  have hl : s.data.toList.length = s.size := Array.length_toList
  have L := Lib.hid hL
  have B := Lib.hid hB
  clear hL hB
  go_enter Tryz.func68, Tryz.ntmps68
  go_wp2_with fail
  go_loopw [0, 8, 15] (fun t v i wr => LinesPI n s.data.toList w t v i wr) (fun _ _ i _ => 16 - (intOf i).toNat)
  case atStart => exact ⟨0, [], [], s.data.toList, by omega, rfl, rfl, rfl, trivial, rfl, RowsH.nil _ _, Nw.refl _⟩
  case round =>
    obtain ⟨k, rows, ps, r, hk, hmk, rfl, rfl, hal, hlr, hown, hN⟩ := hrel
    have Al := Lib.hid hal
    have Hl := Lib.hid hlr
    have Ow := Lib.hid hown
    have Nr := Lib.hid hN
    have Mk := Lib.hid hmk
    have hrs : (⟨r.toArray⟩ : ByteArray).size ≤ 1048576 := by
      have h1 : s.data.toList.length = (glueC 10 ps).length + r.length := by rw [hlr, List.length_append]
      have h3 : (⟨r.toArray⟩ : ByteArray).size = r.length := List.size_toArray
      omega
    have hr1 : r.length ≤ 1048576 := by
      have h3 : (⟨r.toArray⟩ : ByteArray).size = r.length := List.size_toArray
      omega
    obtain ⟨sa, sc, rfl⟩ := hown.g.shape
    have hsz := Lib.hid (show w.heap.size ≤ wr.heap.size from hN.size)
    clear hal hlr hown hN hmk
    by_cases hlt : k < 16
    · have C := Lib.hid (cutLine_ok ⟨r.toArray⟩ hrs wr)
      clear hrs
      go_wp2_with fail
      refine C.out.mono ?_
      rintro e w1 ⟨n1, ⟨p, q, hpq0, hp, rfl⟩ | ⟨hno0, rfl⟩⟩
      · have hpq : r = p ++ 10 :: q := by simpa using hpq0
        have N1 := Lib.hid (Nr.out.trans n1)
        have O1 := Lib.hid (Ow.out.nw n1)
        have hps : (⟨p.toArray⟩ : ByteArray).size ≤ 1048576 := by
          have h1 : r.length = p.length + (q.length + 1) := by rw [hpq, List.length_append, List.length_cons]
          have h3 : (⟨p.toArray⟩ : ByteArray).size = p.length := List.size_toArray
          omega
        have P := Lib.hid (readPlace_ok n hn ⟨p.toArray⟩ hps b ma mc w1 (L.out.nw N1.out) (B.out.nw N1.out))
        have Hpq := Lib.hid (And.intro hpq hp)
        have hs1 := Lib.hid (show w.heap.size ≤ w1.heap.size from N1.out.size)
        clear n1 hpq hp hps hr1 hpq0
        go_wp2_with fail
        refine P.out.mono ?_
        rintro e w2 ⟨n2, ⟨row, rv, hm, rfl, own2⟩ | ⟨hno, rfl⟩⟩
        · have N2 := Lib.hid (N1.out.trans n2)
          have O2 := Lib.hid (O1.out.nw n2)
          have Hm := Lib.hid hm
          obtain ⟨ra, rc, rfl⟩ := own_shape' own2
          have R2 := Lib.hid own2
          have hs2 := Lib.hid (show w.heap.size ≤ w2.heap.size from N2.out.size)
          obtain ⟨vs, ho1, hi1, hd1⟩ := O1.out
          have Vs := Lib.hid (And.intro ho1 (And.intro hi1 hd1))
          have ho2 := own_nw ho1 n2
          have Vs2 := Lib.hid (show ∀ (p : Nat) r, rows[p]? = some r → ∃ v, vs[p]? = some v ∧ w2.ownsRow w.heap.size 25 1 v r.length (cellsS r) from fun p r hp => by obtain ⟨v, a, b⟩ := hi1 p r hp; exact ⟨v, a, own_nw b n2⟩)
          have Ho2 := Lib.hid ho2
          clear n2 hm own2 ho1 hi1 hd1 ho2
          go_wp2_with (at_builtin; refine wpList_append_own _ rfl _ _ 41 rfl w.heap.size 35 i0 (.slice none 0 0) 1 24 Tryz.underlying41 hi hz0 hz1 hz2 rfl (by decide) _ _ _ rfl (Ho2.out.alloc _) ⟨w2.heap.size, 0, none⟩ 1 1 [.slice ra n rc] rfl rfl ?c1 ?c2 ?c3 ?c4 ?c5 ?_)
          case c1 =>
            intro j u hj
            match j, hj with
            | 0, hj => simp at hj; subst hj; simp [Addr.add]
          case c2 => intro u hu; simp at hu; subst hu; rfl
          case c3 => unfold maxLen; have := Mk.out; omega
          case c4 => have := Mk.out; omega
          case c5 => have := hs2.out; simp; omega
          · intro v' w4 hown4 hgrow _
            have hrow : ∀ q, (Value.slice sa rows.length sc).ownBlock = some q → w.heap.size ≤ q := fun q hq => own_ge Ho2.out q hq
            have N4 := Lib.hid (nwg (N2.out.alloc _) hgrow hrow)
            have hrn := Hm.out.2
            have R3 := Lib.hid (show w2.ownsRow w1.heap.size 25 1 (.slice ra n rc) row.length (cellsS row) from by rw [hrn]; exact R2.out)
            have hvl : vs.length = rows.length := by have := Vs.out.1.1; omega
            have O4 := Lib.hid (RowsH.snoc (r := row) (Ho2.out.alloc _) (fun p r hp => by obtain ⟨v, a, b⟩ := Vs2.out p r hp; exact ⟨v, a, b.alloc _⟩) (R3.out.alloc _) hs1.out hown4 hgrow (Dis.snoc Vs.out.2.2 hvl Vs.out.2.1 R3.out (Nat.le_refl _)))
            clear hown4 hgrow hrow hrn hvl
            go_wp2_with fail
            go_roundw
            case rel =>
              refine ⟨k + 1, rows ++ [row], ps ++ [p], q, by omega, by rw [List.length_append, List.length_singleton, Mk.out], by rw [show ((k + 1 : Nat) : Int) = (k : Int) + 1 from by omega], rfl, Al.out.snoc Hm.out, ?_, O4.out, N4.out⟩
              rw [Hl.out, Hpq.out.1, glue_snoc]
              simp
            case measure => simp only [intOf]; omega
        · have N2 := Lib.hid (N1.out.trans n2)
          have O2 := Lib.hid (O1.out.nw n2)
          have Hno := Lib.hid hno
          clear n2 hno
          go_wp2_with fail
          go_ret2
          exact ⟨rows, r, _, rfl, ⟨ps, Al.out, Hl.out, by rw [Mk.out]; omega, .inr (.inr ⟨p, q, Hpq.out.1, Hpq.out.2, Hno.out⟩)⟩, O2.out, N2.out⟩
      · have hno : (10 : UInt8) ∉ r := by simpa using hno0
        have N1 := Lib.hid (Nr.out.trans n1)
        have O1 := Lib.hid (Ow.out.nw n1)
        have Hno := Lib.hid hno
        clear n1 hno hno0
        go_wp2_with fail
        go_ret2
        exact ⟨rows, r, _, rfl, ⟨ps, Al.out, Hl.out, by rw [Mk.out]; omega, .inr (.inl Hno.out)⟩, O1.out, N1.out⟩
    · have hk16 : k = 16 := by omega
      clear hrs
      go_wp2_with fail
      go_ret2
      exact ⟨rows, r, _, rfl, ⟨ps, Al.out, Hl.out, by rw [Mk.out]; omega, .inl (by rw [Mk.out, hk16])⟩, Ow.out, Nr.out⟩

/-! ### the room -/
def PrP (l : List UInt8) (w : World) (e : Ending) (w' : World) : Prop :=
  Nw w w' ∧ ((∃ (ms : List M4) (rows : List (List Nat)) (v u : Value), GoodR l ms rows ∧ e = .returned (.tuple #[.agg #[v, u], .bool true]) ∧ w'.ownsRow w.heap.size 93 2 v ms.length (cellsM ms) ∧ RowsH w' w.heap.size u rows) ∨
    ((∀ ms rows, ¬ GoodR l ms rows) ∧ e = .returned (.tuple #[.agg #[.slice none 0 0, .slice none 0 0], .bool false])))
set_option maxHeartbeats 6400000 in
set_option maxRecDepth 100000 in
theorem implParseRoom (s : ByteArray) (hs : s.size ≤ 1048576) (w : World) (hL : LibW w) :
    Calls Tryz.prog 21 #[.string s] w (PrP s.data.toList w) := by
  have C := Lib.hid (readLinesM s hs)
  have L := Lib.hid hL
  have B := Lib.hid (Has2.new w 43 (.slice none 0 0) (.slice none 0 0))
  clear hL
  go_enter Tryz.func21, Tryz.ntmps21
  go_wp2_with fail
  refine (C.out _ (L.out.nw ((Nw.refl w).alloc _))).mono ?_
  rintro e w1 ⟨ms, r1, v, rfl, hrd, own, n1⟩
  obtain ⟨va, vc, rfl⟩ := own_shape' own
  have Rd := Lib.hid hrd
  have hs0 : (w.alloc (.cells #[.slice none 0 0, .slice none 0 0] 43 (0, 0))).heap.size = w.heap.size + 1 := by simp
  rw [hs0] at own
  have N1 := Lib.hid ((((Nw.refl w).alloc (.cells #[.slice none 0 0, .slice none 0 0] 43 (0, 0))).trans n1).alloc (.cells #[.slice va ms.length vc] 36 (0, 0)))
  have B1 := Lib.hid ((B.out.nw n1).alloc (.cells #[.slice va ms.length vc] 36 (0, 0)))
  have O1 := Lib.hid (own.alloc (.cells #[.slice va ms.length vc] 36 (0, 0)))
  have M1 := Lib.hid (Has1.new w1 36 (.slice va ms.length vc))
  have hfin : ∀ m ∈ ms, m.Fin ∧ m.bits := by
    obtain ⟨ps, h1, -⟩ := hrd
    intro m hm
    obtain ⟨p, hp⟩ := h1.memr m hm
    exact lineM_fin hp
  have Hf := Lib.hid hfin
  have h16 : ms.length ≤ 16 := by obtain ⟨ps, -, -, h, -⟩ := hrd; exact h
  have hr1 : (⟨r1.toArray⟩ : ByteArray).size ≤ 1048576 := by
    obtain ⟨ps, -, h, -⟩ := hrd
    have h1 : s.data.toList.length = (glueC 10 ps).length + r1.length := by rw [h, List.length_append]
    have h2 : s.data.toList.length = s.size := Array.length_toList
    have h3 : (⟨r1.toArray⟩ : ByteArray).size = r1.length := List.size_toArray
    omega
  have hw1 : w.heap.size < w1.heap.size := (B.out.nw n1).1
  clear hrd own n1 hfin hs0
  have P := Lib.hid (readLinesP ms.length h16 ⟨r1.toArray⟩ hr1 w1.heap.size va vc _ (L.out.nw N1.out) M1.out)
  clear hr1
  go_wp2_with fail
  refine P.out.mono ?_
  rintro e w2 ⟨rows, r2, u, rfl, hrd2, own2, n2⟩
  obtain ⟨ua, uc, rfl⟩ := own2.g.shape
  have Rd2' := Lib.hid hrd2
  have hs1 : (w1.alloc (.cells #[.slice va ms.length vc] 36 (0, 0))).heap.size = w1.heap.size + 1 := by simp
  rw [hs1] at own2
  have hP16 : rows.length ≤ 16 := by obtain ⟨ps, -, -, h, -⟩ := hrd2; exact h
  have hsm : ∀ r ∈ rows, (∀ x ∈ r, Sm x) ∧ r.length ≤ 1048576 := by
    obtain ⟨ps, h1, -⟩ := hrd2
    intro r hr
    obtain ⟨p, hp⟩ := h1.memr r hr
    exact ⟨linePn_sm (n := 0) hp.1, by rw [hp.2]; omega⟩
  have Hs := Lib.hid hsm
  have N2 := Lib.hid (N1.out.trans n2)
  have B2 := Lib.hid (B1.out.nw n2)
  have M2 := Lib.hid (M1.out.nw n2)
  have O2 := Lib.hid (own_base (own_nw O1.out n2) (Nat.le_refl _))
  have U2 := Lib.hid (own2.base (show w.heap.size + 1 ≤ w1.heap.size + 1 by omega))
  have hw2 : w1.heap.size < w2.heap.size := M2.out.1
  clear hrd2 own2 n2 hsm hs1
  obtain ⟨b0, b1, b2, b3, b4⟩ := B2.out
  obtain ⟨m0, m1, m2⟩ := M2.out
  by_cases hr : r2 = []
  · subst hr
    have O3 := Lib.hid (O2.out.alloc (.cells #[.slice va ms.length vc, .slice ua rows.length uc] 43 (0, 0)))
    have U3 := Lib.hid (U2.out.nw ((Nw.refl w2).alloc (.cells #[.slice va ms.length vc, .slice ua rows.length uc] 43 (0, 0))))
    have B3 := Lib.hid (B2.out.alloc (.cells #[.slice va ms.length vc, .slice ua rows.length uc] 43 (0, 0)))
    have E3 := Lib.hid (Has2.new w2 43 (.slice va ms.length vc) (.slice ua rows.length uc))
    have N3 := Lib.hid (N2.out.alloc (.cells #[.slice va ms.length vc, .slice ua rows.length uc] 43 (0, 0)))
    go_wp2_with fail
    refine (implIsRoom_any ms rows ms.length rows.length _ (.slice va ms.length vc) (.slice ua rows.length uc) _ rfl (by omega) rfl (by omega) (fun m hm => (Hf.out m hm).1) Hs.out O3.out U3.out.g).mono ?_
    rintro e w4 ⟨rfl, n4⟩
    have O4 := Lib.hid (own_nw O3.out n4)
    have U4 := Lib.hid (U3.out.nw n4)
    have B4 := Lib.hid (B3.out.nw n4)
    have E4 := Lib.hid (E3.out.nw n4)
    have N4 := Lib.hid (N3.out.trans n4)
    have hw4 : w2.heap.size < w4.heap.size := E4.out.1
    clear n4 b0 b1 b2 b3 b4 m0 m1 m2
    obtain ⟨b0, b1, b2, b3, b4⟩ := B4.out
    obtain ⟨e0, e1, e2, e3, e4⟩ := E4.out
    have hne : w2.heap.size ≠ w.heap.size := by omega
    cases hb : roomB ms rows with
    | true =>
      go_wp2_with fail
      refine bodyPost_ret (v := .tuple #[.agg #[.slice va ms.length vc, .slice ua rows.length uc], .bool true]) (by simp [results, Tryz.results21, go_sem, b0, b1, b2, b3, b4]) rfl
        ⟨(N4.out.set (by show w.heap.size ≤ w.heap.size; omega) _).set (by show w.heap.size ≤ w.heap.size; omega) _, .inl ⟨ms, rows, _, _, ⟨hb, room_text Rd.out Rd2'.out⟩, rfl, own_base (own_set (own_set O4.out (by show w.heap.size < w.heap.size + 1; omega) _) (by show w.heap.size < w.heap.size + 1; omega) _) (by omega), ((U4.out.set (by show w.heap.size < w.heap.size + 1; omega) _).set (by show w.heap.size < w.heap.size + 1; omega) _).base (by omega)⟩⟩
    | false =>
      go_wp2_with fail
      refine bodyPost_ret (v := .tuple #[.agg #[.slice none 0 0, .slice none 0 0], .bool false]) (by simp [results, Tryz.results21, go_sem, b0, b1, b2, b3, b4]) rfl
        ⟨(N4.out.set (by show w.heap.size ≤ w.heap.size; omega) _).set (by show w.heap.size ≤ w.heap.size; omega) _, .inr ⟨fun ns rs h => ?_, rfl⟩⟩
      obtain ⟨e1, e2, -⟩ := room_read Rd.out Rd2'.out h
      rw [e1, e2, h.1] at hb
      cases hb
  · have hr0 : (r2 == []) = false := by simpa using hr
    go_wp2_with fail
    refine bodyPost_ret (v := .tuple #[.agg #[.slice none 0 0, .slice none 0 0], .bool false]) (by simp [results, Tryz.results21, go_sem, b0, b1, b2, b3, b4]) rfl
      ⟨((N2.out.set (by show w.heap.size ≤ w.heap.size; omega) _).set (by show w.heap.size ≤ w.heap.size; omega) _).alloc _, .inr ⟨fun ns rs h => ?_, rfl⟩⟩
    exact hr (room_read Rd.out Rd2'.out h).2.2
end Go.Proofs.YtnmjkjjmigiabaaGreatDoor

/- The model's text of a valid room.
   Conditions: those that each statement names. -/
namespace Go.Proofs.YtnmjkjjmigiabaaGreatDoor
set_option linter.unusedSimpArgs false
set_option linter.unusedVariables false
open Go Go.RowKit

def TxSP (x : Nat) (w : World) (e : Ending) (w' : World) : Prop := ∃ t, e = .returned (.string ⟨t.toArray⟩) ∧ TxS t x ∧ t.length ≤ 60 ∧ Nw w w'
theorem specTxS (x : Nat) (hx : x < 4294967296) (hf : Sm x) (w : World) : Calls Tryz.prog 76 #[.float .f32 x] w (TxSP x w) := by
  refine (specTextS x hx w).mono ?_
  rintro e w' ⟨xs, w1, rfl, ht, hn⟩
  rw [fcv_up hf] at ht
  exact ⟨byts xs, rfl, ⟨hx, hf, wid_lt x, fin_wid hf, xs, ht, rfl⟩, by unfold byts; rw [List.length_map]; exact txt_str ht, hn⟩

def RmFI (ms : List M4) (rows : List (List Nat)) (P : Nat) (w w1 : World) (o i : Value) (wr : World) : Prop :=
  ∃ (k : Nat) (l t1 t2 : List UInt8), k ≤ P ∧ i = .int .i64 (k : Int) ∧ o = .string ⟨l.toArray⟩ ∧ l = t1 ++ t2 ∧ LinesT LineM ms t1 ∧ LinesT LineP (rows.take k) t2 ∧ l.length ≤ 5000 + k * 1100 ∧ Nw w wr ∧ Nw w1 wr
def RmGI (l : List UInt8) (r : List Nat) (q : Nat) (w : World) (o i : Value) (wr : World) : Prop :=
  ∃ (j : Nat) (ts : List (List UInt8)) (z : List UInt8), j ≤ q ∧ i = .int .i64 (j : Int) ∧ o = .string ⟨z.toArray⟩ ∧ z = l ++ (wPlace ++ (ts.map (32 :: ·)).flatten) ∧ All2 TxS ts (r.take j) ∧ z.length ≤ l.length + 5 + j * 61 ∧ Nw w wr
def TextRP (ms : List M4) (rows : List (List Nat)) (w : World) (e : Ending) (w' : World) : Prop :=
  ∃ l, e = .returned (.string ⟨l.toArray⟩) ∧ TextR l ms rows ∧ l.length ≤ 1048576 ∧ Nw w w'
theorem map_snoc (ts : List (List UInt8)) (t : List UInt8) : ((ts ++ [t]).map (32 :: ·)).flatten = (ts.map (32 :: ·)).flatten ++ (32 :: t) := by simp

set_option maxHeartbeats 6400000 in
set_option maxRecDepth 100000 in
theorem specFormatRoom_ok (ms : List M4) (rows : List (List Nat)) (q P b : Nat) (mv sv : Value) (w : World) (hq : ms.length = q) (hP : rows.length = P) (hok : roomB ms rows = true) (hf : ∀ m ∈ ms, m.Fin ∧ m.bits) (hs : ∀ r ∈ rows, ∀ x ∈ r, x < 4294967296 ∧ Sm x)
    (hm : w.ownsRow b 93 2 mv q (cellsM ms)) (hr : RowsG w b sv rows) :
    Calls Tryz.prog 26 #[.agg #[mv, sv]] w (TextRP ms rows w) := by
  obtain ⟨o1, o2, o3⟩ := roomB_iff.1 hok
  have hq16 : q ≤ 16 := by have := ((bodyB_iff ms).1 o1).1; omega
  have hP16 : P ≤ 16 := by omega
  have hrl : ∀ r ∈ rows, r.length = q := fun r hr => by rw [(rowB_iff.1 (o3 r hr)).1, hq]
  obtain ⟨ma, mc, rfl⟩ := own_shape' hm
  obtain ⟨sa, sc, rfl⟩ := hr.shape
  rw [hP] at hr ⊢
  have N0 := Lib.hid ((Nw.refl w).alloc (.cells #[.slice ma q mc, .slice sa P sc] 43 (0, 0)))
  have B0 := Lib.hid (Has2.new w 43 (.slice ma q mc) (.slice sa P sc))
  have Hm := Lib.hid (own_nw hm N0.out)
  have Hr := Lib.hid (hr.nw N0.out)
  have E := Lib.hid hP
  have Q := Lib.hid hq
  have Hs := Lib.hid (And.intro hf (And.intro hs hrl))
  have Ok := Lib.hid hok
  clear hm hr hP hq hf hs hrl hok o1 o2 o3
  go_enter Tryz.func26, Tryz.ntmps26
  obtain ⟨b0, b1, b2, b3, b4⟩ := B0.out
  go_wp2_with fail
  refine (specIsRoom_any ms rows q P b (.slice ma q mc) (.slice sa P sc) _ Q.out (by omega) E.out (by omega) (fun r hr => ⟨fun x hx => (Hs.out.2.1 r hr x hx).2, by rw [Hs.out.2.2 r hr]; omega⟩) Hm.out Hr.out).mono ?_
  rintro e w1 ⟨rfl, n1⟩
  rw [Ok.out]
  have B1 := Lib.hid (B0.out.nw n1)
  have N1 := Lib.hid (N0.out.trans n1)
  have Hm1 := Lib.hid (own_nw Hm.out n1)
  have Hr1 := Lib.hid (Hr.out.nw n1)
  clear n1 b0 b1 b2 b3 b4
  obtain ⟨b0, b1, b2, b3, b4⟩ := B1.out
  go_wp2_with fail
  refine (l6Modes_ok ms Hs.out.1 q b _ Q.out hq16 _ Hm1.out).mono ?_
  rintro e w2 ⟨t1, rfl, hT, htl, n2⟩
  have B2 := Lib.hid (B1.out.nw n2)
  have N2 := Lib.hid (N1.out.trans n2)
  have Hr2 := Lib.hid (Hr1.out.nw n2)
  have T1 := Lib.hid hT
  clear n2 b0 b1 b2 b3 b4 hT
  obtain ⟨b0, b1, b2, b3, b4⟩ := B2.out
  go_wp2_with fail
  go_loopw [3, 17] (fun o i wr => RmFI ms rows P w w2 o i wr) (fun _ i _ => P - (intOf i).toNat)
  case atStart => exact ⟨0, t1, t1, [], by omega, rfl, rfl, by simp, T1.out, ⟨[], trivial, rfl⟩, by omega, N2.out, Nw.refl _⟩
  case round =>
    obtain ⟨k, l, u1, u2, hk, rfl, rfl, hl, hu1, hu2, hll, hnw, hn1⟩ := hrel
    obtain ⟨wo, hwo⟩ : ∃ wo, wo = wr := ⟨_, rfl⟩
    subst hwo
    have Nr := Lib.hid (And.intro hnw hn1)
    have U := Lib.hid (And.intro hl (And.intro hu1 hu2))
    clear hnw hn1 b0 b1 b2 b3 b4 hl hu1 hu2
    by_cases hlt : k < P
    · obtain ⟨r, hrk⟩ : ∃ r, rows[k]? = some r := ⟨rows[k]'(by rw [E.out]; exact hlt), List.getElem?_eq_getElem _⟩
      obtain ⟨g, cap, ra, rc, hv, hcap, hmax, hgs, e1, own⟩ := (Hr2.out.nw Nr.out.2).at E.out.symm hrk
      cases hv
      have hrq := Hs.out.2.2 r (List.mem_of_getElem? hrk)
      have Hw := Lib.hid (Hs.out.2.1 r (List.mem_of_getElem? hrk))
      have Rk := Lib.hid hrk
      have HR := Lib.hid hrq
      have Ow := Lib.hid (show wo.ownsRow b 25 1 (.slice ra q rc) q (cellsS r) from by have h := own; rw [hrq] at h; exact h)
      rw [hrq] at e1
      unfold maxLen at hmax
      clear hrk own hrq
      go_wp2_with fail
      go_loopw [3, 25] (fun o i wx => RmGI l r q wo o i wx) (fun _ i _ => q - (intOf i).toNat)
      case atStart => exact ⟨0, [], l ++ wPlace, by omega, rfl, rfl, by simp, trivial, by simp [wPlace], Nw.refl _⟩
      case round =>
        obtain ⟨j, ts, z, hj, rfl, rfl, hz, hts, hzl, hnj⟩ := hrel
        have Nj := Lib.hid hnj
        have Tj := Lib.hid (And.intro hts hz)
        clear hnj hts hz
        have hll2 : l.length ≤ 23000 := by omega
        have hzl2 : z.length ≤ 25000 := by omega
        by_cases hlj : j < q
        · obtain ⟨x, hxk⟩ : ∃ x, r[j]? = some x := ⟨r[j]'(by rw [HR.out]; exact hlj), List.getElem?_eq_getElem _⟩
          obtain ⟨g1, cap1, hv1, hcap1, hmax1, -, e2⟩ := own_sample (own_nw Ow.out Nj.out) hxk HR.out.symm
          cases hv1
          have Hx := Lib.hid (Hw.out x (List.mem_of_getElem? hxk))
          have C := Lib.hid (fun w => specTxS x Hx.out.1 Hx.out.2 w)
          have Xk := Lib.hid hxk
          unfold maxLen at hmax1
          clear hxk
          go_wp2_with fail
          refine (C.out _).mono ?_
          rintro e w5 ⟨t, rfl, ht, htl3, n5⟩
          have N5 := Lib.hid (Nj.out.trans n5)
          have Ht := Lib.hid ht
          clear n5 ht
          go_wp2_with fail
          go_roundw
          case rel =>
            obtain ⟨hj', he⟩ := List.getElem?_eq_some_iff.1 Xk.out
            refine ⟨j + 1, ts ++ [t], z ++ ([32] ++ t), by omega, by rw [show ((j + 1 : Nat) : Int) = (j : Int) + 1 from by omega], congrArg Value.string (by apply ByteArray.ext; simp), ?_, ?_, by simp; omega, N5.out⟩
            · rw [Tj.out.2, map_snoc]; simp
            · rw [List.take_succ_eq_append_getElem hj', he]
              exact Tj.out.1.snoc Ht.out
          case measure => simp only [intOf]; omega
        · have hjq : j = q := by omega
          go_wp2_with fail
          go_roundw
          case rel =>
            obtain ⟨hk', he⟩ := List.getElem?_eq_some_iff.1 Rk.out
            have hall : All2 TxS ts r := by
              have h := Tj.out.1
              rw [List.take_of_length_le (by rw [HR.out]; omega)] at h
              exact h
            obtain ⟨ps, a, e⟩ := U.out.2.2
            refine ⟨k + 1, z ++ [10], u1, u2 ++ ((wPlace ++ (ts.map (32 :: ·)).flatten) ++ [10]), by omega, by rw [show ((k + 1 : Nat) : Int) = (k : Int) + 1 from by omega], rfl, ?_, U.out.2.1, ⟨ps ++ [wPlace ++ (ts.map (32 :: ·)).flatten], ?_, ?_⟩, by simp; omega, Nr.out.1.trans Nj.out, Nr.out.2.trans Nj.out⟩
            · rw [Tj.out.2, U.out.1]; simp
            · rw [List.take_succ_eq_append_getElem hk', he]
              exact a.snoc (LineT.of txS_K (by decide) hall)
            · rw [e, glue_snoc]
          case measure => simp only [intOf]; omega
    · obtain rfl : k = P := by omega
      go_wp2_with fail
      go_ret
      obtain ⟨ps, a, e⟩ := U.out.2.1
      obtain ⟨qs, a2, e2⟩ := U.out.2.2
      rw [List.take_of_length_le (by have := E.out; omega)] at a2
      exact ⟨l, rfl, ⟨ps, qs, a, a2, by rw [U.out.1, e, e2]⟩, by omega, Nr.out.1⟩
end Go.Proofs.YtnmjkjjmigiabaaGreatDoor

/- impl.formatLine and impl.FormatBody.
   Conditions: those that each statement names. -/
namespace Go.Proofs.YtnmjkjjmigiabaaGreatDoor
set_option linter.unusedSimpArgs false
set_option linter.unusedVariables false
open Go Go.RowKit

theorem nwx_drew {w0 w : World} (h : Nw w0 w) : Nw w0 w.drew := h.draw 1
theorem nwx_drewN {w0 w : World} (h : Nw w0 w) {n : Nat} : Nw w0 (w.drewN n) := h.draw n
theorem nwx_alloc {w0 w : World} (h : Nw w0 w) {o : Obj} : Nw w0 (w.alloc o) := h.alloc o
theorem nw_bel {w0 w w' : World} {b : Nat} (h : Nw w0 w) (k : Below b w w') (hb : w0.heap.size ≤ b) : Nw w0 w' :=
  ⟨k.os.trans h.os, k.tape.trans h.tape, k.output.trans h.output, Nat.le_trans h.size k.size, fun i hi hne => (k.block i (by omega)).trans (h.block i hi hne)⟩
theorem builderAt_nw {w w' : World} {B b : Nat} {p : Value} {bs : List Value} (h : Lib.BuilderAt 98 5 B b p bs w) (k : Nw w w') : Lib.BuilderAt 98 5 B b p bs w' := by
  have hlt := h.lt
  obtain ⟨hB, v, hb, hown, hne⟩ := h
  exact ⟨hB, v, by rw [k.block b hlt (by simp)]; exact hb, own_nw hown k, hne⟩
theorem builder_nw {w w' : World} {B b : Nat} {bs : List Value} (h : Lib.IsBuilder 98 5 B b bs w) (k : Nw w w') : Lib.IsBuilder 98 5 B b bs w' :=
  h.elim (fun x => .inl (builderAt_nw x k)) (fun x => .inr (builderAt_nw x k))
theorem builder_new (w : World) : Lib.IsBuilder 98 5 w.heap.size w.heap.size (Lib.byteCells []) (w.alloc (.cells #[.pointer none, .slice none 0 0] 98 (0, 0))) :=
  .inl ⟨Nat.le_refl _, _, heap_alloc_new w _, World.ownsRow_nil _ _ _ _, by simp [Value.ownBlock]⟩
theorem builderF_nw {w w' : World} {B b : Nat} {bs : List Value} (h : Lib.IsBuilderF 98 5 B b bs w) (k : Nw w w') : Lib.IsBuilderF 98 5 B b bs w' := by
  have key : ∀ p, Lib.BuilderAtF 98 5 B b p bs w → Lib.BuilderAtF 98 5 B b p bs w' := fun p h => by
    have hlt := h.lt
    obtain ⟨hB, v, hb, hown, hne⟩ := h
    exact ⟨hB, v, by rw [k.block b hlt (by simp)]; exact hb, hown.kept k (by cases hv : v.ownBlock <;> simp), hne⟩
  exact h.elim (fun x => .inl (key _ x)) (fun x => .inr (key _ x))
theorem builderF_lt {w : World} {B b : Nat} {bs : List Value} (h : Lib.IsBuilderF 98 5 B b bs w) : b < w.heap.size := h.elim (fun x => x.lt) (fun x => x.lt)
theorem heap_cells {w : World} {q : Nat} {c0 c1 : Value} {T : TypeId} (h : w.heap[q]? = some (.cells #[c0, c1] T (0, 0))) : w.cell? ⟨q, 0, none⟩ = some c0 ∧ w.cell? ⟨q, 1, none⟩ = some c1 := by
  simp [World.cell?, h]
theorem byteCells_len (l : List UInt8) : (Lib.byteCells l).length = l.length := by simp [Lib.byteCells]
theorem byteCells_app (l m : List UInt8) : Lib.byteCells l ++ Lib.strCells ⟨m.toArray⟩ = Lib.byteCells (l ++ m) := by
  show Lib.byteCells l ++ Lib.byteCells m = _
  simp [Lib.byteCells]

/-- a line of pieces -/
def lineOf (xs : List (List UInt8)) : List UInt8 := Lib.join xs [32]
theorem lineOf_cons (p : List UInt8) (ts : List (List UInt8)) : lineOf (p :: ts) = p ++ (ts.map (32 :: ·)).flatten := by
  unfold lineOf; rw [Lib.join_cons]; rfl
def FlP (xs : List (List UInt8)) (w : World) (e : Ending) (w' : World) : Prop := e = .returned (.string ⟨(lineOf xs ++ [10]).toArray⟩) ∧ Nw w w'
set_option maxRecDepth 100000 in
theorem formatLine_ok (xs : List (List UInt8)) (n bk c : Nat) (hx : xs.length = n) (hc : n ≤ c) (hl : (lineOf xs).length ≤ 4194304) (hn : n ≤ 1048576) (w : World) (hbk : bk < w.heap.size) (h : ∀ (j : Nat) x, xs[j]? = some x → w.cell? ⟨bk, j, none⟩ = some (.string ⟨x.toArray⟩)) :
    Calls Tryz.prog 64 #[.slice (some ⟨bk, 0, none⟩) n c] w (FlP xs w) := by
  have hm : (xs.map fun x => (⟨x.toArray⟩ : ByteArray)).map (·.data.toList) = xs := by rw [List.map_map]; simp [Function.comp_def]
  have J := joinStrings bk 0 c (xs.map fun x => (⟨x.toArray⟩ : ByteArray)) ⟨#[32]⟩ w (fun j x hj => by
    rw [List.getElem?_map] at hj
    cases hxj : xs[j]? with
    | none => rw [hxj] at hj; simp at hj
    | some y =>
      rw [hxj] at hj
      simp at hj
      subst hj
      rw [Nat.zero_add]
      exact h j y hxj) hbk (by rw [List.length_map]; omega) (by rw [List.length_map]; omega) (by rw [hm]; show (lineOf xs).length ≤ _; omega)
  rw [hm, List.length_map, hx, show Lib.join xs (⟨#[32]⟩ : ByteArray).data.toList = lineOf xs from rfl] at J
  have K := Lib.hid J
  unfold FlP
  generalize lineOf xs = z at hl K ⊢
  clear J h hx hm
  go_enter Tryz.func64, Tryz.ntmps64
  go_wp2_with fail
  refine K.out.mono ?_
  rintro e w1 ⟨rfl, b1⟩
  have N1 := Lib.hid (nw_of_below b1)
  clear b1
  go_wp2_with fail
  go_ret
  exact ⟨rfl, N1.out⟩

theorem implTxS (x : Nat) (hx : x < 4294967296) (hf : Sm x) (w : World) (hL : LibW w) : Calls Tryz.prog 13 #[.float .f32 x] w (TxSP x w) := by
  refine (implTextS x hx w hL.1 hL.2.1).mono ?_
  rintro e w' ⟨xs, w1, rfl, ht, hn⟩
  rw [fcv_up hf] at ht
  exact ⟨byts xs, rfl, ⟨hx, hf, wid_lt x, fin_wid hf, xs, ht, rfl⟩, by unfold byts; rw [List.length_map]; exact txt_str ht, hn⟩
end Go.Proofs.YtnmjkjjmigiabaaGreatDoor

/- What draws scores, first part: a number out of a list; a number of moderate size.
   Conditions: those that each statement names. -/
namespace Go.Proofs.YtnmjkjjmigiabaaGreatDoor
set_option linter.unusedSimpArgs false
set_option linter.unusedVariables false
open Go Go.RowKit

/-- the integers zs lie in block g from its head on -/
def IntsL (w : World) (g : Nat) (zs : List Int) : Prop := ∀ (k : Nat) z, zs[k]? = some z → w.cell? ⟨g, k, none⟩ = some (.int .i64 z)
def InP (B : Nat) (w0 : World) (a : Option Addr) (len cap c : Nat) (zs : List Int) (e : Ending) (w' : World) : Prop :=
  ∃ x : Int, x ∈ zs ∧ e = .returned (.int .i64 x) ∧ At B w0 a len cap c w'
theorem l01Int_in (B : Nat) (w0 : World) (a : Option Addr) (len cap c : Nat) (g n m : Nat) (zs : List Int) (hz : zs.length = n) (hn : 1 ≤ n) (hn2 : n ≤ 256) (w : World) (hc : At B w0 a len cap c w) (hg : g < w.heap.size) (hgc : g ≠ c) (hi : IntsL w g zs) :
    Calls Tryz.prog 180 #[.pointer (some ⟨c, 0, none⟩), .slice (some ⟨g, 0, none⟩) n m] w (InP B w0 a len cap c zs) := by
  have Hi := Lib.hid hi
  clear hi
  have Hc := Lib.hid hc
  clear hc
  have Hz := Lib.hid hz
  clear hz
  go_enter Tryz.func180, Tryz.ntmps180
  go_wp2_with fail
  refine (below_at _ _ _ _ _ _ _ (by omega) (by omega) _ Hc.out.here).mono ?_
  rintro e w1 ⟨x, x0, x1, rfl, hc1⟩
  obtain ⟨k, rfl⟩ : ∃ k : Nat, x = k := ⟨x.toNat, by omega⟩
  obtain ⟨z, hzk⟩ : ∃ z, zs[k]? = some z := ⟨zs[k]'(by rw [Hz.out]; omega), List.getElem?_eq_getElem _⟩
  have hz := Hi.out k z hzk
  have hmem := Lib.hid (List.mem_of_getElem? hzk)
  have hz1 : w1.cell? ⟨g, k, none⟩ = some (.int .i64 z) := by rw [hc1.2.cell (p := ⟨g, k, none⟩) hg hgc]; exact hz
  have hkn : k < n := by omega
  have Hc1 := Lib.hid (show At B w0 a len cap c w1 from ⟨hc1.1, Hc.out.2.trans hc1.2⟩)
  clear hc1 hz hzk
  go_wp2
  go_ret
  exact ⟨_, hmem.out, rfl, Hc1.out⟩

/-! ### a number of moderate size -/
theorem nm_16 : Flo.Nm 4625196817309499392 ∧ Flo.W 4625196817309499392 = 16 := by
  have h := Flo.int_double 16 (by decide)
  rw [show floatOfInt .f64 16 = 4625196817309499392 from by decide +kernel] at h
  exact ⟨h.1, by rw [h.2]; rfl⟩
theorem nm_mega : Flo.Nm 4697254411347427328 ∧ Flo.W 4697254411347427328 = 1048576 := by
  have h := Flo.int_double 1048576 (by decide)
  rw [show floatOfInt .f64 1048576 = 4697254411347427328 from by decide +kernel] at h
  exact ⟨h.1, by rw [h.2]; rfl⟩
theorem nm_three : Flo.Nm 4613937818241073152 ∧ Flo.W 4613937818241073152 = 3 := by
  have h := Flo.int_double 3 (by decide)
  rw [show floatOfInt .f64 3 = 4613937818241073152 from by decide +kernel] at h
  exact ⟨h.1, by rw [h.2]; rfl⟩
/-- an integer of at most a million, divided by a number that is no less than 1 -/
theorem int_quo (z : Int) (hz : z.natAbs ≤ 1000000) (y : Nat) (hy : Flo.Nm y) (h1 : 1 ≤ Flo.W y) :
    ∃ r, floatBits .quo .f64 (floatOfInt .f64 z) y = some r ∧ Flo.Nm r ∧ Flo.Ab (Flo.W r) 1000005 := by
  obtain ⟨n1, n2⟩ := Flo.int_double z (by omega)
  have hzr : Flo.Ab (z : Rat) 1000000 := by
    have a1 : z ≤ 1000000 := by omega
    have a2 : -1000000 ≤ z := by omega
    have b1 : (z : Rat) ≤ ((1000000 : Int) : Rat) := Rat.intCast_le_intCast.2 a1
    have b2 : ((-1000000 : Int) : Rat) ≤ (z : Rat) := Rat.intCast_le_intCast.2 a2
    have c1 : ((1000000 : Int) : Rat) = 1000000 := rfl
    have c2 : ((-1000000 : Int) : Rat) = -1000000 := rfl
    exact ⟨by grind, by grind⟩
  have hy0 : Flo.W y ≠ 0 := by grind
  have hq : (Flo.W (floatOfInt .f64 z) / Flo.W y) * Flo.W y = Flo.W (floatOfInt .f64 z) := Rat.div_mul_cancel hy0
  have hb : Flo.Ab (Flo.W (floatOfInt .f64 z) / Flo.W y) 1000000 := by
    refine Flo.Ab.div (y := Flo.W y) (D := 1) ?_ (by grind) h1
    rw [hq, n2]
    simpa using hzr
  have hp : (1000000 : Rat) < Flo.pw 1022 := by
    have h := Flo.pw_nat 20
    have hm : Flo.pw 20 ≤ Flo.pw 1022 := Flo.pw_le (by omega)
    rw [show ((20 : Nat) : Int) = 20 from rfl] at h
    rw [h] at hm
    have e : ((2 ^ 20 : Nat) : Rat) = 1048576 := rfl
    grind
  obtain ⟨r, h1, h2, h3⟩ := Flo.d_div _ y n1 hy hy0 _ 1000000 hq hb hp
  refine ⟨r, h1, h2, ?_⟩
  have hu := Flo.u_le
  have ht : Flo.et ≤ Flo.u := Flo.pw_le (by omega)
  unfold Flo.Ab at hb h3 ⊢
  grind

/-- a number of double precision that is not great -/
def Mo (b : Nat) : Prop := Flo.Nm b ∧ Flo.Ab (Flo.W b) 1000005
theorem mo_quo (z : Int) (hz : z.natAbs ≤ 1000000) (y : Nat) (hy : Flo.Nm y) (h1 : 1 ≤ Flo.W y) (w : World) : Mo (fres w .quo .f64 (floatOfInt .f64 z) y) := by
  obtain ⟨r, h2, h3, h4⟩ := int_quo z hz y hy h1
  unfold fres
  rw [h2]
  exact ⟨h3, h4⟩
theorem mo_int (z : Int) (hz : z.natAbs ≤ 1000000) : Mo (floatOfInt .f64 z) := by
  obtain ⟨n1, n2⟩ := Flo.int_double z (by omega)
  refine ⟨n1, ?_⟩
  rw [n2]
  have b1 : (z : Rat) ≤ ((1000000 : Int) : Rat) := Rat.intCast_le_intCast.2 (by omega)
  have b2 : ((-1000000 : Int) : Rat) ≤ (z : Rat) := Rat.intCast_le_intCast.2 (by omega)
  have c1 : ((1000000 : Int) : Rat) = 1000000 := rfl
  have c2 : ((-1000000 : Int) : Rat) = -1000000 := rfl
  exact ⟨by grind, by grind⟩
def MoP (B : Nat) (w0 : World) (a : Option Addr) (len cap c : Nat) (e : Ending) (w' : World) : Prop :=
  ∃ b : Nat, e = .returned (.float .f64 b) ∧ Mo b ∧ At B w0 a len cap c w'
theorem l1Some_mo (B : Nat) (w0 : World) (a : Option Addr) (len cap c : Nat) (w : World) (hc : At B w0 a len cap c w) :
    Calls Tryz.prog 125 #[.pointer (some ⟨c, 0, none⟩)] w (MoP B w0 a len cap c) := by
  go_enter Tryz.func125, Tryz.ntmps125
  go_wp2_with (go_at_call 121; refine (below_at _ _ _ _ _ _ _ (by omega) (by omega) _ (by assumption)).mono ?_; rintro e w1 ⟨x, x0, x1, rfl, hc1⟩)
  all_goals
    go_ret
    first
      | exact ⟨_, rfl, mo_int _ (by omega), by assumption⟩
      | exact ⟨_, rfl, mo_quo _ (by omega) _ nm_16.1 (by rw [nm_16.2]; decide) _, At.draw (by assumption) _⟩
      | exact ⟨_, rfl, mo_quo _ (by omega) _ nm_mega.1 (by rw [nm_mega.2]; decide) _, At.draw (by assumption) _⟩
      | exact ⟨_, rfl, mo_quo _ (by omega) _ nm_three.1 (by rw [nm_three.2]; decide) _, At.draw (by assumption) _⟩

/-! ### boxes of any number of cells -/
def HasC (w : World) (b : Nat) (cs : List Value) : Prop :=
  b < w.heap.size ∧ ∀ (k : Nat) v, cs[k]? = some v → w.cell? ⟨b, k, none⟩ = some v ∧ w.frozen? ⟨b, k, none⟩ = false
theorem HasC.of {w w' : World} {b : Nat} {cs : List Value} (h : HasC w b cs) (hs : w.heap.size ≤ w'.heap.size) (hb : w'.heap[b]? = w.heap[b]?) : HasC w' b cs :=
  ⟨Nat.lt_of_lt_of_le h.1 hs, fun k v hk => by rw [World.cell?_of_block (w := w) (a := ⟨b, k, none⟩) hb, World.frozen?_of_block (w := w) (a := ⟨b, k, none⟩) hb]; exact h.2 k v hk⟩
theorem HasC.kp {c : Nat} {w w' : World} {b : Nat} {cs : List Value} (h : HasC w b cs) (hk : Kp c w w') (hne : b ≠ c) : HasC w' b cs := h.of hk.size (hk.block b h.1 (fun e => hne (by cases e; rfl)))
theorem HasC.nw {w w' : World} {b : Nat} {cs : List Value} (h : HasC w b cs) (hk : Nw w w') : HasC w' b cs := h.of hk.size (hk.block b h.1 (by simp))
theorem HasC.alloc {w : World} {b : Nat} {cs : List Value} (h : HasC w b cs) (o : Obj) : HasC (w.alloc o) b cs := h.nw ((Nw.refl _).alloc _)
theorem HasC.draw {w : World} {b : Nat} {cs : List Value} (h : HasC w b cs) (n : Nat) : HasC (w.drewN n) b cs := h.nw ((Nw.refl _).draw _)

theorem HasC.set {w : World} {b : Nat} {cs : List Value} (h : HasC w b cs) (j : Nat) (u : Value) : HasC (w.setCell ⟨b, j, none⟩ u) b (cs.set j u) := by
  refine ⟨by simpa [World.setCell] using h.1, fun k v hk => ?_⟩
  by_cases hj : j = k
  · subst hj
    have hl := (List.getElem?_eq_some_iff.1 hk).1
    simp at hl
    rw [List.getElem?_set_self hl] at hk
    cases hk
    obtain ⟨h1, h2⟩ := h.2 j cs[j] (List.getElem?_eq_getElem hl)
    constructor <;> go_simp
  · rw [List.getElem?_set_ne hj] at hk
    obtain ⟨h1, h2⟩ := h.2 k v hk
    have hk' : k ≠ j := fun e => hj e.symm
    constructor <;> go_simp
theorem HasC.sete {w : World} {b : Nat} {cs : List Value} (h : HasC w b cs) {p : Addr} (hp : p.block ≠ b) (u : Value) : HasC (w.setCell p u) b cs :=
  h.of (by simp [World.setCell]) (Below.heap_setCell _ _ _ _ (fun e => hp e.symm))

end Go.Proofs.YtnmjkjjmigiabaaGreatDoor

/- Boxes of two cells.
   Conditions: none. -/
namespace Go.Proofs.YtnmjkjjmigiabaaGreatDoor
set_option linter.unusedSimpArgs false
set_option linter.unusedVariables false
open Go Go.RowKit

theorem new2 (w : World) (T : TypeId) (v0 v1 : Value) : HasC (w.alloc (.cells #[v0, v1] T (0, 0))) w.heap.size [v0, v1] := by
  refine ⟨by simp, fun k v hk => ?_⟩
  match k, hk with
  | 0, hk => simp at hk; subst hk; exact ⟨by go_simp, by go_simp⟩
  | 1, hk => simp at hk; subst hk; exact ⟨by go_simp, by go_simp⟩
  | k + 2, hk => simp at hk
theorem two_at {w : World} {b : Nat} {v0 v1 : Value} (h : HasC w b [v0, v1]) :
    (w.cell? ⟨b, 0, none⟩ = some v0 ∧ w.frozen? ⟨b, 0, none⟩ = false) ∧ (w.cell? ⟨b, 1, none⟩ = some v1 ∧ w.frozen? ⟨b, 1, none⟩ = false) :=
  ⟨h.2 0 _ rfl, h.2 1 _ rfl⟩


end Go.Proofs.YtnmjkjjmigiabaaGreatDoor

/- Wide modes in memory; the walks of the tests of wide modes, the program's and the model's: any numbers.
   Conditions: those that each statement names. -/
namespace Go.Proofs.YtnmjkjjmigiabaaGreatDoor
set_option linter.unusedSimpArgs false
set_option linter.unusedVariables false
open Go Go.RowKit

structure W4 where
  a : Nat
  b : Nat
  c : Nat
  d : Nat
def W4.bits (m : W4) : Prop := m.a < 2 ^ 64 ∧ m.b < 2 ^ 64 ∧ m.c < 2 ^ 64 ∧ m.d < 2 ^ 64
def W4.cells (m : W4) : List Value := [.complex .f64 m.a m.b, .complex .f64 m.c m.d]
def cellsW (ms : List W4) : List Value := ms.flatMap W4.cells
theorem cellsW_len (ms : List W4) : (cellsW ms).length = ms.length * 2 := by
  induction ms with
  | nil => rfl
  | cons m ms ih => simp only [cellsW, List.flatMap_cons, List.length_append, List.length_cons] at *; simp [W4.cells] at *; omega
theorem cellsW_snoc (ms : List W4) (m : W4) : cellsW (ms ++ [m]) = cellsW ms ++ m.cells := by simp [cellsW]
theorem cellsW_at (ms : List W4) (k : Nat) (m : W4) (h : ms[k]? = some m) : (cellsW ms)[2 * k]? = some (.complex .f64 m.a m.b) ∧ (cellsW ms)[2 * k + 1]? = some (.complex .f64 m.c m.d) := by
  induction ms generalizing k with
  | nil => simp at h
  | cons a ms ih =>
    cases k with
    | zero => simp at h; subst h; simp [cellsW, W4.cells]
    | succ k =>
      have := ih k (by simpa using h)
      rw [show 2 * (k + 1) = 2 * k + 2 from by omega, show 2 * k + 2 + 1 = 2 * k + 1 + 2 from by omega]
      simpa [cellsW, W4.cells] using this
theorem own_wide {w : World} {base n k : Nat} {v : Value} {ms : List W4} (h : w.ownsRow base 115 2 v n (cellsW ms)) {m : W4} (hk : ms[k]? = some m) (hn : n = ms.length) :
    ∃ g cap, v = .slice (some ⟨g, 0, none⟩) n cap ∧ n ≤ cap ∧ cap ≤ maxLen ∧ g < w.heap.size ∧ w.cell? ⟨g, k * 2, none⟩ = some (.complex .f64 m.a m.b) ∧ w.cell? ⟨g, k * 2 + 1, none⟩ = some (.complex .f64 m.c m.d) := by
  have hkl := (List.getElem?_eq_some_iff.1 hk).1
  rcases h.2 with ⟨_, h0⟩ | ⟨g, cap, cur, rfl, hb, hg, hc, hm, hs, ht⟩
  · omega
  · have c1 := h.cellAt (2 * k) (by omega)
    have c2 := h.cellAt (2 * k + 1) (by omega)
    rw [(cellsW_at ms k m hk).1] at c1
    rw [(cellsW_at ms k m hk).2] at c2
    rw [Nat.mul_comm] at c1 c2
    exact ⟨g, cap, rfl, hc, hm, (h.lt g rfl).2, c1, c2⟩
/-! ### the tests -/
def leF (o : Option Nat) (k : Nat) : Bool := match o with
  | none => false
  | some x => leB x k
theorem leF_fab (x k : Nat) : leB x k = leF (fab .f64 x) k := by
  by_cases h : (FloatKind.f64.decode x).isNaN = true
  · rw [fab_none h]
    show leB x k = false
    unfold leB Ieee.Format.order
    rw [show FloatKind.f64.format.read x = FloatKind.f64.decode x from rfl]
    cases hd : FloatKind.f64.decode x with
    | nan q p => rfl
    | number s m p => rw [hd] at h; cases h
    | infinity s => rw [hd] at h; cases h
  · rw [fab_some (by simpa using h)]; rfl
def sqF (a b : Nat) : Option Nat := fA .add .f64 (fA .mul .f64 (fab .f64 a) (fab .f64 a)) (fA .mul .f64 (fab .f64 b) (fab .f64 b))
def wideB (m : W4) : Bool := ((fin .f64 m.a && fin .f64 m.b) && (fin .f64 m.c && fin .f64 m.d)) && leF (sqF m.a m.b) 4607182418800017408 && (leB (labs m.c) 4652218415073722368 && leB (labs m.d) 4652218415073722368)
theorem sq_leF (a b : Nat) (w1 w2 w3 : World) : leB (fres w3 .add .f64 (fres w1 .mul .f64 a a) (fres w2 .mul .f64 b b)) 4607182418800017408 = leF (sqF a b) 4607182418800017408 := by
  rw [leF_fab]
  simp only [fab_fres]
  rfl
theorem abs_leB {x : Nat} (hx : x < 2 ^ 64) (h : fin .f64 x = true) : leB (x % signBit) 4652218415073722368 = leB (labs x) 4652218415073722368 := leB_abs hx ((fin_iff .f64 x).1 h) num_1024

set_option maxHeartbeats 3200000 in
theorem isModeOf_wide (m : W4) (hb : m.bits) (w : World) :
    Calls Tryz.prog 137 #[.complex .f64 m.a m.b, .complex .f64 m.c m.d] w fun e w' => e = .returned (.bool (wideB m)) ∧ ∃ n, w' = w.drewN n := by
  obtain ⟨a, b, c, d⟩ := m
  obtain ⟨ha, hb, hc, hd⟩ := hb
  simp only at *
  have W1 := ha
  have W2 := hb
  have W3 := hc
  have W4 := hd
  unfold wideB
  simp only
  cases h1 : (fin .f64 a && fin .f64 b)
  · go_enter Tryz.func137, Tryz.ntmps137
    go_wp2_with (first
      | (go_at_call 189; refine (implFinite_any _ _ _ (by assumption) (by assumption)).mono ?_; rintro e w' ⟨rfl, rfl⟩))
    all_goals (go_ret; exact ⟨rfl, 0, rfl⟩)
  · cases h2 : (fin .f64 c && fin .f64 d)
    · go_enter Tryz.func137, Tryz.ntmps137
      go_wp2_with (first
        | (go_at_call 189; refine (implFinite_any _ _ _ (by assumption) (by assumption)).mono ?_; rintro e w' ⟨rfl, rfl⟩))
      all_goals (go_ret; exact ⟨rfl, 0, rfl⟩)
    · rw [Bool.and_eq_true] at h2
      have e1 := abs_leB W3 h2.1
      have e2 := abs_leB W4 h2.2
      rw [← e1, ← e2]
      have h2' : (fin .f64 c && fin .f64 d) = true := by rw [h2.1, h2.2]; rfl
      have hs := sq_leF a b
      unfold leB at hs
      clear e1 e2 h2
      cases h5 : leF (sqF a b) 4607182418800017408 <;> cases h6 : leB (c % signBit) 4652218415073722368 <;> cases h7 : leB (d % signBit) 4652218415073722368
      all_goals
        rw [h5] at hs
        unfold leB at h6 h7
        go_enter Tryz.func137, Tryz.ntmps137
        go_wp2_with (first
          | (go_at_call 189; refine (implFinite_any _ _ _ (by assumption) (by assumption)).mono ?_; rintro e w' ⟨rfl, rfl⟩)
          | (go_at_call 50; refine (abs_any _ _ (by assumption)).mono ?_; rintro e w' ⟨rfl, rfl⟩))
        all_goals (go_ret; exact ⟨rfl, _, rfl⟩)

theorem l2Square_wide (x y : Nat) (w : World) :
    Calls Tryz.prog 129 #[.complex .f64 x y] w fun e w' => ∃ s, e = .returned (.float .f64 s) ∧ leB s 4607182418800017408 = leF (sqF x y) 4607182418800017408 ∧ ∃ n, w' = w.drewN n := by
  have hs := sq_leF x y
  have Hs := Lib.hid hs
  clear hs
  go_enter Tryz.func129, Tryz.ntmps129
  go_wp2
  all_goals (go_ret; exact ⟨_, rfl, Hs.out _ _ _, _, rfl⟩)

def areB (ms : List W4) : Bool := decide (ms.length ≤ 16) && ms.all wideB
theorem areB_iff (ms : List W4) : areB ms = true ↔ ms.length ≤ 16 ∧ ∀ m ∈ ms, wideB m = true := by
  unfold areB
  rw [Bool.and_eq_true, decide_eq_true_iff, List.all_eq_true]
theorem areB_bad {ms : List W4} {m : W4} (hm : m ∈ ms) (h : wideB m = false) : areB ms = false := by
  cases hb : areB ms
  · rfl
  · have := ((areB_iff ms).1 hb).2 m hm
    rw [h] at this
    cases this
theorem areB_all {ms : List W4} (hl : ms.length ≤ 16) (h : ∀ k : Nat, k < ms.length → ∀ m, ms[k]? = some m → wideB m = true) : areB ms = true := by
  rw [areB_iff]
  refine ⟨hl, fun m hm => ?_⟩
  obtain ⟨k, hk⟩ := List.getElem?_of_mem hm
  exact h k (List.getElem?_eq_some_iff.1 hk).1 m hk
theorem areB_long {ms : List W4} (h : 16 < ms.length) : areB ms = false := by
  unfold areB
  rw [decide_eq_false (by omega)]; rfl
def WTestI (ms : List W4) (n : Nat) (w : World) (i : Value) (wr : World) : Prop := ∃ k : Nat, k ≤ n ∧ i = .int .i64 (k : Int) ∧ (∀ j : Nat, j < k → ∀ m, ms[j]? = some m → wideB m = true) ∧ Nw w wr

theorem implAreWide_any (ms : List W4) (hms : ∀ m ∈ ms, m.bits) (n bm : Nat) (v : Value) (hn : ms.length = n) (hn64 : n ≤ 64) (w : World)
    (hm : w.ownsRow bm 115 2 v n (cellsW ms)) :
    Calls Tryz.prog 73 #[v] w (TestP (areB ms) w) := by
  obtain ⟨va, vc, rfl⟩ := own_shape' hm
  have Hm := Lib.hid hm
  have Hms := Lib.hid hms
  have Hn := Lib.hid hn
  clear hm hms hn
  by_cases hn16 : n ≤ 16
  · go_enter Tryz.func73, Tryz.ntmps73
    go_wp2_with fail
    go_loopw [10] (fun i wr => WTestI ms n w i wr) (fun i _ => n - (intOf i).toNat)
    case atStart => exact ⟨0, by omega, rfl, fun j hj => absurd hj (by omega), Nw.refl _⟩
    case round =>
      obtain ⟨k, hk, rfl, hal, hnw⟩ := hrel
      have Hnw := Lib.hid hnw
      have Hal := Lib.hid hal
      clear hnw hal
      by_cases hlt : k < n
      · obtain ⟨m, hmk⟩ : ∃ m, ms[k]? = some m := ⟨ms[k]'(by rw [Hn.out]; exact hlt), List.getElem?_eq_getElem _⟩
        have Hmr := Lib.hid (own_nw Hm.out Hnw.out)
        obtain ⟨g, cap, hv, hcap, hmax, hgs, e1, e2⟩ := own_wide Hmr.out hmk Hn.out.symm
        cases hv
        have Hmo := Lib.hid (Hms.out m (List.mem_of_getElem? hmk))
        unfold maxLen at hmax
        have Hnw4 := Lib.hid (Hnw.out.alloc (.cells #[.complex .f64 m.a m.b, .complex .f64 m.c m.d] 115 (0, 0)))
        have Hmk := Lib.hid hmk
        clear hmk
        go_wp2_with fail
        refine (isModeOf_wide m Hmo.out _).mono ?_
        rintro e w5 ⟨rfl, n5, rfl⟩
        have Hnw5 := Lib.hid (Hnw4.out.draw n5)
        clear e1 e2
        cases hb : wideB m with
        | false =>
          go_wp2_with fail
          go_ret
          exact ⟨by rw [areB_bad (List.mem_of_getElem? Hmk.out) hb]; first | done | rfl, Hnw5.out⟩
        | true =>
          go_wp2_with fail
          go_roundw
          case rel =>
            refine ⟨k + 1, by omega, by rw [show ((k + 1 : Nat) : Int) = (k : Int) + 1 from by omega], fun j hj m' hm' => ?_, Hnw5.out⟩
            by_cases hjk : j < k
            · exact Hal.out j hjk m' hm'
            · obtain rfl : j = k := by omega
              rw [Hmk.out] at hm'
              cases hm'
              exact hb
          case measure => simp only [intOf]; omega
      · go_wp2_with fail
        go_ret
        exact ⟨by rw [areB_all (by rw [Hn.out]; exact hn16) (fun j hj => Hal.out j (by have := Hn.out; omega))]; first | done | rfl, Hnw.out⟩
  · go_enter Tryz.func73, Tryz.ntmps73
    go_wp2_with fail
    go_ret
    exact ⟨by rw [areB_long (by rw [Hn.out]; omega)]; first | done | rfl, Nw.refl _⟩

set_option maxHeartbeats 1600000 in
theorem specAreWide_any (ms : List W4) (n bm : Nat) (v : Value) (hn : ms.length = n) (hn64 : n ≤ 64) (w : World)
    (hm : w.ownsRow bm 115 2 v n (cellsW ms)) :
    Calls Tryz.prog 59 #[v] w (TestP (areB ms) w) := by
  obtain ⟨va, vc, rfl⟩ := own_shape' hm
  have Hm := Lib.hid hm
  have Hn := Lib.hid hn
  clear hm hn
  go_enter Tryz.func59, Tryz.ntmps59
  go_wp2_with fail
  go_loopw [7] (fun i wr => WTestI ms n w i wr) (fun i _ => n - (intOf i).toNat)
  case atStart => exact ⟨0, by omega, rfl, fun j hj => absurd hj (by omega), Nw.refl _⟩
  case round =>
    obtain ⟨k, hk, rfl, hal, hnw⟩ := hrel
    have Hnw := Lib.hid hnw
    have Hal := Lib.hid hal
    clear hnw hal
    by_cases hlt : k < n
    · obtain ⟨m, hmk⟩ : ∃ m, ms[k]? = some m := ⟨ms[k]'(by rw [Hn.out]; exact hlt), List.getElem?_eq_getElem _⟩
      have Hmr := Lib.hid (own_nw Hm.out Hnw.out)
      obtain ⟨g, cap, hv, hcap, hmax, hgs, e1, e2⟩ := own_wide Hmr.out hmk Hn.out.symm
      cases hv
      unfold maxLen at hmax
      obtain ⟨w4, hw4⟩ : ∃ w4, w4 = wr.alloc (.cells #[.complex .f64 m.a m.b, .complex .f64 m.c m.d] 115 (0, 0)) := ⟨_, rfl⟩
      have Hw4 := Lib.hid hw4
      have Hnw4 := Lib.hid (show Nw w w4 from by rw [hw4]; exact Hnw.out.alloc _)
      have Hbx := Lib.hid (show HasC w4 wr.heap.size [.complex .f64 m.a m.b, .complex .f64 m.c m.d] from by rw [hw4]; exact new2 _ _ _ _)
      have Hmk := Lib.hid hmk
      clear hmk hw4
      go_wp2_with fail
      simp only [← Hw4.out]
      clear e1 e2
      have hwd : wideB m = (((fin .f64 m.a && fin .f64 m.b) && (fin .f64 m.c && fin .f64 m.d)) && leF (sqF m.a m.b) 4607182418800017408 && (leB (labs m.c) 4652218415073722368 && leB (labs m.d) 4652218415073722368)) := rfl
      have Hwd := Lib.hid hwd
      clear hwd
      refine (finiteDouble_any _ _ _).mono ?_
      rintro e w5 ⟨rfl, n5, rfl⟩
      have Hb5 := Lib.hid (Hbx.out.draw n5)
      have N5 := Lib.hid (Hnw4.out.draw n5)
      generalize w4.drewN n5 = w5 at *
      obtain ⟨⟨c0, -⟩, ⟨c1, -⟩⟩ := two_at Hb5.out
      cases h1 : (fin .f64 m.a && fin .f64 m.b) with
      | false =>
        go_wp2_with fail
        go_ret
        exact ⟨by rw [areB_bad (List.mem_of_getElem? Hmk.out) (by rw [Hwd.out, h1]; rfl)]; first | done | rfl, N5.out⟩
      | true =>
        go_wp2_with fail
        refine (finiteDouble_any _ _ _).mono ?_
        rintro e w6 ⟨rfl, n6, rfl⟩
        have Hb6 := Lib.hid (Hb5.out.draw n6)
        have N6 := Lib.hid (N5.out.draw n6)
        generalize w5.drewN n6 = w6 at *
        clear c0 c1
        obtain ⟨⟨c0, -⟩, ⟨c1, -⟩⟩ := two_at Hb6.out
        cases h2 : (fin .f64 m.c && fin .f64 m.d) with
        | false =>
          go_wp2_with fail
          go_ret
          exact ⟨by rw [areB_bad (List.mem_of_getElem? Hmk.out) (by rw [Hwd.out, h1, h2]; rfl)]; first | done | rfl, N6.out⟩
        | true =>
          go_wp2_with fail
          refine (l2Square_wide _ _ _).mono ?_
          rintro e w7 ⟨s, rfl, hs, n7, rfl⟩
          have Hb7 := Lib.hid (Hb6.out.draw n7)
          have N7 := Lib.hid (N6.out.draw n7)
          generalize w6.drewN n7 = w7 at *
          clear c0 c1
          obtain ⟨⟨c0, -⟩, ⟨c1, -⟩⟩ := two_at Hb7.out
          cases h3 : leF (sqF m.a m.b) 4607182418800017408 with
          | false =>
            rw [h3] at hs
            unfold leB at hs
            go_wp2_with fail
            go_ret
            exact ⟨by rw [areB_bad (List.mem_of_getElem? Hmk.out) (by rw [Hwd.out, h1, h2, h3]; rfl)]; first | done | rfl, N7.out⟩
          | true =>
            rw [h3] at hs
            unfold leB at hs
            go_wp2_with fail
            refine (l2Gain_any _ _ _).mono ?_
            rintro e w8 ⟨rfl, rfl⟩
            cases h4 : (leB (labs m.c) 4652218415073722368 && leB (labs m.d) 4652218415073722368) with
            | false =>
              go_wp2_with fail
              go_ret
              exact ⟨by rw [areB_bad (List.mem_of_getElem? Hmk.out) (by rw [Hwd.out, h1, h2, h3, h4]; rfl)]; first | done | rfl, N7.out⟩
            | true =>
              have hb : wideB m = true := by rw [Hwd.out, h1, h2, h3, h4]; rfl
              have Hb := Lib.hid hb
              clear hb
              go_wp2_with fail
              go_roundw
              case rel =>
                refine ⟨k + 1, by omega, by rw [show ((k + 1 : Nat) : Int) = (k : Int) + 1 from by omega], fun j hj m' hm' => ?_, N7.out⟩
                by_cases hjk : j < k
                · exact Hal.out j hjk m' hm'
                · obtain rfl : j = k := by omega
                  rw [Hmk.out] at hm'
                  cases hm'
                  exact Hb.out
              case measure => simp only [intOf]; omega
    · go_wp2_with fail
      go_ret
      refine ⟨?_, Hnw.out⟩
      by_cases hn16 : n ≤ 16
      · rw [areB_all (by rw [Hn.out]; exact hn16) (fun j hj => Hal.out j (by have := Hn.out; omega))]
        simp [hn16]
        first | done | omega
      · rw [areB_long (by rw [Hn.out]; omega)]
        simp [hn16]
        first | done | omega

end Go.Proofs.YtnmjkjjmigiabaaGreatDoor

/- Wide modes in boxes, numbers of double precision in rows; impl.ParseDouble and the model's of any string.
   Conditions: those that each statement names. -/
namespace Go.Proofs.YtnmjkjjmigiabaaGreatDoor
set_option linter.unusedSimpArgs false
set_option linter.unusedVariables false
open Go Go.RowKit

theorem info_wideV : (Tryz.prog.info? 115).map (fun i => (i.zero, i.size, i.bytes)) = some (some (.agg #[.complex .f64 0 0, .complex .f64 0 0]), 2, 32) := by kernel_rfl
theorem info_dbl : (Tryz.prog.info? 26).map (fun i => (i.zero, i.size, i.bytes)) = some (some (.float .f64 0), 1, 8) := by kernel_rfl
def cellsV (xs : List Nat) : List Value := xs.map (Value.float .f64)
theorem own_dbl {w : World} {base n k : Nat} {v : Value} {xs : List Nat} (h : w.ownsRow base 26 1 v n (cellsV xs)) {x : Nat} (hk : xs[k]? = some x) (hn : n = xs.length) :
    ∃ g cap, v = .slice (some ⟨g, 0, none⟩) n cap ∧ n ≤ cap ∧ cap ≤ maxLen ∧ g < w.heap.size ∧ w.cell? ⟨g, k, none⟩ = some (.float .f64 x) := by
  have hkl := (List.getElem?_eq_some_iff.1 hk).1
  rcases h.2 with ⟨_, h0⟩ | ⟨g, cap, cur, rfl, hb, hg, hc, hm, hs, ht⟩
  · omega
  · have c1 := h.cellAt k (by omega)
    rw [show (cellsV xs)[k]? = some (.float .f64 x) from by simp [cellsV, hk]] at c1
    exact ⟨g, cap, rfl, hc, hm, (h.lt g rfl).2, c1⟩
/-- block b holds a wide mode -/
def HasWide (w : World) (b : Nat) (pr pi gr gi : Nat) : Prop :=
  b < w.heap.size ∧ w.cell? ⟨b, 0, none⟩ = some (.complex .f64 pr pi) ∧ w.cell? ⟨b, 1, none⟩ = some (.complex .f64 gr gi) ∧ w.frozen? ⟨b, 0, none⟩ = false ∧ w.frozen? ⟨b, 1, none⟩ = false
theorem HasWide.of {w w' : World} {b pr pi gr gi : Nat} (h : HasWide w b pr pi gr gi) (hs : w.heap.size ≤ w'.heap.size) (hb : w'.heap[b]? = w.heap[b]?) : HasWide w' b pr pi gr gi := by
  obtain ⟨h0, h1, h2, h3, h4⟩ := h
  have k : ∀ p : Addr, p.block = b → w'.cell? p = w.cell? p := fun p hp => World.cell?_of_block (w := w) (by rw [hp]; exact hb)
  have f : ∀ p : Addr, p.block = b → w'.frozen? p = w.frozen? p := fun p hp => World.frozen?_of_block (w := w) (by rw [hp]; exact hb)
  exact ⟨by omega, by rw [k _ rfl]; exact h1, by rw [k _ rfl]; exact h2, by rw [f _ rfl]; exact h3, by rw [f _ rfl]; exact h4⟩
theorem HasWide.kp {c : Nat} {w w' : World} {b pr pi gr gi : Nat} (h : HasWide w b pr pi gr gi) (hk : Kp c w w') (hne : b ≠ c) : HasWide w' b pr pi gr gi :=
  h.of hk.size (hk.block b h.1 (fun e => hne (by cases e; rfl)))
theorem HasWide.nw {w w' : World} {b pr pi gr gi : Nat} (h : HasWide w b pr pi gr gi) (hk : Nw w w') : HasWide w' b pr pi gr gi :=
  h.of hk.size (hk.block b h.1 (by simp))
theorem HasWide.draw {w : World} {b pr pi gr gi : Nat} (h : HasWide w b pr pi gr gi) (n : Nat) : HasWide (w.drewN n) b pr pi gr gi := h.nw ((Nw.refl _).draw _)
theorem HasWide.alloc {w : World} {b pr pi gr gi : Nat} (h : HasWide w b pr pi gr gi) (o : Obj) : HasWide (w.alloc o) b pr pi gr gi := h.nw ((Nw.refl _).alloc _)
theorem HasWide.set {w : World} {b pr pi gr gi : Nat} (h : HasWide w b pr pi gr gi) {p : Addr} (hp : p.block ≠ b) (u : Value) : HasWide (w.setCell p u) b pr pi gr gi :=
  h.of (by simp [World.setCell]) (Below.heap_setCell _ _ _ _ (fun e => hp e.symm))
theorem HasWide.new (w : World) (T : TypeId) (pr pi gr gi : Nat) : HasWide (w.alloc (.cells #[.complex .f64 pr pi, .complex .f64 gr gi] T (0, 0))) w.heap.size pr pi gr gi := by
  refine ⟨by simp, ?_, ?_, ?_, ?_⟩ <;> go_simp
theorem HasWide.set0 {w : World} {b pr pi gr gi : Nat} (h : HasWide w b pr pi gr gi) (x y : Nat) : HasWide (w.setCell ⟨b, 0, none⟩ (.complex .f64 x y)) b x y gr gi := by
  obtain ⟨h0, h1, h2, h3, h4⟩ := h
  refine ⟨by simpa using h0, ?_, ?_, ?_, ?_⟩ <;> go_simp
theorem HasWide.set1 {w : World} {b pr pi gr gi : Nat} (h : HasWide w b pr pi gr gi) (x y : Nat) : HasWide (w.setCell ⟨b, 1, none⟩ (.complex .f64 x y)) b pr pi x y := by
  obtain ⟨h0, h1, h2, h3, h4⟩ := h
  refine ⟨by simpa using h0, ?_, ?_, ?_, ?_⟩ <;> go_simp


/-- the answers: the double whose text it is, or 0 and false -/
def PdP (s : ByteArray) (w : World) (e : Ending) (w' : World) : Prop :=
  Nw w w' ∧ ((∃ y, IsTxt s y ∧ e = .returned (.tuple #[.float .f64 y, .bool true])) ∨ ((∀ y, ¬ IsTxt s y) ∧ e = .returned (.tuple #[.float .f64 0, .bool false])))
theorem implDouble (s : ByteArray) (hs : s.size ≤ 1048576) (w : World) (hL : LibW w) : Calls Tryz.prog 10 #[.string s] w (PdP s w) := by
  by_cases hy : ∃ y, IsTxt s y
  · obtain ⟨y, hy⟩ := hy
    exact (implParse_yes s y hy w hL).mono fun e w' h => ⟨h.2, .inl ⟨y, hy, h.1⟩⟩
  · have hno : ∀ y, ¬ IsTxt s y := fun y h => hy ⟨y, h⟩
    exact (implParse_no s hs hno w hL).mono fun e w' h => ⟨h.2, .inr ⟨hno, h.1⟩⟩
theorem specDouble (s : ByteArray) (hs : s.size ≤ 1048576) (w : World) : Calls Tryz.prog 142 #[.string s] w (PdP s w) := by
  by_cases hy : ∃ y, IsTxt s y
  · obtain ⟨y, hy⟩ := hy
    exact (specParse_yes s y hy w).mono fun e w' h => ⟨h.2, .inl ⟨y, hy, h.1⟩⟩
  · have hno : ∀ y, ¬ IsTxt s y := fun y h => hy ⟨y, h⟩
    exact (specParse_no s hs hno w).mono fun e w' h => ⟨h.2, .inr ⟨hno, h.1⟩⟩

/-! ### lines of wide modes -/
def W4.Fin (m : W4) : Prop := fin .f64 m.a = true ∧ fin .f64 m.b = true ∧ fin .f64 m.c = true ∧ fin .f64 m.d = true
def wWide : List UInt8 := [119, 105, 100, 101]
def LineW (p : List UInt8) (m : W4) : Prop := LineT TxD wWide p [m.a, m.b, m.c, m.d]
theorem lineW_K : LnK LineW where
  val := by
    rintro p ⟨a, b, c, d⟩ ⟨a', b', c', d'⟩ h k
    have e := LineT.val txD_K h k
    simp at e
    obtain ⟨rfl, rfl, rfl, rfl⟩ := e
    rfl
  nl h := LineT.nl txD_K (by decide) h
/-- a text of valid wide modes -/
def GoodW (l : List UInt8) (ms : List W4) : Prop := areB ms = true ∧ LinesT LineW ms l
theorem lineW_fin {p : List UInt8} {m : W4} (h : LineW p m) : m.Fin ∧ m.bits := by
  obtain ⟨ts, -, a⟩ := h
  obtain ⟨t1, t2, t3, t4, rfl, a1, a2, a3, a4⟩ := all2_four a
  exact ⟨⟨a1.2.1, a2.2.1, a3.2.1, a4.2.1⟩, a1.1, a2.1, a3.1, a4.1⟩
end Go.Proofs.YtnmjkjjmigiabaaGreatDoor

/- impl.readNumbers in double precision.
   Conditions: those that each statement names. -/
namespace Go.Proofs.YtnmjkjjmigiabaaGreatDoor
set_option linter.unusedSimpArgs false
set_option linter.unusedVariables false
open Go Go.RowKit

/-- numbers read so far, then zeros -/
def parD (xs : List Nat) (n : Nat) : List Nat := xs ++ List.replicate (n - xs.length) 0
theorem parD_nil (n : Nat) : parD [] n = List.replicate n 0 := by simp [parD]
theorem parD_full {xs : List Nat} {n : Nat} (h : xs.length = n) : parD xs n = xs := by subst h; simp [parD]
theorem parD_set {xs : List Nat} {n : Nat} (h : xs.length < n) (r : Nat) : (cellsV (parD xs n)).set xs.length (.float .f64 r) = cellsV (parD (xs ++ [r]) n) := by
  unfold parD
  rw [List.length_append, List.length_singleton, show n - xs.length = (n - (xs.length + 1)) + 1 from by omega, List.replicate_succ]
  simp only [cellsV, List.map_append, List.map_cons, List.map_nil, List.append_assoc, List.singleton_append]
  rw [List.set_append_right _ _ (by simp)]
  simp
theorem parD_cell {xs : List Nat} {n : Nat} (h : xs.length < n) : (cellsV (parD xs n))[xs.length]? = some (.float .f64 0) := by
  unfold parD cellsV
  rw [List.getElem?_map, List.getElem?_append_right (by omega)]
  simp [List.getElem?_replicate]
  omega

def NumsJ (word : List UInt8) (ts : List (List UInt8)) (n : Nat) (w0 : World) (B g : Nat) (i : Value) (wr : World) : Prop :=
  ∃ xs : List Nat, xs.length ≤ n ∧ i = .int .i64 (xs.length : Int) ∧ All2 TxD (ts.take xs.length) xs ∧ wr.ownsRow B 26 1 (.slice (some ⟨g, 0, none⟩) n n) n (cellsV (parD xs n)) ∧ Nw w0 wr
def NumsQ (word l : List UInt8) (n : Nat) (w : World) (e : Ending) (w' : World) : Prop :=
  Nw w w' ∧ ((∃ xs v, xs.length = n ∧ LineT TxD word l xs ∧ e = .returned (.tuple #[v, .bool true]) ∧ w'.ownsRow w.heap.size 26 1 v n (cellsV xs)) ∨
    ((∀ xs, xs.length = n → ¬ LineT TxD word l xs) ∧ e = .returned (.tuple #[.slice none 0 0, .bool false])))

set_option maxHeartbeats 3200000 in
set_option maxRecDepth 100000 in
theorem readNumbersD (word : List UInt8) (hw : 32 ∉ word) (s : ByteArray) (hs : s.size ≤ 1048576) (n : Nat) (hn : n ≤ 16) (w : World) (hL : LibW w) :
    Calls Tryz.prog 136 #[.string s, .string ⟨word.toArray⟩, .int .i64 (n : Int), .func (.func 10) #[] #[]] w (NumsQ word s.data.toList n w) := by
  obtain ⟨f0, hf0, hfz0, hfz1, hfz2⟩ := info_parts info_dbl
  have C := Lib.hid (splitN_ok s (n + 2) (by omega) (by omega) hs)
  rw [show ((n + 2 : Nat) : Int) = (n : Int) + 2 from by omega] at C
  have L := Lib.hid hL
  have Hw := Lib.hid hw
  clear hL hw
  go_enter Tryz.func136, Tryz.ntmps136
  go_wp2_with fail
  refine (C.out _ L.out).mono ?_
  rintro e w1 ⟨ps, cap, rfl, hlen, hps, own, n1⟩
  have Ow := Lib.hid own
  have N1 := Lib.hid n1
  have HP := Lib.hid (And.intro hlen hps)
  clear own n1 hlen hps
  by_cases hln : ps.length = n + 1
  · obtain ⟨p0, ts, rfl⟩ : ∃ p0 ts, ps = p0 :: ts := by
      cases ps with
      | nil => simp at hln
      | cons p ts => exact ⟨p, ts, rfl⟩
    have hts : ts.length = n := by simpa using hln
    have hsp : spl 32 s.data.toList = p0 :: ts := by
      have h1 := HP.out.1
      have h2 := HP.out.2
      rw [hln] at h1
      exact (h2 (by omega)).symm
    have e0 := Ow.out.cellAt 0 (by omega)
    rw [show (cellsT (p0 :: ts))[0]? = some (.string ⟨p0.toArray⟩) from rfl] at e0
    have Sp := Lib.hid hsp
    have Ht := Lib.hid hts
    clear hsp hts
    rw [hln] at Ow ⊢
    clear hln
    by_cases hw0 : p0 = word
    · subst hw0
      go_wp2_with (first
        | (at_make; refine wpList_make_full _ rfl _ _ 171 rfl w1.heap.size 26 f0 (.float .f64 0) 1 Tryz.underlying171 hf0 hfz0 hfz1 _ _ _ _ n rfl rfl rfl rfl (by rw [hfz2]; omega) (by unfold maxLen; omega) (Nat.le_refl _) ?_))
      intro w3 hown3 hgrow3
      have hn3 : Nw w1 w3 := hgrow3
      have O3 := Lib.hid (show w3.ownsRow w1.heap.size 26 1 (.slice (some ⟨w1.heap.size, 0, none⟩) n n) n (cellsV (parD [] n)) from by
        rw [toList_madeCells_one] at hown3
        rw [parD_nil]
        simpa [cellsV] using hown3)
      have N3 := Lib.hid hn3
      have Ow3 := Lib.hid (own_nw Ow.out hn3)
      have hws := Lib.hid (show w.heap.size ≤ w1.heap.size from N1.out.size)
      clear hown3 hgrow3 hn3 e0
      go_wp2_with fail
      go_loopw [35] (fun i wr => NumsJ p0 ts n w1 w1.heap.size w1.heap.size i wr) (fun i _ => n - (intOf i).toNat)
      case atStart => exact ⟨[], by simp, rfl, trivial, O3.out, N3.out⟩
      case round =>
        obtain ⟨xs, hk, rfl, hal, how, hN⟩ := hrel
        have Al := Lib.hid hal
        have Or := Lib.hid how
        have Nr := Lib.hid hN
        clear hal how hN
        by_cases hlt : xs.length < n
        · obtain ⟨t, htk⟩ : ∃ t, ts[xs.length]? = some t := ⟨ts[xs.length]'(by rw [Ht.out]; exact hlt), List.getElem?_eq_getElem _⟩
          have hb : w.heap.size < w1.heap.size := (Ow.out.lt w.heap.size rfl).2
          have e0 := (own_nw Ow.out Nr.out).cellAt (xs.length + 1) (by omega)
          rw [show (cellsT (p0 :: ts))[xs.length + 1]? = some (.string ⟨t.toArray⟩) from by unfold cellsT; rw [List.getElem?_map, List.getElem?_cons_succ, htk]; rfl] at e0
          have htm : t ∈ spl 32 s.data.toList := by rw [Sp.out]; exact List.mem_cons_of_mem _ (List.mem_of_getElem? htk)
          have hsz : (⟨t.toArray⟩ : ByteArray).size ≤ 1048576 := by
            have h1 := spl_len htm
            have h2 : s.data.toList.length = s.size := Array.length_toList
            have h3 : (⟨t.toArray⟩ : ByteArray).size = t.length := List.size_toArray
            omega
          have P := Lib.hid (implDouble ⟨t.toArray⟩ hsz wr (L.out.nw (N1.out.trans Nr.out)))
          have Tk := Lib.hid htk
          clear htk htm hsz
          go_wp2_with fail
          refine P.out.mono ?_
          rintro e w5 ⟨n5, ⟨r, ht, rfl⟩ | ⟨hno, rfl⟩⟩
          · have N5 := Lib.hid (Nr.out.trans n5)
            have O5 := Lib.hid (own_nw Or.out n5)
            have K := Lib.hid (show TxD t r from ht)
            clear n5 ht e0
            have e1 := O5.out.cellAt xs.length (by omega)
            rw [parD_cell hlt] at e1
            have e2 := O5.out.frozenAt xs.length
            have hset := O5.out.stored xs.length (.float .f64 r)
            rw [parD_set hlt] at hset
            have F := Lib.hid hset.1
            have N6 := Lib.hid (N5.out.set (p := ⟨w1.heap.size, xs.length, none⟩) (by show w1.heap.size ≤ w1.heap.size; omega) (.float .f64 r))
            clear hset
            go_wp2_with fail
            go_roundw
            case rel =>
              refine ⟨xs ++ [r], by simp; omega, by rw [List.length_append, List.length_singleton, show ((xs.length + 1 : Nat) : Int) = (xs.length : Int) + 1 from by omega], ?_, F.out, N6.out⟩
              rw [List.length_append, List.length_singleton, List.take_add_one, Tk.out]
              exact Al.out.snoc K.out
            case measure => simp only [intOf]; omega
          · have N5 := Lib.hid (Nr.out.trans n5)
            have B := Lib.hid hno
            clear n5 hno e0
            go_wp2_with fail
            go_ret2
            refine ⟨N1.out.trans N5.out, .inr ⟨fun ys _ h => ?_, rfl⟩⟩
            obtain ⟨us, e, a⟩ := h
            rw [Sp.out] at e
            injection e with _ e
            subst e
            obtain ⟨y, -, hy⟩ := a.get Tk.out
            exact B.out y hy
        · have hxn : xs.length = n := by omega
          go_wp2_with fail
          go_ret2
          refine ⟨N1.out.trans Nr.out, .inl ⟨xs, _, hxn, ⟨ts, Sp.out, ?_⟩, rfl, ?_⟩⟩
          · have h := Al.out
            rw [List.take_of_length_le (by rw [Ht.out]; omega)] at h
            exact h
          · have h := Or.out
            rw [parD_full hxn] at h
            exact own_base h hws.out
    · have hb0 : (p0 == word) = false := by simpa using hw0
      go_wp2_with fail
      go_ret2
      refine ⟨N1.out, .inr ⟨fun xs _ h => ?_, rfl⟩⟩
      obtain ⟨us, e, -⟩ := h
      rw [Sp.out] at e
      injection e with e _
      exact hw0 e
  · go_wp2_with fail
    go_ret2
    refine ⟨N1.out, .inr ⟨fun xs hx h => ?_, rfl⟩⟩
    obtain ⟨us, e, a⟩ := h
    have h1 := HP.out.1
    have h2 := HP.out.2
    have hus := a.len
    rw [e] at h1 h2
    simp at h1 h2
    rw [h2 (by omega)] at hln
    simp at hln
    omega
end Go.Proofs.YtnmjkjjmigiabaaGreatDoor

/- impl.readWide, impl.readLines of wide modes.
   Conditions: those that each statement names. -/
namespace Go.Proofs.YtnmjkjjmigiabaaGreatDoor
set_option linter.unusedSimpArgs false
set_option linter.unusedVariables false
open Go Go.RowKit

def RdWP (l : List UInt8) (w : World) (e : Ending) (w' : World) : Prop :=
  Nw w w' ∧ ((∃ m : W4, LineW l m ∧ e = .returned (.tuple #[.agg #[.complex .f64 m.a m.b, .complex .f64 m.c m.d], .bool true])) ∨ ((∀ m, ¬ LineW l m) ∧ e = .returned (.tuple #[.agg #[.complex .f64 0 0, .complex .f64 0 0], .bool false])))

set_option maxHeartbeats 3200000 in
set_option maxRecDepth 100000 in
theorem readWide_ok (s : ByteArray) (hs : s.size ≤ 1048576) (w : World) (hL : LibW w) :
    Calls Tryz.prog 72 #[.string s] w (RdWP s.data.toList w) := by
  have C := Lib.hid (fun w h => readNumbersD wWide (by decide) s hs 4 (by decide) w h)
  have L := Lib.hid hL
  clear hL
  go_enter Tryz.func72, Tryz.ntmps72
  go_wp2_with fail
  refine (C.out _ (L.out.nw ((Nw.refl w).alloc _))).mono ?_
  rintro e w1 ⟨n1, ⟨xs, v, hx, hl, rfl, own⟩ | ⟨hno, rfl⟩⟩
  · obtain ⟨a, b, c, d, rfl⟩ := four hx
    obtain ⟨va, vc, rfl⟩ := own_shape' own
    obtain ⟨g, cap, hv, hcap, hmax, hgs, e0⟩ := own_dbl (k := 0) own rfl rfl
    cases hv
    have e1 : w1.cell? ⟨g, 1, none⟩ = some (.float .f64 b) := own.cellAt 1 (by omega)
    have e2 : w1.cell? ⟨g, 2, none⟩ = some (.float .f64 c) := own.cellAt 2 (by omega)
    have e3 : w1.cell? ⟨g, 3, none⟩ = some (.float .f64 d) := own.cellAt 3 (by omega)
    have B1 := Lib.hid ((HasWide.new w 115 0 0 0 0).nw n1)
    have N1 := Lib.hid (((Nw.refl w).alloc (.cells #[.complex .f64 0 0, .complex .f64 0 0] 115 (0, 0))).trans n1)
    have Hl := Lib.hid hl
    clear n1 hl own hx
    go_upto_region 4 with fail
    refine wp_region_still_tail 15 (by kernel_rfl) (by kernel_rfl) ?_
    simp only [List.take_succ_cons, List.take_zero, List.drop_succ_cons, List.drop_zero]
    repeat still_step
    refine wpStill_nil ?_
    change wpList _ _ _ _ _ (w1.drewN 1)
    have N2 := Lib.hid (N1.out.draw 1)
    obtain ⟨m0, m1, m2, m3, m4⟩ := B1.out
    clear e0 e1 e2 e3
    have q0 : (w1.drewN 1).heap.size = w1.heap.size := rfl
    have q1 : (w1.drewN 1).cell? ⟨w.heap.size, 0, none⟩ = _ := m1
    have q2 : (w1.drewN 1).cell? ⟨w.heap.size, 1, none⟩ = _ := m2
    have q3 : (w1.drewN 1).frozen? ⟨w.heap.size, 0, none⟩ = _ := m3
    have q4 : (w1.drewN 1).frozen? ⟨w.heap.size, 1, none⟩ = _ := m4
    generalize w1.drewN 1 = w5 at *
    clear m0 m1 m2 m3 m4
    go_wp2_with fail
    have hx0 : w.heap.size ≠ w.heap.size + 1 := by omega
    exact bodyPost_ret (v := .tuple #[.agg #[.complex .f64 a b, .complex .f64 c d], .bool true]) (by simp [results, Tryz.results72, go_sem, q0, q1, q2, q3, q4]) rfl
      ⟨(N2.out.set (by show w.heap.size ≤ w.heap.size; omega) _).set (by show w.heap.size ≤ w.heap.size; omega) _, .inl ⟨⟨a, b, c, d⟩, Hl.out, rfl⟩⟩
  · obtain ⟨m0, m1, m2, m3, m4⟩ := (HasWide.new w 115 0 0 0 0).nw n1
    have N1 := Lib.hid (((Nw.refl w).alloc (.cells #[.complex .f64 0 0, .complex .f64 0 0] 115 (0, 0))).trans n1)
    have Hno := Lib.hid hno
    clear n1 hno
    go_wp2_with fail
    refine bodyPost_ret (v := .tuple #[.agg #[.complex .f64 0 0, .complex .f64 0 0], .bool false]) (by simp [results, Tryz.results72, go_sem, m0, m1, m2, m3, m4]) rfl
      ⟨(N1.out.set (by show w.heap.size ≤ w.heap.size; omega) _).set (by show w.heap.size ≤ w.heap.size; omega) _, .inr ⟨fun m h => ?_, rfl⟩⟩
    exact Hno.out _ rfl h

/-! ### the lines -/
def LinesJ (l : List UInt8) (w0 : World) (t v i : Value) (wr : World) : Prop :=
  ∃ (k : Nat) (ms : List W4) (ps : List (List UInt8)) (r : List UInt8), k ≤ 16 ∧ ms.length = k ∧ i = .int .i64 (k : Int) ∧ t = .string ⟨r.toArray⟩ ∧ All2 LineW ps ms ∧ l = glueC 10 ps ++ r ∧ wr.ownsRow w0.heap.size 115 2 v k (cellsW ms) ∧ Nw w0 wr
def LinesQ (l : List UInt8) (w : World) (e : Ending) (w' : World) : Prop :=
  ∃ (ms : List W4) (r : List UInt8) (v : Value), e = .returned (.tuple #[v, .string ⟨r.toArray⟩]) ∧ ReadT LineW 16 l ms r ∧ w'.ownsRow w.heap.size 115 2 v ms.length (cellsW ms) ∧ Nw w w'
set_option maxHeartbeats 6400000 in
set_option maxRecDepth 100000 in
theorem readLinesW (s : ByteArray) (hs : s.size ≤ 1048576) (w : World) (hL : LibW w) :
    Calls Tryz.prog 71 #[.string s, .int .i64 16, .func (.func 72) #[] #[]] w (LinesQ s.data.toList w) := by
  obtain ⟨i0, hi, hz0, hz1, hz2⟩ := info_parts info_wideV
  have hl : s.data.toList.length = s.size := Array.length_toList
  have L := Lib.hid hL
  clear hL
  go_enter Tryz.func71, Tryz.ntmps71
  go_wp2_with fail
  go_loopw [0, 8, 15] (fun t v i wr => LinesJ s.data.toList w t v i wr) (fun _ _ i _ => 16 - (intOf i).toNat)
  case atStart => exact ⟨0, [], [], s.data.toList, by omega, rfl, rfl, rfl, trivial, rfl, World.ownsRow_nil _ _ _ _, Nw.refl _⟩
  case round =>
    obtain ⟨k, ms, ps, r, hk, hmk, rfl, rfl, hal, hlr, hown, hN⟩ := hrel
    have Al := Lib.hid hal
    have Hl := Lib.hid hlr
    have Ow := Lib.hid hown
    have Nr := Lib.hid hN
    have Mk := Lib.hid hmk
    have hrs : (⟨r.toArray⟩ : ByteArray).size ≤ 1048576 := by
      have h1 : s.data.toList.length = (glueC 10 ps).length + r.length := by rw [hlr, List.length_append]
      have h3 : (⟨r.toArray⟩ : ByteArray).size = r.length := List.size_toArray
      omega
    have hr1 : r.length ≤ 1048576 := by
      have h3 : (⟨r.toArray⟩ : ByteArray).size = r.length := List.size_toArray
      omega
    obtain ⟨sa, sl, sc, rfl⟩ := own_shape hown
    have hsz := Lib.hid (show w.heap.size ≤ wr.heap.size from hN.size)
    clear hal hlr hown hN hmk
    by_cases hlt : k < 16
    · have C := Lib.hid (cutLine_ok ⟨r.toArray⟩ hrs wr)
      clear hrs
      go_wp2_with fail
      refine C.out.mono ?_
      rintro e w1 ⟨n1, ⟨p, q, hpq0, hp, rfl⟩ | ⟨hno0, rfl⟩⟩
      · have hpq : r = p ++ 10 :: q := by simpa using hpq0
        have N1 := Lib.hid (Nr.out.trans n1)
        have O1 := Lib.hid (own_nw Ow.out n1)
        have hps : (⟨p.toArray⟩ : ByteArray).size ≤ 1048576 := by
          have h1 : r.length = p.length + (q.length + 1) := by rw [hpq, List.length_append, List.length_cons]
          have h3 : (⟨p.toArray⟩ : ByteArray).size = p.length := List.size_toArray
          omega
        have P := Lib.hid (readWide_ok ⟨p.toArray⟩ hps w1 (L.out.nw N1.out))
        have Hpq := Lib.hid (And.intro hpq hp)
        have hs1 := Lib.hid (show w.heap.size ≤ w1.heap.size from N1.out.size)
        clear n1 hpq hp hps hr1 hpq0
        go_wp2_with fail
        refine P.out.mono ?_
        rintro e w2 ⟨n2, ⟨m, hm, rfl⟩ | ⟨hno, rfl⟩⟩
        · have N2 := Lib.hid (N1.out.trans n2)
          have O2 := Lib.hid (own_nw O1.out n2)
          have Hm := Lib.hid hm
          obtain ⟨m0, m1, m2, -, -⟩ := HasWide.new w2 115 m.a m.b m.c m.d
          have hs2 := Lib.hid (show w.heap.size ≤ w2.heap.size from N2.out.size)
          clear n2 hm
          go_wp2_with (at_builtin; refine wpList_append_own _ rfl _ _ 45 rfl w.heap.size 115 i0 (.agg #[.complex .f64 0 0, .complex .f64 0 0]) 2 32 Tryz.underlying45 hi hz0 hz1 hz2 rfl (by decide) _ _ _ rfl ((O2.out.alloc _).alloc _) ⟨w2.heap.size + 1, 0, none⟩ 1 1 [.complex .f64 m.a m.b, .complex .f64 m.c m.d] rfl rfl ?c1 ?c2 ?c3 ?c4 ?c5 ?_)
          case c1 =>
            intro j u hj
            match j, hj with
            | 0, hj => simp at hj; subst hj; simp [Addr.add]
            | 1, hj => simp at hj; subst hj; simp [Addr.add]
          case c2 => intro u hu; simp at hu; rcases hu with rfl | rfl <;> rfl
          case c3 => unfold maxLen; omega
          case c4 => omega
          case c5 => have := hs2.out; simp; omega
          · intro v' w4 hown4 hgrow _
            have hrow : ∀ q, (Value.slice sa sl sc).ownBlock = some q → w.heap.size ≤ q := fun q hq => own_ge O2.out q hq
            have N4 := Lib.hid (nwg ((N2.out.alloc _).alloc _) hgrow hrow)
            rw [show cellsW ms ++ [Value.complex .f64 m.a m.b, Value.complex .f64 m.c m.d] = cellsW (ms ++ [m]) from (cellsW_snoc ms m).symm] at hown4
            have O4 := Lib.hid hown4
            clear hown4 hgrow hrow m0 m1 m2
            go_wp2_with fail
            go_roundw
            case rel =>
              refine ⟨k + 1, ms ++ [m], ps ++ [p], q, by omega, by rw [List.length_append, List.length_singleton, Mk.out], by rw [show ((k + 1 : Nat) : Int) = (k : Int) + 1 from by omega], rfl, Al.out.snoc Hm.out, ?_, O4.out, N4.out⟩
              rw [Hl.out, Hpq.out.1, glue_snoc]
              simp
            case measure => simp only [intOf]; omega
        · have N2 := Lib.hid (N1.out.trans n2)
          have O2 := Lib.hid (own_nw O1.out n2)
          have Hno := Lib.hid hno
          clear n2 hno
          go_wp2_with fail
          go_ret2
          exact ⟨ms, r, _, rfl, ⟨ps, Al.out, Hl.out, by rw [Mk.out]; omega, .inr (.inr ⟨p, q, Hpq.out.1, Hpq.out.2, Hno.out⟩)⟩, by rw [Mk.out]; exact own_nw O2.out ((Nw.refl _).alloc _), N2.out.alloc _⟩
      · have hno : (10 : UInt8) ∉ r := by simpa using hno0
        have N1 := Lib.hid (Nr.out.trans n1)
        have O1 := Lib.hid (own_nw Ow.out n1)
        have Hno := Lib.hid hno
        clear n1 hno hno0
        go_wp2_with fail
        go_ret2
        exact ⟨ms, r, _, rfl, ⟨ps, Al.out, Hl.out, by rw [Mk.out]; omega, .inr (.inl Hno.out)⟩, by rw [Mk.out]; exact O1.out, N1.out⟩
    · have hk16 : k = 16 := by omega
      clear hrs
      go_wp2_with fail
      go_ret2
      exact ⟨ms, r, _, rfl, ⟨ps, Al.out, Hl.out, by rw [Mk.out]; omega, .inl (by rw [Mk.out, hk16])⟩, by rw [Mk.out]; exact Ow.out, Nr.out⟩

end Go.Proofs.YtnmjkjjmigiabaaGreatDoor

/- The model's l6Wide.
   Conditions: those that each statement names. -/
namespace Go.Proofs.YtnmjkjjmigiabaaGreatDoor
set_option linter.unusedSimpArgs false
set_option linter.unusedVariables false
open Go Go.RowKit

/-- a mode is read, or one that is not valid; what is read may have another word -/
def L6Q (l : List UInt8) (w : World) (e : Ending) (w' : World) : Prop :=
  Nw w w' ∧ ∃ m : W4, m.Fin ∧ m.bits ∧ (∀ m', LineW l m' → m = m') ∧ e = .returned (.agg #[.complex .f64 m.a m.b, .complex .f64 m.c m.d])
def badW : W4 := ⟨4611686018427387904, 0, 0, 0⟩
theorem badW_fin : badW.Fin ∧ badW.bits := ⟨⟨by decide, by decide, by decide, by decide⟩, by decide, by decide, by decide, by decide⟩

def L6J (ts : List (List UInt8)) (B : Nat) (w0 : World) (v i : Value) (wr : World) : Prop :=
  ∃ xs : List Nat, xs.length ≤ ts.length ∧ i = .int .i64 (xs.length : Int) ∧ All2 TxD (ts.take xs.length) xs ∧ wr.ownsRow B 26 1 v xs.length (cellsV xs) ∧ Nw w0 wr
set_option maxHeartbeats 6400000 in
set_option maxRecDepth 100000 in
theorem l6Wide_ok (s : ByteArray) (hs : s.size ≤ 1048576) (w : World) :
    Calls Tryz.prog 85 #[.string s] w (L6Q s.data.toList w) := by
  obtain ⟨f0, hf0, hfz0, hfz1, hfz2⟩ := info_parts info_dbl
  have C := Lib.hid (l1Split_any 32 s hs)
  have B := Lib.hid (HasWide.new w 115 0 0 0 0)
  go_enter Tryz.func85, Tryz.ntmps85
  go_wp2_with fail
  refine (C.out _).mono ?_
  rintro e w1 ⟨ps, r, v, rfl, hl, hps, hr, own, n1⟩
  have hsp : spl 32 s.data.toList = ps ++ [r] := by rw [hl, spl_glue hps, spl_none hr]
  have hs0 : (w.alloc (.cells #[.complex .f64 0 0, .complex .f64 0 0] 115 (0, 0))).heap.size = w.heap.size + 1 := by simp
  rw [hs0] at own
  obtain ⟨qs, hqs⟩ : ∃ qs, qs = ps ++ [r] := ⟨_, rfl⟩
  rw [← hqs] at hsp own
  have hql : ps.length + 1 = qs.length := by rw [hqs]; simp
  rw [hql] at own
  obtain ⟨va, vc, rfl⟩ := own_shape' own
  have Sp := Lib.hid hsp
  have B1 := Lib.hid (B.out.nw n1)
  have hw1 : w.heap.size < w1.heap.size := by have := (B.out.nw n1).1; omega
  have E1 := Lib.hid (HasWide.new w1 115 4611686018427387904 0 0 0)
  have N0 := Lib.hid (((Nw.refl w).alloc (.cells #[.complex .f64 0 0, .complex .f64 0 0] 115 (0, 0))).trans n1)
  have O0 := Lib.hid own
  have N1 := Lib.hid ((((Nw.refl w).alloc (.cells #[.complex .f64 0 0, .complex .f64 0 0] 115 (0, 0))).trans n1).alloc (.cells #[.complex .f64 4611686018427387904 0, .complex .f64 0 0] 115 (0, 0)))
  have O1 := Lib.hid (own.alloc (.cells #[.complex .f64 4611686018427387904 0, .complex .f64 0 0] 115 (0, 0)))
  have hlt1 : ∀ q, (Value.slice va qs.length vc).ownBlock = some q → q < w1.heap.size := fun q hq => (own.lt q hq).2
  have Lt := Lib.hid hlt1
  clear hl hps hr own n1 hs0 hsp hqs hql hlt1
  have hne : w.heap.size ≠ w1.heap.size := by omega
  obtain ⟨m0, m1, m2, m3, m4⟩ := B1.out
  by_cases h5 : qs.length = 5
  · obtain ⟨q0, ts, rfl⟩ : ∃ p0 ts, qs = p0 :: ts := by
      cases qs with
      | nil => simp at h5
      | cons p ts => exact ⟨p, ts, rfl⟩
    have Ht := Lib.hid (show ts.length = 4 by simpa using h5)
    rw [h5] at O0 O1 Lt ⊢
    clear h5
    obtain ⟨g, hva, hcv⟩ : ∃ g, va = some ⟨g, 0, none⟩ ∧ 5 ≤ vc := by
      rcases O0.out.2 with ⟨h0, h1⟩ | ⟨g, cap, cur, hv, hb, hg, hc, hm, -, -⟩
      · exact absurd h1 (by decide)
      · cases hv; exact ⟨g, rfl, hc⟩
    subst hva
    have hgw : g < w1.heap.size := Lt.out g rfl
    have Z := Lib.hid (World.ownsRow_lit (base := w1.heap.size + 1) (e := 26) (size := 1) (w1.alloc (.cells #[.complex .f64 4611686018427387904 0, .complex .f64 0 0] 115 (0, 0))) #[] 0 (by simp) (by decide) rfl)
    go_wp2_with fail
    go_loopw [5, 21] (fun v i wr => L6J ts (w1.heap.size + 1) (w1.alloc (.cells #[.complex .f64 4611686018427387904 0, .complex .f64 0 0] 115 (0, 0))) v i wr) (fun _ i _ => 4 - (intOf i).toNat)
    case atStart => exact ⟨[], by simp, rfl, trivial, by simpa [cellsV] using Z.out, (Nw.refl _).alloc _⟩
    case round =>
      obtain ⟨xs, hk, rfl, hal, how, hN⟩ := hrel
      have Al := Lib.hid hal
      have Or := Lib.hid how
      have Nr := Lib.hid hN
      have hsz := Lib.hid (show w1.heap.size + 1 ≤ wr.heap.size from by have := hN.size; simpa using this)
      have hk4 : xs.length ≤ 4 := by rw [Ht.out] at hk; exact hk
      clear hal hN hk
      obtain ⟨xa, xl, xc, rfl⟩ := own_shape how
      have D := Lib.hid (E1.out.nw (Nr.out))
      clear how
      have Bd := Lib.hid ((B1.out.alloc (.cells #[.complex .f64 4611686018427387904 0, .complex .f64 0 0] 115 (0, 0))).nw Nr.out)
      by_cases hlt : xs.length < 4
      · obtain ⟨t, htk⟩ : ∃ t, ts[xs.length]? = some t := ⟨ts[xs.length]'(by rw [Ht.out]; exact hlt), List.getElem?_eq_getElem _⟩
        have e0 := (own_nw O1.out Nr.out).cellAt (xs.length + 1) (by omega)
        rw [show (cellsT (q0 :: ts))[xs.length + 1]? = some (.string ⟨t.toArray⟩) from by unfold cellsT; rw [List.getElem?_map, List.getElem?_cons_succ, htk]; rfl, Nat.add_comm] at e0
        have htm : t ∈ spl 32 s.data.toList := by rw [Sp.out]; exact List.mem_cons_of_mem _ (List.mem_of_getElem? htk)
        have hts : (⟨t.toArray⟩ : ByteArray).size ≤ 1048576 := by
          have h1 := spl_len htm
          have h2 : s.data.toList.length = s.size := Array.length_toList
          have h3 : (⟨t.toArray⟩ : ByteArray).size = t.length := List.size_toArray
          omega
        have P := Lib.hid (specDouble ⟨t.toArray⟩ hts wr)
        have Tk := Lib.hid htk
        clear htk htm hts
        go_wp2_with fail
        refine P.out.mono ?_
        rintro e w5 ⟨n5, ⟨r, ht, rfl⟩ | ⟨hno, rfl⟩⟩
        · have N5 := Lib.hid (Nr.out.trans n5)
          have O5 := Lib.hid (own_nw Or.out n5)
          have K := Lib.hid (show TxD t r from ht)
          have hs5 := Lib.hid (show w1.heap.size + 1 ≤ w5.heap.size from by have := n5.size; have := hsz.out; omega)
          clear n5 ht e0
          go_wp2_with (at_builtin; refine wpList_append_own _ rfl _ _ 171 rfl (w1.heap.size + 1) 26 f0 (.float .f64 0) 1 8 Tryz.underlying171 hf0 hfz0 hfz1 hfz2 rfl (by decide) _ _ _ rfl (O5.out.alloc _) ⟨w5.heap.size, 0, none⟩ 1 1 [.float .f64 r] rfl rfl ?c1 ?c2 ?c3 ?c4 ?c5 ?_)
          case c1 =>
            intro j u hj
            match j, hj with
            | 0, hj => simp at hj; subst hj; simp [Addr.add]
          case c2 => intro u hu; simp at hu; subst hu; rfl
          case c3 => unfold maxLen; omega
          case c4 => omega
          case c5 => have := hs5.out; simp; omega
          · intro v' w6 hown6 hgrow _
            have hrow : ∀ q, (Value.slice xa xl xc).ownBlock = some q → (w1.alloc (.cells #[.complex .f64 4611686018427387904 0, .complex .f64 0 0] 115 (0, 0))).heap.size ≤ q := fun q hq => by have := own_ge O5.out q hq; simpa using this
            have N6 := Lib.hid (nwg (N5.out.alloc _) hgrow hrow)
            rw [show cellsV xs ++ [Value.float .f64 r] = cellsV (xs ++ [r]) from by simp [cellsV]] at hown6
            have O6 := Lib.hid hown6
            clear hown6 hgrow hrow
            go_wp2_with fail
            go_roundw
            case rel =>
              refine ⟨xs ++ [r], by rw [List.length_append, List.length_singleton, Ht.out]; omega, by rw [List.length_append, List.length_singleton, show ((xs.length + 1 : Nat) : Int) = (xs.length : Int) + 1 from by omega], ?_, by rw [List.length_append, List.length_singleton]; exact O6.out, N6.out⟩
              rw [List.length_append, List.length_singleton, List.take_add_one, Tk.out]
              exact Al.out.snoc K.out
            case measure => simp only [intOf]; omega
        · have N5 := Lib.hid (Nr.out.trans n5)
          have Hno := Lib.hid hno
          obtain ⟨d0, d1, d2, d3, d4⟩ := D.out.nw n5
          obtain ⟨m0, m1, m2, m3, m4⟩ := Bd.out.nw n5
          clear n5 hno e0
          go_wp2_with fail
          refine bodyPost_ret (v := .agg #[.complex .f64 4611686018427387904 0, .complex .f64 0 0]) (by simp [results, Tryz.results85, go_sem, m0, m1, m2, m3, m4]) rfl
            ⟨((N1.out.trans N5.out).set (by show w.heap.size ≤ w.heap.size; omega) _).set (by show w.heap.size ≤ w.heap.size; omega) _, badW, badW_fin.1, badW_fin.2, fun m' h => ?_, rfl⟩
          obtain ⟨us, e, a⟩ := h
          rw [Sp.out] at e
          injection e with _ e
          subst e
          obtain ⟨y, -, hy⟩ := a.get Tk.out
          exact absurd hy (Hno.out y)
      · obtain ⟨a, b, c, d, rfl⟩ := four (show xs.length = 4 by omega)
        have hall : All2 TxD ts [a, b, c, d] := by
          have h := Al.out
          rw [List.take_of_length_le (by rw [Ht.out]; exact Nat.le_refl _)] at h
          exact h
        have All := Lib.hid hall
        clear hall hlt hk4
        obtain ⟨gx, hxa, hxl⟩ : ∃ gx, xa = some ⟨gx, 0, none⟩ ∧ xl = 4 := by
          rcases Or.out.2 with ⟨h0, h1⟩ | ⟨g, cap, cur, hv, hb, hg, hc, hm, -, -⟩
          · exact absurd h1 (by simp)
          · cases hv; exact ⟨g, rfl, rfl⟩
        subst hxa hxl
        have e0 : wr.cell? ⟨gx, 0, none⟩ = some (.float .f64 a) := Or.out.cellAt 0 (by simp)
        have e1 : wr.cell? ⟨gx, 1, none⟩ = some (.float .f64 b) := Or.out.cellAt 1 (by simp)
        have e2 : wr.cell? ⟨gx, 2, none⟩ = some (.float .f64 c) := Or.out.cellAt 2 (by simp)
        have e3 : wr.cell? ⟨gx, 3, none⟩ = some (.float .f64 d) := Or.out.cellAt 3 (by simp)
        go_upto_region 14 with fail
        refine wp_region_still_tail 15 (by kernel_rfl) (by kernel_rfl) ?_
        simp only [List.take_succ_cons, List.take_zero, List.drop_succ_cons, List.drop_zero]
        repeat still_step
        refine wpStill_nil ?_
        change wpList _ _ _ _ _ (wr.drewN 1)
        have N2 := Lib.hid ((N1.out.trans Nr.out).draw 1)
        obtain ⟨m0, m1, m2, m3, m4⟩ := Bd.out.draw 1
        clear e0 e1 e2 e3
        generalize wr.drewN 1 = w7 at *
        go_wp2_with fail
        refine bodyPost_ret (v := .agg #[.complex .f64 a b, .complex .f64 c d]) (by simp [results, Tryz.results85, go_sem, m0, m1, m2, m3, m4]) rfl
          ⟨(N2.out.set (by show w.heap.size ≤ w.heap.size; omega) _).set (by show w.heap.size ≤ w.heap.size; omega) _, ⟨a, b, c, d⟩, ?_, ?_, fun m' h => ?_, rfl⟩
        · obtain ⟨t1, t2, t3, t4, -, a1, a2, a3, a4⟩ := all2_four All.out
          exact ⟨a1.2.1, a2.2.1, a3.2.1, a4.2.1⟩
        · obtain ⟨t1, t2, t3, t4, -, a1, a2, a3, a4⟩ := all2_four All.out
          exact ⟨a1.1, a2.1, a3.1, a4.1⟩
        · obtain ⟨us, e, a2⟩ := h
          rw [Sp.out] at e
          injection e with _ e
          subst e
          have h5 := All2.right (R := TxD) (fun _ _ _ h k => txD_K.val h k) All.out a2
          obtain ⟨a', b', c', d'⟩ := m'
          simp at h5
          obtain ⟨rfl, rfl, rfl, rfl⟩ := h5
          rfl
  · have hq : ((qs.length : Int) == 5) = false := by simp; omega
    obtain ⟨d0, d1, d2, d3, d4⟩ := E1.out
    go_wp2_with fail
    refine bodyPost_ret (v := .agg #[.complex .f64 4611686018427387904 0, .complex .f64 0 0]) (by simp [results, Tryz.results85, go_sem, m0, m1, m2, m3, m4]) rfl
      ⟨((N0.out.set (by show w.heap.size ≤ w.heap.size; omega) _).set (by show w.heap.size ≤ w.heap.size; omega) _).alloc _, badW, badW_fin.1, badW_fin.2, fun m' h => ?_, rfl⟩
    obtain ⟨ts, e, a⟩ := h
    rw [Sp.out] at e
    have := a.len
    simp at this
    rw [e] at h5
    simp [this] at h5
end Go.Proofs.YtnmjkjjmigiabaaGreatDoor
