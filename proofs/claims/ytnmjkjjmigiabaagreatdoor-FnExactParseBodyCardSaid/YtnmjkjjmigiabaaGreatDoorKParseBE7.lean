/- Texts of a proof, put together: PbT, PbL.
   Conditions: those that each statement names. -/
import Derived.Test.YtnmjkjjmigiabaaGreatDoorKParseBE6
import Derived.Laws.AppendOwnNone
import Derived.Deep.RegionLawGrows
/- The model's ParseBody.
   Conditions: those that each statement names. -/
namespace Go.Proofs.YtnmjkjjmigiabaaGreatDoor
set_option linter.unusedSimpArgs false
set_option linter.unusedVariables false
open Go Go.RowKit

theorem step_append_mode {ops : Array Oper} {o : Oper} {a : Act} {w : World} {K : Act → World → Prop} {Q : Exit → Act → World → Prop} {E : Prop} (hg : o.guard = none) (s x : Operand)
    (hop : o.op = Op.call { callee := Callee.builtin Builtin.append, args := #[s, x], argTypes := #[36, 36] }) (base n h : Nat) (v : Value) (xs : List M4) (m : M4) (hs : a.eval s = v) (hx : a.eval x = .slice (some ⟨h, 0, none⟩) 1 1)
    (hv : w.ownsRow base 93 2 v n (cellsM xs)) (hc : w.cell? ⟨h, 0, none⟩ = some (.complex .f32 m.pr m.pi) ∧ w.cell? ⟨h, 1, none⟩ = some (.complex .f32 m.gr m.gi)) (hn : n ≤ 1048576) (hb : base ≤ w.heap.size)
    (hK : ∀ v' w', w'.ownsRow base 93 2 v' (n + 1) (cellsM (xs ++ [m])) → w.grownBy w' v.ownBlock → K (a.put o.dst v') w') :
    if Region.wanted o (yielded ops a.tmps) = true then Oper.wp Tryz.prog o a w K Q else E := by
  have hw : Region.wanted o (yielded ops a.tmps) = true := by simp [Region.wanted, hg]
  rw [if_pos hw]
  obtain ⟨i0, hi, hz0, hz1, hz2⟩ := info_parts info_mode
  refine wp_append_own w s x 36 hop base 93 i0 (.agg #[.complex .f32 0 0, .complex .f32 0 0]) 2 16 Tryz.underlying36 hi hz0 hz1 hz2 rfl (by decide) v n (cellsM xs) hs hv ⟨h, 0, none⟩ 1 1 m.cells hx rfl ?_ ?_ (by unfold maxLen; omega) (by omega) hb ?_
  · intro j z hj
    match j, hj with
    | 0, hj => simp [M4.cells] at hj; subst hj; simpa [Addr.add] using hc.1
    | 1, hj => simp [M4.cells] at hj; subst hj; simpa [Addr.add] using hc.2
  · intro u hu; simp [M4.cells] at hu; rcases hu with rfl | rfl <;> rfl
  · intro v' w' h1 h2 _
    rw [← cellsM_snoc] at h1
    exact hK v' w' h1 h2

def Rd1 (p : List UInt8) (m : M4) : Prop := (m.Fin ∧ m.bits) ∧ ∀ m', LineM p m' → m = m'
def PbI (ps : List (List UInt8)) (b : Nat) (w0 : World) (i : Value) (wr : World) : Prop :=
  ∃ (k : Nat) (ms : List M4) (v : Value), k ≤ ps.length ∧ i = .int .i64 (k : Int) ∧ ms.length = k ∧ All2 Rd1 (ps.take k) ms ∧ Has1 wr b v ∧ wr.ownsRow (b + 1) 93 2 v k (cellsM ms) ∧ Nw w0 wr

/-- what is read line by line is the body, if there is one -/
theorem rd1_good {l r : List UInt8} {ps : List (List UInt8)} {ms ns : List M4} (hsp : spl 10 l = ps ++ [r]) (h : All2 Rd1 ps ms) (g : GoodB l ns) : ms = ns := by
  obtain ⟨qs, h2, e⟩ := g.2.spl lineM_K
  rw [hsp] at e
  have e2 := (List.append_inj' e rfl).1
  subst e2
  exact go h h2
where
  go : ∀ {ps : List (List UInt8)} {ms ns : List M4}, All2 Rd1 ps ms → All2 LineM ps ns → ms = ns
  | [], [], [], _, _ => rfl
  | _ :: _, _ :: _, _ :: _, h, k => by rw [h.1.2 _ k.1, go h.2 k.2]
  | [], _ :: _, _, h, _ => h.elim
  | _ :: _, [], _, h, _ => h.elim
  | [], [], _ :: _, _, k => k.elim
  | _ :: _, _ :: _, [], _, k => k.elim

set_option maxHeartbeats 12800000 in
set_option maxRecDepth 100000 in
theorem specParseBody (s : ByteArray) (hs : s.size ≤ 1048576) (w : World) :
    Calls Tryz.prog 28 #[.string s] w (PbP s.data.toList w) := by
  have C := Lib.hid (l1Split_any 10 s hs)
  have B := Lib.hid (Has1.new w 38 (.slice none 0 0))
  go_enter Tryz.func28, Tryz.ntmps28
  go_wp2_with fail
  refine (C.out _).mono ?_
  rintro e w1 ⟨ps, r, v, rfl, hl, hps, hr, own, n1⟩
  have hsp : spl 10 s.data.toList = ps ++ [r] := by rw [hl, spl_glue hps, spl_none hr]
  obtain ⟨va, vc, rfl⟩ := own_shape' own
  have Sp := Lib.hid hsp
  have B1 := Lib.hid (B.out.nw n1)
  have hw1 : w.heap.size < w1.heap.size := (B.out.nw n1).1
  have E1 := Lib.hid (Has1.new w1 38 (.slice none 0 0))
  have N1 := Lib.hid (((Nw.refl w).alloc (.cells #[.slice none 0 0] 38 (0, 0))).trans n1)
  have O1 := Lib.hid own
  have hpl : ps.length ≤ 1048576 := by
    have h1 := spl_le 10 s.data.toList
    have h2 : s.data.toList.length = s.size := Array.length_toList
    rw [hsp] at h1
    simp at h1
    omega
  obtain ⟨g, hva, hcv⟩ : ∃ g, va = some ⟨g, 0, none⟩ ∧ ps.length + 1 ≤ vc ∧ vc ≤ maxLen := by
    rcases O1.out.2 with ⟨h0, h1⟩ | ⟨g, cap, cur, hv, hb, hg, hc, hm, -, -⟩
    · omega
    · cases hv; exact ⟨g, rfl, hc, hm⟩
  subst hva
  have hgw : g < w1.heap.size := (O1.out.lt g rfl).2
  unfold maxLen at hcv
  have hne : w.heap.size ≠ w1.heap.size := by omega
  clear hl hps hr own n1 hsp
  by_cases h17 : ps.length + 1 ≤ 17
  · have hi17 : ¬ ((17 : Int) < (ps.length : Int) + 1) := by omega
    obtain ⟨d0, d1, d2⟩ := E1.out
    go_wp2_with fail
    clear d0 d1 d2
    go_loopw [21] (fun i wr => PbI ps w1.heap.size w1 i wr) (fun i _ => ps.length - (intOf i).toNat)
    case atStart => exact ⟨0, [], _, by omega, rfl, rfl, trivial, E1.out, World.ownsRow_nil _ _ _ _, (Nw.refl w1).alloc _⟩
    case round =>
      obtain ⟨k, ms, v, hk, rfl, hmk, hal, hbx, hown, hN⟩ := hrel
      have Al := Lib.hid hal
      have Bx := Lib.hid hbx
      have Ow := Lib.hid hown
      have Nr := Lib.hid hN
      have Mk := Lib.hid hmk
      have hws := Lib.hid (show w1.heap.size < wr.heap.size from hbx.1)
      have R := Lib.hid (B1.out.nw hN)
      obtain ⟨sa, sl, sc, rfl⟩ := own_shape hown
      clear hal hbx hown hN hmk
      by_cases hlt : k < ps.length
      · obtain ⟨p, hpk⟩ : ∃ p, ps[k]? = some p := ⟨ps[k]'hlt, List.getElem?_eq_getElem _⟩
        have e0 := (own_nw O1.out Nr.out).cellAt k (by omega)
        rw [show (cellsT (ps ++ [r]))[k]? = some (.string ⟨p.toArray⟩) from by unfold cellsT; rw [List.getElem?_map, List.getElem?_append_left hlt, hpk]; rfl] at e0
        have hts : (⟨p.toArray⟩ : ByteArray).size ≤ 1048576 := by
          have h1 : p ∈ spl 10 s.data.toList := by rw [Sp.out]; exact List.mem_append_left _ (List.mem_of_getElem? hpk)
          have h1 := spl_len h1
          have h2 : s.data.toList.length = s.size := Array.length_toList
          have h3 : (⟨p.toArray⟩ : ByteArray).size = p.length := List.size_toArray
          omega
        have Pk := Lib.hid hpk
        clear hpk
        go_wp2_with fail
        go_upto_region 8 with fail
        have K1 := Lib.hid (l6Mode_ok ⟨p.toArray⟩ hts wr.drew)
        obtain ⟨d0, d1, d2⟩ := Bx.out
        clear e0 hts
        go_region_law (first
          | (go_simp
             go_at_call 79
             with_reducible refine K1.out.mono ?_
             rintro e w6 ⟨n6, m, hf6, hb6, hm6, rfl⟩
             have N6 := Lib.hid (((Nw.refl wr).draw 1).trans n6)
             have Ow6 := Lib.hid (own_nw Ow.out N6.out)
             have Bx6 := Lib.hid (Bx.out.nw N6.out)
             have Rm := Lib.hid (show Rd1 p m from ⟨⟨hf6, hb6⟩, hm6⟩)
             have hs6 := Lib.hid (show w1.heap.size < w6.heap.size from Bx6.out.1)
             obtain ⟨x0, x1, x2⟩ := Bx6.out
             clear n6 hf6 hb6 hm6)
          | (refine step_append_mode rfl (.tmp 26) (.tmp 29) rfl (w1.heap.size + 1) k w6.heap.size (.slice sa sl sc) ms m rfl rfl (Ow6.out.alloc _) ⟨by go_simp, by go_simp⟩ (by omega) (by have := hs6.out; simp; omega) ?_
             intro v7 w7 own7 gr7
             have hrow : ∀ q, (Value.slice sa sl sc).ownBlock = some q → w1.heap.size + 1 ≤ q := fun q hq => own_ge Ow6.out q hq
             have Bx7 := Lib.hid ((Bx6.out.alloc _).grown gr7 (fun e => by have := hrow _ e; omega))
             have N7 := Lib.hid (nwg ((Nr.out.trans N6.out).alloc _) gr7 (fun q hq => by have := hrow q hq; omega))
             have Ow7 := Lib.hid own7
             obtain ⟨ta, tl, tc, rfl⟩ := own_shape own7
             clear x0 x1 x2
             obtain ⟨x0, x1, x2⟩ := Bx7.out
             clear own7 gr7 hrow))
        all_goals
          go_wp2_with fail
          go_roundw
          case rel =>
            refine ⟨k + 1, ms ++ [m], _, by omega, by rw [show ((k + 1 : Nat) : Int) = (k : Int) + 1 from by omega], by rw [List.length_append, List.length_singleton, Mk.out], ?_, Bx7.out.put _, own_set Ow7.out (by show w1.heap.size < w1.heap.size + 1; omega) _, N7.out.set (by show w1.heap.size ≤ w1.heap.size; omega) _⟩
            rw [List.take_add_one, Pk.out]
            exact Al.out.snoc Rm.out
          case measure => simp only [intOf]; omega
      · have hkn : k = ps.length := by omega
        subst hkn
        obtain ⟨xa, xc, hv⟩ := own_shape' Ow.out
        cases hv
        have hall : All2 Rd1 ps ms := by
          have h := Al.out
          rw [List.take_of_length_le (Nat.le_refl _)] at h
          exact h
        have All := Lib.hid hall
        have hfin : ∀ m ∈ ms, m.Fin ∧ m.bits := fun m hm => by
          obtain ⟨p, hp⟩ := hall.memr m hm
          exact hp.1
        have Hf := Lib.hid hfin
        clear hall hfin
        obtain ⟨d0, d1, d2⟩ := Bx.out
        go_wp2_with fail
        refine (specIsBody_fin ms _ _ _ Mk.out (by omega) _ Ow.out).mono ?_
        rintro e w3 ⟨rfl, n3⟩
        have O3 := Lib.hid (own_nw Ow.out n3)
        have B3 := Lib.hid (Bx.out.nw n3)
        have R3 := Lib.hid (R.out.nw n3)
        have N3 := Lib.hid ((N1.out.trans Nr.out).trans n3)
        clear n3 d0 d1 d2
        obtain ⟨d0, d1, d2⟩ := B3.out
        obtain ⟨b0, b1, b2⟩ := R3.out
        cases hb : bodyB ms with
        | false =>
          go_wp2_with fail
          refine bodyPost_ret (v := .tuple #[.agg #[.slice none 0 0], .bool false]) (by simp [results, Tryz.results28, go_sem, b0, b1, b2]) rfl
            ⟨N3.out.set (by show w.heap.size ≤ w.heap.size; omega) _, .inr ⟨fun ns h => ?_, rfl⟩⟩
          have e := rd1_good Sp.out All.out h
          rw [e, h.1] at hb
          cases hb
        | true =>
          go_wp2_with fail
          refine (specFormatBody_ok ms Hf.out _ _ _ Mk.out hb _ O3.out).mono ?_
          rintro e w4 ⟨t, rfl, hT, htl, n4⟩
          have O4 := Lib.hid (own_nw O3.out n4)
          have B4 := Lib.hid (B3.out.nw n4)
          have R4 := Lib.hid (R3.out.nw n4)
          have N4 := Lib.hid (N3.out.trans n4)
          have T := Lib.hid hT
          clear n4 d0 d1 d2 b0 b1 b2 hT
          obtain ⟨d0, d1, d2⟩ := B4.out
          obtain ⟨b0, b1, b2⟩ := R4.out
          have hss : s = ⟨s.data.toList.toArray⟩ := rfl
          by_cases ht : t = s.data.toList
          · have g : (t == s.toList) = true := by rw [ByteArray.toList_eq]; simpa using ht
            have g2 : ((⟨t.toArray⟩ : ByteArray).toList == s.toList) = true := by rw [ByteArray.toList_eq, ByteArray.toList_eq]; simpa using ht
            have g3 : (t == s.data.toList) = true := by simpa using ht
            go_wp2_with fail
            exact bodyPost_ret (v := .tuple #[.agg #[.slice sa ps.length sc], .bool true]) (by simp [results, Tryz.results28, go_sem, b0, b1, b2]) rfl
              ⟨N4.out.set (by show w.heap.size ≤ w.heap.size; omega) _, .inl ⟨ms, _, ⟨hb, by rw [← ht]; exact T.out⟩, Hf.out, rfl, by rw [Mk.out]; exact own_base (own_set O4.out (by show w.heap.size < w1.heap.size + 1; omega) _) (by omega)⟩⟩
          · have g : (t == s.toList) = false := by rw [ByteArray.toList_eq]; simpa using ht
            have g2 : ((⟨t.toArray⟩ : ByteArray).toList == s.toList) = false := by rw [ByteArray.toList_eq, ByteArray.toList_eq]; simpa using ht
            have g3 : (t == s.data.toList) = false := by simpa using ht
            go_wp2_with fail
            refine bodyPost_ret (v := .tuple #[.agg #[.slice none 0 0], .bool false]) (by simp [results, Tryz.results28, go_sem, b0, b1, b2]) rfl
              ⟨N4.out.set (by show w.heap.size ≤ w.heap.size; omega) _, .inr ⟨fun ns h => ?_, rfl⟩⟩
            have e := rd1_good Sp.out All.out h
            have hT := T.out
            rw [e] at hT
            obtain ⟨p1, a1, e1⟩ := hT
            obtain ⟨p2, a2, e2⟩ := h.2
            apply ht
            rw [e1, e2, All2.left (R := LineM) (fun _ _ _ h k => LineT.txt txS_K h k) a1 a2]
  · have hi17 : ((17 : Int) < (ps.length : Int) + 1) := by omega
    obtain ⟨d0, d1, d2⟩ := E1.out
    obtain ⟨b0, b1, b2⟩ := B1.out
    go_wp2_with fail
    refine bodyPost_ret (v := .tuple #[.agg #[.slice none 0 0], .bool false]) (by simp [results, Tryz.results28, go_sem, b0, b1, b2]) rfl
      ⟨(N1.out.set (by show w.heap.size ≤ w.heap.size; omega) _).alloc _, .inr ⟨fun ns h => ?_, rfl⟩⟩
    obtain ⟨qs, h2, e⟩ := h.2.spl lineM_K
    rw [Sp.out] at e
    have e2 := (List.append_inj' e rfl).1
    subst e2
    have h3 := h2.len
    have h4 := ((bodyB_iff ns).1 h.1).1
    omega
end Go.Proofs.YtnmjkjjmigiabaaGreatDoor

/- The law FnExactParseBody as a call.
   Conditions: those that each statement names. -/
namespace Go.Proofs.YtnmjkjjmigiabaaGreatDoor
set_option linter.unusedSimpArgs false
set_option linter.unusedVariables false
open Go Go.RowKit

/-- the answer: the body of these modes, or the empty one and false -/
def PbQ (ms : List M4) (b : Bool) (w : World) (e : Ending) (w' : World) : Prop :=
  ∃ v, e = .returned (.tuple #[.agg #[v], .bool b]) ∧ w'.ownsRow w.heap.size 93 2 v ms.length (cellsM ms) ∧ Nw w w'
theorem parseBody_both (s : ByteArray) (hs : s.size ≤ 1048576) : ∃ ms b, (∀ m ∈ ms, m.Fin) ∧ ms.length ≤ 16 ∧ (∀ w, Calls Tryz.prog 28 #[.string s] w (PbQ ms b w)) ∧ (∀ w, LibW w → Calls Tryz.prog 19 #[.string s] w (PbQ ms b w)) := by
  by_cases h : ∃ ms, GoodB s.data.toList ms
  · obtain ⟨ms, g⟩ := h
    have hf : ∀ m ∈ ms, m.Fin := fun m hm => by
      obtain ⟨ps, a, -⟩ := g.2
      obtain ⟨p, hp⟩ := a.memr m hm
      exact (lineM_fin hp).1
    have key : ∀ w e w', PbP s.data.toList w e w' → PbQ ms true w e w' := by
      rintro w e w' ⟨hn, ⟨ns, v, g2, -, rfl, own⟩ | ⟨hno, -⟩⟩
      · have e := LinesT.val lineM_K g2.2 g.2
        subst e
        exact ⟨v, rfl, own, hn⟩
      · exact absurd g (hno ms)
    exact ⟨ms, true, hf, ((bodyB_iff ms).1 g.1).1, fun w => (specParseBody s hs w).mono fun e w' h => key w e w' h, fun w hL => (implParseBody s hs w hL).mono fun e w' h => key w e w' h⟩
  · have hno : ∀ ms, ¬ GoodB s.data.toList ms := fun ms g => h ⟨ms, g⟩
    have key : ∀ w e w', PbP s.data.toList w e w' → PbQ [] false w e w' := by
      rintro w e w' ⟨hn, ⟨ns, v, g2, -⟩ | ⟨-, rfl⟩⟩
      · exact absurd g2 (hno ns)
      · exact ⟨_, rfl, World.ownsRow_nil _ _ _ _, hn⟩
    exact ⟨[], false, by simp, by simp, fun w => (specParseBody s hs w).mono fun e w' h => key w e w' h, fun w hL => (implParseBody s hs w hL).mono fun e w' h => key w e w' h⟩

theorem nw_gr {a w w' : World} {v : Value} {base : Nat} {E : TypeId} {size n : Nat} {xs : List Value} (h : Nw a w) (hg : w.grownBy w' v.ownBlock) (ho : w.ownsRow base E size v n xs) (hb : a.heap.size ≤ base) : Nw a w' :=
  nwg h hg (fun q hq => Nat.le_trans hb (own_ge ho q hq))
theorem own_gr {w w' : World} {v u : Value} {b1 b2 : Nat} {E F : TypeId} {s1 s2 n1 n2 : Nat} {xs ys : List Value} {W : World} (h0 : W.ownsRow b1 E s1 v n1 xs) (hb : W.heap.size ≤ b2) (h : w.ownsRow b1 E s1 v n1 xs) (h2 : w.ownsRow b2 F s2 u n2 ys) (hg : w.grownBy w' u.ownBlock) : w'.ownsRow b1 E s1 v n1 xs := by
  refine h.kept hg ?_
  cases hv : v.ownBlock with
  | none => exact .inl rfl
  | some q =>
    right
    intro e
    have a1 := (h0.lt q hv).2
    have a2 := own_ge h2 q e.symm
    omega

set_option maxHeartbeats 12800000 in
set_option maxRecDepth 100000 in
theorem law_parseBody (s : ByteArray) (w : World) (hL : LibW w) :
    Calls Tryz.prog 4 #[.string s] w fun e w' => e = .returned (.bool true) ∧ Nw w w' := by
  by_cases hs : s.size ≤ 1048576
  · obtain ⟨ms, b, hf, h16, k1, k2⟩ := parseBody_both s hs
    obtain ⟨n, hn⟩ : ∃ n, n = ms.length := ⟨_, rfl⟩
    unfold PbQ at k1 k2
    rw [← hn] at k1 k2 h16
    have Hn := Lib.hid hn.symm
    have Hf := Lib.hid hf
    have C1 := Lib.hid k1
    have C2 := Lib.hid k2
    have L := Lib.hid hL
    clear hn hf k1 k2 hL
    go_enter Tryz.func4, Tryz.ntmps4
    go_wp2_with fail
    refine (C1.out _).mono ?_
    rintro e w1 ⟨v0, rfl, own0, n1⟩
    obtain ⟨va, vc, rfl⟩ := own_shape' own0
    have B0 := Lib.hid (Has1.new w1 38 (.slice va n vc))
    have O1 := Lib.hid (own0.alloc (.cells #[.slice va n vc] 38 (0, 0)))
    have N1 := Lib.hid (n1.alloc (.cells #[.slice va n vc] 38 (0, 0)))
    have hs1 := Lib.hid (show w.heap.size ≤ w1.heap.size from n1.size)
    have hs1' := Lib.hid (show (w1.alloc (.cells #[.slice va n vc] 38 (0, 0))).heap.size = w1.heap.size + 1 from by simp)
    clear own0 n1
    go_wp2_with fail
    refine (C2.out _ (L.out.nw N1.out)).mono ?_
    rintro e w2 ⟨g0, rfl, own1, n2⟩
    rw [hs1'.out] at own1
    obtain ⟨ga, gc, rfl⟩ := own_shape' own1
    have B1 := Lib.hid ((B0.out.nw n2).alloc (.cells #[.slice ga n gc] 38 (0, 0)))
    have D1 := Lib.hid (Has1.new w2 38 (.slice ga n gc))
    have O2 := Lib.hid ((own_nw O1.out n2).alloc (.cells #[.slice ga n gc] 38 (0, 0)))
    have G2 := Lib.hid (own1.alloc (.cells #[.slice ga n gc] 38 (0, 0)))
    have N2 := Lib.hid ((N1.out.trans n2).alloc (.cells #[.slice ga n gc] 38 (0, 0)))
    have hs2 : w1.heap.size < w2.heap.size := by have := (B0.out.nw n2).1; omega
    have Gb := Lib.hid (fun q hq => (own1.lt q hq).2)
    clear own1 n2
    obtain ⟨x0, x1, x2⟩ := B1.out
    obtain ⟨y0, y1, y2⟩ := D1.out
    go_wp2_with fail
    refine (eqBody_ok ms Hf.out n _ _ (.slice ga n gc) (.slice va n vc) Hn.out (by omega) _ G2.out O2.out).mono ?_
    rintro e w3 ⟨rfl, n3⟩
    have B3 := Lib.hid (B1.out.nw n3)
    have D3 := Lib.hid (D1.out.nw n3)
    have O3 := Lib.hid (own_nw O2.out n3)
    have G3 := Lib.hid (own_nw G2.out n3)
    have N3 := Lib.hid (N2.out.trans n3)
    clear n3 x0 x1 x2 y0 y1 y2
    obtain ⟨x0, x1, x2⟩ := B3.out
    obtain ⟨y0, y1, y2⟩ := D3.out
    have h0 : ¬ (2 * (n : Int) + 1 < 0) := by omega
    go_wp2_with fail
    refine (markBody_ok ms n _ _ Hn.out h16 _ G3.out).mono ?_
    rintro e w4 ⟨rfl, g4, gr4⟩
    have hrow : ∀ q, (Value.slice ga n gc).ownBlock = some q → w1.heap.size + 1 ≤ q ∧ q < w2.heap.size := fun q hq => ⟨own_ge G3.out q hq, Gb.out q hq⟩
    have B4 := Lib.hid (B3.out.grown gr4 (fun e => by have := (hrow _ e).1; omega))
    have D4 := Lib.hid (D3.out.grown gr4 (fun e => by have := (hrow _ e).2; omega))
    have O4 := Lib.hid (own_gr O1.out (by rw [hs1'.out]; exact Nat.le_refl _) O3.out G3.out gr4)
    have G4 := Lib.hid g4
    have N4 := Lib.hid (nw_gr N3.out gr4 G3.out (by have := hs1.out; omega))
    clear g4 gr4 hrow x0 x1 x2 y0 y1 y2
    obtain ⟨x0, x1, x2⟩ := B4.out
    obtain ⟨y0, y1, y2⟩ := D4.out
    go_wp2_with fail
    refine (heldBody_ok ms n _ _ Hn.out h16 _ G4.out).mono ?_
    rintro e w5 ⟨rfl, n5⟩
    have B5 := Lib.hid (B4.out.nw n5)
    have D5 := Lib.hid (D4.out.nw n5)
    have O5 := Lib.hid (own_nw O4.out n5)
    have G5 := Lib.hid (own_nw G4.out n5)
    have N5 := Lib.hid (N4.out.trans n5)
    clear n5 x0 x1 x2 y0 y1 y2
    go_wp2_with fail
    refine (C2.out _ (L.out.nw N5.out)).mono ?_
    rintro e w6 ⟨h0', rfl, own6, n6⟩
    obtain ⟨ha, hc, rfl⟩ := own_shape' own6
    have B6 := Lib.hid ((B5.out.nw n6).alloc (.cells #[.slice ha n hc] 38 (0, 0)))
    have D6 := Lib.hid ((D5.out.nw n6).alloc (.cells #[.slice ha n hc] 38 (0, 0)))
    have E6 := Lib.hid (Has1.new w6 38 (.slice ha n hc))
    have O6 := Lib.hid ((own_nw O5.out n6).alloc (.cells #[.slice ha n hc] 38 (0, 0)))
    have G6 := Lib.hid ((own_nw G5.out n6).alloc (.cells #[.slice ha n hc] 38 (0, 0)))
    have H6 := Lib.hid (own6.alloc (.cells #[.slice ha n hc] 38 (0, 0)))
    have N6 := Lib.hid ((N5.out.trans n6).alloc (.cells #[.slice ha n hc] 38 (0, 0)))
    clear own6 n6
    obtain ⟨x0, x1, x2⟩ := B6.out
    obtain ⟨z0, z1, z2⟩ := E6.out
    go_wp2_with fail
    refine (eqBody_ok ms Hf.out n _ _ (.slice ha n hc) (.slice va n vc) Hn.out (by omega) _ H6.out O6.out).mono ?_
    rintro e w7 ⟨rfl, n7⟩
    have D7 := Lib.hid (D6.out.nw n7)
    have G7 := Lib.hid (own_nw G6.out n7)
    have N7 := Lib.hid (N6.out.trans n7)
    clear n7 x0 x1 x2 z0 z1 z2
    obtain ⟨y0, y1, y2⟩ := D7.out
    go_wp2_with fail
    refine (heldBody_ok ms n _ _ Hn.out h16 _ G7.out).mono ?_
    rintro e w8 ⟨rfl, n8⟩
    have N8 := Lib.hid (N7.out.trans n8)
    clear n8
    go_wp2_with fail
    go_ret
    exact ⟨rfl, N8.out⟩
  · have hs' : 1048576 < s.size := by omega
    clear hs hL
    go_enter Tryz.func4, Tryz.ntmps4
    go_wp2_with fail
    all_goals
      go_ret
      exact ⟨rfl, Nw.refl _⟩
end Go.Proofs.YtnmjkjjmigiabaaGreatDoor
