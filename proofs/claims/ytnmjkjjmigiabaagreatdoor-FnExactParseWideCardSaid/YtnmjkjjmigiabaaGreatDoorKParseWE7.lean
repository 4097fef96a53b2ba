/- Texts of a proof, put together: RdL, WdB, EqM, MkV, WdN, WdR, WdS, PbS, PbT, WdT, PbL, WdP.
   Conditions: those that each statement names. -/
import Derived.Test.YtnmjkjjmigiabaaGreatDoorKParseWE6
import Derived.StillTailTactics
import Derived.Laws.AppendOwnNone
import Derived.Deep.RegionLawGrows
/- impl.readMode, impl.readLines of modes, impl.ParseBody.
   Conditions: those that each statement names. -/
namespace Go.Proofs.YtnmjkjjmigiabaaGreatDoor
set_option linter.unusedSimpArgs false
set_option linter.unusedVariables false
open Go Go.RowKit

def RdMP (l : List UInt8) (w : World) (e : Ending) (w' : World) : Prop :=
  Nw w w' ∧ ((∃ m : M4, LineM l m ∧ e = .returned (.tuple #[.agg #[.complex .f32 m.pr m.pi, .complex .f32 m.gr m.gi], .bool true])) ∨ ((∀ m, ¬ LineM l m) ∧ e = .returned (.tuple #[.agg #[.complex .f32 0 0, .complex .f32 0 0], .bool false])))

theorem four {xs : List Nat} (h : xs.length = 4) : ∃ a b c d, xs = [a, b, c, d] := by
  rcases xs with _ | ⟨a, _ | ⟨b, _ | ⟨c, _ | ⟨d, _ | ⟨x, t⟩⟩⟩⟩⟩
  · simp at h
  · simp at h
  · simp at h
  · simp at h
  · exact ⟨a, b, c, d, rfl⟩
  · simp at h

set_option maxHeartbeats 3200000 in
set_option maxRecDepth 100000 in
theorem readMode_ok (s : ByteArray) (hs : s.size ≤ 1048576) (w : World) (hL : LibW w) :
    Calls Tryz.prog 61 #[.string s] w (RdMP s.data.toList w) := by
  have C := Lib.hid (fun w h => readNumbersS wMode (by decide) s hs 4 (by decide) w h)
  have L := Lib.hid hL
  have B := Lib.hid (Has1.new w 93)
  clear hL
  go_enter Tryz.func61, Tryz.ntmps61
  go_wp2_with fail
  refine (C.out _ (L.out.nw ((Nw.refl w).alloc _))).mono ?_
  rintro e w1 ⟨n1, ⟨xs, v, hx, hl, rfl, own⟩ | ⟨hno, rfl⟩⟩
  · obtain ⟨a, b, c, d, rfl⟩ := four hx
    obtain ⟨va, vc, rfl⟩ := own_shape' own
    obtain ⟨g, cap, hv, hcap, hmax, hgs, e0⟩ := own_sample (k := 0) own rfl rfl
    cases hv
    have e1 : w1.cell? ⟨g, 1, none⟩ = some (.float .f32 b) := own.cellAt 1 (by omega)
    have e2 : w1.cell? ⟨g, 2, none⟩ = some (.float .f32 c) := own.cellAt 2 (by omega)
    have e3 : w1.cell? ⟨g, 3, none⟩ = some (.float .f32 d) := own.cellAt 3 (by omega)
    have B1 := Lib.hid ((HasMode.new w 93 0 0 0 0).nw n1)
    have N1 := Lib.hid (((Nw.refl w).alloc (.cells #[.complex .f32 0 0, .complex .f32 0 0] 93 (0, 0))).trans n1)
    have Hl := Lib.hid hl
    clear n1 hl own hx
    go_upto_region 4 with fail
    refine wp_region_still_tail 15 (by kernel_rfl) (by kernel_rfl) ?_
    simp only [List.take_succ_cons, List.take_zero, List.drop_succ_cons, List.drop_zero]
    repeat still_step
    refine wpStill_nil ?_
    change wpList _ _ _ _ _ (w1.drewN 1)
    have N2 := Lib.hid (N1.out.draw 1)
    obtain ⟨m0, m1, m2, m3, m4⟩ := B1.out
    clear e0 e1 e2 e3
    have q0 : (w1.drewN 1).heap.size = w1.heap.size := rfl
    have q1 : (w1.drewN 1).cell? ⟨w.heap.size, 0, none⟩ = _ := m1
    have q2 : (w1.drewN 1).cell? ⟨w.heap.size, 1, none⟩ = _ := m2
    have q3 : (w1.drewN 1).frozen? ⟨w.heap.size, 0, none⟩ = _ := m3
    have q4 : (w1.drewN 1).frozen? ⟨w.heap.size, 1, none⟩ = _ := m4
    generalize w1.drewN 1 = w5 at *
    clear m0 m1 m2 m3 m4
    go_wp2_with fail
    have hx0 : w.heap.size ≠ w.heap.size + 1 := by omega
    exact bodyPost_ret (v := .tuple #[.agg #[.complex .f32 a b, .complex .f32 c d], .bool true]) (by simp [results, Tryz.results61, go_sem, q0, q1, q2, q3, q4]) rfl
      ⟨(N2.out.set (by show w.heap.size ≤ w.heap.size; omega) _).set (by show w.heap.size ≤ w.heap.size; omega) _, .inl ⟨⟨a, b, c, d⟩, Hl.out, rfl⟩⟩
  · obtain ⟨m0, m1, m2, m3, m4⟩ := (HasMode.new w 93 0 0 0 0).nw n1
    have N1 := Lib.hid (((Nw.refl w).alloc (.cells #[.complex .f32 0 0, .complex .f32 0 0] 93 (0, 0))).trans n1)
    have Hno := Lib.hid hno
    clear n1 hno
    go_wp2_with fail
    refine bodyPost_ret (v := .tuple #[.agg #[.complex .f32 0 0, .complex .f32 0 0], .bool false]) (by simp [results, Tryz.results61, go_sem, m0, m1, m2, m3, m4]) rfl
      ⟨(N1.out.set (by show w.heap.size ≤ w.heap.size; omega) _).set (by show w.heap.size ≤ w.heap.size; omega) _, .inr ⟨fun m h => ?_, rfl⟩⟩
    exact Hno.out _ rfl h

/-! ### the lines -/
def LinesI (l : List UInt8) (w0 : World) (t v i : Value) (wr : World) : Prop :=
  ∃ (k : Nat) (ms : List M4) (ps : List (List UInt8)) (r : List UInt8), k ≤ 16 ∧ ms.length = k ∧ i = .int .i64 (k : Int) ∧ t = .string ⟨r.toArray⟩ ∧ All2 LineM ps ms ∧ l = glueC 10 ps ++ r ∧ wr.ownsRow w0.heap.size 93 2 v k (cellsM ms) ∧ Nw w0 wr
def LinesP (l : List UInt8) (w : World) (e : Ending) (w' : World) : Prop :=
  ∃ (ms : List M4) (r : List UInt8) (v : Value), e = .returned (.tuple #[v, .string ⟨r.toArray⟩]) ∧ ReadT LineM 16 l ms r ∧ w'.ownsRow w.heap.size 93 2 v ms.length (cellsM ms) ∧ Nw w w'
set_option maxHeartbeats 6400000 in
set_option maxRecDepth 100000 in
theorem readLinesM (s : ByteArray) (hs : s.size ≤ 1048576) (w : World) (hL : LibW w) :
    Calls Tryz.prog 60 #[.string s, .int .i64 16, .func (.func 61) #[] #[]] w (LinesP s.data.toList w) := by
  obtain ⟨i0, hi, hz0, hz1, hz2⟩ := info_parts info_mode
  have hl : s.data.toList.length = s.size := Array.length_toList
  have L := Lib.hid hL
  clear hL
  go_enter Tryz.func60, Tryz.ntmps60
  go_wp2_with fail
  go_loopw [0, 8, 15] (fun t v i wr => LinesI s.data.toList w t v i wr) (fun _ _ i _ => 16 - (intOf i).toNat)
  case atStart => exact ⟨0, [], [], s.data.toList, by omega, rfl, rfl, rfl, trivial, rfl, World.ownsRow_nil _ _ _ _, Nw.refl _⟩
  case round =>
    obtain ⟨k, ms, ps, r, hk, hmk, rfl, rfl, hal, hlr, hown, hN⟩ := hrel
    have Al := Lib.hid hal
    have Hl := Lib.hid hlr
    have Ow := Lib.hid hown
    have Nr := Lib.hid hN
    have Mk := Lib.hid hmk
    have hrs : (⟨r.toArray⟩ : ByteArray).size ≤ 1048576 := by
      have h1 : s.data.toList.length = (glueC 10 ps).length + r.length := by rw [hlr, List.length_append]
      have h3 : (⟨r.toArray⟩ : ByteArray).size = r.length := List.size_toArray
      omega
    have hr1 : r.length ≤ 1048576 := by
      have h3 : (⟨r.toArray⟩ : ByteArray).size = r.length := List.size_toArray
      omega
    obtain ⟨sa, sl, sc, rfl⟩ := own_shape hown
    have hsz := Lib.hid (show w.heap.size ≤ wr.heap.size from hN.size)
    clear hal hlr hown hN hmk
    by_cases hlt : k < 16
    · have C := Lib.hid (cutLine_ok ⟨r.toArray⟩ hrs wr)
      clear hrs
      go_wp2_with fail
      refine C.out.mono ?_
      rintro e w1 ⟨n1, ⟨p, q, hpq0, hp, rfl⟩ | ⟨hno0, rfl⟩⟩
      · have hpq : r = p ++ 10 :: q := by simpa using hpq0
        have N1 := Lib.hid (Nr.out.trans n1)
        have O1 := Lib.hid (own_nw Ow.out n1)
        have hps : (⟨p.toArray⟩ : ByteArray).size ≤ 1048576 := by
          have h1 : r.length = p.length + (q.length + 1) := by rw [hpq, List.length_append, List.length_cons]
          have h3 : (⟨p.toArray⟩ : ByteArray).size = p.length := List.size_toArray
          omega
        have P := Lib.hid (readMode_ok ⟨p.toArray⟩ hps w1 (L.out.nw N1.out))
        have Hpq := Lib.hid (And.intro hpq hp)
        have hs1 := Lib.hid (show w.heap.size ≤ w1.heap.size from N1.out.size)
        clear n1 hpq hp hps hr1 hpq0
        go_wp2_with fail
        refine P.out.mono ?_
        rintro e w2 ⟨n2, ⟨m, hm, rfl⟩ | ⟨hno, rfl⟩⟩
        · have N2 := Lib.hid (N1.out.trans n2)
          have O2 := Lib.hid (own_nw O1.out n2)
          have Hm := Lib.hid hm
          obtain ⟨m0, m1, m2, -, -⟩ := HasMode.new w2 93 m.pr m.pi m.gr m.gi
          have hs2 := Lib.hid (show w.heap.size ≤ w2.heap.size from N2.out.size)
          clear n2 hm
          go_wp2_with (at_builtin; refine wpList_append_own _ rfl _ _ 36 rfl w.heap.size 93 i0 (.agg #[.complex .f32 0 0, .complex .f32 0 0]) 2 16 Tryz.underlying36 hi hz0 hz1 hz2 rfl (by decide) _ _ _ rfl ((O2.out.alloc _).alloc _) ⟨w2.heap.size + 1, 0, none⟩ 1 1 [.complex .f32 m.pr m.pi, .complex .f32 m.gr m.gi] rfl rfl ?c1 ?c2 ?c3 ?c4 ?c5 ?_)
          case c1 =>
            intro j u hj
            match j, hj with
            | 0, hj => simp at hj; subst hj; simp [Addr.add]
            | 1, hj => simp at hj; subst hj; simp [Addr.add]
          case c2 => intro u hu; simp at hu; rcases hu with rfl | rfl <;> rfl
          case c3 => unfold maxLen; omega
          case c4 => omega
          case c5 => have := hs2.out; simp; omega
          · intro v' w4 hown4 hgrow _
            have hrow : ∀ q, (Value.slice sa sl sc).ownBlock = some q → w.heap.size ≤ q := fun q hq => own_ge O2.out q hq
            have N4 := Lib.hid (nwg ((N2.out.alloc _).alloc _) hgrow hrow)
            rw [show cellsM ms ++ [Value.complex .f32 m.pr m.pi, Value.complex .f32 m.gr m.gi] = cellsM (ms ++ [m]) from (cellsM_snoc ms m).symm] at hown4
            have O4 := Lib.hid hown4
            clear hown4 hgrow hrow m0 m1 m2
            go_wp2_with fail
            go_roundw
            case rel =>
              refine ⟨k + 1, ms ++ [m], ps ++ [p], q, by omega, by rw [List.length_append, List.length_singleton, Mk.out], by rw [show ((k + 1 : Nat) : Int) = (k : Int) + 1 from by omega], rfl, Al.out.snoc Hm.out, ?_, O4.out, N4.out⟩
              rw [Hl.out, Hpq.out.1, glue_snoc]
              simp
            case measure => simp only [intOf]; omega
        · have N2 := Lib.hid (N1.out.trans n2)
          have O2 := Lib.hid (own_nw O1.out n2)
          have Hno := Lib.hid hno
          clear n2 hno
          go_wp2_with fail
          go_ret2
          exact ⟨ms, r, _, rfl, ⟨ps, Al.out, Hl.out, by rw [Mk.out]; omega, .inr (.inr ⟨p, q, Hpq.out.1, Hpq.out.2, Hno.out⟩)⟩, by rw [Mk.out]; exact own_nw O2.out ((Nw.refl _).alloc _), N2.out.alloc _⟩
      · have hno : (10 : UInt8) ∉ r := by simpa using hno0
        have N1 := Lib.hid (Nr.out.trans n1)
        have O1 := Lib.hid (own_nw Ow.out n1)
        have Hno := Lib.hid hno
        clear n1 hno hno0
        go_wp2_with fail
        go_ret2
        exact ⟨ms, r, _, rfl, ⟨ps, Al.out, Hl.out, by rw [Mk.out]; omega, .inr (.inl Hno.out)⟩, by rw [Mk.out]; exact O1.out, N1.out⟩
    · have hk16 : k = 16 := by omega
      clear hrs
      go_wp2_with fail
      go_ret2
      exact ⟨ms, r, _, rfl, ⟨ps, Al.out, Hl.out, by rw [Mk.out]; omega, .inl (by rw [Mk.out, hk16])⟩, by rw [Mk.out]; exact Ow.out, Nr.out⟩

/-! ### the body -/
def PbP (l : List UInt8) (w : World) (e : Ending) (w' : World) : Prop :=
  Nw w w' ∧ ((∃ (ms : List M4) (v : Value), GoodB l ms ∧ (∀ m ∈ ms, m.Fin ∧ m.bits) ∧ e = .returned (.tuple #[.agg #[v], .bool true]) ∧ w'.ownsRow w.heap.size 93 2 v ms.length (cellsM ms)) ∨
    ((∀ ms, ¬ GoodB l ms) ∧ e = .returned (.tuple #[.agg #[.slice none 0 0], .bool false])))
theorem lineM_fin {p : List UInt8} {m : M4} (h : LineM p m) : m.Fin ∧ m.bits := by
  obtain ⟨ts, -, a⟩ := h
  obtain ⟨t1, t2, t3, t4, rfl, a1, a2, a3, a4⟩ := all2_four a
  exact ⟨⟨a1.2.1, a2.2.1, a3.2.1, a4.2.1⟩, a1.1, a2.1, a3.1, a4.1⟩
theorem All2.memr {α β : Type} {R : α → β → Prop} : ∀ {l : List α} {m : List β}, All2 R l m → ∀ b ∈ m, ∃ a, R a b
  | [], [], _, b, h => by simp at h
  | x :: l, y :: m, h, b, hb => by
    rcases List.mem_cons.1 hb with rfl | hb
    · exact ⟨x, h.1⟩
    · exact h.2.memr b hb
  | [], _ :: _, h, _, _ => h.elim
  | _ :: _, [], h, _, _ => h.elim
set_option maxHeartbeats 3200000 in
set_option maxRecDepth 100000 in
theorem implParseBody (s : ByteArray) (hs : s.size ≤ 1048576) (w : World) (hL : LibW w) :
    Calls Tryz.prog 19 #[.string s] w (PbP s.data.toList w) := by
  have C := Lib.hid (readLinesM s hs)
  have L := Lib.hid hL
  have B := Lib.hid (Has1.new w 38 (.slice none 0 0))
  clear hL
  go_enter Tryz.func19, Tryz.ntmps19
  go_wp2_with fail
  refine (C.out _ (L.out.nw ((Nw.refl w).alloc _))).mono ?_
  rintro e w1 ⟨ms, r, v, rfl, hrd, own, n1⟩
  obtain ⟨va, vc, rfl⟩ := own_shape' own
  have Rd := Lib.hid hrd
  have O1 := Lib.hid own
  have B1 := Lib.hid (B.out.nw n1)
  have N1 := Lib.hid (((Nw.refl w).alloc (.cells #[.slice none 0 0] 38 (0, 0))).trans n1)
  have hfin : ∀ m ∈ ms, m.Fin ∧ m.bits := by
    obtain ⟨ps, h1, -⟩ := hrd
    intro m hm
    obtain ⟨p, hp⟩ := h1.memr m hm
    exact lineM_fin hp
  have Hf := Lib.hid hfin
  have h16 : ms.length ≤ 16 := by obtain ⟨ps, -, -, h, -⟩ := hrd; exact h
  have hs1 : w.heap.size < w1.heap.size := B1.out.1
  have hs0 : (w.alloc (.cells #[.slice none 0 0] 38 (0, 0))).heap.size = w.heap.size + 1 := by simp
  rw [hs0] at O1
  clear hrd own n1 hfin hs0
  obtain ⟨b0, b1, b2⟩ := B1.out
  by_cases hr : r = []
  · subst hr
    have O2 := Lib.hid (own_nw O1.out ((Nw.refl w1).alloc (.cells #[.slice va ms.length vc] 38 (0, 0))))
    have B2 := Lib.hid (B1.out.alloc (.cells #[.slice va ms.length vc] 38 (0, 0)))
    have E2 := Lib.hid (Has1.new w1 38 (.slice va ms.length vc))
    have N2 := Lib.hid (N1.out.alloc (.cells #[.slice va ms.length vc] 38 (0, 0)))
    go_wp2_with fail
    refine (implIsBody_fin ms (fun m hm => (Hf.out m hm).1) ms.length _ _ rfl (by omega) _ O2.out).mono ?_
    rintro e w3 ⟨rfl, n3⟩
    have O3 := Lib.hid (own_nw O2.out n3)
    have B3 := Lib.hid (B2.out.nw n3)
    have E3 := Lib.hid (E2.out.nw n3)
    have N3 := Lib.hid (N2.out.trans n3)
    have hs3 := Lib.hid (show w.heap.size < w3.heap.size from B3.out.1)
    clear n3 b0 b1 b2
    obtain ⟨b0, b1, b2⟩ := B3.out
    obtain ⟨e0, e1, e2⟩ := E3.out
    have hne : w1.heap.size ≠ w.heap.size := by omega
    cases hb : bodyB ms with
    | true =>
      go_wp2_with fail
      refine bodyPost_ret (v := .tuple #[.agg #[.slice va ms.length vc], .bool true]) (by simp [results, Tryz.results19, go_sem, b0, b1, b2]) rfl
        ⟨N3.out.set (by show w.heap.size ≤ w.heap.size; omega) _, .inl ⟨ms, _, ⟨hb, Rd.out.done⟩, Hf.out, rfl, own_base (own_set O3.out (by show w.heap.size < w.heap.size + 1; omega) _) (by omega)⟩⟩
    | false =>
      go_wp2_with fail
      refine bodyPost_ret (v := .tuple #[.agg #[.slice none 0 0], .bool false]) (by simp [results, Tryz.results19, go_sem, b0, b1, b2]) rfl
        ⟨N3.out.set (by show w.heap.size ≤ w.heap.size; omega) _, .inr ⟨fun ns h => ?_, rfl⟩⟩
      have e := LinesT.val lineM_K Rd.out.done h.2
      rw [e, h.1] at hb
      cases hb
  · have hr0 : (r == []) = false := by simpa using hr
    go_wp2_with fail
    refine bodyPost_ret (v := .tuple #[.agg #[.slice none 0 0], .bool false]) (by simp [results, Tryz.results19, go_sem, b0, b1, b2]) rfl
      ⟨(N1.out.set (by show w.heap.size ≤ w.heap.size; omega) _).alloc _, .inr ⟨fun ns h => ?_, rfl⟩⟩
    exact hr (Rd.out.rest lineM_K h.2 ((bodyB_iff ns).1 h.1).1)
end Go.Proofs.YtnmjkjjmigiabaaGreatDoor

/- Wide modes in boxes, numbers of double precision in rows; impl.ParseDouble and the model's of any string.
   Conditions: those that each statement names. -/
namespace Go.Proofs.YtnmjkjjmigiabaaGreatDoor
set_option linter.unusedSimpArgs false
set_option linter.unusedVariables false
open Go Go.RowKit

theorem info_wideV : (Tryz.prog.info? 115).map (fun i => (i.zero, i.size, i.bytes)) = some (some (.agg #[.complex .f64 0 0, .complex .f64 0 0]), 2, 32) := by kernel_rfl
theorem info_dbl : (Tryz.prog.info? 26).map (fun i => (i.zero, i.size, i.bytes)) = some (some (.float .f64 0), 1, 8) := by kernel_rfl
def cellsV (xs : List Nat) : List Value := xs.map (Value.float .f64)
theorem own_dbl {w : World} {base n k : Nat} {v : Value} {xs : List Nat} (h : w.ownsRow base 26 1 v n (cellsV xs)) {x : Nat} (hk : xs[k]? = some x) (hn : n = xs.length) :
    ∃ g cap, v = .slice (some ⟨g, 0, none⟩) n cap ∧ n ≤ cap ∧ cap ≤ maxLen ∧ g < w.heap.size ∧ w.cell? ⟨g, k, none⟩ = some (.float .f64 x) := by
  have hkl := (List.getElem?_eq_some_iff.1 hk).1
  rcases h.2 with ⟨_, h0⟩ | ⟨g, cap, cur, rfl, hb, hg, hc, hm, hs, ht⟩
  · omega
  · have c1 := h.cellAt k (by omega)
    rw [show (cellsV xs)[k]? = some (.float .f64 x) from by simp [cellsV, hk]] at c1
    exact ⟨g, cap, rfl, hc, hm, (h.lt g rfl).2, c1⟩
/-- block b holds a wide mode -/
def HasWide (w : World) (b : Nat) (pr pi gr gi : Nat) : Prop :=
  b < w.heap.size ∧ w.cell? ⟨b, 0, none⟩ = some (.complex .f64 pr pi) ∧ w.cell? ⟨b, 1, none⟩ = some (.complex .f64 gr gi) ∧ w.frozen? ⟨b, 0, none⟩ = false ∧ w.frozen? ⟨b, 1, none⟩ = false
theorem HasWide.of {w w' : World} {b pr pi gr gi : Nat} (h : HasWide w b pr pi gr gi) (hs : w.heap.size ≤ w'.heap.size) (hb : w'.heap[b]? = w.heap[b]?) : HasWide w' b pr pi gr gi := by
  obtain ⟨h0, h1, h2, h3, h4⟩ := h
  have k : ∀ p : Addr, p.block = b → w'.cell? p = w.cell? p := fun p hp => World.cell?_of_block (w := w) (by rw [hp]; exact hb)
  have f : ∀ p : Addr, p.block = b → w'.frozen? p = w.frozen? p := fun p hp => World.frozen?_of_block (w := w) (by rw [hp]; exact hb)
  exact ⟨by omega, by rw [k _ rfl]; exact h1, by rw [k _ rfl]; exact h2, by rw [f _ rfl]; exact h3, by rw [f _ rfl]; exact h4⟩
theorem HasWide.kp {c : Nat} {w w' : World} {b pr pi gr gi : Nat} (h : HasWide w b pr pi gr gi) (hk : Kp c w w') (hne : b ≠ c) : HasWide w' b pr pi gr gi :=
  h.of hk.size (hk.block b h.1 (fun e => hne (by cases e; rfl)))
theorem HasWide.nw {w w' : World} {b pr pi gr gi : Nat} (h : HasWide w b pr pi gr gi) (hk : Nw w w') : HasWide w' b pr pi gr gi :=
  h.of hk.size (hk.block b h.1 (by simp))
theorem HasWide.draw {w : World} {b pr pi gr gi : Nat} (h : HasWide w b pr pi gr gi) (n : Nat) : HasWide (w.drewN n) b pr pi gr gi := h.nw ((Nw.refl _).draw _)
theorem HasWide.alloc {w : World} {b pr pi gr gi : Nat} (h : HasWide w b pr pi gr gi) (o : Obj) : HasWide (w.alloc o) b pr pi gr gi := h.nw ((Nw.refl _).alloc _)
theorem HasWide.set {w : World} {b pr pi gr gi : Nat} (h : HasWide w b pr pi gr gi) {p : Addr} (hp : p.block ≠ b) (u : Value) : HasWide (w.setCell p u) b pr pi gr gi :=
  h.of (by simp [World.setCell]) (Below.heap_setCell _ _ _ _ (fun e => hp e.symm))
theorem HasWide.new (w : World) (T : TypeId) (pr pi gr gi : Nat) : HasWide (w.alloc (.cells #[.complex .f64 pr pi, .complex .f64 gr gi] T (0, 0))) w.heap.size pr pi gr gi := by
  refine ⟨by simp, ?_, ?_, ?_, ?_⟩ <;> go_simp
theorem HasWide.set0 {w : World} {b pr pi gr gi : Nat} (h : HasWide w b pr pi gr gi) (x y : Nat) : HasWide (w.setCell ⟨b, 0, none⟩ (.complex .f64 x y)) b x y gr gi := by
  obtain ⟨h0, h1, h2, h3, h4⟩ := h
  refine ⟨by simpa using h0, ?_, ?_, ?_, ?_⟩ <;> go_simp
theorem HasWide.set1 {w : World} {b pr pi gr gi : Nat} (h : HasWide w b pr pi gr gi) (x y : Nat) : HasWide (w.setCell ⟨b, 1, none⟩ (.complex .f64 x y)) b pr pi x y := by
  obtain ⟨h0, h1, h2, h3, h4⟩ := h
  refine ⟨by simpa using h0, ?_, ?_, ?_, ?_⟩ <;> go_simp


/-- the answers: the double whose text it is, or 0 and false -/
def PdP (s : ByteArray) (w : World) (e : Ending) (w' : World) : Prop :=
  Nw w w' ∧ ((∃ y, IsTxt s y ∧ e = .returned (.tuple #[.float .f64 y, .bool true])) ∨ ((∀ y, ¬ IsTxt s y) ∧ e = .returned (.tuple #[.float .f64 0, .bool false])))
theorem implDouble (s : ByteArray) (hs : s.size ≤ 1048576) (w : World) (hL : LibW w) : Calls Tryz.prog 10 #[.string s] w (PdP s w) := by
  by_cases hy : ∃ y, IsTxt s y
  · obtain ⟨y, hy⟩ := hy
    exact (implParse_yes s y hy w hL).mono fun e w' h => ⟨h.2, .inl ⟨y, hy, h.1⟩⟩
  · have hno : ∀ y, ¬ IsTxt s y := fun y h => hy ⟨y, h⟩
    exact (implParse_no s hs hno w hL).mono fun e w' h => ⟨h.2, .inr ⟨hno, h.1⟩⟩
theorem specDouble (s : ByteArray) (hs : s.size ≤ 1048576) (w : World) : Calls Tryz.prog 142 #[.string s] w (PdP s w) := by
  by_cases hy : ∃ y, IsTxt s y
  · obtain ⟨y, hy⟩ := hy
    exact (specParse_yes s y hy w).mono fun e w' h => ⟨h.2, .inl ⟨y, hy, h.1⟩⟩
  · have hno : ∀ y, ¬ IsTxt s y := fun y h => hy ⟨y, h⟩
    exact (specParse_no s hs hno w).mono fun e w' h => ⟨h.2, .inr ⟨hno, h.1⟩⟩

/-! ### lines of wide modes -/
def W4.Fin (m : W4) : Prop := fin .f64 m.a = true ∧ fin .f64 m.b = true ∧ fin .f64 m.c = true ∧ fin .f64 m.d = true
def wWide : List UInt8 := [119, 105, 100, 101]
def LineW (p : List UInt8) (m : W4) : Prop := LineT TxD wWide p [m.a, m.b, m.c, m.d]
theorem lineW_K : LnK LineW where
  val := by
    rintro p ⟨a, b, c, d⟩ ⟨a', b', c', d'⟩ h k
    have e := LineT.val txD_K h k
    simp at e
    obtain ⟨rfl, rfl, rfl, rfl⟩ := e
    rfl
  nl h := LineT.nl txD_K (by decide) h
/-- a text of valid wide modes -/
def GoodW (l : List UInt8) (ms : List W4) : Prop := areB ms = true ∧ LinesT LineW ms l
theorem lineW_fin {p : List UInt8} {m : W4} (h : LineW p m) : m.Fin ∧ m.bits := by
  obtain ⟨ts, -, a⟩ := h
  obtain ⟨t1, t2, t3, t4, rfl, a1, a2, a3, a4⟩ := all2_four a
  exact ⟨⟨a1.2.1, a2.2.1, a3.2.1, a4.2.1⟩, a1.1, a2.1, a3.1, a4.1⟩
end Go.Proofs.YtnmjkjjmigiabaaGreatDoor

/- eqBody, markBody, heldBody.
   Conditions: those that each statement names. -/
namespace Go.Proofs.YtnmjkjjmigiabaaGreatDoor
set_option linter.unusedSimpArgs false
set_option linter.unusedVariables false
open Go Go.RowKit

set_option maxRecDepth 100000 in
theorem sameComplex_self (a b : Nat) (w : World) :
    Calls Tryz.prog 143 #[.complex .f64 a b, .complex .f64 a b] w fun e w' => e = .returned (.bool true) ∧ w = w' := by
  go_enter Tryz.func143, Tryz.ntmps143
  go_wp2_with (go_at_call 100; refine (sameFloat_any _ _ _).mono ?_; rintro e w5 ⟨rfl, rfl⟩; rw [sameF_self])
  all_goals
    go_ret
    exact ⟨rfl, rfl⟩

set_option maxRecDepth 100000 in
theorem eqMode_ok (m : M4) (hm : m.Fin) (w : World) :
    Calls Tryz.prog 141 #[.agg #[.complex .f32 m.pr m.pi, .complex .f32 m.gr m.gi], .agg #[.complex .f32 m.pr m.pi, .complex .f32 m.gr m.gi]] w fun e w' => e = .returned (.bool true) ∧ Nw w w' := by
  have u1 := fun w => fcv_up hm.1 w
  have u2 := fun w => fcv_up hm.2.1 w
  have u3 := fun w => fcv_up hm.2.2.1 w
  have u4 := fun w => fcv_up hm.2.2.2 w
  have v1 := fcd_up hm.1
  have v2 := fcd_up hm.2.1
  have v3 := fcd_up hm.2.2.1
  have v4 := fcd_up hm.2.2.2
  go_enter Tryz.func141, Tryz.ntmps141
  go_wp2_with (go_at_call 143; refine (sameComplex_self _ _ _).mono ?_; rintro e w5 ⟨rfl, rfl⟩)
  all_goals
    go_ret
    exact ⟨rfl, ((Nw.refl _).alloc _).alloc _⟩

set_option maxHeartbeats 6400000 in
set_option maxRecDepth 100000 in
theorem eqModeS_ok (ms : List M4) (hf : ∀ m ∈ ms, m.Fin) (n b1 b2 : Nat) (v u : Value) (hl : ms.length = n) (hn : n ≤ 1048576) (w : World) (h1 : w.ownsRow b1 93 2 v n (cellsM ms)) (h2 : w.ownsRow b2 93 2 u n (cellsM ms)) :
    Calls Tryz.prog 82 #[v, u] w fun e w' => e = .returned (.bool true) ∧ Nw w w' := by
  obtain ⟨va, vc, rfl⟩ := own_shape' h1
  obtain ⟨ua, uc, rfl⟩ := own_shape' h2
  have H1 := Lib.hid h1
  have H2 := Lib.hid h2
  have Hl := Lib.hid hl
  have Hf := Lib.hid hf
  clear h1 h2 hl hf
  go_enter Tryz.func82, Tryz.ntmps82
  go_wp2_with fail
  go_loopw [5] (fun i wr => CountI n w i wr) (fun i _ => n - (intOf i).toNat)
  case atStart => exact ⟨0, by omega, rfl, Nw.refl _⟩
  case round =>
    obtain ⟨k, hk, rfl, hN⟩ := hrel
    have Nr := Lib.hid hN
    clear hN
    by_cases hlt : k < n
    · obtain ⟨x, hxk⟩ : ∃ x, ms[k]? = some x := ⟨ms[k]'(by rw [Hl.out]; exact hlt), List.getElem?_eq_getElem _⟩
      obtain ⟨g1, cap1, hv1, hcap1, hmax1, -, e1, e1'⟩ := own_mode (own_nw H1.out Nr.out) hxk Hl.out.symm
      obtain ⟨g2, cap2, hv2, hcap2, hmax2, -, e2, e2'⟩ := own_mode (own_nw H2.out Nr.out) hxk Hl.out.symm
      cases hv1
      cases hv2
      unfold maxLen at hmax1 hmax2
      have Fx := Lib.hid (Hf.out x (List.mem_of_getElem? hxk))
      clear hxk
      go_upto_region 6 with fail
      have K1 := Lib.hid (eqMode_ok x Fx.out wr.drew)
      go_region_with (first
        | (go_at_call 141
           refine K1.out.mono ?_
           rintro e w5 ⟨rfl, n5⟩
           have N5 := Lib.hid (((Nw.refl wr).draw 1).trans n5)
           clear n5))
      all_goals
        go_wp2_with fail
        go_roundw
        case rel => exact ⟨k + 1, by omega, by rw [show ((k + 1 : Nat) : Int) = (k : Int) + 1 from by omega], Nr.out.trans N5.out⟩
        case measure => simp only [intOf]; omega
    · obtain rfl : k = n := by omega
      go_wp2_with fail
      go_ret
      exact ⟨rfl, Nr.out⟩

set_option maxRecDepth 100000 in
theorem eqBody_ok (ms : List M4) (hf : ∀ m ∈ ms, m.Fin) (n b1 b2 : Nat) (v u : Value) (hl : ms.length = n) (hn : n ≤ 1048576) (w : World) (h1 : w.ownsRow b1 93 2 v n (cellsM ms)) (h2 : w.ownsRow b2 93 2 u n (cellsM ms)) :
    Calls Tryz.prog 29 #[.agg #[v], .agg #[u]] w fun e w' => e = .returned (.bool true) ∧ Nw w w' := by
  obtain ⟨va, vc, rfl⟩ := own_shape' h1
  obtain ⟨ua, uc, rfl⟩ := own_shape' h2
  have C := Lib.hid (fun w => eqModeS_ok ms hf n b1 b2 (.slice va n vc) (.slice ua n uc) hl hn w)
  have H1 := Lib.hid h1
  have H2 := Lib.hid h2
  clear h1 h2 hl hf
  go_enter Tryz.func29, Tryz.ntmps29
  go_wp2_with fail
  refine (C.out _ ((H1.out.alloc _).alloc _) ((H2.out.alloc _).alloc _)).mono ?_
  rintro e w1 ⟨rfl, n1⟩
  have N1 := Lib.hid ((((Nw.refl w).alloc _).alloc _).trans n1)
  clear n1
  go_wp2_with fail
  go_ret
  exact ⟨rfl, N1.out⟩
set_option maxRecDepth 100000 in
theorem markBody_ok (ms : List M4) (n b : Nat) (v : Value) (hl : ms.length = n) (hn : n ≤ 16) (w : World) (h : w.ownsRow b 93 2 v n (cellsM ms)) :
    Calls Tryz.prog 30 #[.agg #[v], .int .i64 1] w (MarkMP ms n b v w) := by
  obtain ⟨va, vc, rfl⟩ := own_shape' h
  have C := Lib.hid (fun w => markM_ok ms n b (.slice va n vc) hl hn w)
  have H := Lib.hid h
  clear h hl
  go_enter Tryz.func30, Tryz.ntmps30
  go_wp2_with fail
  refine (C.out _ (H.out.alloc _)).mono ?_
  rintro e w1 ⟨rfl, o1, g1⟩
  have O1 := Lib.hid o1
  have G1 := Lib.hid ((World.grownBy_alloc w _ (Value.slice va n vc).ownBlock).trans' g1)
  clear o1 g1
  go_wp2_with fail
  go_ret
  exact ⟨rfl, O1.out, G1.out⟩
set_option maxRecDepth 100000 in
theorem heldBody_ok (ms : List M4) (n b : Nat) (v : Value) (hl : ms.length = n) (hn : n ≤ 16) (w : World) (h : w.ownsRow b 93 2 v n (cellsM (mkM ms n))) :
    Calls Tryz.prog 31 #[.agg #[v], .int .i64 1] w fun e w' => e = .returned (.int .i64 (2 * (n : Int) + 1)) ∧ Nw w w' := by
  obtain ⟨va, vc, rfl⟩ := own_shape' h
  have C := Lib.hid (fun w => heldM_ok ms n b (.slice va n vc) hl hn w)
  have H := Lib.hid h
  clear h hl
  go_enter Tryz.func31, Tryz.ntmps31
  go_wp2_with fail
  refine (C.out _ (H.out.alloc _)).mono ?_
  rintro e w1 ⟨rfl, n1⟩
  have N1 := Lib.hid (((Nw.refl w).alloc _).trans n1)
  clear n1
  have h0 : ¬ (2 * (n : Int) + 1 < 0) := by omega
  go_wp2_with fail
  go_ret
  exact ⟨rfl, N1.out⟩
end Go.Proofs.YtnmjkjjmigiabaaGreatDoor

/- Wide modes compared with themselves, marked, and found marked.
   Conditions: those that each statement names. -/
namespace Go.Proofs.YtnmjkjjmigiabaaGreatDoor
set_option linter.unusedSimpArgs false
set_option linter.unusedVariables false
open Go Go.RowKit

theorem dbl_self (z : Int) : (FloatKind.f64.format.order (floatOfInt .f64 z) (floatOfInt .f64 z) == some .eq) = true := by
  rw [order_self, int_nn]; rfl
/-! ### the marks -/
def mkF (k : Nat) : W4 := ⟨floatOfInt .f64 (2 * (k : Int) + 1), 4607182418800017408, floatOfInt .f64 (2 * (k : Int) + 1 + 1), 4607182418800017408⟩
/-- the first k modes are marked -/
def mkV (ms : List W4) (k : Nat) : List W4 := (List.range k).map mkF ++ ms.drop k
theorem mkV_zero (ms : List W4) : mkV ms 0 = ms := by simp [mkV]
theorem mkV_len (ms : List W4) (k : Nat) (h : k ≤ ms.length) : (mkV ms k).length = ms.length := by simp [mkV]; omega
theorem mkV_get (ms : List W4) (n k : Nat) (h : k < n) : (mkV ms n)[k]? = some (mkF k) := by
  unfold mkV
  rw [List.getElem?_append_left (by simpa using h)]
  simp [h]
theorem mkV_at (ms : List W4) (k : Nat) (x : W4) (h : ms[k]? = some x) : (mkV ms k)[k]? = some x := by
  unfold mkV
  rw [List.getElem?_append_right (by simp)]
  simpa using h
theorem mkV_set (ms : List W4) (k : Nat) (h : k < ms.length) : (mkV ms k).set k (mkF k) = mkV ms (k + 1) := by
  unfold mkV
  rw [List.drop_eq_getElem_cons h, List.range_succ]
  simp only [List.map_append, List.map_cons, List.map_nil, List.append_assoc, List.singleton_append]
  rw [List.set_append_right _ _ (by simp)]
  simp only [List.length_map, List.length_range, Nat.sub_self, List.set_cons_zero]
theorem cellsW_set2 (l : List W4) (k : Nat) (m m' : W4) (h : l[k]? = some m) :
    ((cellsW l).set (k * 2) (.complex .f64 m'.a m'.b)).set (k * 2 + 1) (.complex .f64 m'.c m'.d) = cellsW (l.set k m') := by
  induction l generalizing k with
  | nil => simp at h
  | cons x l ih =>
    cases k with
    | zero => simp [cellsW, W4.cells]
    | succ k =>
      have hk := ih k (by simpa using h)
      simp only [cellsW, List.flatMap_cons, List.set_cons_succ] at *
      rw [show (k + 1) * 2 = k * 2 + 2 from by omega, show k * 2 + 2 + 1 = k * 2 + 1 + 2 from by omega]
      simp only [W4.cells, List.cons_append, List.nil_append, List.set_cons_succ]
      rw [hk]

def MarkVI (ms : List W4) (n b : Nat) (v : Value) (w : World) (m i : Value) (wr : World) : Prop :=
  ∃ k : Nat, k ≤ n ∧ i = .int .i64 (k : Int) ∧ m = .int .i64 (2 * (k : Int) + 1) ∧ wr.ownsRow b 115 2 v n (cellsW (mkV ms k)) ∧ w.grownBy wr v.ownBlock
def MarkVP (ms : List W4) (n b : Nat) (v : Value) (w : World) (e : Ending) (w' : World) : Prop :=
  e = .returned (.int .i64 (2 * (n : Int) + 1)) ∧ w'.ownsRow b 115 2 v n (cellsW (mkV ms n)) ∧ w.grownBy w' v.ownBlock
set_option maxHeartbeats 6400000 in
set_option maxRecDepth 100000 in
theorem markV_ok (ms : List W4) (n b : Nat) (v : Value) (hl : ms.length = n) (hn : n ≤ 16) (w : World) (h : w.ownsRow b 115 2 v n (cellsW ms)) :
    Calls Tryz.prog 34 #[v, .int .i64 1] w (MarkVP ms n b v w) := by
  obtain ⟨va, vc, rfl⟩ := own_shape' h
  have H := Lib.hid h
  have Hl := Lib.hid hl
  clear h hl
  go_enter Tryz.func34, Tryz.ntmps34
  go_wp2_with fail
  go_loopw [1, 5] (fun m i wr => MarkVI ms n b (.slice va n vc) w m i wr) (fun _ i _ => n - (intOf i).toNat)
  case atStart => exact ⟨0, by omega, rfl, rfl, by rw [mkV_zero]; exact H.out, World.grownBy.refl _ _⟩
  case round =>
    obtain ⟨k, hk, rfl, rfl, how, hgr⟩ := hrel
    have Ow := Lib.hid how
    have Gr := Lib.hid hgr
    clear how hgr
    by_cases hlt : k < n
    · obtain ⟨x, hxk⟩ : ∃ x, ms[k]? = some x := ⟨ms[k]'(by rw [Hl.out]; exact hlt), List.getElem?_eq_getElem _⟩
      obtain ⟨g1, cap1, hv1, hcap1, hmax1, -, d1, d2⟩ := own_wide Ow.out (mkV_at ms k x hxk) (by rw [mkV_len ms k (by rw [Hl.out]; exact hk)]; exact Hl.out.symm)
      cases hv1
      unfold maxLen at hmax1
      have e2 := Ow.out.frozenAt (k * 2)
      have e3 := Ow.out.frozenAt (k * 2 + 1)
      have s1 := Ow.out.stored (k * 2) (.complex .f64 (floatOfInt .f64 (2 * (k : Int) + 1)) 4607182418800017408)
      have s2 := s1.1.stored (k * 2 + 1) (.complex .f64 (floatOfInt .f64 (2 * (k : Int) + 1 + 1)) 4607182418800017408)
      have e5 := cellsW_set2 (mkV ms k) k x (mkF k) (mkV_at ms k x hxk)
      rw [mkV_set ms k (by rw [Hl.out]; exact hlt)] at e5
      rw [show ((cellsW (mkV ms k)).set (k * 2) (.complex .f64 (floatOfInt .f64 (2 * (k : Int) + 1)) 4607182418800017408)).set (k * 2 + 1) (.complex .f64 (floatOfInt .f64 (2 * (k : Int) + 1 + 1)) 4607182418800017408) = cellsW (mkV ms (k + 1)) from e5] at s2
      have F := Lib.hid s2.1
      have G2 := Lib.hid (Kp.set (c := g1) (Kp.set (c := g1) Gr.out (k * 2) (.complex .f64 (floatOfInt .f64 (2 * (k : Int) + 1)) 4607182418800017408)) (k * 2 + 1) (.complex .f64 (floatOfInt .f64 (2 * (k : Int) + 1 + 1)) 4607182418800017408))
      clear s1 s2 hxk e5
      go_wp2_with fail
      go_roundw
      case rel => exact ⟨k + 1, by omega, by rw [show ((k + 1 : Nat) : Int) = (k : Int) + 1 from by omega], by rw [show 2 * ((k + 1 : Nat) : Int) + 1 = 2 * (k : Int) + 1 + 1 + 1 from by omega], F.out, G2.out⟩
      case measure => simp only [intOf]; omega
    · obtain rfl : k = n := by omega
      go_wp2_with fail
      go_ret
      exact ⟨rfl, Ow.out, Gr.out⟩

def HeldVI (n : Nat) (w : World) (m i : Value) (wr : World) : Prop := ∃ k : Nat, k ≤ n ∧ i = .int .i64 (k : Int) ∧ m = .int .i64 (2 * (k : Int) + 1) ∧ Nw w wr
set_option maxHeartbeats 6400000 in
set_option maxRecDepth 100000 in
theorem heldV_ok (ms : List W4) (n b : Nat) (v : Value) (hl : ms.length = n) (hn : n ≤ 16) (w : World) (h : w.ownsRow b 115 2 v n (cellsW (mkV ms n))) :
    Calls Tryz.prog 35 #[v, .int .i64 1] w fun e w' => e = .returned (.int .i64 (2 * (n : Int) + 1)) ∧ Nw w w' := by
  obtain ⟨va, vc, rfl⟩ := own_shape' h
  have H := Lib.hid h
  have Hl := Lib.hid hl
  clear h hl
  have o3 : (FloatKind.f64.format.order 4607182418800017408 4607182418800017408 == some .eq) = true := by decide +kernel
  go_enter Tryz.func35, Tryz.ntmps35
  go_wp2_with fail
  go_loopw [1, 5] (fun m i wr => HeldVI n w m i wr) (fun _ i _ => n - (intOf i).toNat)
  case atStart => exact ⟨0, by omega, rfl, rfl, Nw.refl _⟩
  case round =>
    obtain ⟨k, hk, rfl, rfl, hN⟩ := hrel
    have Nr := Lib.hid hN
    clear hN
    by_cases hlt : k < n
    · obtain ⟨g1, cap1, hv1, hcap1, hmax1, -, e1, e2⟩ := own_wide (own_nw H.out Nr.out) (mkV_get ms n k hlt) (by rw [mkV_len ms n (by rw [Hl.out]; exact Nat.le_refl _)]; exact Hl.out.symm)
      cases hv1
      unfold maxLen at hmax1
      have q1 := dbl_self (2 * (k : Int) + 1)
      have q2 := dbl_self (2 * (k : Int) + 1 + 1)
      unfold mkF at e1 e2
      simp only at e1 e2
      go_wp2_with fail
      go_roundw
      case rel => exact ⟨k + 1, by omega, by rw [show ((k + 1 : Nat) : Int) = (k : Int) + 1 from by omega], by rw [show 2 * ((k + 1 : Nat) : Int) + 1 = 2 * (k : Int) + 1 + 1 + 1 from by omega], Nr.out⟩
      case measure => simp only [intOf]; omega
    · obtain rfl : k = n := by omega
      go_wp2_with fail
      go_ret
      exact ⟨rfl, Nr.out⟩


set_option maxRecDepth 100000 in
theorem eqWideMode_ok (m : W4) (w : World) :
    Calls Tryz.prog 86 #[.agg #[.complex .f64 m.a m.b, .complex .f64 m.c m.d], .agg #[.complex .f64 m.a m.b, .complex .f64 m.c m.d]] w fun e w' => e = .returned (.bool true) ∧ Nw w w' := by
  go_enter Tryz.func86, Tryz.ntmps86
  go_wp2_with (go_at_call 143; refine (sameComplex_self _ _ _).mono ?_; rintro e w5 ⟨rfl, rfl⟩)
  all_goals
    go_ret
    exact ⟨rfl, ((Nw.refl _).alloc _).alloc _⟩

set_option maxHeartbeats 6400000 in
set_option maxRecDepth 100000 in
theorem eqWideModeS_ok (ms : List W4) (n b1 b2 : Nat) (v u : Value) (hl : ms.length = n) (hn : n ≤ 1048576) (w : World) (h1 : w.ownsRow b1 115 2 v n (cellsW ms)) (h2 : w.ownsRow b2 115 2 u n (cellsW ms)) :
    Calls Tryz.prog 33 #[v, u] w fun e w' => e = .returned (.bool true) ∧ Nw w w' := by
  obtain ⟨va, vc, rfl⟩ := own_shape' h1
  obtain ⟨ua, uc, rfl⟩ := own_shape' h2
  have H1 := Lib.hid h1
  have H2 := Lib.hid h2
  have Hl := Lib.hid hl
  clear h1 h2 hl
  go_enter Tryz.func33, Tryz.ntmps33
  go_wp2_with fail
  go_loopw [5] (fun i wr => CountI n w i wr) (fun i _ => n - (intOf i).toNat)
  case atStart => exact ⟨0, by omega, rfl, Nw.refl _⟩
  case round =>
    obtain ⟨k, hk, rfl, hN⟩ := hrel
    have Nr := Lib.hid hN
    clear hN
    by_cases hlt : k < n
    · obtain ⟨x, hxk⟩ : ∃ x, ms[k]? = some x := ⟨ms[k]'(by rw [Hl.out]; exact hlt), List.getElem?_eq_getElem _⟩
      obtain ⟨g1, cap1, hv1, hcap1, hmax1, -, e1, e1'⟩ := own_wide (own_nw H1.out Nr.out) hxk Hl.out.symm
      obtain ⟨g2, cap2, hv2, hcap2, hmax2, -, e2, e2'⟩ := own_wide (own_nw H2.out Nr.out) hxk Hl.out.symm
      cases hv1
      cases hv2
      unfold maxLen at hmax1 hmax2
      clear hxk
      go_upto_region 6 with fail
      have K1 := Lib.hid (eqWideMode_ok x wr.drew)
      go_region_with (first
        | (go_at_call 86
           refine K1.out.mono ?_
           rintro e w5 ⟨rfl, n5⟩
           have N5 := Lib.hid (((Nw.refl wr).draw 1).trans n5)
           clear n5))
      all_goals
        go_wp2_with fail
        go_roundw
        case rel => exact ⟨k + 1, by omega, by rw [show ((k + 1 : Nat) : Int) = (k : Int) + 1 from by omega], Nr.out.trans N5.out⟩
        case measure => simp only [intOf]; omega
    · obtain rfl : k = n := by omega
      go_wp2_with fail
      go_ret
      exact ⟨rfl, Nr.out⟩

end Go.Proofs.YtnmjkjjmigiabaaGreatDoor

/- impl.readNumbers in double precision.
   Conditions: those that each statement names. -/
namespace Go.Proofs.YtnmjkjjmigiabaaGreatDoor
set_option linter.unusedSimpArgs false
set_option linter.unusedVariables false
open Go Go.RowKit

/-- numbers read so far, then zeros -/
def parD (xs : List Nat) (n : Nat) : List Nat := xs ++ List.replicate (n - xs.length) 0
theorem parD_nil (n : Nat) : parD [] n = List.replicate n 0 := by simp [parD]
theorem parD_full {xs : List Nat} {n : Nat} (h : xs.length = n) : parD xs n = xs := by subst h; simp [parD]
theorem parD_set {xs : List Nat} {n : Nat} (h : xs.length < n) (r : Nat) : (cellsV (parD xs n)).set xs.length (.float .f64 r) = cellsV (parD (xs ++ [r]) n) := by
  unfold parD
  rw [List.length_append, List.length_singleton, show n - xs.length = (n - (xs.length + 1)) + 1 from by omega, List.replicate_succ]
  simp only [cellsV, List.map_append, List.map_cons, List.map_nil, List.append_assoc, List.singleton_append]
  rw [List.set_append_right _ _ (by simp)]
  simp
theorem parD_cell {xs : List Nat} {n : Nat} (h : xs.length < n) : (cellsV (parD xs n))[xs.length]? = some (.float .f64 0) := by
  unfold parD cellsV
  rw [List.getElem?_map, List.getElem?_append_right (by omega)]
  simp [List.getElem?_replicate]
  omega

def NumsJ (word : List UInt8) (ts : List (List UInt8)) (n : Nat) (w0 : World) (B g : Nat) (i : Value) (wr : World) : Prop :=
  ∃ xs : List Nat, xs.length ≤ n ∧ i = .int .i64 (xs.length : Int) ∧ All2 TxD (ts.take xs.length) xs ∧ wr.ownsRow B 26 1 (.slice (some ⟨g, 0, none⟩) n n) n (cellsV (parD xs n)) ∧ Nw w0 wr
def NumsQ (word l : List UInt8) (n : Nat) (w : World) (e : Ending) (w' : World) : Prop :=
  Nw w w' ∧ ((∃ xs v, xs.length = n ∧ LineT TxD word l xs ∧ e = .returned (.tuple #[v, .bool true]) ∧ w'.ownsRow w.heap.size 26 1 v n (cellsV xs)) ∨
    ((∀ xs, xs.length = n → ¬ LineT TxD word l xs) ∧ e = .returned (.tuple #[.slice none 0 0, .bool false])))

set_option maxHeartbeats 3200000 in
set_option maxRecDepth 100000 in
theorem readNumbersD (word : List UInt8) (hw : 32 ∉ word) (s : ByteArray) (hs : s.size ≤ 1048576) (n : Nat) (hn : n ≤ 16) (w : World) (hL : LibW w) :
    Calls Tryz.prog 136 #[.string s, .string ⟨word.toArray⟩, .int .i64 (n : Int), .func (.func 10) #[] #[]] w (NumsQ word s.data.toList n w) := by
  obtain ⟨f0, hf0, hfz0, hfz1, hfz2⟩ := info_parts info_dbl
  have C := Lib.hid (splitN_ok s (n + 2) (by omega) (by omega) hs)
  rw [show ((n + 2 : Nat) : Int) = (n : Int) + 2 from by omega] at C
  have L := Lib.hid hL
  have Hw := Lib.hid hw
  clear hL hw
  go_enter Tryz.func136, Tryz.ntmps136
  go_wp2_with fail
  refine (C.out _ L.out).mono ?_
  rintro e w1 ⟨ps, cap, rfl, hlen, hps, own, n1⟩
  have Ow := Lib.hid own
  have N1 := Lib.hid n1
  have HP := Lib.hid (And.intro hlen hps)
  clear own n1 hlen hps
  by_cases hln : ps.length = n + 1
  · obtain ⟨p0, ts, rfl⟩ : ∃ p0 ts, ps = p0 :: ts := by
      cases ps with
      | nil => simp at hln
      | cons p ts => exact ⟨p, ts, rfl⟩
    have hts : ts.length = n := by simpa using hln
    have hsp : spl 32 s.data.toList = p0 :: ts := by
      have h1 := HP.out.1
      have h2 := HP.out.2
      rw [hln] at h1
      exact (h2 (by omega)).symm
    have e0 := Ow.out.cellAt 0 (by omega)
    rw [show (cellsT (p0 :: ts))[0]? = some (.string ⟨p0.toArray⟩) from rfl] at e0
    have Sp := Lib.hid hsp
    have Ht := Lib.hid hts
    clear hsp hts
    rw [hln] at Ow ⊢
    clear hln
    by_cases hw0 : p0 = word
    · subst hw0
      go_wp2_with (first
        | (at_make; refine wpList_make_full _ rfl _ _ 171 rfl w1.heap.size 26 f0 (.float .f64 0) 1 Tryz.underlying171 hf0 hfz0 hfz1 _ _ _ _ n rfl rfl rfl rfl (by rw [hfz2]; omega) (by unfold maxLen; omega) (Nat.le_refl _) ?_))
      intro w3 hown3 hgrow3
      have hn3 : Nw w1 w3 := hgrow3
      have O3 := Lib.hid (show w3.ownsRow w1.heap.size 26 1 (.slice (some ⟨w1.heap.size, 0, none⟩) n n) n (cellsV (parD [] n)) from by
        rw [toList_madeCells_one] at hown3
        rw [parD_nil]
        simpa [cellsV] using hown3)
      have N3 := Lib.hid hn3
      have Ow3 := Lib.hid (own_nw Ow.out hn3)
      have hws := Lib.hid (show w.heap.size ≤ w1.heap.size from N1.out.size)
      clear hown3 hgrow3 hn3 e0
      go_wp2_with fail
      go_loopw [35] (fun i wr => NumsJ p0 ts n w1 w1.heap.size w1.heap.size i wr) (fun i _ => n - (intOf i).toNat)
      case atStart => exact ⟨[], by simp, rfl, trivial, O3.out, N3.out⟩
      case round =>
        obtain ⟨xs, hk, rfl, hal, how, hN⟩ := hrel
        have Al := Lib.hid hal
        have Or := Lib.hid how
        have Nr := Lib.hid hN
        clear hal how hN
        by_cases hlt : xs.length < n
        · obtain ⟨t, htk⟩ : ∃ t, ts[xs.length]? = some t := ⟨ts[xs.length]'(by rw [Ht.out]; exact hlt), List.getElem?_eq_getElem _⟩
          have hb : w.heap.size < w1.heap.size := (Ow.out.lt w.heap.size rfl).2
          have e0 := (own_nw Ow.out Nr.out).cellAt (xs.length + 1) (by omega)
          rw [show (cellsT (p0 :: ts))[xs.length + 1]? = some (.string ⟨t.toArray⟩) from by unfold cellsT; rw [List.getElem?_map, List.getElem?_cons_succ, htk]; rfl] at e0
          have htm : t ∈ spl 32 s.data.toList := by rw [Sp.out]; exact List.mem_cons_of_mem _ (List.mem_of_getElem? htk)
          have hsz : (⟨t.toArray⟩ : ByteArray).size ≤ 1048576 := by
            have h1 := spl_len htm
            have h2 : s.data.toList.length = s.size := Array.length_toList
            have h3 : (⟨t.toArray⟩ : ByteArray).size = t.length := List.size_toArray
            omega
          have P := Lib.hid (implDouble ⟨t.toArray⟩ hsz wr (L.out.nw (N1.out.trans Nr.out)))
          have Tk := Lib.hid htk
          clear htk htm hsz
          go_wp2_with fail
          refine P.out.mono ?_
          rintro e w5 ⟨n5, ⟨r, ht, rfl⟩ | ⟨hno, rfl⟩⟩
          · have N5 := Lib.hid (Nr.out.trans n5)
            have O5 := Lib.hid (own_nw Or.out n5)
            have K := Lib.hid (show TxD t r from ht)
            clear n5 ht e0
            have e1 := O5.out.cellAt xs.length (by omega)
            rw [parD_cell hlt] at e1
            have e2 := O5.out.frozenAt xs.length
            have hset := O5.out.stored xs.length (.float .f64 r)
            rw [parD_set hlt] at hset
            have F := Lib.hid hset.1
            have N6 := Lib.hid (N5.out.set (p := ⟨w1.heap.size, xs.length, none⟩) (by show w1.heap.size ≤ w1.heap.size; omega) (.float .f64 r))
            clear hset
            go_wp2_with fail
            go_roundw
            case rel =>
              refine ⟨xs ++ [r], by simp; omega, by rw [List.length_append, List.length_singleton, show ((xs.length + 1 : Nat) : Int) = (xs.length : Int) + 1 from by omega], ?_, F.out, N6.out⟩
              rw [List.length_append, List.length_singleton, List.take_add_one, Tk.out]
              exact Al.out.snoc K.out
            case measure => simp only [intOf]; omega
          · have N5 := Lib.hid (Nr.out.trans n5)
            have B := Lib.hid hno
            clear n5 hno e0
            go_wp2_with fail
            go_ret2
            refine ⟨N1.out.trans N5.out, .inr ⟨fun ys _ h => ?_, rfl⟩⟩
            obtain ⟨us, e, a⟩ := h
            rw [Sp.out] at e
            injection e with _ e
            subst e
            obtain ⟨y, -, hy⟩ := a.get Tk.out
            exact B.out y hy
        · have hxn : xs.length = n := by omega
          go_wp2_with fail
          go_ret2
          refine ⟨N1.out.trans Nr.out, .inl ⟨xs, _, hxn, ⟨ts, Sp.out, ?_⟩, rfl, ?_⟩⟩
          · have h := Al.out
            rw [List.take_of_length_le (by rw [Ht.out]; omega)] at h
            exact h
          · have h := Or.out
            rw [parD_full hxn] at h
            exact own_base h hws.out
    · have hb0 : (p0 == word) = false := by simpa using hw0
      go_wp2_with fail
      go_ret2
      refine ⟨N1.out, .inr ⟨fun xs _ h => ?_, rfl⟩⟩
      obtain ⟨us, e, -⟩ := h
      rw [Sp.out] at e
      injection e with e _
      exact hw0 e
  · go_wp2_with fail
    go_ret2
    refine ⟨N1.out, .inr ⟨fun xs hx h => ?_, rfl⟩⟩
    obtain ⟨us, e, a⟩ := h
    have h1 := HP.out.1
    have h2 := HP.out.2
    have hus := a.len
    rw [e] at h1 h2
    simp at h1 h2
    rw [h2 (by omega)] at hln
    simp at hln
    omega
end Go.Proofs.YtnmjkjjmigiabaaGreatDoor

/- impl.readWide, impl.readLines of wide modes.
   Conditions: those that each statement names. -/
namespace Go.Proofs.YtnmjkjjmigiabaaGreatDoor
set_option linter.unusedSimpArgs false
set_option linter.unusedVariables false
open Go Go.RowKit

def RdWP (l : List UInt8) (w : World) (e : Ending) (w' : World) : Prop :=
  Nw w w' ∧ ((∃ m : W4, LineW l m ∧ e = .returned (.tuple #[.agg #[.complex .f64 m.a m.b, .complex .f64 m.c m.d], .bool true])) ∨ ((∀ m, ¬ LineW l m) ∧ e = .returned (.tuple #[.agg #[.complex .f64 0 0, .complex .f64 0 0], .bool false])))

set_option maxHeartbeats 3200000 in
set_option maxRecDepth 100000 in
theorem readWide_ok (s : ByteArray) (hs : s.size ≤ 1048576) (w : World) (hL : LibW w) :
    Calls Tryz.prog 72 #[.string s] w (RdWP s.data.toList w) := by
  have C := Lib.hid (fun w h => readNumbersD wWide (by decide) s hs 4 (by decide) w h)
  have L := Lib.hid hL
  clear hL
  go_enter Tryz.func72, Tryz.ntmps72
  go_wp2_with fail
  refine (C.out _ (L.out.nw ((Nw.refl w).alloc _))).mono ?_
  rintro e w1 ⟨n1, ⟨xs, v, hx, hl, rfl, own⟩ | ⟨hno, rfl⟩⟩
  · obtain ⟨a, b, c, d, rfl⟩ := four hx
    obtain ⟨va, vc, rfl⟩ := own_shape' own
    obtain ⟨g, cap, hv, hcap, hmax, hgs, e0⟩ := own_dbl (k := 0) own rfl rfl
    cases hv
    have e1 : w1.cell? ⟨g, 1, none⟩ = some (.float .f64 b) := own.cellAt 1 (by omega)
    have e2 : w1.cell? ⟨g, 2, none⟩ = some (.float .f64 c) := own.cellAt 2 (by omega)
    have e3 : w1.cell? ⟨g, 3, none⟩ = some (.float .f64 d) := own.cellAt 3 (by omega)
    have B1 := Lib.hid ((HasWide.new w 115 0 0 0 0).nw n1)
    have N1 := Lib.hid (((Nw.refl w).alloc (.cells #[.complex .f64 0 0, .complex .f64 0 0] 115 (0, 0))).trans n1)
    have Hl := Lib.hid hl
    clear n1 hl own hx
    go_upto_region 4 with fail
    refine wp_region_still_tail 15 (by kernel_rfl) (by kernel_rfl) ?_
    simp only [List.take_succ_cons, List.take_zero, List.drop_succ_cons, List.drop_zero]
    repeat still_step
    refine wpStill_nil ?_
    change wpList _ _ _ _ _ (w1.drewN 1)
    have N2 := Lib.hid (N1.out.draw 1)
    obtain ⟨m0, m1, m2, m3, m4⟩ := B1.out
    clear e0 e1 e2 e3
    have q0 : (w1.drewN 1).heap.size = w1.heap.size := rfl
    have q1 : (w1.drewN 1).cell? ⟨w.heap.size, 0, none⟩ = _ := m1
    have q2 : (w1.drewN 1).cell? ⟨w.heap.size, 1, none⟩ = _ := m2
    have q3 : (w1.drewN 1).frozen? ⟨w.heap.size, 0, none⟩ = _ := m3
    have q4 : (w1.drewN 1).frozen? ⟨w.heap.size, 1, none⟩ = _ := m4
    generalize w1.drewN 1 = w5 at *
    clear m0 m1 m2 m3 m4
    go_wp2_with fail
    have hx0 : w.heap.size ≠ w.heap.size + 1 := by omega
    exact bodyPost_ret (v := .tuple #[.agg #[.complex .f64 a b, .complex .f64 c d], .bool true]) (by simp [results, Tryz.results72, go_sem, q0, q1, q2, q3, q4]) rfl
      ⟨(N2.out.set (by show w.heap.size ≤ w.heap.size; omega) _).set (by show w.heap.size ≤ w.heap.size; omega) _, .inl ⟨⟨a, b, c, d⟩, Hl.out, rfl⟩⟩
  · obtain ⟨m0, m1, m2, m3, m4⟩ := (HasWide.new w 115 0 0 0 0).nw n1
    have N1 := Lib.hid (((Nw.refl w).alloc (.cells #[.complex .f64 0 0, .complex .f64 0 0] 115 (0, 0))).trans n1)
    have Hno := Lib.hid hno
    clear n1 hno
    go_wp2_with fail
    refine bodyPost_ret (v := .tuple #[.agg #[.complex .f64 0 0, .complex .f64 0 0], .bool false]) (by simp [results, Tryz.results72, go_sem, m0, m1, m2, m3, m4]) rfl
      ⟨(N1.out.set (by show w.heap.size ≤ w.heap.size; omega) _).set (by show w.heap.size ≤ w.heap.size; omega) _, .inr ⟨fun m h => ?_, rfl⟩⟩
    exact Hno.out _ rfl h

/-! ### the lines -/
def LinesJ (l : List UInt8) (w0 : World) (t v i : Value) (wr : World) : Prop :=
  ∃ (k : Nat) (ms : List W4) (ps : List (List UInt8)) (r : List UInt8), k ≤ 16 ∧ ms.length = k ∧ i = .int .i64 (k : Int) ∧ t = .string ⟨r.toArray⟩ ∧ All2 LineW ps ms ∧ l = glueC 10 ps ++ r ∧ wr.ownsRow w0.heap.size 115 2 v k (cellsW ms) ∧ Nw w0 wr
def LinesQ (l : List UInt8) (w : World) (e : Ending) (w' : World) : Prop :=
  ∃ (ms : List W4) (r : List UInt8) (v : Value), e = .returned (.tuple #[v, .string ⟨r.toArray⟩]) ∧ ReadT LineW 16 l ms r ∧ w'.ownsRow w.heap.size 115 2 v ms.length (cellsW ms) ∧ Nw w w'
set_option maxHeartbeats 6400000 in
set_option maxRecDepth 100000 in
theorem readLinesW (s : ByteArray) (hs : s.size ≤ 1048576) (w : World) (hL : LibW w) :
    Calls Tryz.prog 71 #[.string s, .int .i64 16, .func (.func 72) #[] #[]] w (LinesQ s.data.toList w) := by
  obtain ⟨i0, hi, hz0, hz1, hz2⟩ := info_parts info_wideV
  have hl : s.data.toList.length = s.size := Array.length_toList
  have L := Lib.hid hL
  clear hL
  go_enter Tryz.func71, Tryz.ntmps71
  go_wp2_with fail
  go_loopw [0, 8, 15] (fun t v i wr => LinesJ s.data.toList w t v i wr) (fun _ _ i _ => 16 - (intOf i).toNat)
  case atStart => exact ⟨0, [], [], s.data.toList, by omega, rfl, rfl, rfl, trivial, rfl, World.ownsRow_nil _ _ _ _, Nw.refl _⟩
  case round =>
    obtain ⟨k, ms, ps, r, hk, hmk, rfl, rfl, hal, hlr, hown, hN⟩ := hrel
    have Al := Lib.hid hal
    have Hl := Lib.hid hlr
    have Ow := Lib.hid hown
    have Nr := Lib.hid hN
    have Mk := Lib.hid hmk
    have hrs : (⟨r.toArray⟩ : ByteArray).size ≤ 1048576 := by
      have h1 : s.data.toList.length = (glueC 10 ps).length + r.length := by rw [hlr, List.length_append]
      have h3 : (⟨r.toArray⟩ : ByteArray).size = r.length := List.size_toArray
      omega
    have hr1 : r.length ≤ 1048576 := by
      have h3 : (⟨r.toArray⟩ : ByteArray).size = r.length := List.size_toArray
      omega
    obtain ⟨sa, sl, sc, rfl⟩ := own_shape hown
    have hsz := Lib.hid (show w.heap.size ≤ wr.heap.size from hN.size)
    clear hal hlr hown hN hmk
    by_cases hlt : k < 16
    · have C := Lib.hid (cutLine_ok ⟨r.toArray⟩ hrs wr)
      clear hrs
      go_wp2_with fail
      refine C.out.mono ?_
      rintro e w1 ⟨n1, ⟨p, q, hpq0, hp, rfl⟩ | ⟨hno0, rfl⟩⟩
      · have hpq : r = p ++ 10 :: q := by simpa using hpq0
        have N1 := Lib.hid (Nr.out.trans n1)
        have O1 := Lib.hid (own_nw Ow.out n1)
        have hps : (⟨p.toArray⟩ : ByteArray).size ≤ 1048576 := by
          have h1 : r.length = p.length + (q.length + 1) := by rw [hpq, List.length_append, List.length_cons]
          have h3 : (⟨p.toArray⟩ : ByteArray).size = p.length := List.size_toArray
          omega
        have P := Lib.hid (readWide_ok ⟨p.toArray⟩ hps w1 (L.out.nw N1.out))
        have Hpq := Lib.hid (And.intro hpq hp)
        have hs1 := Lib.hid (show w.heap.size ≤ w1.heap.size from N1.out.size)
        clear n1 hpq hp hps hr1 hpq0
        go_wp2_with fail
        refine P.out.mono ?_
        rintro e w2 ⟨n2, ⟨m, hm, rfl⟩ | ⟨hno, rfl⟩⟩
        · have N2 := Lib.hid (N1.out.trans n2)
          have O2 := Lib.hid (own_nw O1.out n2)
          have Hm := Lib.hid hm
          obtain ⟨m0, m1, m2, -, -⟩ := HasWide.new w2 115 m.a m.b m.c m.d
          have hs2 := Lib.hid (show w.heap.size ≤ w2.heap.size from N2.out.size)
          clear n2 hm
          go_wp2_with (at_builtin; refine wpList_append_own _ rfl _ _ 45 rfl w.heap.size 115 i0 (.agg #[.complex .f64 0 0, .complex .f64 0 0]) 2 32 Tryz.underlying45 hi hz0 hz1 hz2 rfl (by decide) _ _ _ rfl ((O2.out.alloc _).alloc _) ⟨w2.heap.size + 1, 0, none⟩ 1 1 [.complex .f64 m.a m.b, .complex .f64 m.c m.d] rfl rfl ?c1 ?c2 ?c3 ?c4 ?c5 ?_)
          case c1 =>
            intro j u hj
            match j, hj with
            | 0, hj => simp at hj; subst hj; simp [Addr.add]
            | 1, hj => simp at hj; subst hj; simp [Addr.add]
          case c2 => intro u hu; simp at hu; rcases hu with rfl | rfl <;> rfl
          case c3 => unfold maxLen; omega
          case c4 => omega
          case c5 => have := hs2.out; simp; omega
          · intro v' w4 hown4 hgrow _
            have hrow : ∀ q, (Value.slice sa sl sc).ownBlock = some q → w.heap.size ≤ q := fun q hq => own_ge O2.out q hq
            have N4 := Lib.hid (nwg ((N2.out.alloc _).alloc _) hgrow hrow)
            rw [show cellsW ms ++ [Value.complex .f64 m.a m.b, Value.complex .f64 m.c m.d] = cellsW (ms ++ [m]) from (cellsW_snoc ms m).symm] at hown4
            have O4 := Lib.hid hown4
            clear hown4 hgrow hrow m0 m1 m2
            go_wp2_with fail
            go_roundw
            case rel =>
              refine ⟨k + 1, ms ++ [m], ps ++ [p], q, by omega, by rw [List.length_append, List.length_singleton, Mk.out], by rw [show ((k + 1 : Nat) : Int) = (k : Int) + 1 from by omega], rfl, Al.out.snoc Hm.out, ?_, O4.out, N4.out⟩
              rw [Hl.out, Hpq.out.1, glue_snoc]
              simp
            case measure => simp only [intOf]; omega
        · have N2 := Lib.hid (N1.out.trans n2)
          have O2 := Lib.hid (own_nw O1.out n2)
          have Hno := Lib.hid hno
          clear n2 hno
          go_wp2_with fail
          go_ret2
          exact ⟨ms, r, _, rfl, ⟨ps, Al.out, Hl.out, by rw [Mk.out]; omega, .inr (.inr ⟨p, q, Hpq.out.1, Hpq.out.2, Hno.out⟩)⟩, by rw [Mk.out]; exact own_nw O2.out ((Nw.refl _).alloc _), N2.out.alloc _⟩
      · have hno : (10 : UInt8) ∉ r := by simpa using hno0
        have N1 := Lib.hid (Nr.out.trans n1)
        have O1 := Lib.hid (own_nw Ow.out n1)
        have Hno := Lib.hid hno
        clear n1 hno hno0
        go_wp2_with fail
        go_ret2
        exact ⟨ms, r, _, rfl, ⟨ps, Al.out, Hl.out, by rw [Mk.out]; omega, .inr (.inl Hno.out)⟩, by rw [Mk.out]; exact O1.out, N1.out⟩
    · have hk16 : k = 16 := by omega
      clear hrs
      go_wp2_with fail
      go_ret2
      exact ⟨ms, r, _, rfl, ⟨ps, Al.out, Hl.out, by rw [Mk.out]; omega, .inl (by rw [Mk.out, hk16])⟩, by rw [Mk.out]; exact Ow.out, Nr.out⟩

end Go.Proofs.YtnmjkjjmigiabaaGreatDoor

/- The model's l6Wide.
   Conditions: those that each statement names. -/
namespace Go.Proofs.YtnmjkjjmigiabaaGreatDoor
set_option linter.unusedSimpArgs false
set_option linter.unusedVariables false
open Go Go.RowKit

/-- a mode is read, or one that is not valid; what is read may have another word -/
def L6Q (l : List UInt8) (w : World) (e : Ending) (w' : World) : Prop :=
  Nw w w' ∧ ∃ m : W4, m.Fin ∧ m.bits ∧ (∀ m', LineW l m' → m = m') ∧ e = .returned (.agg #[.complex .f64 m.a m.b, .complex .f64 m.c m.d])
def badW : W4 := ⟨4611686018427387904, 0, 0, 0⟩
theorem badW_fin : badW.Fin ∧ badW.bits := ⟨⟨by decide, by decide, by decide, by decide⟩, by decide, by decide, by decide, by decide⟩

def L6J (ts : List (List UInt8)) (B : Nat) (w0 : World) (v i : Value) (wr : World) : Prop :=
  ∃ xs : List Nat, xs.length ≤ ts.length ∧ i = .int .i64 (xs.length : Int) ∧ All2 TxD (ts.take xs.length) xs ∧ wr.ownsRow B 26 1 v xs.length (cellsV xs) ∧ Nw w0 wr
set_option maxHeartbeats 6400000 in
set_option maxRecDepth 100000 in
theorem l6Wide_ok (s : ByteArray) (hs : s.size ≤ 1048576) (w : World) :
    Calls Tryz.prog 85 #[.string s] w (L6Q s.data.toList w) := by
  obtain ⟨f0, hf0, hfz0, hfz1, hfz2⟩ := info_parts info_dbl
  have C := Lib.hid (l1Split_any 32 s hs)
  have B := Lib.hid (HasWide.new w 115 0 0 0 0)
  go_enter Tryz.func85, Tryz.ntmps85
  go_wp2_with fail
  refine (C.out _).mono ?_
  rintro e w1 ⟨ps, r, v, rfl, hl, hps, hr, own, n1⟩
  have hsp : spl 32 s.data.toList = ps ++ [r] := by rw [hl, spl_glue hps, spl_none hr]
  have hs0 : (w.alloc (.cells #[.complex .f64 0 0, .complex .f64 0 0] 115 (0, 0))).heap.size = w.heap.size + 1 := by simp
  rw [hs0] at own
  obtain ⟨qs, hqs⟩ : ∃ qs, qs = ps ++ [r] := ⟨_, rfl⟩
  rw [← hqs] at hsp own
  have hql : ps.length + 1 = qs.length := by rw [hqs]; simp
  rw [hql] at own
  obtain ⟨va, vc, rfl⟩ := own_shape' own
  have Sp := Lib.hid hsp
  have B1 := Lib.hid (B.out.nw n1)
  have hw1 : w.heap.size < w1.heap.size := by have := (B.out.nw n1).1; omega
  have E1 := Lib.hid (HasWide.new w1 115 4611686018427387904 0 0 0)
  have N0 := Lib.hid (((Nw.refl w).alloc (.cells #[.complex .f64 0 0, .complex .f64 0 0] 115 (0, 0))).trans n1)
  have O0 := Lib.hid own
  have N1 := Lib.hid ((((Nw.refl w).alloc (.cells #[.complex .f64 0 0, .complex .f64 0 0] 115 (0, 0))).trans n1).alloc (.cells #[.complex .f64 4611686018427387904 0, .complex .f64 0 0] 115 (0, 0)))
  have O1 := Lib.hid (own.alloc (.cells #[.complex .f64 4611686018427387904 0, .complex .f64 0 0] 115 (0, 0)))
  have hlt1 : ∀ q, (Value.slice va qs.length vc).ownBlock = some q → q < w1.heap.size := fun q hq => (own.lt q hq).2
  have Lt := Lib.hid hlt1
  clear hl hps hr own n1 hs0 hsp hqs hql hlt1
  have hne : w.heap.size ≠ w1.heap.size := by omega
  obtain ⟨m0, m1, m2, m3, m4⟩ := B1.out
  by_cases h5 : qs.length = 5
  · obtain ⟨q0, ts, rfl⟩ : ∃ p0 ts, qs = p0 :: ts := by
      cases qs with
      | nil => simp at h5
      | cons p ts => exact ⟨p, ts, rfl⟩
    have Ht := Lib.hid (show ts.length = 4 by simpa using h5)
    rw [h5] at O0 O1 Lt ⊢
    clear h5
    obtain ⟨g, hva, hcv⟩ : ∃ g, va = some ⟨g, 0, none⟩ ∧ 5 ≤ vc := by
      rcases O0.out.2 with ⟨h0, h1⟩ | ⟨g, cap, cur, hv, hb, hg, hc, hm, -, -⟩
      · exact absurd h1 (by decide)
      · cases hv; exact ⟨g, rfl, hc⟩
    subst hva
    have hgw : g < w1.heap.size := Lt.out g rfl
    have Z := Lib.hid (World.ownsRow_lit (base := w1.heap.size + 1) (e := 26) (size := 1) (w1.alloc (.cells #[.complex .f64 4611686018427387904 0, .complex .f64 0 0] 115 (0, 0))) #[] 0 (by simp) (by decide) rfl)
    go_wp2_with fail
    go_loopw [5, 21] (fun v i wr => L6J ts (w1.heap.size + 1) (w1.alloc (.cells #[.complex .f64 4611686018427387904 0, .complex .f64 0 0] 115 (0, 0))) v i wr) (fun _ i _ => 4 - (intOf i).toNat)
    case atStart => exact ⟨[], by simp, rfl, trivial, by simpa [cellsV] using Z.out, (Nw.refl _).alloc _⟩
    case round =>
      obtain ⟨xs, hk, rfl, hal, how, hN⟩ := hrel
      have Al := Lib.hid hal
      have Or := Lib.hid how
      have Nr := Lib.hid hN
      have hsz := Lib.hid (show w1.heap.size + 1 ≤ wr.heap.size from by have := hN.size; simpa using this)
      have hk4 : xs.length ≤ 4 := by rw [Ht.out] at hk; exact hk
      clear hal hN hk
      obtain ⟨xa, xl, xc, rfl⟩ := own_shape how
      have D := Lib.hid (E1.out.nw (Nr.out))
      clear how
      have Bd := Lib.hid ((B1.out.alloc (.cells #[.complex .f64 4611686018427387904 0, .complex .f64 0 0] 115 (0, 0))).nw Nr.out)
      by_cases hlt : xs.length < 4
      · obtain ⟨t, htk⟩ : ∃ t, ts[xs.length]? = some t := ⟨ts[xs.length]'(by rw [Ht.out]; exact hlt), List.getElem?_eq_getElem _⟩
        have e0 := (own_nw O1.out Nr.out).cellAt (xs.length + 1) (by omega)
        rw [show (cellsT (q0 :: ts))[xs.length + 1]? = some (.string ⟨t.toArray⟩) from by unfold cellsT; rw [List.getElem?_map, List.getElem?_cons_succ, htk]; rfl, Nat.add_comm] at e0
        have htm : t ∈ spl 32 s.data.toList := by rw [Sp.out]; exact List.mem_cons_of_mem _ (List.mem_of_getElem? htk)
        have hts : (⟨t.toArray⟩ : ByteArray).size ≤ 1048576 := by
          have h1 := spl_len htm
          have h2 : s.data.toList.length = s.size := Array.length_toList
          have h3 : (⟨t.toArray⟩ : ByteArray).size = t.length := List.size_toArray
          omega
        have P := Lib.hid (specDouble ⟨t.toArray⟩ hts wr)
        have Tk := Lib.hid htk
        clear htk htm hts
        go_wp2_with fail
        refine P.out.mono ?_
        rintro e w5 ⟨n5, ⟨r, ht, rfl⟩ | ⟨hno, rfl⟩⟩
        · have N5 := Lib.hid (Nr.out.trans n5)
          have O5 := Lib.hid (own_nw Or.out n5)
          have K := Lib.hid (show TxD t r from ht)
          have hs5 := Lib.hid (show w1.heap.size + 1 ≤ w5.heap.size from by have := n5.size; have := hsz.out; omega)
          clear n5 ht e0
          go_wp2_with (at_builtin; refine wpList_append_own _ rfl _ _ 171 rfl (w1.heap.size + 1) 26 f0 (.float .f64 0) 1 8 Tryz.underlying171 hf0 hfz0 hfz1 hfz2 rfl (by decide) _ _ _ rfl (O5.out.alloc _) ⟨w5.heap.size, 0, none⟩ 1 1 [.float .f64 r] rfl rfl ?c1 ?c2 ?c3 ?c4 ?c5 ?_)
          case c1 =>
            intro j u hj
            match j, hj with
            | 0, hj => simp at hj; subst hj; simp [Addr.add]
          case c2 => intro u hu; simp at hu; subst hu; rfl
          case c3 => unfold maxLen; omega
          case c4 => omega
          case c5 => have := hs5.out; simp; omega
          · intro v' w6 hown6 hgrow _
            have hrow : ∀ q, (Value.slice xa xl xc).ownBlock = some q → (w1.alloc (.cells #[.complex .f64 4611686018427387904 0, .complex .f64 0 0] 115 (0, 0))).heap.size ≤ q := fun q hq => by have := own_ge O5.out q hq; simpa using this
            have N6 := Lib.hid (nwg (N5.out.alloc _) hgrow hrow)
            rw [show cellsV xs ++ [Value.float .f64 r] = cellsV (xs ++ [r]) from by simp [cellsV]] at hown6
            have O6 := Lib.hid hown6
            clear hown6 hgrow hrow
            go_wp2_with fail
            go_roundw
            case rel =>
              refine ⟨xs ++ [r], by rw [List.length_append, List.length_singleton, Ht.out]; omega, by rw [List.length_append, List.length_singleton, show ((xs.length + 1 : Nat) : Int) = (xs.length : Int) + 1 from by omega], ?_, by rw [List.length_append, List.length_singleton]; exact O6.out, N6.out⟩
              rw [List.length_append, List.length_singleton, List.take_add_one, Tk.out]
              exact Al.out.snoc K.out
            case measure => simp only [intOf]; omega
        · have N5 := Lib.hid (Nr.out.trans n5)
          have Hno := Lib.hid hno
          obtain ⟨d0, d1, d2, d3, d4⟩ := D.out.nw n5
          obtain ⟨m0, m1, m2, m3, m4⟩ := Bd.out.nw n5
          clear n5 hno e0
          go_wp2_with fail
          refine bodyPost_ret (v := .agg #[.complex .f64 4611686018427387904 0, .complex .f64 0 0]) (by simp [results, Tryz.results85, go_sem, m0, m1, m2, m3, m4]) rfl
            ⟨((N1.out.trans N5.out).set (by show w.heap.size ≤ w.heap.size; omega) _).set (by show w.heap.size ≤ w.heap.size; omega) _, badW, badW_fin.1, badW_fin.2, fun m' h => ?_, rfl⟩
          obtain ⟨us, e, a⟩ := h
          rw [Sp.out] at e
          injection e with _ e
          subst e
          obtain ⟨y, -, hy⟩ := a.get Tk.out
          exact absurd hy (Hno.out y)
      · obtain ⟨a, b, c, d, rfl⟩ := four (show xs.length = 4 by omega)
        have hall : All2 TxD ts [a, b, c, d] := by
          have h := Al.out
          rw [List.take_of_length_le (by rw [Ht.out]; exact Nat.le_refl _)] at h
          exact h
        have All := Lib.hid hall
        clear hall hlt hk4
        obtain ⟨gx, hxa, hxl⟩ : ∃ gx, xa = some ⟨gx, 0, none⟩ ∧ xl = 4 := by
          rcases Or.out.2 with ⟨h0, h1⟩ | ⟨g, cap, cur, hv, hb, hg, hc, hm, -, -⟩
          · exact absurd h1 (by simp)
          · cases hv; exact ⟨g, rfl, rfl⟩
        subst hxa hxl
        have e0 : wr.cell? ⟨gx, 0, none⟩ = some (.float .f64 a) := Or.out.cellAt 0 (by simp)
        have e1 : wr.cell? ⟨gx, 1, none⟩ = some (.float .f64 b) := Or.out.cellAt 1 (by simp)
        have e2 : wr.cell? ⟨gx, 2, none⟩ = some (.float .f64 c) := Or.out.cellAt 2 (by simp)
        have e3 : wr.cell? ⟨gx, 3, none⟩ = some (.float .f64 d) := Or.out.cellAt 3 (by simp)
        go_upto_region 14 with fail
        refine wp_region_still_tail 15 (by kernel_rfl) (by kernel_rfl) ?_
        simp only [List.take_succ_cons, List.take_zero, List.drop_succ_cons, List.drop_zero]
        repeat still_step
        refine wpStill_nil ?_
        change wpList _ _ _ _ _ (wr.drewN 1)
        have N2 := Lib.hid ((N1.out.trans Nr.out).draw 1)
        obtain ⟨m0, m1, m2, m3, m4⟩ := Bd.out.draw 1
        clear e0 e1 e2 e3
        generalize wr.drewN 1 = w7 at *
        go_wp2_with fail
        refine bodyPost_ret (v := .agg #[.complex .f64 a b, .complex .f64 c d]) (by simp [results, Tryz.results85, go_sem, m0, m1, m2, m3, m4]) rfl
          ⟨(N2.out.set (by show w.heap.size ≤ w.heap.size; omega) _).set (by show w.heap.size ≤ w.heap.size; omega) _, ⟨a, b, c, d⟩, ?_, ?_, fun m' h => ?_, rfl⟩
        · obtain ⟨t1, t2, t3, t4, -, a1, a2, a3, a4⟩ := all2_four All.out
          exact ⟨a1.2.1, a2.2.1, a3.2.1, a4.2.1⟩
        · obtain ⟨t1, t2, t3, t4, -, a1, a2, a3, a4⟩ := all2_four All.out
          exact ⟨a1.1, a2.1, a3.1, a4.1⟩
        · obtain ⟨us, e, a2⟩ := h
          rw [Sp.out] at e
          injection e with _ e
          subst e
          have h5 := All2.right (R := TxD) (fun _ _ _ h k => txD_K.val h k) All.out a2
          obtain ⟨a', b', c', d'⟩ := m'
          simp at h5
          obtain ⟨rfl, rfl, rfl, rfl⟩ := h5
          rfl
  · have hq : ((qs.length : Int) == 5) = false := by simp; omega
    obtain ⟨d0, d1, d2, d3, d4⟩ := E1.out
    go_wp2_with fail
    refine bodyPost_ret (v := .agg #[.complex .f64 4611686018427387904 0, .complex .f64 0 0]) (by simp [results, Tryz.results85, go_sem, m0, m1, m2, m3, m4]) rfl
      ⟨((N0.out.set (by show w.heap.size ≤ w.heap.size; omega) _).set (by show w.heap.size ≤ w.heap.size; omega) _).alloc _, badW, badW_fin.1, badW_fin.2, fun m' h => ?_, rfl⟩
    obtain ⟨ts, e, a⟩ := h
    rw [Sp.out] at e
    have := a.len
    simp at this
    rw [e] at h5
    simp [this] at h5
end Go.Proofs.YtnmjkjjmigiabaaGreatDoor

/- The model's l6Mode and ParseBody.
   Conditions: those that each statement names. -/
namespace Go.Proofs.YtnmjkjjmigiabaaGreatDoor
set_option linter.unusedSimpArgs false
set_option linter.unusedVariables false
open Go Go.RowKit

/-- a mode is read, or one that is not valid; what is read may have another word -/
def L6P (l : List UInt8) (w : World) (e : Ending) (w' : World) : Prop :=
  Nw w w' ∧ ∃ m : M4, m.Fin ∧ m.bits ∧ (∀ m', LineM l m' → m = m') ∧ e = .returned (.agg #[.complex .f32 m.pr m.pi, .complex .f32 m.gr m.gi])
def badM : M4 := ⟨1073741824, 0, 0, 0⟩
theorem badM_fin : badM.Fin ∧ badM.bits := by
  have z : Sm 0 := ⟨false, 0, -149, by decide⟩
  exact ⟨⟨⟨false, 8388608, -22, by decide⟩, z, z, z⟩, by decide, by decide, by decide, by decide⟩

def L6I (ts : List (List UInt8)) (B : Nat) (w0 : World) (v i : Value) (wr : World) : Prop :=
  ∃ xs : List Nat, xs.length ≤ ts.length ∧ i = .int .i64 (xs.length : Int) ∧ All2 TxS (ts.take xs.length) xs ∧ wr.ownsRow B 25 1 v xs.length (cellsS xs) ∧ Nw w0 wr
set_option maxHeartbeats 6400000 in
set_option maxRecDepth 100000 in
theorem l6Mode_ok (s : ByteArray) (hs : s.size ≤ 1048576) (w : World) :
    Calls Tryz.prog 79 #[.string s] w (L6P s.data.toList w) := by
  obtain ⟨f0, hf0, hfz0, hfz1, hfz2⟩ := info_parts info_f32
  have C := Lib.hid (l1Split_any 32 s hs)
  have B := Lib.hid (HasMode.new w 93 0 0 0 0)
  go_enter Tryz.func79, Tryz.ntmps79
  go_wp2_with fail
  refine (C.out _).mono ?_
  rintro e w1 ⟨ps, r, v, rfl, hl, hps, hr, own, n1⟩
  have hsp : spl 32 s.data.toList = ps ++ [r] := by rw [hl, spl_glue hps, spl_none hr]
  have hs0 : (w.alloc (.cells #[.complex .f32 0 0, .complex .f32 0 0] 93 (0, 0))).heap.size = w.heap.size + 1 := by simp
  rw [hs0] at own
  obtain ⟨qs, hqs⟩ : ∃ qs, qs = ps ++ [r] := ⟨_, rfl⟩
  rw [← hqs] at hsp own
  have hql : ps.length + 1 = qs.length := by rw [hqs]; simp
  rw [hql] at own
  obtain ⟨va, vc, rfl⟩ := own_shape' own
  have Sp := Lib.hid hsp
  have B1 := Lib.hid (B.out.nw n1)
  have hw1 : w.heap.size < w1.heap.size := by have := (B.out.nw n1).1; omega
  have E1 := Lib.hid (HasMode.new w1 93 1073741824 0 0 0)
  have N0 := Lib.hid (((Nw.refl w).alloc (.cells #[.complex .f32 0 0, .complex .f32 0 0] 93 (0, 0))).trans n1)
  have O0 := Lib.hid own
  have N1 := Lib.hid ((((Nw.refl w).alloc (.cells #[.complex .f32 0 0, .complex .f32 0 0] 93 (0, 0))).trans n1).alloc (.cells #[.complex .f32 1073741824 0, .complex .f32 0 0] 93 (0, 0)))
  have O1 := Lib.hid (own.alloc (.cells #[.complex .f32 1073741824 0, .complex .f32 0 0] 93 (0, 0)))
  have hlt1 : ∀ q, (Value.slice va qs.length vc).ownBlock = some q → q < w1.heap.size := fun q hq => (own.lt q hq).2
  have Lt := Lib.hid hlt1
  clear hl hps hr own n1 hs0 hsp hqs hql hlt1
  have hne : w.heap.size ≠ w1.heap.size := by omega
  obtain ⟨m0, m1, m2, m3, m4⟩ := B1.out
  by_cases h5 : qs.length = 5
  · obtain ⟨q0, ts, rfl⟩ : ∃ p0 ts, qs = p0 :: ts := by
      cases qs with
      | nil => simp at h5
      | cons p ts => exact ⟨p, ts, rfl⟩
    have Ht := Lib.hid (show ts.length = 4 by simpa using h5)
    rw [h5] at O0 O1 Lt ⊢
    clear h5
    obtain ⟨g, hva, hcv⟩ : ∃ g, va = some ⟨g, 0, none⟩ ∧ 5 ≤ vc := by
      rcases O0.out.2 with ⟨h0, h1⟩ | ⟨g, cap, cur, hv, hb, hg, hc, hm, -, -⟩
      · exact absurd h1 (by decide)
      · cases hv; exact ⟨g, rfl, hc⟩
    subst hva
    have hgw : g < w1.heap.size := Lt.out g rfl
    have Z := Lib.hid (World.ownsRow_lit (base := w1.heap.size + 1) (e := 25) (size := 1) (w1.alloc (.cells #[.complex .f32 1073741824 0, .complex .f32 0 0] 93 (0, 0))) #[] 0 (by simp) (by decide) rfl)
    go_wp2_with fail
    go_loopw [5, 21] (fun v i wr => L6I ts (w1.heap.size + 1) (w1.alloc (.cells #[.complex .f32 1073741824 0, .complex .f32 0 0] 93 (0, 0))) v i wr) (fun _ i _ => 4 - (intOf i).toNat)
    case atStart => exact ⟨[], by simp, rfl, trivial, by simpa [cellsS] using Z.out, (Nw.refl _).alloc _⟩
    case round =>
      obtain ⟨xs, hk, rfl, hal, how, hN⟩ := hrel
      have Al := Lib.hid hal
      have Or := Lib.hid how
      have Nr := Lib.hid hN
      have hsz := Lib.hid (show w1.heap.size + 1 ≤ wr.heap.size from by have := hN.size; simpa using this)
      have hk4 : xs.length ≤ 4 := by rw [Ht.out] at hk; exact hk
      clear hal hN hk
      obtain ⟨xa, xl, xc, rfl⟩ := own_shape how
      have D := Lib.hid (E1.out.nw (Nr.out))
      clear how
      have Bd := Lib.hid ((B1.out.alloc (.cells #[.complex .f32 1073741824 0, .complex .f32 0 0] 93 (0, 0))).nw Nr.out)
      by_cases hlt : xs.length < 4
      · obtain ⟨t, htk⟩ : ∃ t, ts[xs.length]? = some t := ⟨ts[xs.length]'(by rw [Ht.out]; exact hlt), List.getElem?_eq_getElem _⟩
        have e0 := (own_nw O1.out Nr.out).cellAt (xs.length + 1) (by omega)
        rw [show (cellsT (q0 :: ts))[xs.length + 1]? = some (.string ⟨t.toArray⟩) from by unfold cellsT; rw [List.getElem?_map, List.getElem?_cons_succ, htk]; rfl, Nat.add_comm] at e0
        have htm : t ∈ spl 32 s.data.toList := by rw [Sp.out]; exact List.mem_cons_of_mem _ (List.mem_of_getElem? htk)
        have hts : (⟨t.toArray⟩ : ByteArray).size ≤ 1048576 := by
          have h1 := spl_len htm
          have h2 : s.data.toList.length = s.size := Array.length_toList
          have h3 : (⟨t.toArray⟩ : ByteArray).size = t.length := List.size_toArray
          omega
        have P := Lib.hid (specSingle ⟨t.toArray⟩ hts wr)
        have Tk := Lib.hid htk
        clear htk htm hts
        go_wp2_with fail
        refine P.out.mono ?_
        rintro e w5 ⟨n5, ⟨r, hr, hsm, ht, rfl⟩ | ⟨hno, rfl⟩⟩
        · have N5 := Lib.hid (Nr.out.trans n5)
          have O5 := Lib.hid (own_nw Or.out n5)
          have K := Lib.hid (show TxS t r from ⟨hr, hsm, ht⟩)
          have hs5 := Lib.hid (show w1.heap.size + 1 ≤ w5.heap.size from by have := n5.size; have := hsz.out; omega)
          clear n5 hr hsm ht e0
          go_wp2_with (at_builtin; refine wpList_append_own _ rfl _ _ 35 rfl (w1.heap.size + 1) 25 f0 (.float .f32 0) 1 4 Tryz.underlying35 hf0 hfz0 hfz1 hfz2 rfl (by decide) _ _ _ rfl (O5.out.alloc _) ⟨w5.heap.size, 0, none⟩ 1 1 [.float .f32 r] rfl rfl ?c1 ?c2 ?c3 ?c4 ?c5 ?_)
          case c1 =>
            intro j u hj
            match j, hj with
            | 0, hj => simp at hj; subst hj; simp [Addr.add]
          case c2 => intro u hu; simp at hu; subst hu; rfl
          case c3 => unfold maxLen; omega
          case c4 => omega
          case c5 => have := hs5.out; simp; omega
          · intro v' w6 hown6 hgrow _
            have hrow : ∀ q, (Value.slice xa xl xc).ownBlock = some q → (w1.alloc (.cells #[.complex .f32 1073741824 0, .complex .f32 0 0] 93 (0, 0))).heap.size ≤ q := fun q hq => by have := own_ge O5.out q hq; simpa using this
            have N6 := Lib.hid (nwg (N5.out.alloc _) hgrow hrow)
            rw [show cellsS xs ++ [Value.float .f32 r] = cellsS (xs ++ [r]) from by simp [cellsS]] at hown6
            have O6 := Lib.hid hown6
            clear hown6 hgrow hrow
            go_wp2_with fail
            go_roundw
            case rel =>
              refine ⟨xs ++ [r], by rw [List.length_append, List.length_singleton, Ht.out]; omega, by rw [List.length_append, List.length_singleton, show ((xs.length + 1 : Nat) : Int) = (xs.length : Int) + 1 from by omega], ?_, by rw [List.length_append, List.length_singleton]; exact O6.out, N6.out⟩
              rw [List.length_append, List.length_singleton, List.take_add_one, Tk.out]
              exact Al.out.snoc K.out
            case measure => simp only [intOf]; omega
        · have N5 := Lib.hid (Nr.out.trans n5)
          have Hno := Lib.hid hno
          obtain ⟨d0, d1, d2, d3, d4⟩ := D.out.nw n5
          obtain ⟨m0, m1, m2, m3, m4⟩ := Bd.out.nw n5
          clear n5 hno e0
          go_wp2_with fail
          refine bodyPost_ret (v := .agg #[.complex .f32 1073741824 0, .complex .f32 0 0]) (by simp [results, Tryz.results79, go_sem, m0, m1, m2, m3, m4]) rfl
            ⟨((N1.out.trans N5.out).set (by show w.heap.size ≤ w.heap.size; omega) _).set (by show w.heap.size ≤ w.heap.size; omega) _, badM, badM_fin.1, badM_fin.2, fun m' h => ?_, rfl⟩
          obtain ⟨us, e, a⟩ := h
          rw [Sp.out] at e
          injection e with _ e
          subst e
          obtain ⟨y, -, hy⟩ := a.get Tk.out
          exact absurd hy.2.2 (Hno.out y hy.1 hy.2.1)
      · obtain ⟨a, b, c, d, rfl⟩ := four (show xs.length = 4 by omega)
        have hall : All2 TxS ts [a, b, c, d] := by
          have h := Al.out
          rw [List.take_of_length_le (by rw [Ht.out]; exact Nat.le_refl _)] at h
          exact h
        have All := Lib.hid hall
        clear hall hlt hk4
        obtain ⟨gx, hxa, hxl⟩ : ∃ gx, xa = some ⟨gx, 0, none⟩ ∧ xl = 4 := by
          rcases Or.out.2 with ⟨h0, h1⟩ | ⟨g, cap, cur, hv, hb, hg, hc, hm, -, -⟩
          · exact absurd h1 (by simp)
          · cases hv; exact ⟨g, rfl, rfl⟩
        subst hxa hxl
        have e0 : wr.cell? ⟨gx, 0, none⟩ = some (.float .f32 a) := Or.out.cellAt 0 (by simp)
        have e1 : wr.cell? ⟨gx, 1, none⟩ = some (.float .f32 b) := Or.out.cellAt 1 (by simp)
        have e2 : wr.cell? ⟨gx, 2, none⟩ = some (.float .f32 c) := Or.out.cellAt 2 (by simp)
        have e3 : wr.cell? ⟨gx, 3, none⟩ = some (.float .f32 d) := Or.out.cellAt 3 (by simp)
        go_upto_region 14 with fail
        refine wp_region_still_tail 15 (by kernel_rfl) (by kernel_rfl) ?_
        simp only [List.take_succ_cons, List.take_zero, List.drop_succ_cons, List.drop_zero]
        repeat still_step
        refine wpStill_nil ?_
        change wpList _ _ _ _ _ (wr.drewN 1)
        have N2 := Lib.hid ((N1.out.trans Nr.out).draw 1)
        obtain ⟨m0, m1, m2, m3, m4⟩ := Bd.out.draw 1
        clear e0 e1 e2 e3
        generalize wr.drewN 1 = w7 at *
        go_wp2_with fail
        refine bodyPost_ret (v := .agg #[.complex .f32 a b, .complex .f32 c d]) (by simp [results, Tryz.results79, go_sem, m0, m1, m2, m3, m4]) rfl
          ⟨(N2.out.set (by show w.heap.size ≤ w.heap.size; omega) _).set (by show w.heap.size ≤ w.heap.size; omega) _, ⟨a, b, c, d⟩, ?_, ?_, fun m' h => ?_, rfl⟩
        · obtain ⟨t1, t2, t3, t4, -, a1, a2, a3, a4⟩ := all2_four All.out
          exact ⟨a1.2.1, a2.2.1, a3.2.1, a4.2.1⟩
        · obtain ⟨t1, t2, t3, t4, -, a1, a2, a3, a4⟩ := all2_four All.out
          exact ⟨a1.1, a2.1, a3.1, a4.1⟩
        · obtain ⟨us, e, a2⟩ := h
          rw [Sp.out] at e
          injection e with _ e
          subst e
          have h5 := All2.right (R := TxS) (fun _ _ _ h k => txS_K.val h k) All.out a2
          obtain ⟨a', b', c', d'⟩ := m'
          simp at h5
          obtain ⟨rfl, rfl, rfl, rfl⟩ := h5
          rfl
  · have hq : ((qs.length : Int) == 5) = false := by simp; omega
    obtain ⟨d0, d1, d2, d3, d4⟩ := E1.out
    go_wp2_with fail
    refine bodyPost_ret (v := .agg #[.complex .f32 1073741824 0, .complex .f32 0 0]) (by simp [results, Tryz.results79, go_sem, m0, m1, m2, m3, m4]) rfl
      ⟨((N0.out.set (by show w.heap.size ≤ w.heap.size; omega) _).set (by show w.heap.size ≤ w.heap.size; omega) _).alloc _, badM, badM_fin.1, badM_fin.2, fun m' h => ?_, rfl⟩
    obtain ⟨ts, e, a⟩ := h
    rw [Sp.out] at e
    have := a.len
    simp at this
    rw [e] at h5
    simp [this] at h5
end Go.Proofs.YtnmjkjjmigiabaaGreatDoor

/- The model's ParseBody.
   Conditions: those that each statement names. -/
namespace Go.Proofs.YtnmjkjjmigiabaaGreatDoor
set_option linter.unusedSimpArgs false
set_option linter.unusedVariables false
open Go Go.RowKit

theorem step_append_mode {ops : Array Oper} {o : Oper} {a : Act} {w : World} {K : Act → World → Prop} {Q : Exit → Act → World → Prop} {E : Prop} (hg : o.guard = none) (s x : Operand)
    (hop : o.op = Op.call { callee := Callee.builtin Builtin.append, args := #[s, x], argTypes := #[36, 36] }) (base n h : Nat) (v : Value) (xs : List M4) (m : M4) (hs : a.eval s = v) (hx : a.eval x = .slice (some ⟨h, 0, none⟩) 1 1)
    (hv : w.ownsRow base 93 2 v n (cellsM xs)) (hc : w.cell? ⟨h, 0, none⟩ = some (.complex .f32 m.pr m.pi) ∧ w.cell? ⟨h, 1, none⟩ = some (.complex .f32 m.gr m.gi)) (hn : n ≤ 1048576) (hb : base ≤ w.heap.size)
    (hK : ∀ v' w', w'.ownsRow base 93 2 v' (n + 1) (cellsM (xs ++ [m])) → w.grownBy w' v.ownBlock → K (a.put o.dst v') w') :
    if Region.wanted o (yielded ops a.tmps) = true then Oper.wp Tryz.prog o a w K Q else E := by
  have hw : Region.wanted o (yielded ops a.tmps) = true := by simp [Region.wanted, hg]
  rw [if_pos hw]
  obtain ⟨i0, hi, hz0, hz1, hz2⟩ := info_parts info_mode
  refine wp_append_own w s x 36 hop base 93 i0 (.agg #[.complex .f32 0 0, .complex .f32 0 0]) 2 16 Tryz.underlying36 hi hz0 hz1 hz2 rfl (by decide) v n (cellsM xs) hs hv ⟨h, 0, none⟩ 1 1 m.cells hx rfl ?_ ?_ (by unfold maxLen; omega) (by omega) hb ?_
  · intro j z hj
    match j, hj with
    | 0, hj => simp [M4.cells] at hj; subst hj; simpa [Addr.add] using hc.1
    | 1, hj => simp [M4.cells] at hj; subst hj; simpa [Addr.add] using hc.2
  · intro u hu; simp [M4.cells] at hu; rcases hu with rfl | rfl <;> rfl
  · intro v' w' h1 h2 _
    rw [← cellsM_snoc] at h1
    exact hK v' w' h1 h2

def Rd1 (p : List UInt8) (m : M4) : Prop := (m.Fin ∧ m.bits) ∧ ∀ m', LineM p m' → m = m'
def PbI (ps : List (List UInt8)) (b : Nat) (w0 : World) (i : Value) (wr : World) : Prop :=
  ∃ (k : Nat) (ms : List M4) (v : Value), k ≤ ps.length ∧ i = .int .i64 (k : Int) ∧ ms.length = k ∧ All2 Rd1 (ps.take k) ms ∧ Has1 wr b v ∧ wr.ownsRow (b + 1) 93 2 v k (cellsM ms) ∧ Nw w0 wr

/-- what is read line by line is the body, if there is one -/
theorem rd1_good {l r : List UInt8} {ps : List (List UInt8)} {ms ns : List M4} (hsp : spl 10 l = ps ++ [r]) (h : All2 Rd1 ps ms) (g : GoodB l ns) : ms = ns := by
  obtain ⟨qs, h2, e⟩ := g.2.spl lineM_K
  rw [hsp] at e
  have e2 := (List.append_inj' e rfl).1
  subst e2
  exact go h h2
where
  go : ∀ {ps : List (List UInt8)} {ms ns : List M4}, All2 Rd1 ps ms → All2 LineM ps ns → ms = ns
  | [], [], [], _, _ => rfl
  | _ :: _, _ :: _, _ :: _, h, k => by rw [h.1.2 _ k.1, go h.2 k.2]
  | [], _ :: _, _, h, _ => h.elim
  | _ :: _, [], _, h, _ => h.elim
  | [], [], _ :: _, _, k => k.elim
  | _ :: _, _ :: _, [], _, k => k.elim

set_option maxHeartbeats 12800000 in
set_option maxRecDepth 100000 in
theorem specParseBody (s : ByteArray) (hs : s.size ≤ 1048576) (w : World) :
    Calls Tryz.prog 28 #[.string s] w (PbP s.data.toList w) := by
  have C := Lib.hid (l1Split_any 10 s hs)
  have B := Lib.hid (Has1.new w 38 (.slice none 0 0))
  go_enter Tryz.func28, Tryz.ntmps28
  go_wp2_with fail
  refine (C.out _).mono ?_
  rintro e w1 ⟨ps, r, v, rfl, hl, hps, hr, own, n1⟩
  have hsp : spl 10 s.data.toList = ps ++ [r] := by rw [hl, spl_glue hps, spl_none hr]
  obtain ⟨va, vc, rfl⟩ := own_shape' own
  have Sp := Lib.hid hsp
  have B1 := Lib.hid (B.out.nw n1)
  have hw1 : w.heap.size < w1.heap.size := (B.out.nw n1).1
  have E1 := Lib.hid (Has1.new w1 38 (.slice none 0 0))
  have N1 := Lib.hid (((Nw.refl w).alloc (.cells #[.slice none 0 0] 38 (0, 0))).trans n1)
  have O1 := Lib.hid own
  have hpl : ps.length ≤ 1048576 := by
    have h1 := spl_le 10 s.data.toList
    have h2 : s.data.toList.length = s.size := Array.length_toList
    rw [hsp] at h1
    simp at h1
    omega
  obtain ⟨g, hva, hcv⟩ : ∃ g, va = some ⟨g, 0, none⟩ ∧ ps.length + 1 ≤ vc ∧ vc ≤ maxLen := by
    rcases O1.out.2 with ⟨h0, h1⟩ | ⟨g, cap, cur, hv, hb, hg, hc, hm, -, -⟩
    · omega
    · cases hv; exact ⟨g, rfl, hc, hm⟩
  subst hva
  have hgw : g < w1.heap.size := (O1.out.lt g rfl).2
  unfold maxLen at hcv
  have hne : w.heap.size ≠ w1.heap.size := by omega
  clear hl hps hr own n1 hsp
  by_cases h17 : ps.length + 1 ≤ 17
  · have hi17 : ¬ ((17 : Int) < (ps.length : Int) + 1) := by omega
    obtain ⟨d0, d1, d2⟩ := E1.out
    go_wp2_with fail
    clear d0 d1 d2
    go_loopw [21] (fun i wr => PbI ps w1.heap.size w1 i wr) (fun i _ => ps.length - (intOf i).toNat)
    case atStart => exact ⟨0, [], _, by omega, rfl, rfl, trivial, E1.out, World.ownsRow_nil _ _ _ _, (Nw.refl w1).alloc _⟩
    case round =>
      obtain ⟨k, ms, v, hk, rfl, hmk, hal, hbx, hown, hN⟩ := hrel
      have Al := Lib.hid hal
      have Bx := Lib.hid hbx
      have Ow := Lib.hid hown
      have Nr := Lib.hid hN
      have Mk := Lib.hid hmk
      have hws := Lib.hid (show w1.heap.size < wr.heap.size from hbx.1)
      have R := Lib.hid (B1.out.nw hN)
      obtain ⟨sa, sl, sc, rfl⟩ := own_shape hown
      clear hal hbx hown hN hmk
      by_cases hlt : k < ps.length
      · obtain ⟨p, hpk⟩ : ∃ p, ps[k]? = some p := ⟨ps[k]'hlt, List.getElem?_eq_getElem _⟩
        have e0 := (own_nw O1.out Nr.out).cellAt k (by omega)
        rw [show (cellsT (ps ++ [r]))[k]? = some (.string ⟨p.toArray⟩) from by unfold cellsT; rw [List.getElem?_map, List.getElem?_append_left hlt, hpk]; rfl] at e0
        have hts : (⟨p.toArray⟩ : ByteArray).size ≤ 1048576 := by
          have h1 : p ∈ spl 10 s.data.toList := by rw [Sp.out]; exact List.mem_append_left _ (List.mem_of_getElem? hpk)
          have h1 := spl_len h1
          have h2 : s.data.toList.length = s.size := Array.length_toList
          have h3 : (⟨p.toArray⟩ : ByteArray).size = p.length := List.size_toArray
          omega
        have Pk := Lib.hid hpk
        clear hpk
        go_wp2_with fail
        go_upto_region 8 with fail
        have K1 := Lib.hid (l6Mode_ok ⟨p.toArray⟩ hts wr.drew)
        obtain ⟨d0, d1, d2⟩ := Bx.out
        clear e0 hts
        go_region_law (first
          | (go_simp
             go_at_call 79
             with_reducible refine K1.out.mono ?_
             rintro e w6 ⟨n6, m, hf6, hb6, hm6, rfl⟩
             have N6 := Lib.hid (((Nw.refl wr).draw 1).trans n6)
             have Ow6 := Lib.hid (own_nw Ow.out N6.out)
             have Bx6 := Lib.hid (Bx.out.nw N6.out)
             have Rm := Lib.hid (show Rd1 p m from ⟨⟨hf6, hb6⟩, hm6⟩)
             have hs6 := Lib.hid (show w1.heap.size < w6.heap.size from Bx6.out.1)
             obtain ⟨x0, x1, x2⟩ := Bx6.out
             clear n6 hf6 hb6 hm6)
          | (refine step_append_mode rfl (.tmp 26) (.tmp 29) rfl (w1.heap.size + 1) k w6.heap.size (.slice sa sl sc) ms m rfl rfl (Ow6.out.alloc _) ⟨by go_simp, by go_simp⟩ (by omega) (by have := hs6.out; simp; omega) ?_
             intro v7 w7 own7 gr7
             have hrow : ∀ q, (Value.slice sa sl sc).ownBlock = some q → w1.heap.size + 1 ≤ q := fun q hq => own_ge Ow6.out q hq
             have Bx7 := Lib.hid ((Bx6.out.alloc _).grown gr7 (fun e => by have := hrow _ e; omega))
             have N7 := Lib.hid (nwg ((Nr.out.trans N6.out).alloc _) gr7 (fun q hq => by have := hrow q hq; omega))
             have Ow7 := Lib.hid own7
             obtain ⟨ta, tl, tc, rfl⟩ := own_shape own7
             clear x0 x1 x2
             obtain ⟨x0, x1, x2⟩ := Bx7.out
             clear own7 gr7 hrow))
        all_goals
          go_wp2_with fail
          go_roundw
          case rel =>
            refine ⟨k + 1, ms ++ [m], _, by omega, by rw [show ((k + 1 : Nat) : Int) = (k : Int) + 1 from by omega], by rw [List.length_append, List.length_singleton, Mk.out], ?_, Bx7.out.put _, own_set Ow7.out (by show w1.heap.size < w1.heap.size + 1; omega) _, N7.out.set (by show w1.heap.size ≤ w1.heap.size; omega) _⟩
            rw [List.take_add_one, Pk.out]
            exact Al.out.snoc Rm.out
          case measure => simp only [intOf]; omega
      · have hkn : k = ps.length := by omega
        subst hkn
        obtain ⟨xa, xc, hv⟩ := own_shape' Ow.out
        cases hv
        have hall : All2 Rd1 ps ms := by
          have h := Al.out
          rw [List.take_of_length_le (Nat.le_refl _)] at h
          exact h
        have All := Lib.hid hall
        have hfin : ∀ m ∈ ms, m.Fin ∧ m.bits := fun m hm => by
          obtain ⟨p, hp⟩ := hall.memr m hm
          exact hp.1
        have Hf := Lib.hid hfin
        clear hall hfin
        obtain ⟨d0, d1, d2⟩ := Bx.out
        go_wp2_with fail
        refine (specIsBody_fin ms _ _ _ Mk.out (by omega) _ Ow.out).mono ?_
        rintro e w3 ⟨rfl, n3⟩
        have O3 := Lib.hid (own_nw Ow.out n3)
        have B3 := Lib.hid (Bx.out.nw n3)
        have R3 := Lib.hid (R.out.nw n3)
        have N3 := Lib.hid ((N1.out.trans Nr.out).trans n3)
        clear n3 d0 d1 d2
        obtain ⟨d0, d1, d2⟩ := B3.out
        obtain ⟨b0, b1, b2⟩ := R3.out
        cases hb : bodyB ms with
        | false =>
          go_wp2_with fail
          refine bodyPost_ret (v := .tuple #[.agg #[.slice none 0 0], .bool false]) (by simp [results, Tryz.results28, go_sem, b0, b1, b2]) rfl
            ⟨N3.out.set (by show w.heap.size ≤ w.heap.size; omega) _, .inr ⟨fun ns h => ?_, rfl⟩⟩
          have e := rd1_good Sp.out All.out h
          rw [e, h.1] at hb
          cases hb
        | true =>
          go_wp2_with fail
          refine (specFormatBody_ok ms Hf.out _ _ _ Mk.out hb _ O3.out).mono ?_
          rintro e w4 ⟨t, rfl, hT, htl, n4⟩
          have O4 := Lib.hid (own_nw O3.out n4)
          have B4 := Lib.hid (B3.out.nw n4)
          have R4 := Lib.hid (R3.out.nw n4)
          have N4 := Lib.hid (N3.out.trans n4)
          have T := Lib.hid hT
          clear n4 d0 d1 d2 b0 b1 b2 hT
          obtain ⟨d0, d1, d2⟩ := B4.out
          obtain ⟨b0, b1, b2⟩ := R4.out
          have hss : s = ⟨s.data.toList.toArray⟩ := rfl
          by_cases ht : t = s.data.toList
          · have g : (t == s.toList) = true := by rw [ByteArray.toList_eq]; simpa using ht
            have g2 : ((⟨t.toArray⟩ : ByteArray).toList == s.toList) = true := by rw [ByteArray.toList_eq, ByteArray.toList_eq]; simpa using ht
            have g3 : (t == s.data.toList) = true := by simpa using ht
            go_wp2_with fail
            exact bodyPost_ret (v := .tuple #[.agg #[.slice sa ps.length sc], .bool true]) (by simp [results, Tryz.results28, go_sem, b0, b1, b2]) rfl
              ⟨N4.out.set (by show w.heap.size ≤ w.heap.size; omega) _, .inl ⟨ms, _, ⟨hb, by rw [← ht]; exact T.out⟩, Hf.out, rfl, by rw [Mk.out]; exact own_base (own_set O4.out (by show w.heap.size < w1.heap.size + 1; omega) _) (by omega)⟩⟩
          · have g : (t == s.toList) = false := by rw [ByteArray.toList_eq]; simpa using ht
            have g2 : ((⟨t.toArray⟩ : ByteArray).toList == s.toList) = false := by rw [ByteArray.toList_eq, ByteArray.toList_eq]; simpa using ht
            have g3 : (t == s.data.toList) = false := by simpa using ht
            go_wp2_with fail
            refine bodyPost_ret (v := .tuple #[.agg #[.slice none 0 0], .bool false]) (by simp [results, Tryz.results28, go_sem, b0, b1, b2]) rfl
              ⟨N4.out.set (by show w.heap.size ≤ w.heap.size; omega) _, .inr ⟨fun ns h => ?_, rfl⟩⟩
            have e := rd1_good Sp.out All.out h
            have hT := T.out
            rw [e] at hT
            obtain ⟨p1, a1, e1⟩ := hT
            obtain ⟨p2, a2, e2⟩ := h.2
            apply ht
            rw [e1, e2, All2.left (R := LineM) (fun _ _ _ h k => LineT.txt txS_K h k) a1 a2]
  · have hi17 : ((17 : Int) < (ps.length : Int) + 1) := by omega
    obtain ⟨d0, d1, d2⟩ := E1.out
    obtain ⟨b0, b1, b2⟩ := B1.out
    go_wp2_with fail
    refine bodyPost_ret (v := .tuple #[.agg #[.slice none 0 0], .bool false]) (by simp [results, Tryz.results28, go_sem, b0, b1, b2]) rfl
      ⟨(N1.out.set (by show w.heap.size ≤ w.heap.size; omega) _).alloc _, .inr ⟨fun ns h => ?_, rfl⟩⟩
    obtain ⟨qs, h2, e⟩ := h.2.spl lineM_K
    rw [Sp.out] at e
    have e2 := (List.append_inj' e rfl).1
    subst e2
    have h3 := h2.len
    have h4 := ((bodyB_iff ns).1 h.1).1
    omega
end Go.Proofs.YtnmjkjjmigiabaaGreatDoor

/- impl.ParseWide; the model's FormatWide and ParseWide.
   Conditions: those that each statement names. -/
namespace Go.Proofs.YtnmjkjjmigiabaaGreatDoor
set_option linter.unusedSimpArgs false
set_option linter.unusedVariables false
open Go Go.RowKit

def PwP (l : List UInt8) (w : World) (e : Ending) (w' : World) : Prop :=
  Nw w w' ∧ ((∃ (ms : List W4) (v : Value), GoodW l ms ∧ e = .returned (.tuple #[v, .bool true]) ∧ w'.ownsRow w.heap.size 115 2 v ms.length (cellsW ms)) ∨
    ((∀ ms, ¬ GoodW l ms) ∧ e = .returned (.tuple #[.slice none 0 0, .bool false])))
set_option maxHeartbeats 3200000 in
set_option maxRecDepth 100000 in
theorem implParseWide (s : ByteArray) (hs : s.size ≤ 1048576) (w : World) (hL : LibW w) :
    Calls Tryz.prog 23 #[.string s] w (PwP s.data.toList w) := by
  have C := Lib.hid (readLinesW s hs)
  have L := Lib.hid hL
  clear hL
  go_enter Tryz.func23, Tryz.ntmps23
  go_wp2_with fail
  refine (C.out _ L.out).mono ?_
  rintro e w1 ⟨ms, r, v, rfl, hrd, own, n1⟩
  obtain ⟨va, vc, rfl⟩ := own_shape' own
  have Rd := Lib.hid hrd
  have O1 := Lib.hid own
  have N1 := Lib.hid n1
  have hfin : ∀ m ∈ ms, m.Fin ∧ m.bits := by
    obtain ⟨ps, h1, -⟩ := hrd
    intro m hm
    obtain ⟨p, hp⟩ := h1.memr m hm
    exact lineW_fin hp
  have Hf := Lib.hid hfin
  have h16 : ms.length ≤ 16 := by obtain ⟨ps, -, -, h, -⟩ := hrd; exact h
  clear hrd own n1 hfin
  by_cases hr : r = []
  · subst hr
    go_wp2_with fail
    refine (implAreWide_any ms (fun m hm => (Hf.out m hm).2) ms.length _ _ rfl (by omega) _ O1.out).mono ?_
    rintro e w3 ⟨rfl, n3⟩
    have O3 := Lib.hid (own_nw O1.out n3)
    have N3 := Lib.hid (N1.out.trans n3)
    clear n3
    cases hb : areB ms with
    | true =>
      go_wp2_with fail
      go_ret2
      exact ⟨N3.out, .inl ⟨ms, _, ⟨hb, Rd.out.done⟩, rfl, O3.out⟩⟩
    | false =>
      go_wp2_with fail
      go_ret2
      refine ⟨N3.out, .inr ⟨fun ns h => ?_, rfl⟩⟩
      have e := LinesT.val lineW_K Rd.out.done h.2
      rw [e, h.1] at hb
      cases hb
  · have hr0 : (r == []) = false := by simpa using hr
    go_wp2_with fail
    go_ret2
    refine ⟨N1.out, .inr ⟨fun ns h => ?_, rfl⟩⟩
    exact hr (Rd.out.rest lineW_K h.2 ((areB_iff ns).1 h.1).1)

/-! ### the model's text -/
def TextWI (ms : List W4) (n : Nat) (w : World) (o i : Value) (wr : World) : Prop :=
  ∃ (k : Nat) (l : List UInt8), k ≤ n ∧ i = .int .i64 (k : Int) ∧ o = .string ⟨l.toArray⟩ ∧ LinesT LineW (ms.take k) l ∧ l.length ≤ k * 300 ∧ Nw w wr
def TextWP (ms : List W4) (w : World) (e : Ending) (w' : World) : Prop :=
  ∃ l, e = .returned (.string ⟨l.toArray⟩) ∧ LinesT LineW ms l ∧ l.length ≤ 5000 ∧ Nw w w'
set_option maxRecDepth 100000 in
theorem specFormatWide_ok (ms : List W4) (hf : ∀ m ∈ ms, m.Fin ∧ m.bits) (n bm : Nat) (v : Value) (hn : ms.length = n) (hok : areB ms = true) (w : World) (hm : w.ownsRow bm 115 2 v n (cellsW ms)) :
    Calls Tryz.prog 27 #[v] w (TextWP ms w) := by
  obtain ⟨va, vc, rfl⟩ := own_shape' hm
  have hn16 : n ≤ 16 := by have := ((areB_iff ms).1 hok).1; omega
  have H := Lib.hid hm
  have Hf := Lib.hid hf
  have Hn := Lib.hid hn
  have Ho := Lib.hid hok
  clear hm hf hn hok
  go_enter Tryz.func27, Tryz.ntmps27
  go_wp2_with fail
  refine (specAreWide_any ms n bm _ Hn.out (by omega) _ H.out).mono ?_
  rintro e w0 ⟨rfl, n0⟩
  rw [Ho.out]
  have N0 := Lib.hid n0
  clear n0
  go_wp2_with fail
  go_loopw [3, 12] (fun o i wr => TextWI ms n w o i wr) (fun _ i _ => n - (intOf i).toNat)
  case atStart => exact ⟨0, [], by omega, rfl, rfl, ⟨[], trivial, rfl⟩, by simp, N0.out⟩
  case round =>
    obtain ⟨k, l, hk, rfl, rfl, hT, hl, hN⟩ := hrel
    have Nr := Lib.hid hN
    have T := Lib.hid hT
    clear hN hT
    by_cases hlt : k < n
    · obtain ⟨m, hmk⟩ : ∃ m, ms[k]? = some m := ⟨ms[k]'(by rw [Hn.out]; exact hlt), List.getElem?_eq_getElem _⟩
      obtain ⟨g, cap, hv, hcap, hmax, hgs, e1, e2⟩ := own_wide (own_nw H.out Nr.out) hmk Hn.out.symm
      cases hv
      unfold maxLen at hmax
      have Hm := Lib.hid (Hf.out m (List.mem_of_getElem? hmk))
      have Hk := Lib.hid hmk
      clear hmk
      have C := Lib.hid (fun w => l6Line_ok wWide (by decide) (by decide) m.a m.b m.c m.d ⟨Hm.out.2.1, Hm.out.1.1⟩ ⟨Hm.out.2.2.1, Hm.out.1.2.1⟩ ⟨Hm.out.2.2.2.1, Hm.out.1.2.2.1⟩ ⟨Hm.out.2.2.2.2, Hm.out.1.2.2.2⟩ w)
      go_wp2_with fail
      refine (C.out _).mono ?_
      rintro e w1 ⟨p, rfl, hp, hpl, n1⟩
      have N1 := Lib.hid n1
      have P := Lib.hid hp
      have hpl2 : p.length ≤ 248 := hpl
      clear n1 hp hpl
      go_wp2_with fail
      go_roundw
      case rel =>
        refine ⟨k + 1, l ++ (p ++ [10]), by omega, by rw [show ((k + 1 : Nat) : Int) = (k : Int) + 1 from by omega], rfl, ?_, by simp; omega, (Nr.out.alloc _).trans N1.out⟩
        obtain ⟨ps, h1, h2⟩ := T.out
        obtain ⟨hk', he⟩ := List.getElem?_eq_some_iff.1 Hk.out
        refine ⟨ps ++ [p], ?_, by rw [h2, glue_snoc]⟩
        rw [List.take_succ_eq_append_getElem hk', he]
        exact h1.snoc P.out
      case measure => simp only [intOf]; omega
    · obtain rfl : k = n := by omega
      go_wp2_with fail
      go_ret
      refine ⟨l, rfl, ?_, by omega, Nr.out⟩
      have h := T.out
      rw [List.take_of_length_le (by have := Hn.out; omega)] at h
      exact h

/-! ### the model's ParseWide -/
def Rd2 (p : List UInt8) (m : W4) : Prop := (m.Fin ∧ m.bits) ∧ ∀ m', LineW p m' → m = m'
def PwI (ps : List (List UInt8)) (B : Nat) (w0 : World) (v i : Value) (wr : World) : Prop :=
  ∃ (k : Nat) (ms : List W4), k ≤ ps.length ∧ i = .int .i64 (k : Int) ∧ ms.length = k ∧ All2 Rd2 (ps.take k) ms ∧ wr.ownsRow B 115 2 v k (cellsW ms) ∧ Nw w0 wr
theorem rd2_good {l r : List UInt8} {ps : List (List UInt8)} {ms ns : List W4} (hsp : spl 10 l = ps ++ [r]) (h : All2 Rd2 ps ms) (g : GoodW l ns) : ms = ns := by
  obtain ⟨qs, h2, e⟩ := g.2.spl lineW_K
  rw [hsp] at e
  have e2 := (List.append_inj' e rfl).1
  subst e2
  exact go h h2
where
  go : ∀ {ps : List (List UInt8)} {ms ns : List W4}, All2 Rd2 ps ms → All2 LineW ps ns → ms = ns
  | [], [], [], _, _ => rfl
  | _ :: _, _ :: _, _ :: _, h, k => by rw [h.1.2 _ k.1, go h.2 k.2]
  | [], _ :: _, _, h, _ => h.elim
  | _ :: _, [], _, h, _ => h.elim
  | [], [], _ :: _, _, k => k.elim
  | _ :: _, _ :: _, [], _, k => k.elim

set_option maxHeartbeats 12800000 in
set_option maxRecDepth 100000 in
theorem specParseWide (s : ByteArray) (hs : s.size ≤ 1048576) (w : World) :
    Calls Tryz.prog 32 #[.string s] w (PwP s.data.toList w) := by
  obtain ⟨i0, hi, hz0, hz1, hz2⟩ := info_parts info_wideV
  have C := Lib.hid (l1Split_any 10 s hs)
  go_enter Tryz.func32, Tryz.ntmps32
  go_wp2_with fail
  refine (C.out _).mono ?_
  rintro e w1 ⟨ps, r, v, rfl, hl, hps, hr, own, n1⟩
  have hsp : spl 10 s.data.toList = ps ++ [r] := by rw [hl, spl_glue hps, spl_none hr]
  obtain ⟨va, vc, rfl⟩ := own_shape' own
  have Sp := Lib.hid hsp
  have hw1 : w.heap.size ≤ w1.heap.size := n1.size
  have N1 := Lib.hid n1
  have O1 := Lib.hid own
  have hpl : ps.length ≤ 1048576 := by
    have h1 := spl_le 10 s.data.toList
    have h2 : s.data.toList.length = s.size := Array.length_toList
    rw [hsp] at h1
    simp at h1
    omega
  obtain ⟨g, hva, hcv⟩ : ∃ g, va = some ⟨g, 0, none⟩ ∧ ps.length + 1 ≤ vc ∧ vc ≤ maxLen := by
    rcases O1.out.2 with ⟨h0, h1⟩ | ⟨g, cap, cur, hv, hb, hg, hc, hm, -, -⟩
    · omega
    · cases hv; exact ⟨g, rfl, hc, hm⟩
  subst hva
  unfold maxLen at hcv
  have Z := Lib.hid (World.ownsRow_lit (base := w1.heap.size) (e := 115) (size := 2) w1 #[] 0 (Nat.le_refl _) (by decide) rfl)
  clear hl hps hr own n1 hsp
  by_cases h17 : ps.length + 1 ≤ 17
  · have hi17 : ¬ ((17 : Int) < (ps.length : Int) + 1) := by omega
    go_wp2_with fail
    go_loopw [5, 20] (fun v i wr => PwI ps w1.heap.size w1 v i wr) (fun _ i _ => ps.length - (intOf i).toNat)
    case atStart => exact ⟨0, [], by omega, rfl, rfl, trivial, by simpa [cellsW] using Z.out, (Nw.refl w1).alloc _⟩
    case round =>
      obtain ⟨k, ms, hk, rfl, hmk, hal, hown, hN⟩ := hrel
      have Al := Lib.hid hal
      have Ow := Lib.hid hown
      have Nr := Lib.hid hN
      have Mk := Lib.hid hmk
      obtain ⟨sa, sl, sc, rfl⟩ := own_shape hown
      clear hal hown hN hmk
      by_cases hlt : k < ps.length
      · obtain ⟨p, hpk⟩ : ∃ p, ps[k]? = some p := ⟨ps[k]'hlt, List.getElem?_eq_getElem _⟩
        have e0 := (own_nw O1.out Nr.out).cellAt k (by omega)
        rw [show (cellsT (ps ++ [r]))[k]? = some (.string ⟨p.toArray⟩) from by unfold cellsT; rw [List.getElem?_map, List.getElem?_append_left hlt, hpk]; rfl] at e0
        have hts : (⟨p.toArray⟩ : ByteArray).size ≤ 1048576 := by
          have h1 : p ∈ spl 10 s.data.toList := by rw [Sp.out]; exact List.mem_append_left _ (List.mem_of_getElem? hpk)
          have h1 := spl_len h1
          have h2 : s.data.toList.length = s.size := Array.length_toList
          have h3 : (⟨p.toArray⟩ : ByteArray).size = p.length := List.size_toArray
          omega
        have Pk := Lib.hid hpk
        clear hpk
        have K1 := Lib.hid (l6Wide_ok ⟨p.toArray⟩ hts wr)
        clear hts
        go_wp2_with fail
        refine K1.out.mono ?_
        rintro e w6 ⟨n6, m, hf6, hb6, hm6, rfl⟩
        have N6 := Lib.hid (Nr.out.trans n6)
        have Ow6 := Lib.hid (own_nw Ow.out n6)
        have Rm := Lib.hid (show Rd2 p m from ⟨⟨hf6, hb6⟩, hm6⟩)
        have hs6 := Lib.hid (show w1.heap.size ≤ w6.heap.size from N6.out.size)
        clear n6 hf6 hb6 hm6 e0
        go_wp2_with (at_builtin; refine wpList_append_own _ rfl _ _ 45 rfl w1.heap.size 115 i0 (.agg #[.complex .f64 0 0, .complex .f64 0 0]) 2 32 Tryz.underlying45 hi hz0 hz1 hz2 rfl (by decide) _ _ _ rfl (Ow6.out.alloc _) ⟨w6.heap.size, 0, none⟩ 1 1 [.complex .f64 m.a m.b, .complex .f64 m.c m.d] rfl rfl ?c1 ?c2 ?c3 ?c4 ?c5 ?_)
        case c1 =>
          intro j u hj
          match j, hj with
          | 0, hj => simp at hj; subst hj; simp [Addr.add]
          | 1, hj => simp at hj; subst hj; simp [Addr.add]
        case c2 => intro u hu; simp at hu; rcases hu with rfl | rfl <;> rfl
        case c3 => unfold maxLen; omega
        case c4 => omega
        case c5 => have := hs6.out; simp; omega
        · intro v' w7 own7 gr7 _
          have hrow : ∀ q, (Value.slice sa sl sc).ownBlock = some q → w1.heap.size ≤ q := fun q hq => own_ge Ow6.out q hq
          have N7 := Lib.hid (nwg (N6.out.alloc _) gr7 hrow)
          rw [show cellsW ms ++ [Value.complex .f64 m.a m.b, Value.complex .f64 m.c m.d] = cellsW (ms ++ [m]) from (cellsW_snoc ms m).symm] at own7
          have Ow7 := Lib.hid own7
          clear own7 gr7 hrow
          go_wp2_with fail
          go_roundw
          case rel =>
            refine ⟨k + 1, ms ++ [m], by omega, by rw [show ((k + 1 : Nat) : Int) = (k : Int) + 1 from by omega], by rw [List.length_append, List.length_singleton, Mk.out], ?_, Ow7.out, N7.out⟩
            rw [List.take_add_one, Pk.out]
            exact Al.out.snoc Rm.out
          case measure => simp only [intOf]; omega
      · have hkn : k = ps.length := by omega
        subst hkn
        obtain ⟨xa, xc, hv⟩ := own_shape' Ow.out
        cases hv
        have hall : All2 Rd2 ps ms := by
          have h := Al.out
          rw [List.take_of_length_le (Nat.le_refl _)] at h
          exact h
        have All := Lib.hid hall
        have hfin : ∀ m ∈ ms, m.Fin ∧ m.bits := fun m hm => by
          obtain ⟨p, hp⟩ := hall.memr m hm
          exact hp.1
        have Hf := Lib.hid hfin
        clear hall hfin
        go_wp2_with fail
        refine (specAreWide_any ms _ _ _ Mk.out (by omega) _ Ow.out).mono ?_
        rintro e w3 ⟨rfl, n3⟩
        have O3 := Lib.hid (own_nw Ow.out n3)
        have N3 := Lib.hid ((N1.out.trans Nr.out).trans n3)
        clear n3
        cases hb : areB ms with
        | false =>
          go_wp2_with fail
          go_ret2
          refine ⟨N3.out, .inr ⟨fun ns h => ?_, rfl⟩⟩
          have e := rd2_good Sp.out All.out h
          rw [e, h.1] at hb
          cases hb
        | true =>
          go_wp2_with fail
          refine (specFormatWide_ok ms Hf.out _ _ _ Mk.out hb _ O3.out).mono ?_
          rintro e w4 ⟨t, rfl, hT, htl, n4⟩
          have O4 := Lib.hid (own_nw O3.out n4)
          have N4 := Lib.hid (N3.out.trans n4)
          have T := Lib.hid hT
          clear n4 hT
          by_cases ht : t = s.data.toList
          · have g : (t == s.toList) = true := by rw [ByteArray.toList_eq]; simpa using ht
            have g2 : ((⟨t.toArray⟩ : ByteArray).toList == s.toList) = true := by rw [ByteArray.toList_eq, ByteArray.toList_eq]; simpa using ht
            have g3 : (t == s.data.toList) = true := by simpa using ht
            go_wp2_with fail
            go_ret2
            exact ⟨N4.out, .inl ⟨ms, _, ⟨hb, by rw [← ht]; exact T.out⟩, rfl, by rw [Mk.out]; exact own_base O4.out hw1⟩⟩
          · have g : (t == s.toList) = false := by rw [ByteArray.toList_eq]; simpa using ht
            have g2 : ((⟨t.toArray⟩ : ByteArray).toList == s.toList) = false := by rw [ByteArray.toList_eq, ByteArray.toList_eq]; simpa using ht
            have g3 : (t == s.data.toList) = false := by simpa using ht
            go_wp2_with fail
            go_ret2
            refine ⟨N4.out, .inr ⟨fun ns h => ?_, rfl⟩⟩
            have e := rd2_good Sp.out All.out h
            have hT := T.out
            rw [e] at hT
            obtain ⟨p1, a1, e1⟩ := hT
            obtain ⟨p2, a2, e2⟩ := h.2
            apply ht
            rw [e1, e2, All2.left (R := LineW) (fun _ _ _ h k => LineT.txt txD_K h k) a1 a2]
  · have hi17 : ((17 : Int) < (ps.length : Int) + 1) := by omega
    go_wp2_with fail
    go_ret2
    refine ⟨N1.out.alloc _, .inr ⟨fun ns h => ?_, rfl⟩⟩
    obtain ⟨qs, h2, e⟩ := h.2.spl lineW_K
    rw [Sp.out] at e
    have e2 := (List.append_inj' e rfl).1
    subst e2
    have h3 := h2.len
    have h4 := ((areB_iff ns).1 h.1).1
    omega
end Go.Proofs.YtnmjkjjmigiabaaGreatDoor

/- The law FnExactParseBody as a call.
   Conditions: those that each statement names. -/
namespace Go.Proofs.YtnmjkjjmigiabaaGreatDoor
set_option linter.unusedSimpArgs false
set_option linter.unusedVariables false
open Go Go.RowKit

/-- the answer: the body of these modes, or the empty one and false -/
def PbQ (ms : List M4) (b : Bool) (w : World) (e : Ending) (w' : World) : Prop :=
  ∃ v, e = .returned (.tuple #[.agg #[v], .bool b]) ∧ w'.ownsRow w.heap.size 93 2 v ms.length (cellsM ms) ∧ Nw w w'
theorem parseBody_both (s : ByteArray) (hs : s.size ≤ 1048576) : ∃ ms b, (∀ m ∈ ms, m.Fin) ∧ ms.length ≤ 16 ∧ (∀ w, Calls Tryz.prog 28 #[.string s] w (PbQ ms b w)) ∧ (∀ w, LibW w → Calls Tryz.prog 19 #[.string s] w (PbQ ms b w)) := by
  by_cases h : ∃ ms, GoodB s.data.toList ms
  · obtain ⟨ms, g⟩ := h
    have hf : ∀ m ∈ ms, m.Fin := fun m hm => by
      obtain ⟨ps, a, -⟩ := g.2
      obtain ⟨p, hp⟩ := a.memr m hm
      exact (lineM_fin hp).1
    have key : ∀ w e w', PbP s.data.toList w e w' → PbQ ms true w e w' := by
      rintro w e w' ⟨hn, ⟨ns, v, g2, -, rfl, own⟩ | ⟨hno, -⟩⟩
      · have e := LinesT.val lineM_K g2.2 g.2
        subst e
        exact ⟨v, rfl, own, hn⟩
      · exact absurd g (hno ms)
    exact ⟨ms, true, hf, ((bodyB_iff ms).1 g.1).1, fun w => (specParseBody s hs w).mono fun e w' h => key w e w' h, fun w hL => (implParseBody s hs w hL).mono fun e w' h => key w e w' h⟩
  · have hno : ∀ ms, ¬ GoodB s.data.toList ms := fun ms g => h ⟨ms, g⟩
    have key : ∀ w e w', PbP s.data.toList w e w' → PbQ [] false w e w' := by
      rintro w e w' ⟨hn, ⟨ns, v, g2, -⟩ | ⟨-, rfl⟩⟩
      · exact absurd g2 (hno ns)
      · exact ⟨_, rfl, World.ownsRow_nil _ _ _ _, hn⟩
    exact ⟨[], false, by simp, by simp, fun w => (specParseBody s hs w).mono fun e w' h => key w e w' h, fun w hL => (implParseBody s hs w hL).mono fun e w' h => key w e w' h⟩

theorem nw_gr {a w w' : World} {v : Value} {base : Nat} {E : TypeId} {size n : Nat} {xs : List Value} (h : Nw a w) (hg : w.grownBy w' v.ownBlock) (ho : w.ownsRow base E size v n xs) (hb : a.heap.size ≤ base) : Nw a w' :=
  nwg h hg (fun q hq => Nat.le_trans hb (own_ge ho q hq))
theorem own_gr {w w' : World} {v u : Value} {b1 b2 : Nat} {E F : TypeId} {s1 s2 n1 n2 : Nat} {xs ys : List Value} {W : World} (h0 : W.ownsRow b1 E s1 v n1 xs) (hb : W.heap.size ≤ b2) (h : w.ownsRow b1 E s1 v n1 xs) (h2 : w.ownsRow b2 F s2 u n2 ys) (hg : w.grownBy w' u.ownBlock) : w'.ownsRow b1 E s1 v n1 xs := by
  refine h.kept hg ?_
  cases hv : v.ownBlock with
  | none => exact .inl rfl
  | some q =>
    right
    intro e
    have a1 := (h0.lt q hv).2
    have a2 := own_ge h2 q e.symm
    omega

set_option maxHeartbeats 12800000 in
set_option maxRecDepth 100000 in
theorem law_parseBody (s : ByteArray) (w : World) (hL : LibW w) :
    Calls Tryz.prog 4 #[.string s] w fun e w' => e = .returned (.bool true) ∧ Nw w w' := by
  by_cases hs : s.size ≤ 1048576
  · obtain ⟨ms, b, hf, h16, k1, k2⟩ := parseBody_both s hs
    obtain ⟨n, hn⟩ : ∃ n, n = ms.length := ⟨_, rfl⟩
    unfold PbQ at k1 k2
    rw [← hn] at k1 k2 h16
    have Hn := Lib.hid hn.symm
    have Hf := Lib.hid hf
    have C1 := Lib.hid k1
    have C2 := Lib.hid k2
    have L := Lib.hid hL
    clear hn hf k1 k2 hL
    go_enter Tryz.func4, Tryz.ntmps4
    go_wp2_with fail
    refine (C1.out _).mono ?_
    rintro e w1 ⟨v0, rfl, own0, n1⟩
    obtain ⟨va, vc, rfl⟩ := own_shape' own0
    have B0 := Lib.hid (Has1.new w1 38 (.slice va n vc))
    have O1 := Lib.hid (own0.alloc (.cells #[.slice va n vc] 38 (0, 0)))
    have N1 := Lib.hid (n1.alloc (.cells #[.slice va n vc] 38 (0, 0)))
    have hs1 := Lib.hid (show w.heap.size ≤ w1.heap.size from n1.size)
    have hs1' := Lib.hid (show (w1.alloc (.cells #[.slice va n vc] 38 (0, 0))).heap.size = w1.heap.size + 1 from by simp)
    clear own0 n1
    go_wp2_with fail
    refine (C2.out _ (L.out.nw N1.out)).mono ?_
    rintro e w2 ⟨g0, rfl, own1, n2⟩
    rw [hs1'.out] at own1
    obtain ⟨ga, gc, rfl⟩ := own_shape' own1
    have B1 := Lib.hid ((B0.out.nw n2).alloc (.cells #[.slice ga n gc] 38 (0, 0)))
    have D1 := Lib.hid (Has1.new w2 38 (.slice ga n gc))
    have O2 := Lib.hid ((own_nw O1.out n2).alloc (.cells #[.slice ga n gc] 38 (0, 0)))
    have G2 := Lib.hid (own1.alloc (.cells #[.slice ga n gc] 38 (0, 0)))
    have N2 := Lib.hid ((N1.out.trans n2).alloc (.cells #[.slice ga n gc] 38 (0, 0)))
    have hs2 : w1.heap.size < w2.heap.size := by have := (B0.out.nw n2).1; omega
    have Gb := Lib.hid (fun q hq => (own1.lt q hq).2)
    clear own1 n2
    obtain ⟨x0, x1, x2⟩ := B1.out
    obtain ⟨y0, y1, y2⟩ := D1.out
    go_wp2_with fail
    refine (eqBody_ok ms Hf.out n _ _ (.slice ga n gc) (.slice va n vc) Hn.out (by omega) _ G2.out O2.out).mono ?_
    rintro e w3 ⟨rfl, n3⟩
    have B3 := Lib.hid (B1.out.nw n3)
    have D3 := Lib.hid (D1.out.nw n3)
    have O3 := Lib.hid (own_nw O2.out n3)
    have G3 := Lib.hid (own_nw G2.out n3)
    have N3 := Lib.hid (N2.out.trans n3)
    clear n3 x0 x1 x2 y0 y1 y2
    obtain ⟨x0, x1, x2⟩ := B3.out
    obtain ⟨y0, y1, y2⟩ := D3.out
    have h0 : ¬ (2 * (n : Int) + 1 < 0) := by omega
    go_wp2_with fail
    refine (markBody_ok ms n _ _ Hn.out h16 _ G3.out).mono ?_
    rintro e w4 ⟨rfl, g4, gr4⟩
    have hrow : ∀ q, (Value.slice ga n gc).ownBlock = some q → w1.heap.size + 1 ≤ q ∧ q < w2.heap.size := fun q hq => ⟨own_ge G3.out q hq, Gb.out q hq⟩
    have B4 := Lib.hid (B3.out.grown gr4 (fun e => by have := (hrow _ e).1; omega))
    have D4 := Lib.hid (D3.out.grown gr4 (fun e => by have := (hrow _ e).2; omega))
    have O4 := Lib.hid (own_gr O1.out (by rw [hs1'.out]; exact Nat.le_refl _) O3.out G3.out gr4)
    have G4 := Lib.hid g4
    have N4 := Lib.hid (nw_gr N3.out gr4 G3.out (by have := hs1.out; omega))
    clear g4 gr4 hrow x0 x1 x2 y0 y1 y2
    obtain ⟨x0, x1, x2⟩ := B4.out
    obtain ⟨y0, y1, y2⟩ := D4.out
    go_wp2_with fail
    refine (heldBody_ok ms n _ _ Hn.out h16 _ G4.out).mono ?_
    rintro e w5 ⟨rfl, n5⟩
    have B5 := Lib.hid (B4.out.nw n5)
    have D5 := Lib.hid (D4.out.nw n5)
    have O5 := Lib.hid (own_nw O4.out n5)
    have G5 := Lib.hid (own_nw G4.out n5)
    have N5 := Lib.hid (N4.out.trans n5)
    clear n5 x0 x1 x2 y0 y1 y2
    go_wp2_with fail
    refine (C2.out _ (L.out.nw N5.out)).mono ?_
    rintro e w6 ⟨h0', rfl, own6, n6⟩
    obtain ⟨ha, hc, rfl⟩ := own_shape' own6
    have B6 := Lib.hid ((B5.out.nw n6).alloc (.cells #[.slice ha n hc] 38 (0, 0)))
    have D6 := Lib.hid ((D5.out.nw n6).alloc (.cells #[.slice ha n hc] 38 (0, 0)))
    have E6 := Lib.hid (Has1.new w6 38 (.slice ha n hc))
    have O6 := Lib.hid ((own_nw O5.out n6).alloc (.cells #[.slice ha n hc] 38 (0, 0)))
    have G6 := Lib.hid ((own_nw G5.out n6).alloc (.cells #[.slice ha n hc] 38 (0, 0)))
    have H6 := Lib.hid (own6.alloc (.cells #[.slice ha n hc] 38 (0, 0)))
    have N6 := Lib.hid ((N5.out.trans n6).alloc (.cells #[.slice ha n hc] 38 (0, 0)))
    clear own6 n6
    obtain ⟨x0, x1, x2⟩ := B6.out
    obtain ⟨z0, z1, z2⟩ := E6.out
    go_wp2_with fail
    refine (eqBody_ok ms Hf.out n _ _ (.slice ha n hc) (.slice va n vc) Hn.out (by omega) _ H6.out O6.out).mono ?_
    rintro e w7 ⟨rfl, n7⟩
    have D7 := Lib.hid (D6.out.nw n7)
    have G7 := Lib.hid (own_nw G6.out n7)
    have N7 := Lib.hid (N6.out.trans n7)
    clear n7 x0 x1 x2 z0 z1 z2
    obtain ⟨y0, y1, y2⟩ := D7.out
    go_wp2_with fail
    refine (heldBody_ok ms n _ _ Hn.out h16 _ G7.out).mono ?_
    rintro e w8 ⟨rfl, n8⟩
    have N8 := Lib.hid (N7.out.trans n8)
    clear n8
    go_wp2_with fail
    go_ret
    exact ⟨rfl, N8.out⟩
  · have hs' : 1048576 < s.size := by omega
    clear hs hL
    go_enter Tryz.func4, Tryz.ntmps4
    go_wp2_with fail
    all_goals
      go_ret
      exact ⟨rfl, Nw.refl _⟩
end Go.Proofs.YtnmjkjjmigiabaaGreatDoor

/- The law FnExactParseWide as a call.
   Conditions: those that each statement names. -/
namespace Go.Proofs.YtnmjkjjmigiabaaGreatDoor
set_option linter.unusedSimpArgs false
set_option linter.unusedVariables false
open Go Go.RowKit

def PwQ (ms : List W4) (b : Bool) (w : World) (e : Ending) (w' : World) : Prop :=
  ∃ v, e = .returned (.tuple #[v, .bool b]) ∧ w'.ownsRow w.heap.size 115 2 v ms.length (cellsW ms) ∧ Nw w w'
theorem parseWide_both (s : ByteArray) (hs : s.size ≤ 1048576) : ∃ ms b, ms.length ≤ 16 ∧ (∀ w, Calls Tryz.prog 32 #[.string s] w (PwQ ms b w)) ∧ (∀ w, LibW w → Calls Tryz.prog 23 #[.string s] w (PwQ ms b w)) := by
  by_cases h : ∃ ms, GoodW s.data.toList ms
  · obtain ⟨ms, g⟩ := h
    have key : ∀ w e w', PwP s.data.toList w e w' → PwQ ms true w e w' := by
      rintro w e w' ⟨hn, ⟨ns, v, g2, rfl, own⟩ | ⟨hno, -⟩⟩
      · have e := LinesT.val lineW_K g2.2 g.2
        subst e
        exact ⟨v, rfl, own, hn⟩
      · exact absurd g (hno ms)
    exact ⟨ms, true, ((areB_iff ms).1 g.1).1, fun w => (specParseWide s hs w).mono fun e w' h => key w e w' h, fun w hL => (implParseWide s hs w hL).mono fun e w' h => key w e w' h⟩
  · have hno : ∀ ms, ¬ GoodW s.data.toList ms := fun ms g => h ⟨ms, g⟩
    have key : ∀ w e w', PwP s.data.toList w e w' → PwQ [] false w e w' := by
      rintro w e w' ⟨hn, ⟨ns, v, g2, -⟩ | ⟨-, rfl⟩⟩
      · exact absurd g2 (hno ns)
      · exact ⟨_, rfl, World.ownsRow_nil _ _ _ _, hn⟩
    exact ⟨[], false, by simp, fun w => (specParseWide s hs w).mono fun e w' h => key w e w' h, fun w hL => (implParseWide s hs w hL).mono fun e w' h => key w e w' h⟩

set_option maxHeartbeats 12800000 in
set_option maxRecDepth 100000 in
theorem law_parseWide (s : ByteArray) (w : World) (hL : LibW w) :
    Calls Tryz.prog 5 #[.string s] w fun e w' => e = .returned (.bool true) ∧ Nw w w' := by
  by_cases hs : s.size ≤ 1048576
  · obtain ⟨ms, b, h16, k1, k2⟩ := parseWide_both s hs
    obtain ⟨n, hn⟩ : ∃ n, n = ms.length := ⟨_, rfl⟩
    unfold PwQ at k1 k2
    rw [← hn] at k1 k2 h16
    have Hn := Lib.hid hn.symm
    have C1 := Lib.hid k1
    have C2 := Lib.hid k2
    have L := Lib.hid hL
    clear hn k1 k2 hL
    go_enter Tryz.func5, Tryz.ntmps5
    go_wp2_with fail
    refine (C1.out _).mono ?_
    rintro e w1 ⟨v0, rfl, own0, n1⟩
    obtain ⟨va, vc, rfl⟩ := own_shape' own0
    have O1 := Lib.hid own0
    have N1 := Lib.hid n1
    clear own0 n1
    go_wp2_with fail
    refine (C2.out _ (L.out.nw N1.out)).mono ?_
    rintro e w2 ⟨g0, rfl, own1, n2⟩
    obtain ⟨ga, gc, rfl⟩ := own_shape' own1
    have O2 := Lib.hid (own_nw O1.out n2)
    have G2 := Lib.hid own1
    have N2 := Lib.hid (N1.out.trans n2)
    clear own1 n2
    go_wp2_with fail
    refine (eqWideModeS_ok ms n _ _ (.slice ga n gc) (.slice va n vc) Hn.out (by omega) _ G2.out O2.out).mono ?_
    rintro e w3 ⟨rfl, n3⟩
    have O3 := Lib.hid (own_nw O2.out n3)
    have G3 := Lib.hid (own_nw G2.out n3)
    have N3 := Lib.hid (N2.out.trans n3)
    clear n3
    have h0 : ¬ (2 * (n : Int) + 1 < 0) := by omega
    go_wp2_with fail
    refine (markV_ok ms n _ _ Hn.out h16 _ G3.out).mono ?_
    rintro e w4 ⟨rfl, g4, gr4⟩
    have O4 := Lib.hid (own_gr O1.out (Nat.le_refl _) O3.out G3.out gr4)
    have G4 := Lib.hid g4
    have N4 := Lib.hid (nw_gr N3.out gr4 G3.out N1.out.size)
    clear g4 gr4
    go_wp2_with fail
    refine (heldV_ok ms n _ _ Hn.out h16 _ G4.out).mono ?_
    rintro e w5 ⟨rfl, n5⟩
    have O5 := Lib.hid (own_nw O4.out n5)
    have G5 := Lib.hid (own_nw G4.out n5)
    have N5 := Lib.hid (N4.out.trans n5)
    clear n5
    go_wp2_with fail
    refine (C2.out _ (L.out.nw N5.out)).mono ?_
    rintro e w6 ⟨h0', rfl, own6, n6⟩
    obtain ⟨ha, hc, rfl⟩ := own_shape' own6
    have O6 := Lib.hid (own_nw O5.out n6)
    have G6 := Lib.hid (own_nw G5.out n6)
    have H6 := Lib.hid own6
    have N6 := Lib.hid (N5.out.trans n6)
    clear own6 n6
    go_wp2_with fail
    refine (eqWideModeS_ok ms n _ _ (.slice ha n hc) (.slice va n vc) Hn.out (by omega) _ H6.out O6.out).mono ?_
    rintro e w7 ⟨rfl, n7⟩
    have G7 := Lib.hid (own_nw G6.out n7)
    have N7 := Lib.hid (N6.out.trans n7)
    clear n7
    go_wp2_with fail
    refine (heldV_ok ms n _ _ Hn.out h16 _ G7.out).mono ?_
    rintro e w8 ⟨rfl, n8⟩
    have N8 := Lib.hid (N7.out.trans n8)
    clear n8
    go_wp2_with fail
    go_ret
    exact ⟨rfl, N8.out⟩
  · have hs' : 1048576 < s.size := by omega
    clear hs hL
    go_enter Tryz.func5, Tryz.ntmps5
    go_wp2_with fail
    all_goals
      go_ret
      exact ⟨rfl, Nw.refl _⟩
end Go.Proofs.YtnmjkjjmigiabaaGreatDoor
