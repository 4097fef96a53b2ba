/- The walk of impl.OrderEvents over a score that is valid.
   Conditions: those that each statement names. -/
import Derived.Test.YtcodiiajmffdoaaScoF
import Derived.Test.YtcodiiajmffdoaaScoH
import Derived.Test.YtcodiiajmffdoaaScoS
namespace Go.Proofs.Ytcodiiajmffdoaa
open Go Go.RowKit Go.Sort

/-- the row v sorted in place -/
def SortV (base n : Nat) (v : Value) (ds : List Ev6) (w : World) (e : Ending) (w' : World) : Prop :=
  e = .returned (.tuple #[]) ∧ w'.ownsRow base 57 6 v n (cellsE ds) ∧ ∀ w0, Nw w0 w → w0.heap.size ≤ base → Nw w0 w'
theorem Nw.kp {g : Nat} {w0 w w' : World} (h : Nw w0 w) (k : Kp g w w') (hg : w0.heap.size ≤ g) : Nw w0 w' :=
  ⟨k.os.trans h.os, k.tape.trans h.tape, k.output.trans h.output, Nat.le_trans h.size k.size, fun i hi hne => (k.block i (Nat.lt_of_lt_of_le hi h.size) (fun e => by cases e; omega)).trans (h.block i hi hne)⟩
theorem ordE_nil : ordE [] = [] := List.eq_nil_of_length_eq_zero (by rw [ordE_len]; rfl)
theorem insertion_any (es : List Ev6) (base n : Nat) (v : Value) (hn : es.length = n) (hn2 : n ≤ 100) (w : World) (h : w.ownsRow base 57 6 v n (cellsE es)) :
    Calls Try.prog 119 #[v, .int .i64 0, .int .i64 (n : Int), .func (.func 76) #[] #[]] w (SortV base n v (ordE es) w) := by
  rcases h.2 with ⟨rfl, h0⟩ | ⟨g, cap, cur, rfl, hb, -⟩
  · subst h0
    have he : es = [] := List.eq_nil_of_length_eq_zero hn
    subst he
    refine (insertion_nil w _).mono ?_
    rintro e w' ⟨rfl, rfl⟩
    exact ⟨rfl, by rw [ordE_nil]; exact World.ownsRow_nil _ _ _ _, fun w0 h0 _ => h0⟩
  · refine (insertion_ok es base n g cap hn hn2 w h).mono ?_
    rintro e w' ⟨rfl, ho, hk⟩
    exact ⟨rfl, ho, fun w0 h0 hs => h0.kp hk (Nat.le_trans hs hb)⟩

theorem stable_any (es : List Ev6) (base n : Nat) (v : Value) (hn : es.length = n) (hn2 : n < 20) (w : World) (h : w.ownsRow base 57 6 v n (cellsE es)) :
    Calls Try.prog 109 #[v, .int .i64 (n : Int), .func (.func 76) #[] #[]] w (SortV base n v (ordE es) w) := by
  have hc := Lib.hid (insertion_any es base n v hn (by omega) w h)
  clear h
  go_enter Try.func109, Try.ntmps109
  go_wp2_with fail
  go_loopw [7, 8] (fun a b wr => a = .int .i64 0 ∧ b = .int .i64 20 ∧ wr = w) (fun _ _ _ => 0)
  case atStart => exact ⟨rfl, rfl, rfl⟩
  case round =>
    obtain ⟨rfl, rfl, rfl⟩ := hrel
    go_wp2_with fail
    refine hc.out.mono ?_
    rintro e w1 ⟨rfl, ho, hk⟩
    have Ho := Lib.hid (And.intro ho hk)
    clear ho hk
    go_wp2_with fail
    go_loopw [6] (fun a wr => a = .int .i64 20 ∧ wr = w1) (fun _ _ => 0)
    case atStart => exact ⟨rfl, rfl⟩
    case round =>
      obtain ⟨rfl, rfl⟩ := hrel
      go_wp2_with fail
      go_end0
      exact ⟨rfl, Ho.out.1, Ho.out.2⟩

theorem sortStable_any (es : List Ev6) (base n : Nat) (v : Value) (hn : es.length = n) (hn2 : n < 20) (w : World) (h : w.ownsRow base 57 6 v n (cellsE es)) :
    Calls Try.prog 75 #[v, .func (.func 76) #[] #[]] w (SortV base n v (ordE es) w) := by
  have hc := Lib.hid (stable_any es base n v hn hn2 w h)
  obtain ⟨a, c, rfl⟩ := own_shape' h
  clear h
  go_enter Try.func75, Try.ntmps75
  go_wp2_with fail
  refine hc.out.mono ?_
  rintro e w1 ⟨rfl, ho, hk⟩
  have Ho := Lib.hid (And.intro ho hk)
  clear ho hk
  go_wp2_with fail
  go_end0
  exact ⟨rfl, Ho.out.1, Ho.out.2⟩

def RowE (es : List Ev6) (w : World) (e : Ending) (w' : World) : Prop :=
  ∃ v : Value, e = .returned v ∧ w'.ownsRow w.heap.size 57 6 v es.length (cellsE es) ∧ Nw w w'
set_option maxRecDepth 100000 in
theorem clone_events (es : List Ev6) (n bm : Nat) (v : Value) (hn : es.length = n) (hn64 : n ≤ 64) (w : World)
    (hm : w.ownsRow bm 57 6 v n (cellsE es)) :
    Calls Try.prog 74 #[v] w (RowE es w) := by
  obtain ⟨va, vc, rfl⟩ := own_shape' hm
  have Hm := Lib.hid hm
  have Hn := Lib.hid hn
  clear hm hn
  go_enter Try.func74, Try.ntmps74
  have q0 : ∀ (w : World) (a : Option Addr) (n c n' c' : Nat), (binOp .eql 51 (.slice a n c) (.slice none n' c')).run Try.prog w = .ok (.bool a.isNone) w := fun w a n c n' c' => Lib.run_eql_slice_nil w _ _ a n c n' c' Try.underlying51
  obtain ⟨i0, hi, hz0, hz1, hz2⟩ := info_parts info_event
  rcases Hm.out.2 with ⟨h1, h2⟩ | ⟨g, cap, cur, h1, hb, hg, hc, hmx, hs, ht⟩
  · cases h1
    have hms : es = [] := List.eq_nil_of_length_eq_zero (by rw [Hn.out])
    subst hms
    go_wp2_with fail
    go_ret
    exact ⟨_, rfl, World.ownsRow_nil _ _ _ _, Nw.refl _⟩
  · cases h1
    have Hbel := Lib.hid ((Nw.refl w).alloc (.cells #[] 57 (0, 0)))
    clear hb hg hc hmx hs ht
    go_wp2_with (at_builtin; refine wpList_append_own _ rfl _ _ 51 rfl w.heap.size 57 i0 (.agg #[.int .i64 0, .int .i64 0, .int .i64 0, .int .i64 0, .int .i64 0, .float .f32 0]) 6 48 Try.underlying51 hi hz0 hz1 hz2 rfl (by decide) _ _ _ rfl (World.ownsRow_made w #[] 0 (Nat.le_refl _) (Nat.zero_le _) rfl) ⟨g, 0, none⟩ n vc (cellsE es) rfl ?qc1 ?qc2 ?qc3 ?qc4 ?qc5 ?qc6 ?_)
    case qc1 => rw [cellsE_len, Hn.out]
    case qc2 =>
      intro j u hj
      have hj' : j < n * 6 := by
        have := (List.getElem?_eq_some_iff.1 hj).1
        rw [cellsE_len, Hn.out] at this
        exact this
      have c1 := Hm.out.cellAt j hj'
      rw [hj] at c1
      rw [show (⟨g, 0, none⟩ : Addr).add j = ⟨g, j, none⟩ from by simp [Addr.add]; first | done | (intro h; omega)]
      exact Lib.cell?_alloc_some _ c1
    case qc3 => exact cellsE_one es
    case qc4 => unfold maxLen; omega
    case qc5 => omega
    case qc6 => simp
    · intro v' w1 hown hgrow hnil
      have Hown := Lib.hid hown
      have Hgr := Lib.hid (Hbel.out.grown hgrow (fun q hq => by simp [Value.ownBlock] at hq; omega))
      clear hown hgrow hnil
      go_wp2
      go_ret
      exact ⟨v', rfl, by have h := Hown.out; simpa [Hn.out] using h, Hgr.out⟩

/-! ### the score as an argument -/
structure ScoV (w : World) (base L V C R : Nat) (bs : List (List M4)) (es : List Ev6) (sv ev : Value) : Prop where
  hL : L ≤ 500
  hV : 1 ≤ V ∧ V ≤ 4
  hC : Sm C ∧ (FloatKind.f32.format.order C 0 == some .gt) = true
  hR : Rel R
  hb : bs.length ≤ 3
  he : es.length ≤ 13
  bok : ∀ ms ∈ bs, ms.length ≤ 4 ∧ ∀ m ∈ ms, m.ok
  eok : ∀ x ∈ es, x.ok L bs.length
  bods : BodsR w base sv bs
  evs : w.ownsRow base 57 6 ev es.length (cellsE es)
theorem ScoV.nw {w w' : World} {base L V C R : Nat} {bs : List (List M4)} {es : List Ev6} {sv ev : Value} (h : ScoV w base L V C R bs es sv ev) (hk : Nw w w') : ScoV w' base L V C R bs es sv ev :=
  ⟨h.hL, h.hV, h.hC, h.hR, h.hb, h.he, h.bok, h.eok, h.bods.nw hk, own_nw h.evs hk⟩
theorem ScoV.shape {w : World} {base L V C R : Nat} {bs : List (List M4)} {es : List Ev6} {sv ev : Value} (h : ScoV w base L V C R bs es sv ev) : (∃ a c, sv = .slice a bs.length c) ∧ ∃ a c, ev = .slice a es.length c := ⟨h.bods.shape, own_shape' h.evs⟩

set_option maxHeartbeats 1600000 in
theorem isScore_ok (base L V C R nb ne : Nat) (bs : List (List M4)) (es : List Ev6) (sv ev : Value) (w : World) (h : ScoV w base L V C R bs es sv ev) (hnb : nb = bs.length) (hne : ne = es.length) :
    Calls Try.prog 73 #[.agg #[.int .i64 (L : Int), .int .i64 (V : Int), .float .f32 C, .float .f32 R, sv, ev]] w (TestP true w) := by
  obtain ⟨⟨sa, sc, rfl⟩, ea, ec, rfl⟩ := h.shape
  rw [← hnb, ← hne] at h ⊢
  have hV := h.hV
  have H := Lib.hid h
  have Hn := Lib.hid (And.intro hnb hne)
  have hgc : (gt0 C && fin .f32 C) = true := by rw [Bool.and_eq_true]; exact ⟨h.hC.2, (fin_iff' .f32 C).2 h.hC.1⟩
  have hgr : ((ge0 R && le1 R) && !(R == 2147483648)) = true := by
    have h1 : ge0 R = true := h.hR.1.2.1
    have h2 : le1 R = true := h.hR.1.2.2
    have h3 := h.hR.2.2
    rw [h1, h2]; simpa using h3
  have N := Lib.hid ((Nw.refl w).alloc (.cells #[.int .i64 (L : Int), .int .i64 (V : Int), .float .f32 C, .float .f32 R, .slice sa nb sc, .slice ea ne ec] 53 (0, 0)))
  have X := Lib.hid (HasC.new w 53 (.int .i64 (L : Int)) (.int .i64 (V : Int)) (.float .f32 C) (.float .f32 R) (.slice sa nb sc) (.slice ea ne ec))
  clear h hnb hne
  go_enter Try.func73, Try.ntmps73
  go_wp2_with (first
    | (go_at_call 65; refine (isSteps_ok L (by have := H.out.hL; omega) _).mono ?_; rintro e w1 ⟨rfl, rfl⟩)
    | (go_at_call 70; refine (isCeiling_any _ _).mono ?_; rintro e w1 ⟨rfl, rfl⟩; rw [hgc])
    | (go_at_call 71; refine (isRelease_any _ H.out.hR.2.1 _).mono ?_; rintro e w1 ⟨rfl, rfl⟩; rw [hgr]))
  refine (areBodies_ok bs base nb _ _ Hn.out.1 (by have := H.out.hb; have := Hn.out.1; omega) (H.out.bods.nw N.out) H.out.bok).mono ?_
  rintro e w2 ⟨rfl, n2⟩
  have N2 := Lib.hid (N.out.trans n2)
  obtain ⟨⟨e0, g0⟩, ⟨e1, g1⟩, ⟨e2, g2⟩, ⟨e3, g3⟩, ⟨e4, g4⟩, ⟨e5, g5⟩⟩ := six_at (X.out.nw n2)
  clear n2
  go_wp2_with fail
  refine (areEvents_ok es L nb base ne (by have := H.out.hL; omega) _ _ Hn.out.2.symm (by have := H.out.he; have := Hn.out.2; omega) (by have h5 := own_nw H.out.evs N2.out; rwa [← Hn.out.2] at h5) (by have := H.out.eok; rw [← Hn.out.1] at this; exact this)).mono ?_
  rintro e w3 ⟨rfl, n3⟩
  have N3 := Lib.hid (N2.out.trans n3)
  clear n3
  go_wp2_with fail
  go_ret
  exact ⟨rfl, N3.out⟩

/-- the events in order, in memory of its own -/
theorem orderEvents_ok (base L V C R : Nat) (bs : List (List M4)) (es : List Ev6) (sv ev : Value) (w : World) (h : ScoV w base L V C R bs es sv ev) :
    Calls Try.prog 33 #[.agg #[.int .i64 (L : Int), .int .i64 (V : Int), .float .f32 C, .float .f32 R, sv, ev]] w (RowE (ordE es) w) := by
  obtain ⟨nb, hnb⟩ : ∃ nb, nb = bs.length := ⟨_, rfl⟩
  obtain ⟨ne, hne⟩ : ∃ ne, ne = es.length := ⟨_, rfl⟩
  obtain ⟨⟨sa, sc, rfl⟩, ea, ec, rfl⟩ := h.shape
  rw [← hnb, ← hne] at h ⊢
  have H := Lib.hid h
  have Hn := Lib.hid (And.intro hnb hne)
  have N := Lib.hid ((Nw.refl w).alloc (.cells #[.int .i64 (L : Int), .int .i64 (V : Int), .float .f32 C, .float .f32 R, .slice sa nb sc, .slice ea ne ec] 53 (0, 0)))
  have X := Lib.hid (HasC.new w 53 (.int .i64 (L : Int)) (.int .i64 (V : Int)) (.float .f32 C) (.float .f32 R) (.slice sa nb sc) (.slice ea ne ec))
  clear h hnb hne
  go_enter Try.func33, Try.ntmps33
  go_wp2_with fail
  refine (isScore_ok base L V C R nb ne bs es _ _ _ (H.out.nw N.out) Hn.out.1 Hn.out.2).mono ?_
  rintro e w2 ⟨rfl, n2⟩
  have N2 := Lib.hid (N.out.trans n2)
  obtain ⟨⟨e0, g0⟩, ⟨e1, g1⟩, ⟨e2, g2⟩, ⟨e3, g3⟩, ⟨e4, g4⟩, ⟨e5, g5⟩⟩ := six_at (X.out.nw n2)
  clear n2
  go_wp2_with fail
  have hne13 : ne ≤ 13 := by have := H.out.he; have := Hn.out.2; omega
  refine (clone_events es ne base _ Hn.out.2.symm (by omega) _ (by have := own_nw H.out.evs N2.out; rwa [← Hn.out.2] at this)).mono ?_
  rintro e w3 ⟨v3, rfl, o3, n3⟩
  have N3 := Lib.hid (N2.out.trans n3)
  rw [← Hn.out.2] at o3
  have O3 := Lib.hid o3
  have hs2 := N2.out.size
  clear n3 o3
  go_wp2_with fail
  refine (sortStable_any es w2.heap.size ne v3 Hn.out.2.symm (by omega) _ O3.out).mono ?_
  rintro e w4 ⟨rfl, o4, k4⟩
  have N4 := Lib.hid (k4 w N3.out hs2)
  have O4 := Lib.hid (own_base o4 hs2)
  clear o4 k4
  go_wp2_with fail
  go_ret
  exact ⟨_, rfl, by rw [ordE_len, ← Hn.out.2]; exact O4.out, N4.out⟩

end Go.Proofs.Ytcodiiajmffdoaa
