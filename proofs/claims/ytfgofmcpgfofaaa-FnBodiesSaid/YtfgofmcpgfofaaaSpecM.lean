/- The walk of the model's MergeBodies: it tells the same.
   Conditions: those that each statement names. -/
import Derived.Test.YtfgofmcpgfofaaaMergeB
import Derived.Deep.RegionLawGrows
namespace Go.Proofs.Ytfgofmcpgfofaaa
open Go Go.RowKit

/-- append of one own row of modes to another, as a step of a region that draws its order -/
theorem step_append_modes {ops : Array Oper} {o : Oper} {a : Act} {w : World} {K : Act → World → Prop} {Q : Exit → Act → World → Prop} {E : Prop} (hg : o.guard = none) (s x : Operand)
    (hop : o.op = Op.call { callee := Callee.builtin Builtin.append, args := #[s, x], argTypes := #[43, 43] }) (base b2 n m : Nat) (v u : Value) (xs ys : List M4) (hs : a.eval s = v) (hx : a.eval x = u)
    (hv : w.ownsRow base 38 2 v n (cellsM xs)) (hu : w.ownsRow b2 38 2 u m (cellsM ys)) (hy : ys.length = m) (hnm : n + m ≤ 1048576) (hb : base ≤ w.heap.size)
    (hK : ∀ v' w', w'.ownsRow base 38 2 v' (n + m) (cellsM (xs ++ ys)) → w.grownBy w' v.ownBlock → K (a.put o.dst v') w') :
    if Region.wanted o (yielded ops a.tmps) = true then Oper.wp Try.prog o a w K Q else E := by
  have hw : Region.wanted o (yielded ops a.tmps) = true := by simp [Region.wanted, hg]
  rw [if_pos hw]
  obtain ⟨i0, hi, hz0, hz1, hz2⟩ := info_parts info_mode
  rcases hu.2 with ⟨h1, h2⟩ | ⟨g, cap, cur, h1, hbk, hgk, hc, hmx, hsk, ht⟩
  · subst h1
    have hy0 : ys = [] := List.eq_nil_of_length_eq_zero (by omega)
    subst h2; subst hy0
    have hrun := run_append_owned_none (P := Try.prog) (w := w) base 43 o.type 38 i0 2 Try.underlying43 hi v n (cellsM xs) hv
    unfold Oper.wp
    simp [execOp, hop, resolve, invoke, builtin, hs, hx, hrun, Result.andThen]
    exact hK v w (by simpa using hv) (World.grownBy.refl _ _)
  · subst h1
    refine wp_append_own w s x 43 hop base 38 i0 (.agg #[.complex .f32 0 0, .complex .f32 0 0]) 2 16 Try.underlying43 hi hz0 hz1 hz2 rfl (by decide) v n (cellsM xs) hs hv ⟨g, 0, none⟩ m cap (cellsM ys) hx (by rw [cellsM_len, hy]) (fun j z hj => own_cell hu hy hj) (cells_one ys) (by unfold maxLen; omega) (by omega) hb ?_
    · intro v' w' h1 h2 _
      exact hK v' w' (by simpa [cellsM] using h1) h2

theorem own_none (w : World) : (w.alloc (.cells #[] 38 (0, 0))).ownsRow w.heap.size 38 2 (.slice (some ⟨w.heap.size, 0, none⟩) 0 0) 0 (cellsM []) :=
  World.ownsRow_made w #[] 0 (Nat.le_refl _) (Nat.zero_le _) rfl
theorem nw_alloc_drew (w : World) (o : Obj) : Nw w (w.alloc o).drew := ((Nw.refl w).alloc o).trans ⟨rfl, rfl, rfl, Nat.le_refl _, fun _ _ _ => rfl⟩

/-- the least place of an equal pole from place j on, told from above; N: none -/
def atI (out : List M4) (m : M4) (N : Nat) (w : World) (at_ k : Value) (wr : World) : Prop :=
  ∃ (j : Nat) (z : Int), j ≤ N ∧ k = .int .i64 ((j : Int) - 1) ∧ at_ = .int .i64 z ∧ (∃ q, wr = w.drewN q) ∧
    ((z = -1 ∧ ∀ i : Nat, j ≤ i → ∀ x, out[i]? = some x → poleEq x m = false) ∨
     (∃ q : Nat, z = (q : Int) ∧ j ≤ q ∧ q < N ∧ (∃ x, out[q]? = some x ∧ poleEq x m = true) ∧ ∀ i : Nat, j ≤ i → i < q → ∀ x, out[i]? = some x → poleEq x m = false))

theorem l2Add_calm (a b c d : Nat) (w : World) (h1 : Calm .add .f32 a c) (h2 : Calm .add .f32 b d) :
    Calls Try.prog 87 #[.complex .f32 a b, .complex .f32 c d] w fun e w' => e = .returned (.complex .f32 (opB .add .f32 a c) (opB .add .f32 b d)) ∧ w = w' := by
  have r1 := h1.res
  have d1 := h1.fdr
  have r2 := h2.res
  have d2 := h2.fdr
  go_enter Try.func87, Try.ntmps87
  go_wp2
  go_ret
  exact ⟨rfl, rfl⟩

theorem lit_cells (w : World) (x : M4) : ∀ (j : Nat) u, ([.complex .f32 x.pr x.pi, .complex .f32 x.gr x.gi] : List Value)[j]? = some u → (w.alloc (.cells #[.complex .f32 x.pr x.pi, .complex .f32 x.gr x.gi] 38 (0, 0))).cell? ((⟨w.heap.size, 0, none⟩ : Addr).add j) = some u := by
  intro j u hj
  match j, hj with
  | 0, hj => simp at hj; subst hj; simp [Addr.add]
  | 1, hj => simp at hj; subst hj; simp [Addr.add]
theorem lit_one (x : M4) : ∀ u ∈ ([.complex .f32 x.pr x.pi, .complex .f32 x.gr x.gi] : List Value), u.oneCell' = true := by
  intro u hu; simp at hu; rcases hu with rfl | rfl <;> rfl
def AllC (l : List M4) (N : Nat) (w0 w : World) (v : Value) (wx : World) : Prop :=
  ∃ (g : Option Addr) (c : Nat), v = .slice g N c ∧ wx.ownsRow w.heap.size 38 2 v N (cellsM l) ∧ Nw w wx

set_option maxRecDepth 100000 in
set_option maxHeartbeats 6400000 in
theorem specMerge_ok (a b : List M4) (ha : ∀ m ∈ a, m.ok) (hb : ∀ m ∈ b, m.ok) (n m ba bb : Nat) (va vb : Value) (hn : a.length = n) (hm : b.length = m) (hn16 : n ≤ 16) (hm16 : m ≤ 16) (w : World)
    (oa : w.ownsRow ba 38 2 va n (cellsM a)) (ob : w.ownsRow bb 38 2 vb m (cellsM b)) :
    Calls Try.prog 38 #[.agg #[va], .agg #[vb]] w (MergedP (mergeL (a ++ b)) w) := by
  obtain ⟨sa, sc, rfl⟩ := own_shape' oa
  obtain ⟨ta, tc, rfl⟩ := own_shape' ob
  have hl : ∀ x ∈ a ++ b, x.ok := fun x hx => (List.mem_append.1 hx).elim (ha x) (hb x)
  have Hl := Lib.hid hl
  have Hll := Lib.hid (show (a ++ b).length = n + m from by rw [List.length_append, hn, hm])
  obtain ⟨l, hl0⟩ : ∃ l, l = a ++ b := ⟨_, rfl⟩
  have Ha := Lib.hid (And.intro ha (And.intro hn oa))
  have Hb := Lib.hid (And.intro hb (And.intro hm ob))
  have Hl0 := Lib.hid hl0
  rw [← hl0] at Hl Hll ⊢
  have N0 := Lib.hid ((((Nw.refl w).alloc (.cells #[.slice sa n sc] 45 (0, 0))).alloc (.cells #[.slice ta m tc] 45 (0, 0))).alloc (.cells #[.slice none 0 0] 45 (0, 0)))
  have A0 := Lib.hid (((Has1.new w 45 (.slice sa n sc)).alloc (.cells #[.slice ta m tc] 45 (0, 0))).alloc (.cells #[.slice none 0 0] 45 (0, 0)))
  have B0 := Lib.hid ((Has1.new (w.alloc (.cells #[.slice sa n sc] 45 (0, 0))) 45 (.slice ta m tc)).alloc (.cells #[.slice none 0 0] 45 (0, 0)))
  have R0 := Lib.hid (Has1.new ((w.alloc (.cells #[.slice sa n sc] 45 (0, 0))).alloc (.cells #[.slice ta m tc] 45 (0, 0))) 45 (.slice none 0 0))
  rw [show (w.alloc (.cells #[.slice sa n sc] 45 (0, 0))).heap.size = w.heap.size + 1 from by simp] at B0
  rw [show ((w.alloc (.cells #[.slice sa n sc] 45 (0, 0))).alloc (.cells #[.slice ta m tc] 45 (0, 0))).heap.size = w.heap.size + 2 from by simp] at R0
  clear oa ob hn hm ha hb hl hl0
  go_enter Try.func38, Try.ntmps38
  obtain ⟨x0, x1, x2⟩ := A0.out
  obtain ⟨y0, y1, y2⟩ := B0.out
  go_wp2_with fail
  refine (specIsBody_fin a n ba _ Ha.out.2.1 (by omega) _ (own_nw Ha.out.2.2 N0.out)).mono ?_
  rintro e w1 ⟨rfl, n1⟩
  rw [(bodyB_iff a).2 ⟨by rw [Ha.out.2.1]; exact hn16, Ha.out.1⟩]
  have N1 := Lib.hid (N0.out.trans n1)
  have A1 := Lib.hid (A0.out.nw n1)
  have B1 := Lib.hid (B0.out.nw n1)
  have R1 := Lib.hid (R0.out.nw n1)
  clear n1 x0 x1 x2 y0 y1 y2
  obtain ⟨x0, x1, x2⟩ := A1.out
  obtain ⟨y0, y1, y2⟩ := B1.out
  go_wp2_with fail
  refine (specIsBody_fin b m bb _ Hb.out.2.1 (by omega) _ (own_nw Hb.out.2.2 N1.out)).mono ?_
  rintro e w2 ⟨rfl, n2⟩
  rw [(bodyB_iff b).2 ⟨by rw [Hb.out.2.1]; exact hm16, Hb.out.1⟩]
  have N2 := Lib.hid (N1.out.trans n2)
  have A2 := Lib.hid (A1.out.nw n2)
  have B2 := Lib.hid (B1.out.nw n2)
  have R2 := Lib.hid (R1.out.nw n2)
  have W2 := Lib.hid (show w.heap.size + 3 ≤ w2.heap.size from by have h1 := (R1.out.nw n2).1; omega)
  clear n2 x0 x1 x2 y0 y1 y2
  obtain ⟨x0, x1, x2⟩ := A2.out
  obtain ⟨y0, y1, y2⟩ := B2.out
  go_upto_region 3 with fail
  go_cut [6] (fun v wx => AllC l (n + m) w w2 v wx)
  case first =>
    go_region_law (first
      | (refine step_append_modes rfl (.tmp 21) (.tmp 23) rfl w2.heap.size ba 0 n _ _ [] a rfl rfl (own_none w2).drew (own_nw Ha.out.2.2 (N2.out.trans (nw_alloc_drew w2 _))) Ha.out.2.1 (by omega) (nw_alloc_drew w2 _).size ?_
         intro v7 w7 own7 gr7
         simp only [List.nil_append, Nat.zero_add] at own7
         obtain ⟨pa, pc, rfl⟩ := own_shape' own7
         have N7 := Lib.hid ((nw_alloc_drew w2 _).grown gr7 (fun q' hq => by cases hq; exact Nat.le_refl _))
         have O7 := Lib.hid own7
         obtain ⟨y0', y1', y2'⟩ := B2.out.nw N7.out
         clear own7 gr7)
      | (refine step_append_modes rfl (.tmp 24) (.tmp 26) rfl w2.heap.size bb n m _ _ a b rfl rfl O7.out (own_nw Hb.out.2.2 (N2.out.trans N7.out)) Hb.out.2.1 (by omega) N7.out.size ?_
         intro v8 w8 own8 gr8
         obtain ⟨qa, qc, rfl⟩ := own_shape' own8
         have N8 := Lib.hid (N7.out.grown gr8 (fun q' hq => (O7.out.lt q' hq).1))
         have O8 := Lib.hid own8
         clear own8 gr8))
    all_goals
      go_wp2_with fail
      go_meet
      exact ⟨qa, qc, rfl, by rw [Hl0.out]; exact O8.out, N8.out⟩
  case rest =>
    obtain ⟨la, lc, rfl, own4, n4⟩ := hcut
    have S4 := Lib.hid (show (wc.alloc (.cells #[.slice none 0 0] 45 (0, 0))).heap.size = wc.heap.size + 1 from by simp)
    have N4 := Lib.hid ((N2.out.trans n4).alloc (.cells #[.slice none 0 0] 45 (0, 0)))
    have R4 := Lib.hid ((R2.out.nw n4).alloc (.cells #[.slice none 0 0] 45 (0, 0)))
    have D4 := Lib.hid (Has1.new wc 45 (.slice none 0 0))
    have O4 := Lib.hid (own4.alloc (.cells #[.slice none 0 0] 45 (0, 0)))
    have Olt := Lib.hid (show ∀ q, (Value.slice la (n + m) lc).ownBlock = some q → q < wc.heap.size from fun q hq => (own4.lt q hq).2)
    have Wc := Lib.hid (show w.heap.size + 3 ≤ wc.heap.size from Nat.le_trans W2.out n4.size)
    clear own4 n4 x0 x1 x2 y0 y1 y2
    go_wp2_with fail
    go_loopw [31] (fun i wr => MbI l (n + m) (wc.heap.size + 1) 0 0 (w.heap.size + 2) wc.heap.size (.slice la (n + m) lc) w i wr) (fun i _ => (n + m) - (intOf i).toNat)
    case atStart => exact ⟨0, .slice none 0 0, by omega, rfl, D4.out, R4.out, by simpa [mergeL, cellsM] using World.ownsRow_nil _ _ _ _, own_base O4.out (Nat.zero_le _), N4.out, Nat.le_of_eq S4.out.symm⟩
    case round =>
      obtain ⟨k, cur, hk, rfl, hD, hR, hcur, hlr, hN, hsz4'⟩ := hrel
      obtain ⟨ua, uc, rfl⟩ := own_shape' hcur
      have Dr := Lib.hid hD
      have Rr := Lib.hid hR
      have Cr := Lib.hid hcur
      have Lr := Lib.hid hlr
      have Nr := Lib.hid hN
      clear hD hR hcur hlr hN
      have hsz4 := Lib.hid hsz4'
      by_cases hlt : k < n + m
      · obtain ⟨x, hxk⟩ : ∃ x, l[k]? = some x := ⟨l[k]'(by rw [Hll.out]; exact hlt), List.getElem?_eq_getElem _⟩
        obtain ⟨g, cap, hv, hcap, hmax, hgs, e1, e2⟩ := own_mode Lr.out hxk Hll.out.symm
        cases hv
        unfold maxLen at hmax
        have Hxk := Lib.hid hxk
        clear hxk
        have hml := mergeL_len l k (by rw [Hll.out]; omega)
        obtain ⟨out, hout⟩ : ∃ out, out = mergeL (l.take k) := ⟨_, rfl⟩
        obtain ⟨q, hq⟩ : ∃ q, q = out.length := ⟨_, rfl⟩
        rw [← hout] at Cr hml Dr
        rw [← hq] at Cr hml Dr
        have Hout := Lib.hid (And.intro hout hq)
        have NA := Lib.hid (Nr.out.alloc (.cells #[.complex .f32 x.pr x.pi, .complex .f32 x.gr x.gi] 38 (0, 0)))
        have CA := Lib.hid (Cr.out.alloc (.cells #[.complex .f32 x.pr x.pi, .complex .f32 x.gr x.gi] 38 (0, 0)))
        have DA := Lib.hid (Dr.out.alloc (.cells #[.complex .f32 x.pr x.pi, .complex .f32 x.gr x.gi] 38 (0, 0)))
        have RA := Lib.hid (Rr.out.alloc (.cells #[.complex .f32 x.pr x.pi, .complex .f32 x.gr x.gi] 38 (0, 0)))
        have LA := Lib.hid (Lr.out.alloc (.cells #[.complex .f32 x.pr x.pi, .complex .f32 x.gr x.gi] 38 (0, 0)))
        have MA := Lib.hid (HasMode.new wr 38 x.pr x.pi x.gr x.gi)
        have sA := Lib.hid (show wc.heap.size + 1 ≤ (wr.alloc (.cells #[.complex .f32 x.pr x.pi, .complex .f32 x.gr x.gi] 38 (0, 0))).heap.size from by simp; omega)
        obtain ⟨d0, d1, d2⟩ := DA.out
        obtain ⟨m0, m1, m2, m3, m4⟩ := MA.out
        clear hout hq
        go_wp2_with fail
        generalize wr.alloc (.cells #[.complex .f32 x.pr x.pi, .complex .f32 x.gr x.gi] 38 (0, 0)) = wA at *
        generalize wr.heap.size = bm at *
        clear d0 d1 d2 m0 m1 m2 m3 m4 e1 e2
        go_loopw [10, 11] (fun z kk wx => atI out x q wA z kk wx) (fun _ kk _ => (intOf kk + 1).toNat)
        case atStart => exact ⟨q, -1, Nat.le_refl _, rfl, rfl, ⟨0, rfl⟩, .inl ⟨rfl, fun i hi y hy => by have := (List.getElem?_eq_some_iff.1 hy).1; have := Hout.out.2; omega⟩⟩
        case round =>
          obtain ⟨j, z, hj, rfl, rfl, ⟨nd, rfl⟩, hat⟩ := hrel
          have Hat := Lib.hid hat
          clear hat
          have Db := Lib.hid (DA.out.draw nd)
          have Mb := Lib.hid (MA.out.draw nd)
          have Cb := Lib.hid (own_nw CA.out ((Nw.refl wA).draw nd))
          by_cases hj0 : 1 ≤ j
          · obtain ⟨d0, d1, d2⟩ := DA.out
            obtain ⟨m0, m1, m2, m3, m4⟩ := MA.out
            obtain ⟨i, rfl⟩ : ∃ i, j = i + 1 := ⟨j - 1, by omega⟩
            rw [show (((i + 1 : Nat) : Int) - 1) = (i : Int) from by omega]
            obtain ⟨y, hyk⟩ : ∃ y, out[i]? = some y := ⟨out[i]'(by have := Hout.out.2; omega), List.getElem?_eq_getElem _⟩
            obtain ⟨g2, cap2, hv2, hcap2, hmax2, hgs2, f1, f2⟩ := own_mode CA.out hyk Hout.out.2
            cases hv2
            unfold maxLen at hmax2
            have Hyk := Lib.hid hyk
            clear hyk
            cases hpe : poleEq y x with
            | false =>
              have hb0 := hpe
              unfold poleEq eqB at hb0
              go_wp2_with fail
              go_quiet (fail)
              go_wp2_with fail
              go_roundw
              case rel =>
                refine ⟨i, z, by omega, rfl, rfl, ⟨nd + nq, by first | rfl | rw [World.drewN_drewN]⟩, ?_⟩
                rcases Hat.out with ⟨h1, h2⟩ | ⟨p, h1, h2, h3, h4, h5⟩
                · refine .inl ⟨h1, fun i' hi y' hy => ?_⟩
                  by_cases hii : i + 1 ≤ i'
                  · exact h2 i' hii y' hy
                  · obtain rfl : i' = i := by omega
                    rw [Hyk.out] at hy; cases hy; exact hpe
                · refine .inr ⟨p, h1, by omega, h3, h4, fun i' hi hip y' hy => ?_⟩
                  by_cases hii : i + 1 ≤ i'
                  · exact h5 i' hii hip y' hy
                  · obtain rfl : i' = i := by omega
                    rw [Hyk.out] at hy; cases hy; exact hpe
              case measure => simp only [intOf]; omega
            | true =>
              have hb0 := hpe
              unfold poleEq eqB at hb0
              go_wp2_with fail
              go_quiet (fail)
              go_wp2_with fail
              go_roundw
              case rel => exact ⟨i, (i : Int), by omega, rfl, rfl, ⟨nd + nq, by first | rfl | rw [World.drewN_drewN]⟩, .inr ⟨i, rfl, Nat.le_refl _, by have := (List.getElem?_eq_some_iff.1 Hyk.out).1; have := Hout.out.2; omega, ⟨y, Hyk.out, hpe⟩, fun i' h1 h2 => by omega⟩⟩
              case measure => simp only [intOf]; omega
          · obtain rfl : j = 0 := by omega
            have Lb := Lib.hid (own_nw LA.out ((Nw.refl wA).draw nd))
            have Nb := Lib.hid (NA.out.draw nd)
            have Rb := Lib.hid (RA.out.draw nd)
            have sb := Lib.hid (show wc.heap.size + 1 ≤ (wA.drewN nd).heap.size from sA.out)
            generalize wA.drewN nd = wB at *
            obtain ⟨d0, d1, d2⟩ := Db.out
            obtain ⟨m0, m1, m2, m3, m4⟩ := Mb.out
            have hge : ∀ q', (Value.slice ua q uc).ownBlock = some q' → wc.heap.size + 1 ≤ q' := fun q' hq => (Cb.out.lt q' hq).1
            have hWc := Wc.out
            rcases Hat.out with ⟨rfl, hnone⟩ | ⟨p, rfl, h2, h3, ⟨y, hy, hpe⟩, h5⟩
            · have Hput := Lib.hid (put1_none out x (fun j' hj' y' hy' => hnone j' (Nat.zero_le _) y' hy'))
              clear hnone
              obtain ⟨i0, hi, hz0, hz1, hz2⟩ := info_parts info_mode
              go_wp2_with (at_builtin; refine wpList_append_own _ rfl _ _ 43 rfl (wc.heap.size + 1) 38 i0 (.agg #[.complex .f32 0 0, .complex .f32 0 0]) 2 16 Try.underlying43 hi hz0 hz1 hz2 rfl (by decide) _ _ _ rfl (Cb.out.alloc _) ⟨wB.heap.size, 0, none⟩ 1 1 [.complex .f32 x.pr x.pi, .complex .f32 x.gr x.gi] rfl rfl (lit_cells wB x) (lit_one x) ?c3 ?c4 ?c5 ?_)
              case c3 => unfold maxLen; omega
              case c4 => omega
              case c5 => have := sb.out; simp; omega
              · intro v' w4 hown4 hgrow _
                obtain ⟨pa, pc, rfl⟩ := own_shape' hown4
                have gr0 := (World.grownBy_alloc wB (.cells #[.complex .f32 x.pr x.pi, .complex .f32 x.gr x.gi] 38 (0, 0)) (Value.slice ua q uc).ownBlock).trans' hgrow
                have D5 := Lib.hid (Db.out.grown gr0 (fun e => by have := hge _ e; omega))
                have R5 := Lib.hid (Rb.out.grown gr0 (fun e => by have := hge _ e; omega))
                have L5 := Lib.hid (Lb.out.kept gr0 (.inr (fun e => by have := Olt.out _ rfl; have := hge _ e.symm; omega)))
                have N5 := Lib.hid (Nb.out.grown gr0 (fun q' hq => by have := hge q' hq; omega))
                have s5 := Lib.hid (Nat.le_trans sb.out gr0.size)
                have C5 := Lib.hid (show w4.ownsRow (wc.heap.size + 1) 38 2 (.slice pa (q + 1) pc) (mergeL (l.take (k + 1))).length (cellsM (mergeL (l.take (k + 1)))) from by
                  rw [mergeL_take l k x Hxk.out, ← Hout.out.1, Hput.out]
                  simpa [cellsM, M4.cells, ← Hout.out.2] using hown4)
                clear hown4 hgrow gr0 d0 d1 d2 m0 m1 m2 m3 m4
                obtain ⟨d0, d1, d2⟩ := D5.out
                go_wp2_with fail
                go_roundw
                case rel =>
                  refine ⟨k + 1, _, by omega, by rw [show ((k + 1 : Nat) : Int) = (k : Int) + 1 from by omega], D5.out.put _, R5.out.set (by show wc.heap.size ≠ w.heap.size + 2; omega) _, own_set C5.out (by show wc.heap.size < wc.heap.size + 1; omega) _, ?_, N5.out.set (by show w.heap.size ≤ wc.heap.size; omega) _, ?_⟩
                  · exact L5.out.kept (grownBy_set _ _ _) (.inr (fun e => by have := Olt.out _ e; simp at this))
                  · have := s5.out
                    simpa [World.setCell] using this
                case measure => simp only [intOf]; omega
            · have Hput := Lib.hid (put1_hit out x p y hy hpe (fun j' hj' y' hy' => h5 j' (Nat.zero_le _) hj' y' hy'))
              obtain ⟨g2, cap2, hv2, hcap2, hmax2, hgs2, f1, f2⟩ := own_mode Cb.out hy Hout.out.2
              cases hv2
              unfold maxLen at hmax2
              have hcc := merge_calm l Hl.out k x Hxk.out (by omega) y (by rw [← Hout.out.1]; exact List.mem_of_getElem? hy)
              have Hy := Lib.hid (And.intro hy hpe)
              have hp0 : ¬ ((p : Int) < 0) := by omega
              clear hy hpe h5
              go_upto_region 16 with fail
              refine wp_region_still_tail 12 (by kernel_rfl) (by kernel_rfl) ?_
              simp only [List.take_succ_cons, List.take_zero, List.drop_succ_cons, List.drop_zero]
              repeat still_step
              still_call ((l2Add_calm _ _ _ _ _ hcc.1 hcc.2).mono fun _ _ h => ⟨h.1, h.2.symm⟩)
              repeat still_step
              refine wpStill_nil ?_
              change wpList _ _ _ _ _ (wB.drewN 1)
              have G1 := Lib.hid (own_nw Cb.out ((Nw.refl wB).draw 1))
              have D3 := Lib.hid (Db.out.draw 1)
              have R3 := Lib.hid (Rb.out.draw 1)
              have L3 := Lib.hid (own_nw Lb.out ((Nw.refl wB).draw 1))
              have N3 := Lib.hid (Nb.out.draw 1)
              have s3 := Lib.hid (show wc.heap.size + 1 ≤ (wB.drewN 1).heap.size from sb.out)
              clear f1 f2 d0 d1 d2 m0 m1 m2 m3 m4
              generalize wB.drewN 1 = w5 at *
              have e3 := G1.out.cellAt (p * 2 + 1) (by omega)
              have hc2 := (cellsM_at out p y Hy.out.1).2
              rw [Nat.mul_comm] at hc2
              rw [hc2] at e3
              have e4 := G1.out.frozenAt (p * 2 + 1)
              have hset := G1.out.stored (p * 2 + 1) (.complex .f32 (addG y x).gr (addG y x).gi)
              rw [cellsM_setG out p y (addG y x) Hy.out.1 ⟨rfl, rfl⟩, ← Hput.out] at hset
              have hgb : wc.heap.size + 1 ≤ g2 := hge g2 rfl
              have D6 := Lib.hid (D3.out.set (p := ⟨g2, p * 2 + 1, none⟩) (by show g2 ≠ wc.heap.size; omega) (.complex .f32 (addG y x).gr (addG y x).gi))
              have R6 := Lib.hid (R3.out.set (p := ⟨g2, p * 2 + 1, none⟩) (by show g2 ≠ w.heap.size + 2; omega) (.complex .f32 (addG y x).gr (addG y x).gi))
              have L6 := Lib.hid (L3.out.kept (grownBy_set w5 ⟨g2, p * 2 + 1, none⟩ (.complex .f32 (addG y x).gr (addG y x).gi)) (.inr (fun e => by have := Olt.out _ e; simp at this; omega)))
              have N6 := Lib.hid (N3.out.set (p := ⟨g2, p * 2 + 1, none⟩) (by show w.heap.size ≤ g2; omega) (.complex .f32 (addG y x).gr (addG y x).gi))
              have C6 := Lib.hid (show (w5.setCell ⟨g2, p * 2 + 1, none⟩ (.complex .f32 (addG y x).gr (addG y x).gi)).ownsRow (wc.heap.size + 1) 38 2 (.slice (some ⟨g2, 0, none⟩) q uc) (mergeL (l.take (k + 1))).length (cellsM (mergeL (l.take (k + 1)))) from by
                rw [mergeL_take l k x Hxk.out, ← Hout.out.1, show (put1 out x).length = q from by rw [Hput.out, List.length_set, Hout.out.2]]
                exact hset.1)
              clear hset hc2
              go_wp2_with fail
              go_roundw
              case rel =>
                refine ⟨k + 1, _, by omega, by rw [show ((k + 1 : Nat) : Int) = (k : Int) + 1 from by omega], D6.out, R6.out, C6.out, L6.out, N6.out, ?_⟩
                have := s3.out
                simpa [World.setCell] using this
              case measure => simp only [intOf]; omega
      · obtain rfl : k = n + m := by omega
        have hml := mergeL_len l (n + m) (by rw [Hll.out]; exact Nat.le_refl _)
        have hall : l.take (n + m) = l := List.take_of_length_le (by rw [Hll.out]; exact Nat.le_refl _)
        rw [hall] at Cr hml Dr
        obtain ⟨d0, d1, d2⟩ := Dr.out
        obtain ⟨r0, r1, r2⟩ := Rr.out
        go_wp2_with fail
        refine (specIsBody_fin (mergeL l) _ _ _ rfl (by omega) _ Cr.out).mono ?_
        rintro e w6 ⟨rfl, n6⟩
        have C6 := Lib.hid (own_nw Cr.out n6)
        have D6 := Lib.hid (Dr.out.nw n6)
        have R6 := Lib.hid (Rr.out.nw n6)
        have N6 := Lib.hid (Nr.out.trans n6)
        have hWc := Wc.out
        clear n6 d0 d1 d2 r0 r1 r2
        obtain ⟨d0, d1, d2⟩ := D6.out
        obtain ⟨r0, r1, r2⟩ := R6.out
        cases hbo : bodyB (mergeL l) with
        | true =>
          go_wp2_with fail
          exact bodyPost_ret (v := .tuple #[.agg #[.slice ua (mergeL l).length uc], .bool true]) (by simp [results, Try.results38, go_sem, r0, r1, r2]) rfl ⟨_, by rw [hbo], by rw [hbo]; simp only [if_true]; exact own_base (own_set C6.out (by show w.heap.size + 2 < wc.heap.size + 1; omega) _) (by omega), N6.out.set (by show w.heap.size ≤ w.heap.size + 2; omega) _⟩
        | false =>
          go_wp2_with fail
          exact bodyPost_ret (v := .tuple #[.agg #[.slice none 0 0], .bool false]) (by simp [results, Try.results38, go_sem, r0, r1, r2]) rfl ⟨_, by rw [hbo], by rw [hbo]; simp only [Bool.false_eq_true, if_false]; exact World.ownsRow_nil _ _ _ _, N6.out.set (by show w.heap.size ≤ w.heap.size + 2; omega) _⟩

end Go.Proofs.Ytfgofmcpgfofaaa
