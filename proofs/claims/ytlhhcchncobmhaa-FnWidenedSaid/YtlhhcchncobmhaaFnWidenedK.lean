/- The law FnWidened, proved: a body that is widened and narrowed is the body, and rings widely as it rings in double precision, bit for bit; narrowing moves no pole by more than 2^-24.
   Conditions: none beyond the statement's own. -/
import Derived.Test.YtlhhcchncobmhaaKFnWidened5
import Derived.Test.YtlhhcchncobmhaaRows
namespace Go.Proofs.Ytlhhcchncobmhaa.fnWidened
set_option linter.unusedSimpArgs false
set_option linter.unusedVariables false
open Go Go.ChangeShapes Go.WideShapes Go.ChangeAt Go.RowKit

theorem nw_below {w w' : World} (hb : Nw w w') : Below w.heap.size w w' := ⟨hb.os, hb.tape, hb.output, hb.size, fun k hk => hb.block k hk (by simp)⟩
theorem bys_step {w w1 : World} {a : Option Addr} {len : Nat} (h : Bys w.heap.size a len w) (hb : Below w.heap.size w w1) : Bys w1.heap.size a len w1 := (h.below hb).mono hb.size
theorem nw_of {w w' : World} (h : Below w.heap.size w w') : Nw w w' := ⟨h.os, h.tape, h.output, h.size, fun k hk _ => h.block k hk⟩
theorem bel_nw {B : Nat} {w w1 w2 : World} (h : Below B w w1) (n : Nw w1 w2) (hB : B ≤ w1.heap.size) : Below B w w2 :=
  h.trans ⟨n.os, n.tape, n.output, n.size, fun k hk => n.block k (by omega) (by simp)⟩



def InI (xs : List Nat) (B n : Nat) (w : World) (v i : Value) (wr : World) : Prop :=
  ∃ (k : Nat) (ys : List Nat), k ≤ n ∧ i = .int .i64 (k : Int) ∧ ys.length = k ∧ ys.map (fab .f64) = (xs.take k).map wA ∧ wr.ownsRow B 49 1 v k (cellsF ys) ∧ Nw w wr

theorem in_same {xs ys : List Nat} (h : ys.map (fab .f64) = xs.map wA) : (fun i => fab .f64 (in64 ys i)) = fun i => wA (inputOf xs i) := by
  funext i
  have h1 : (ys.map (fab .f64))[i]? = (xs.map wA)[i]? := by rw [h]
  rw [List.getElem?_map, List.getElem?_map] at h1
  unfold in64 inputOf
  rw [List.getD_eq_getElem?_getD, List.getD_eq_getElem?_getD]
  cases hx : xs[i]? with
  | none =>
    rw [hx] at h1
    cases hy : ys[i]? with
    | none => decide
    | some y => rw [hy] at h1; cases h1
  | some x =>
    rw [hx] at h1
    cases hy : ys[i]? with
    | none => rw [hy] at h1; cases h1
    | some y => rw [hy] at h1; simpa using h1
theorem fc_same (ms : List M4) : (ms.map widenM).map fcW = ms.map fcM := by rw [List.map_map]; rfl

set_option maxHeartbeats 3200000 in
set_option maxRecDepth 100000 in
theorem walk (a0 : Option Addr) (len0 cap0 : Nat) (z0 : List Int) (w : World) (w0 : IsRow .u8 w a0 len0 cap0 z0) :
    Calls Try.prog 8 #[.slice a0 len0 cap0] w fun e w' => e = .returned (.bool true) ∧ Below w.heap.size w w' := by
  by_cases hl : len0 ≤ 1048576
  · obtain ⟨i0, hi, hz0, hz1, hz2⟩ := info_parts info_f64
    have Hb := Lib.hid (bys_of_row w0 (by omega))
    clear w0
    have q24 := power_bits 24 (by omega)
    rw [show (-((24 : Nat) : Int)) = -24 from rfl] at q24
    have P24 := Lib.hid q24
    clear q24
    go_enter Try.func8, Try.ntmps8
    go_wp2_with fail
    refine (makeBody_any _ _ _ 5 (by omega) (by omega) _ Hb.out).mono ?_
    rintro e w1 ⟨ms, v1, rfl, hms, hok, own1, n1⟩
    obtain ⟨q, hq⟩ : ∃ q, q = ms.length := ⟨_, rfl⟩
    rw [← hq] at own1 hms
    have Hq := Lib.hid hq.symm
    obtain ⟨va, vc, rfl⟩ := own_shape' own1
    have Hok := Lib.hid hok
    have B1 := Lib.hid (Has1.new w1 69 (.slice va q vc))
    have M1 := Lib.hid (own1.alloc (.cells #[.slice va q vc] 69 (0, 0)))
    have N1 := Lib.hid (n1.alloc (.cells #[.slice va q vc] 69 (0, 0)))
    have Hb1 := Lib.hid (bys_step Hb.out (nw_below N1.out))
    clear hok own1 n1 hq
    go_wp2_with fail
    refine (fresh_any _ _ _ _ (by omega) (by omega) _ Hb1.out).mono ?_
    rintro e w2 ⟨g2, l2, c2, rfl, -, -, hf2, bel2⟩
    have N12 := Lib.hid (nw_of bel2)
    have Hf2 := Lib.hid hf2
    clear hf2 bel2
    go_wp2_with fail
    refine (makeInput_any _ _ _ _ Hf2.out).mono ?_
    rintro e w3 ⟨xs, iv, rfl, hxs, own3, n3⟩
    obtain ⟨p, hp⟩ : ∃ p, p = xs.length := ⟨_, rfl⟩
    rw [← hp] at own3 hxs
    have Hp := Lib.hid hp.symm
    obtain ⟨ia, ic, rfl⟩ := own_shape' own3
    have I3 := Lib.hid own3
    have N13 := Lib.hid (N12.out.trans n3)
    have N3 := Lib.hid (N1.out.trans N13.out)
    have M3 := Lib.hid (own_nw M1.out N13.out)
    have B3 := Lib.hid (B1.out.nw N13.out)
    have Hb3 := Lib.hid (bys_step Hb.out (nw_below N3.out))
    clear own3 n3 hp
    go_wp2_with fail
    refine (at_any _ _ _ 1 hl (by omega) _ Hb3.out).mono ?_
    rintro e w4 ⟨z1, hz1', rfl, rfl⟩
    obtain ⟨b0, b1, b2⟩ := B3.out
    go_wp2_with fail
    obtain ⟨n, hn⟩ : ∃ n : Nat, n = z1 % 30 := ⟨_, rfl⟩
    rw [show ((z1 : Int) % 30) = (n : Int) from by omega]
    have hn30 : n < 30 := by omega
    clear hn hz1'
    refine (widenBody_ok ms Hok.out q _ _ Hq.out (by omega) _ M3.out).mono ?_
    rintro e w5 ⟨lv, rfl, own5, n5⟩
    rw [Hq.out] at own5
    obtain ⟨la, lc, rfl⟩ := own_shape' own5
    have L5 := Lib.hid own5
    have N5 := Lib.hid (N3.out.trans n5)
    have M5 := Lib.hid (own_nw M3.out n5)
    have I5 := Lib.hid (own_nw I3.out n5)
    have B5 := Lib.hid (B3.out.nw n5)
    clear own5 n5 b0 b1 b2
    go_wp2_with fail
    refine (narrowModes_ok ms Hok.out q _ _ Hq.out (by omega) _ L5.out).mono ?_
    rintro e w6 ⟨nv, rfl, own6, n6⟩
    rw [Hq.out] at own6
    obtain ⟨na, nc, rfl⟩ := own_shape' own6
    obtain ⟨w7, hw7⟩ : ∃ w7, w7 = w6.alloc (.cells #[.slice na q nc] 69 (0, 0)) := ⟨_, rfl⟩
    have Ew7 := Lib.hid hw7
    have C7 := Lib.hid (show w7.ownsRow w5.heap.size 61 2 (.slice na q nc) q (cellsM (ms.map narM)) from by rw [hw7]; exact own6.alloc _)
    have D7 := Lib.hid (show Has1 w7 w6.heap.size (.slice na q nc) from by rw [hw7]; exact Has1.new w6 _ _)
    have N57 := Lib.hid (show Nw w5 w7 from by rw [hw7]; exact n6.alloc _)
    have N7 := Lib.hid (N5.out.trans N57.out)
    have L7 := Lib.hid (own_nw L5.out N57.out)
    have M7 := Lib.hid (own_nw M5.out N57.out)
    have I7 := Lib.hid (own_nw I5.out N57.out)
    have B7 := Lib.hid (B5.out.nw N57.out)
    have hsz7 : w7.heap.size = w6.heap.size + 1 := by rw [hw7]; simp
    have W7 := Lib.hid (show (w7.alloc (.cells #[] 49 (0, 0))).ownsRow w7.heap.size 49 1 (.slice (some ⟨w6.heap.size + 1, 0, none⟩) 0 0) 0 (cellsF []) from by
      have h := World.ownsRow_lit (base := w7.heap.size) (e := 49) (size := 1) w7 #[] 0 (Nat.le_refl _) (by decide) rfl
      rw [hsz7] at h ⊢
      simpa [cellsF] using h)
    clear own6 n6 hw7 hsz7
    go_wp2_with fail
    rw [← Ew7.out]
    go_loopw [10, 45] (fun v i wr => InI xs w7.heap.size p w7 v i wr) (fun _ i _ => p - (intOf i).toNat)
    case atStart => exact ⟨0, [], by omega, rfl, rfl, rfl, W7.out, (Nw.refl _).alloc _⟩
    case round =>
      obtain ⟨k, ys, hk, rfl, hyl, hys, hown, hnw⟩ := hrel
      obtain ⟨ta, tc, rfl⟩ := own_shape' hown
      have Hys := Lib.hid (And.intro hyl hys)
      have Ho := Lib.hid hown
      have Nr := Lib.hid hnw
      clear hyl hys hown hnw
      by_cases hlt : k < p
      · obtain ⟨x, hx⟩ : ∃ x, xs[k]? = some x := ⟨xs[k]'(by rw [Hp.out]; exact hlt), List.getElem?_eq_getElem _⟩
        obtain ⟨g, cap, hv, hcap, hmax, hg, e1⟩ := own_sample (own_nw I7.out Nr.out) hx Hp.out.symm
        cases hv
        have Hx := Lib.hid hx
        unfold maxLen at hmax
        clear hx
        have hbs : w7.heap.size ≤ wr.heap.size := Nr.out.size
        have O1 := Lib.hid ((own_nw Ho.out ((Nw.refl wr).draw (fcd .f32 x .f64))).alloc (.cells #[.float .f64 (fcv wr .f32 x .f64)] 49 (0, 0)))
        go_wp2_with (at_builtin; refine wpList_append_own _ rfl _ _ 77 rfl w7.heap.size 49 i0 (.float .f64 0) 1 8 Try.underlying77 hi hz0 hz1 hz2 rfl (by decide) _ _ _ rfl O1.out ⟨wr.heap.size, 0, none⟩ 1 1 [.float .f64 (fcv wr .f32 x .f64)] rfl rfl ?c1 ?c2 ?c3 ?c4 ?c5 ?_)
        case c1 =>
          intro j u hj
          match j, hj with
          | 0, hj => simp at hj; subst hj; simp [Addr.add]
        case c2 => intro u hu; simp at hu; subst hu; rfl
        case c3 => unfold maxLen; omega
        case c4 => omega
        case c5 => simp; omega
        · intro v' w8 hown8 hgrow _
          rw [show cellsF ys ++ [Value.float .f64 (fcv wr .f32 x .f64)] = cellsF (ys ++ [fcv wr .f32 x .f64]) from by simp [cellsF]] at hown8
          have Hown8 := Lib.hid hown8
          have N8 := Lib.hid (((Nr.out.draw (fcd .f32 x .f64)).alloc (.cells #[.float .f64 (fcv wr .f32 x .f64)] 49 (0, 0))).grown hgrow (fun q' hq' => own_ge Ho.out q' hq'))
          obtain ⟨ua, un, uc, rfl⟩ := own_shape hown8
          clear hown8 hgrow
          go_wp2_with fail
          go_roundw
          case rel =>
            refine ⟨k + 1, ys ++ [fcv wr .f32 x .f64], by omega, by rw [show ((k + 1 : Nat) : Int) = (k : Int) + 1 from by omega], by simp [Hys.out.1], ?_, Hown8.out, N8.out⟩
            obtain ⟨hk', he⟩ := List.getElem?_eq_some_iff.1 Hx.out
            rw [List.take_succ_eq_append_getElem hk', he, List.map_append, List.map_append, Hys.out.2]
            simp [fab_wide]
          case measure => simp only [intOf]; omega
      · obtain rfl : k = p := by omega
        have hys := Hys.out.2
        rw [List.take_of_length_le (by rw [Hp.out]; exact Nat.le_refl _)] at hys
        have Hys2 := Lib.hid hys
        clear hys
        have L8 := Lib.hid (own_nw L7.out Nr.out)
        have M8 := Lib.hid (own_nw M7.out Nr.out)
        have I8 := Lib.hid (own_nw I7.out Nr.out)
        have B8 := Lib.hid (B7.out.nw Nr.out)
        have C8 := Lib.hid (own_nw C7.out Nr.out)
        have D8 := Lib.hid (D7.out.nw Nr.out)
        have N8 := Lib.hid (N7.out.trans Nr.out)
        have hare := widen_are (by have := Hq.out; omega) Hok.out
        have Hare := Lib.hid hare
        clear hare
        go_wp2_with fail
        refine (ringWide_any (ms.map widenM) (fun m hm => by obtain ⟨m', -, rfl⟩ := List.mem_map.1 hm; exact widenM_bits m') Hare.out ys n q _ _ _ _ (by simp [Hq.out]) (by have := Hys.out.1; omega) (by omega) _ L8.out (by rw [Hys.out.1]; exact Ho.out)).mono ?_
        rintro e w9 ⟨rv, zs, rfl, hz, own9, n9⟩
        rw [show (ringF ((ms.map widenM).map fcW) (fun i => fab .f64 (in64 ys i)) n).length = n from by simp [ringF]] at own9
        obtain ⟨ra', rc, rfl⟩ := own_shape' own9
        have Hz := Lib.hid hz
        have Z9 := Lib.hid own9
        have N9 := Lib.hid (N8.out.trans n9)
        have L9 := Lib.hid (own_nw L8.out n9)
        have M9 := Lib.hid (own_nw M8.out n9)
        have I9 := Lib.hid (own_nw I8.out n9)
        have B9 := Lib.hid (B8.out.nw n9)
        have C9 := Lib.hid (own_nw C8.out n9)
        have D9 := Lib.hid (D8.out.nw n9)
        clear hz own9 n9
        obtain ⟨b0, b1, b2⟩ := B9.out
        go_wp2_with fail
        refine (ringDouble_any ms Hok.out xs n q _ _ _ _ Hq.out (by omega) (by have := Hp.out; omega) (by omega) _ M9.out (by rw [Hp.out]; exact I9.out)).mono ?_
        rintro e w10 ⟨dv, ds, rfl, hd, own10, n10⟩
        rw [show (ringF (ms.map fcM) (fun i => wA (inputOf xs i)) n).length = n from by simp [ringF]] at own10
        obtain ⟨da, dc, rfl⟩ := own_shape' own10
        have Hsame := Lib.hid (show zs.map (fab .f64) = ds.map (fab .f64) from by rw [Hz.out, hd, fc_same, in_same Hys2.out])
        have D10 := Lib.hid own10
        have Hzl := Lib.hid (show zs.length = n from by have := congrArg List.length Hz.out; simpa [ringF] using this)
        have Hdl := Lib.hid (show ds.length = n from by have := congrArg List.length hd; simpa [ringF] using this)
        have Z10 := Lib.hid (own_nw Z9.out n10)
        have N10 := Lib.hid (N9.out.trans n10)
        have L10 := Lib.hid (own_nw L9.out n10)
        have M10 := Lib.hid (own_nw M9.out n10)
        have B10 := Lib.hid (B9.out.nw n10)
        have C10 := Lib.hid (own_nw C9.out n10)
        have X10 := Lib.hid (D9.out.nw n10)
        have Hb10 := Lib.hid (bys_step Hb.out (nw_below N10.out))
        clear hd own10 n10 b0 b1 b2
        go_wp2_with fail
        refine (fresh_any _ _ _ _ (by omega) (by omega) _ Hb10.out).mono ?_
        rintro e w11 ⟨g11, l11, c11, rfl, -, -, hf11, bel11⟩
        have N11 := Lib.hid (nw_of bel11)
        have Hf11 := Lib.hid hf11
        clear hf11 bel11
        go_wp2_with fail
        refine (makeWide_any _ _ _ _ Hf11.out).mono ?_
        rintro e w12 ⟨ws, wv, rfl, hws, hwb, own12, n12⟩
        obtain ⟨r, hr⟩ : ∃ r, r = ws.length := ⟨_, rfl⟩
        rw [← hr] at own12
        have Hw := Lib.hid (And.intro hws (And.intro hwb hr.symm))
        have O12 := Lib.hid own12
        have N12' := Lib.hid (N11.out.trans n12)
        clear hws hwb own12 n12 hr
        go_wp2_with fail
        refine (narrowError_ok ws Hw.out.2.1 Hw.out.1 r _ _ Hw.out.2.2 _ O12.out).mono ?_
        rintro e w13 ⟨e1, rfl, ne1, e10, e11, -, n13⟩
        have He1 := Lib.hid (And.intro ne1 (And.intro e10 e11))
        have N13' := Lib.hid (N12'.out.trans n13)
        clear ne1 e10 e11 n13
        go_wp2_with fail
        refine (narrowError_ok (ms.map widenM) (fun m hm => by obtain ⟨m', -, rfl⟩ := List.mem_map.1 hm; exact widenM_bits m') Hare.out q _ _ (by simp [Hq.out]) _ (own_nw L10.out N13'.out)).mono ?_
        rintro e w14 ⟨e2, rfl, ne2, -, -, ez2, n14⟩
        have He2 := Lib.hid (show Flo.Nm e2 ∧ Flo.W e2 = 0 from ⟨ne2, ez2 (by
          intro m hm
          obtain ⟨m', h', rfl⟩ := List.mem_map.1 hm
          obtain ⟨s1, s2, -, -⟩ := (Hok.out m' h').nums
          obtain ⟨a1, a2, -, -⟩ := ab_1024 (Hok.out m' h')
          exact ⟨(wid_nar_wid s1 a1).2.2.2, (wid_nar_wid s2 a2).2.2.2⟩)⟩)
        have N14 := Lib.hid (N13'.out.trans n14)
        have NN := Lib.hid (N10.out.trans N14.out)
        have M14 := Lib.hid (own_nw M10.out N14.out)
        have B14 := Lib.hid (B10.out.nw N14.out)
        have C14 := Lib.hid (own_nw C10.out N14.out)
        have X14 := Lib.hid (X10.out.nw N14.out)
        have Z14 := Lib.hid (own_nw Z10.out N14.out)
        have D14 := Lib.hid (own_nw D10.out N14.out)
        clear ne2 ez2 n14
        obtain ⟨b0, b1, b2⟩ := B14.out
        obtain ⟨x0, x1, x2⟩ := X14.out
        have hq24 := powB_ok 24 (by omega)
        have o1 := Flo.order_num Ieee.double e1 0 He1.out.1 zero_num.1
        have o2 := Flo.order_num Ieee.double e1 (powB 24) He1.out.1 hq24.1
        have o3 := Flo.order_num Ieee.double e2 0 He2.out.1 zero_num.1
        have T1 : (FloatKind.f64.format.order e1 0 == some .gt || FloatKind.f64.format.order e1 0 == some .eq) = true := by
          rw [show FloatKind.f64.format = Ieee.double from rfl, Bool.or_eq_true, beq_iff_eq, beq_iff_eq, o1.2.2, o1.2.1]
          show Flo.W 0 < Flo.W e1 ∨ Flo.W e1 = Flo.W 0
          rw [zero_num.2]
          rcases Rat.le_iff_lt_or_eq.1 He1.out.2.1 with h | h
          · exact .inl h
          · exact .inr h.symm
        have T2 : (FloatKind.f64.format.order e1 (powB 24) == some .lt || FloatKind.f64.format.order e1 (powB 24) == some .eq) = true := by
          rw [show FloatKind.f64.format = Ieee.double from rfl, Bool.or_eq_true, beq_iff_eq, beq_iff_eq, o2.1, o2.2.1]
          show Flo.W e1 < Flo.W (powB 24) ∨ Flo.W e1 = Flo.W (powB 24)
          rw [hq24.2]
          rcases Rat.le_iff_lt_or_eq.1 He1.out.2.2 with h | h
          · exact .inl h
          · exact .inr h
        have T3 : (FloatKind.f64.format.order e2 0 == some .eq) = true := by
          rw [show FloatKind.f64.format = Ieee.double from rfl, beq_iff_eq, o3.2.1]
          show Flo.W e2 = Flo.W 0
          rw [He2.out.2, zero_num.2]
        clear o1 o2 o3 hq24
        go_wp2_with fail
        refine (sameModes_ok (ms.map narM) ms q _ _ _ _ (by simp [Hq.out]) Hq.out (by omega) (fun m hm => by obtain ⟨m', h', rfl⟩ := List.mem_map.1 hm; exact (narM_ok (Hok.out m' h')).nums) (fun m hm => (Hok.out m hm).nums) (fun j m m' h1 h2 => by
          rw [List.getElem?_map, h2] at h1
          simp only [Option.map_some, Option.some.injEq] at h1
          subst h1
          have hm' := Hok.out m' (List.mem_of_getElem? h2)
          obtain ⟨s1, s2, s3, s4⟩ := hm'.nums
          obtain ⟨a1, a2, a3, a4⟩ := ab_1024 hm'
          exact ⟨(wid_nar_wid s1 a1).2.2.2, (wid_nar_wid s2 a2).2.2.2, (wid_nar_wid s3 a3).2.2.2, (wid_nar_wid s4 a4).2.2.2⟩) _ C14.out M14.out).mono ?_
        rintro e w15 ⟨rfl, n15⟩
        have N15 := Lib.hid (NN.out.trans n15)
        have Z15 := Lib.hid (own_nw Z14.out n15)
        have D15 := Lib.hid (own_nw D14.out n15)
        clear n15 b0 b1 b2 x0 x1 x2
        go_wp2_with fail
        refine (sameWide_ok zs ds n _ _ _ _ Hzl.out Hdl.out (by omega) Hsame.out _ Z15.out D15.out).mono ?_
        rintro e w16 ⟨rfl, n16⟩
        have N16 := Lib.hid (N15.out.trans n16)
        clear n16
        go_wp2_with fail
        refine (P24.out _).mono ?_
        rintro e w17 ⟨rfl, rfl⟩
        go_wp2_with fail
        go_ret
        exact ⟨rfl, nw_below N16.out⟩
  · clear w0
    go_enter Try.func8, Try.ntmps8
    go_wp2
    go_ret
    exact ⟨rfl, Below.refl _ _⟩

/-! ### THE ROW's STEP: WRITTEN OUT: LEAVE IT -/
set_option maxRecDepth 100000 in
theorem lifted (os : Os) (started : os.Started) (H : Type) (enc : TypeId × Value → H) :
    ReturnsInHanded {} Try.checked os 8 .any (Rows.fnWidenedSpec.pre6 enc Try.prog Try.f8 Rows.fnWidenedRow.domain false) (Rows.fnWidenedSpec.post enc Try.prog Try.f8 false true false false) := by
  refine returnsInHanded_of_change (C := Try.checked) own started (by kernel_rfl) Try.func8
    (ChangeSpec.witness6 (enc := enc) (C := Try.checked) false ⟨#[], #[.slice none 0 0], []⟩ 8 (by kernel_rfl) (by kernel_rfl) (by kernel_rfl) (by kernel_rfl)) ?_
  intro W base args ds gs before hval0 hW hcnd _
  have hval : ∀ (j : Nat) t v, Try.f8.params[j]? = some t → args[j]? = some v → Value.okWide Try.prog W .any base t v := hval0
  have hW' := hW
  obtain ⟨p, q, hA0, hV, rfl, hfz, hnd⟩ := hW
  have hA : DataW.TrodAll enc Try.prog W 0 (fun _ => true) true Try.f8.params.toList args.toList ds p := hA0
  rw [Try.params8] at hA hval
  obtain ⟨v0, vs0, d0, ds0, p0, q0, hargs, rfl, rfl, h0, r0⟩ := trodAll_cons hA
  obtain ⟨rfl, rfl, rfl⟩ := trodAll_nil r0
  obtain rfl : args = #[v0] := by cases args; simp_all
  obtain ⟨rfl, rfl⟩ := trodVars_none hV
  obtain ⟨a0, len0, cap0, rfl⟩ := okWide_slice Try.underlying22 (hval 0 22 v0 rfl rfl)
  have k0 := h0
  have lt0 : ∀ x ∈ p0, x.block < W.heap.size := by obtain ⟨m, hm⟩ := k0; exact DataW.trod_lt m _ _ _ hm
  obtain ⟨z0, w0⟩ : ∃ zs, IsRow .u8 W a0 len0 cap0 zs := by
    obtain ⟨fuel, hf⟩ := h0
    rcases open_ints Try.underlying22 Try.underlying5 (by kernel_rfl) hf with ⟨hcs, _⟩ | ⟨x, l, c, zs, hcs, _, hl, hm, hz, _, hcell, hwz⟩
    · simp [Value.cells] at hcs
      obtain ⟨rfl, rfl, rfl⟩ := hcs
      exact ⟨[], .inl ⟨rfl, rfl, rfl, rfl⟩⟩
    · simp [Value.cells] at hcs
      obtain ⟨rfl, rfl, rfl⟩ := hcs
      exact ⟨zs, .inr ⟨_, rfl, hl, hm, by simpa using hz, hcell, hwz⟩⟩
  clear hA0 hval0
  refine (walk a0 len0 cap0 z0 W w0).mono fun e W' ⟨he, bel⟩ => ?_
  subst he
  exact ⟨_, rfl, _, _, _, [], _, [], hW', trodAll_mk1 (shut_bool Try.underlying4 _), (trodAll_cons_mk (Below.trod laidOut (by kernel_rfl) (of_decide_eq_true (by kernel_rfl)) k0 bel lt0) trodAll_mk0), rfl, bel.frame _, fun h => by cases h⟩

theorem over : Rows.fnWidenedRow.holds Try.pinned (OpenSpec.ofChange Rows.fnWidenedSpec) :=
  OpenClaim.holds_of_wide 8 Try.f8 rfl rfl rfl rfl rfl rfl rfl ⟨rfl, rfl, rfl, rfl, rfl⟩ rfl rfl rfl rfl rfl (by kernel_rfl) Try.func8 (by kernel_rfl)
    (of_decide_eq_true (by kernel_rfl)) (by unfold Func.isWrapper; first | (rw [if_pos (by decide +kernel)]; kernel_rfl) | (rw [if_neg (by decide +kernel)]; exact ⟨rfl, rfl⟩))
    (fun os started H enc _ => lifted os started H enc)

/-- ████ THE STATEMENT ████ -/
theorem proved : Rows.FnWidenedSaid := over
#print axioms proved
end Go.Proofs.Ytlhhcchncobmhaa.fnWidened

