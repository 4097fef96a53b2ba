/- The law FnRung, proved: the first samples of a ringing body do not depend on how long it rings, a late input rings late, what is touched with the factor 1, or too late, rings as before, and what is touched at once rings as the damped body.
   Conditions: none beyond the statement's own. -/
import Derived.Test.YtfgofmcpgfofaaaRung
import Derived.Test.YtfgofmcpgfofaaaSam
import Derived.Test.YtfgofmcpgfofaaaFix
import Derived.Test.YtfgofmcpgfofaaaRow
import Derived.Test.YtfgofmcpgfofaaaRows
namespace Go.Proofs.Ytfgofmcpgfofaaa.fnRung
open Go.ChangeShapes Go.WideShapes Go.ChangeAt Go.RowKit
open Go.ChangeMaps (open_string shut_string)
set_option linter.unusedVariables false

theorem bys_step {w w1 : World} {a : Option Addr} {len : Nat} (h : Bys w.heap.size a len w) (hb : Nw w w1) : Bys w1.heap.size a len w1 :=
  (h.below ⟨hb.os, hb.tape, hb.output, hb.size, fun k hk => hb.block k hk (by simp)⟩).mono hb.size
theorem nw_of_below {w w1 : World} (h : Below w.heap.size w w1) : Nw w w1 := ⟨h.os, h.tape, h.output, h.size, fun k hk _ => h.block k hk⟩
theorem nw_below {w w' : World} (hb : Nw w w') : Below w.heap.size w w' := ⟨hb.os, hb.tape, hb.output, hb.size, fun k hk => hb.block k hk (by simp)⟩

theorem num_4 : Sm 1082130432 ∧ S 1082130432 = 4 := by
  have h : Ieee.single.read 1082130432 = .number false 8388608 (-21) := by decide
  refine ⟨⟨_, _, _, h⟩, ?_⟩
  rw [show S 1082130432 = _ from Flo.V_eq h]
  unfold Flo.val
  have := Flo.pw_neg_mul 21
  rw [show Flo.pw 21 = 2097152 from Flo.pw_nat 21] at this
  simp only [Bool.false_eq_true, if_false]
  have e2 : ((8388608 : Nat) : Rat) = 8388608 := rfl
  rw [e2]; grind
theorem four_60 : (4 : Rat) ≤ Flo.pw 60 := by
  have h1 : Flo.pw 7 ≤ Flo.pw 60 := Flo.pw_le (by omega)
  rw [show Flo.pw 7 = 128 from Flo.pw_nat 7] at h1
  grind
theorem samp_5 {x : Nat} (h : Samp 4 x) : Sm x ∧ Flo.Ab (S x) 5 := ⟨h.1, h.2.mono (by grind)⟩

theorem ring_len (ms : List M4) (x : Nat → Nat) (n : Nat) : (ringS ms x n).length = n := by simp [ringS]
theorem ring_take (ms : List M4) (x : Nat → Nat) (n k : Nat) (h : k ≤ n) : (ringS ms x n).take k = ringS ms x k := by
  unfold ringS
  rw [← List.map_take, List.take_range, Nat.min_eq_left h]
theorem ring_get (ms : List M4) (x : Nat → Nat) (n k : Nat) (h : k < n) : (ringS ms x n)[k]? = some (outS (stAt ms x (k + 1))) := by simp [ringS, h]
theorem same_self (xs : List Nat) : ∀ (k : Nat) x y, xs[k]? = some x → xs[k]? = some y → sameB (wid x) (wid y) = true := fun k x y h1 h2 => by rw [h1] at h2; cases h2; exact sameB_self _
theorem late_get (ms : List M4) (hms : ∀ m ∈ ms, m.ok) (xs : List Nat) (n : Nat) (hsm : ∀ x ∈ ringS ms (inputOf (0 :: xs)) (n + 1), Sm x) :
    ∀ (k : Nat) x y, ((ringS ms (inputOf (0 :: xs)) (n + 1)).drop 1)[k]? = some x → (ringS ms (inputOf xs) n)[k]? = some y → (FloatKind.f32.format.order x y == some .eq) = true := by
  intro k x y h1 h2
  have hk : k < n := by
    have := (List.getElem?_eq_some_iff.1 h2).1
    rwa [ring_len] at this
  rw [List.getElem?_drop, Nat.add_comm 1 k] at h1
  have hx := hsm x (List.mem_of_getElem? h1)
  rw [ring_get ms _ _ _ (by omega)] at h1
  rw [ring_get ms _ _ _ hk] at h2
  cases h1
  cases h2
  exact ev_order (late_out ms hms xs k) hx

theorem own_any {w : World} {base n : Nat} {a : Option Addr} {c : Nat} {xs : List Nat} (h : w.ownsRow base 49 1 (.slice a n c) n (cellsS xs)) : (a = none ∧ n = 0 ∧ c = 0) ∨ ∃ g, a = some ⟨g, 0, none⟩ ∧ n ≤ c ∧ c ≤ maxLen := by
  rcases h.2 with ⟨e, h0⟩ | ⟨g, cap, cur, e, hb, hg, hc, hm, hs, ht⟩
  · cases e; exact .inl ⟨rfl, h0, rfl⟩
  · cases e; exact .inr ⟨g, rfl, hc, hm⟩

theorem own_lit0 (w : World) : (w.alloc (.cells #[.float .f32 0] 49 (0, 0))).ownsRow w.heap.size 49 1 (.slice (some ⟨w.heap.size, 0, none⟩) 1 1) 1 (cellsS [0]) :=
  ⟨by simp [cellsS], .inr ⟨w.heap.size, 1, #[.float .f32 0], rfl, Nat.le_refl _, by show (w.heap.push _)[w.heap.size]? = _; simp, Nat.le_refl _, by unfold maxLen; omega, rfl, by simp [cellsS]⟩⟩
theorem nw_drew_alloc (w : World) (o : Obj) : Nw w (w.alloc o).drew := ((Nw.refl w).alloc o).trans ⟨rfl, rfl, rfl, Nat.le_refl _, fun _ _ _ => rfl⟩

theorem wrap_n1 (n : Nat) (h : n ≤ 1000) : IntKind.i64.wrap ((n : Int) + 1) = ((n + 1 : Nat) : Int) := by rw [IntWalk.i64_in _ (by omega)]; omega

theorem Sam.nil (w : World) (a : Option Addr) : Sam w a 0 [] := ⟨rfl, .inl rfl⟩
theorem own_nil0 (w : World) (b : Nat) : w.ownsRow b 49 1 (.slice none 0 0) 0 (cellsS []) := World.ownsRow_nil _ _ _ _

/-- behind the late ringing -/
def LateC (ms : List M4) (xs : List Nat) (n : Nat) (w : World) (l ok : Value) (wx : World) : Prop :=
  ∃ g, l = .slice (some ⟨g, 0, none⟩) (n + 1) (n + 1) ∧ ok = .bool true ∧ wx.ownsRow w.heap.size 49 1 l (n + 1) (cellsS (ringS ms (inputOf (0 :: xs)) (n + 1))) ∧ Nw w wx

set_option maxRecDepth 100000 in
set_option maxHeartbeats 12800000 in
theorem walk (a0 : Option Addr) (len0 cap0 : Nat) (z0 : List Int) (w : World) (w0 : IsRow .u8 w a0 len0 cap0 z0) :
    Calls Try.prog 6 #[.slice a0 len0 cap0] w fun e w' => e = .returned (.bool true) ∧ Below w.heap.size w w' := by
  by_cases hl : len0 ≤ 1048576
  · have Hb := Lib.hid (bys_of_row w0 (by omega))
    clear w0
    go_enter Try.func6, Try.ntmps6
    go_wp2_with fail
    refine (makeBody_any a0 len0 cap0 5 (by omega) (by omega) _ Hb.out).mono ?_
    rintro e w1 ⟨ms, v, rfl, hlen, hok, hown, n1⟩
    obtain ⟨va, vc, rfl⟩ := own_shape' hown
    obtain ⟨q, hq⟩ : ∃ q, q = ms.length := ⟨_, rfl⟩
    rw [← hq] at hown hlen ⊢
    have Hq := Lib.hid hq.symm
    have Hok := Lib.hid hok
    have N1 := Lib.hid (n1.alloc (.cells #[.slice va q vc] 45 (0, 0)))
    have B1 := Lib.hid (Has1.new w1 45 (.slice va q vc))
    have M1 := Lib.hid (hown.alloc (.cells #[.slice va q vc] 45 (0, 0)))
    clear n1 hown hok hq
    go_wp2_with fail
    refine (fresh_any _ _ _ _ (by omega) (by omega) _ (bys_step Hb.out N1.out)).mono ?_
    rintro e w2 ⟨g2, l2, c2, rfl, -, -, hf2, bel2⟩
    have N2 := Lib.hid (N1.out.trans (nw_of_below bel2))
    have B2 := Lib.hid (B1.out.nw (nw_of_below bel2))
    have M2 := Lib.hid (own_nw M1.out (nw_of_below bel2))
    have Hf2 := Lib.hid hf2
    clear hf2 bel2
    go_wp2_with fail
    refine (makeSmall_any _ _ _ 1082130432 4 num_4.1 (by rw [num_4.2]; exact ⟨by grind, by grind⟩) four_60 _ Hf2.out).mono ?_
    rintro e w4 ⟨xs, iv, rfl, hxs, hsam, own4, n4⟩
    obtain ⟨ia, ic, rfl⟩ := own_shape' own4
    obtain ⟨p, hp⟩ : ∃ p, p = xs.length := ⟨_, rfl⟩
    rw [← hp] at own4 hxs ⊢
    have Hp := Lib.hid hp.symm
    have X4 := Lib.hid own4
    have Hsam := Lib.hid (fun x hx => samp_5 (hsam x hx))
    have N4 := Lib.hid (N2.out.trans n4)
    have B4 := Lib.hid (B2.out.nw n4)
    have M4' := Lib.hid (own_nw M2.out n4)
    clear own4 hsam n4 hp
    go_wp2_with fail
    refine (at_any _ _ _ 1 hl (by omega) _ (bys_step Hb.out N4.out)).mono ?_
    rintro e w5 ⟨z1, hz1, rfl, rfl⟩
    obtain ⟨n, hn⟩ : ∃ n, n = z1 % 60 := ⟨_, rfl⟩
    have hn60 : n < 60 := by omega
    have Hn := Lib.hid (show (z1 : Int) % 60 = (n : Int) from by omega)
    clear hn
    go_wp2_with fail
    rw [Hn.out]
    refine (at_any _ _ _ 2 hl (by omega) _ (bys_step Hb.out N4.out)).mono ?_
    rintro e w5 ⟨z2, hz2, rfl, rfl⟩
    obtain ⟨k, hk⟩ : ∃ k, k = z2 % (n + 1) := ⟨_, rfl⟩
    have hkn : k ≤ n := by have := Nat.mod_lt z2 (show 0 < n + 1 by omega); omega
    have Hk := Lib.hid (show (z2 : Int) % ((n : Int) + 1) = (k : Int) from by rw [hk]; push_cast; rfl)
    clear hk
    have hne0 : ¬ ((n : Int) + 1 = 0) := by omega
    obtain ⟨b0, b1, b2⟩ := B4.out
    go_wp2_with fail
    rw [Hk.out]
    have R1 := Lib.hid (ring_small ms Hok.out q n Hq.out hlen (by omega) xs (by rw [Hp.out]; omega) Hsam.out)
    have R2 := Lib.hid (ring_small ms Hok.out q k Hq.out hlen (by omega) xs (by rw [Hp.out]; omega) Hsam.out)
    have R3 := Lib.hid (ring_small ms Hok.out q (n + 1) Hq.out hlen (by omega) (0 :: xs) (by rw [List.length_cons, Hp.out]; omega) (by
      intro x hx
      rcases List.mem_cons.1 hx with rfl | hx
      · exact ⟨zero_single.1, by rw [zero_single.2]; exact ⟨by grind, by grind⟩⟩
      · exact Hsam.out x hx))
    refine (ringBody_some' ms Hok.out xs n q p _ _ _ _ Hq.out (by omega) Hp.out (by omega) (by omega) _ M4'.out X4.out R1.out.1).mono ?_
    rintro e w5 ⟨gw, rfl, own5, n5⟩
    have W5 := Lib.hid own5
    have N5 := Lib.hid (N4.out.trans n5)
    have B5 := Lib.hid (B4.out.nw n5)
    have M5 := Lib.hid (own_nw M4'.out n5)
    have X5 := Lib.hid (own_nw X4.out n5)
    clear own5 n5 b0 b1 b2
    obtain ⟨b0, b1, b2⟩ := B5.out
    go_wp2_with fail
    refine (ringBody_ok' ms Hok.out xs k q p _ _ _ _ Hq.out (by omega) Hp.out (by omega) (by omega) _ M5.out X5.out R2.out.1).mono ?_
    rintro e w6 ⟨v6, rfl, own6, n6⟩
    obtain ⟨pa, pc, rfl⟩ := own_shape' own6
    rw [ring_len] at own6 ⊢
    have P6 := Lib.hid own6
    have W6 := Lib.hid (own_nw W5.out n6)
    have N6 := Lib.hid (N5.out.trans n6)
    have B6 := Lib.hid (B5.out.nw n6)
    have M6 := Lib.hid (own_nw M5.out n6)
    have X6 := Lib.hid (own_nw X5.out n6)
    clear own6 n6 b0 b1 b2
    obtain ⟨b0, b1, b2⟩ := B6.out
    go_upto_region 9 with fail
    go_cut [11, 12] (fun l ok wx => LateC ms xs n w6 l ok wx)
    case first =>
      go_region_law (first
        | (refine step_append_samples rfl (.tmp 56) (.tmp 57) rfl w6.heap.size w2.heap.size 1 p _ _ [0] xs rfl rfl (own_lit0 w6).drew (own_nw X6.out (nw_drew_alloc w6 _)) Hp.out (by omega) (nw_drew_alloc w6 _).size ?_
           intro v7 w7 own7 gr7
           obtain ⟨ta, tc, rfl⟩ := own_shape' own7
           have N7 := Lib.hid ((nw_drew_alloc w6 _).grown gr7 (fun q' hq => by cases hq; exact Nat.le_refl _))
           have O7 := Lib.hid own7
           obtain ⟨c0, c1, c2⟩ := B6.out.nw N7.out
           clear own7 gr7)
        | (go_simp
           go_at_call 32
           rw [wrap_n1 n (by omega)]
           refine (ringBody_some' ms Hok.out (0 :: xs) (n + 1) q (1 + p) _ _ _ _ Hq.out (by omega) (by rw [List.length_cons, Hp.out]; omega) (by omega) (by omega) _ (own_nw M6.out N7.out) O7.out R3.out.1).mono ?_
           rintro e w8 ⟨g, rfl, own8, n8⟩
           have N8 := Lib.hid (N7.out.trans n8)
           have O8 := Lib.hid (own_base own8 N7.out.size)
           clear own8 n8))
      all_goals
        go_wp2_with fail
        go_meet
        exact ⟨g, rfl, rfl, O8.out, N8.out⟩
    case rest =>
      obtain ⟨g, rfl, rfl, ol, nl⟩ := hcut
      have L7 := Lib.hid ol
      have N7 := Lib.hid (N6.out.trans nl)
      have P7 := Lib.hid (own_nw P6.out nl)
      have W7 := Lib.hid (own_nw W6.out nl)
      have B7 := Lib.hid (B6.out.nw nl)
      have M7 := Lib.hid (own_nw M6.out nl)
      have X7 := Lib.hid (own_nw X6.out nl)
      clear ol nl b0 b1 b2
      go_upto_region 10 with fail
      go_cut [101] (fun t wx => t = .bool false ∧ Nw wc wx)
      case first =>
        have Hlate := Lib.hid (late_get ms Hok.out xs n R3.out.2)
        have Wk := Lib.hid (own_prefix W7.out (ring_len ms _ n) hkn)
        rw [ring_take ms _ n k hkn] at Wk
        have Ws := Lib.hid (own_sam (j := 0) (m := n) W7.out (ring_len ..) (by omega))
        obtain ⟨A, hA, hsa⟩ : ∃ A, (if n = 0 then some ⟨g, 0, none⟩ else some ⟨g, 1, none⟩ : Option Addr) = some A ∧ Sam wc (some A) n ((ringS ms (inputOf (0 :: xs)) (n + 1)).drop 1) := by
          by_cases hn0 : n = 0
          · exact ⟨⟨g, 0, none⟩, by rw [if_pos hn0], ⟨by rw [List.length_drop, ring_len]; omega, .inl hn0⟩⟩
          · exact ⟨⟨g, 1, none⟩, by rw [if_neg hn0], own_sam (j := 1) (m := n) L7.out (ring_len ..) (by omega)⟩
        have Ls := Lib.hid hsa
        clear hsa
        go_wp2_with (first
          | (go_at_call 33
             refine (same_eq (ringS ms (inputOf xs) k) (ringS ms (inputOf xs) k) k _ _ _ _ (ring_len ..) (ring_len ..) (by omega) _ P7.out Wk.out R2.out.2 R2.out.2 (same_self _)).mono ?_
             rintro e w8 ⟨rfl, n8⟩
             have N8 := Lib.hid n8
             clear n8)
          | (go_at_call 34
             refine (equal_ok _ _ n _ _ _ _ (by omega) _ (Ls.out.nw N8.out) (Ws.out.nw N8.out) Hlate.out).mono ?_
             rintro e w9 ⟨rfl, n9⟩
             have N9 := Lib.hid (N8.out.trans n9)
             clear n9))
        go_meet
        exact ⟨rfl, N9.out⟩
      case rest =>
        obtain ⟨rfl, hcut⟩ := hcut
        have N9 := Lib.hid (N7.out.trans hcut)
        have W9 := Lib.hid (own_nw W7.out hcut)
        have B9 := Lib.hid (B7.out.nw hcut)
        have M9 := Lib.hid (own_nw M7.out hcut)
        have X9 := Lib.hid (own_nw X7.out hcut)
        clear hcut
        obtain ⟨b0, b1, b2⟩ := B9.out
        go_wp2_with fail
        refine (at_any _ _ _ 3 hl (by omega) _ (bys_step Hb.out N9.out)).mono ?_
        rintro e w10 ⟨z3, hz3, rfl, rfl⟩
        obtain ⟨fc, fs, f0, f1⟩ := fac_ok z3 hz3
        have Fs := Lib.hid (And.intro fs (And.intro f0 f1))
        have r1 := fc.res
        have d1 := fc.fdr
        rw [show opB .quo .f32 (floatOfInt .f32 (z3 : Int)) 1132396544 = facB z3 from rfl] at r1
        obtain ⟨ft, hft⟩ : ∃ ft, ft = facB z3 := ⟨_, rfl⟩
        rw [← hft] at r1 Fs
        clear hft fc fs f0 f1
        have Hd := Lib.hid (show ∀ m ∈ ms.map (dampM ft), m.ok from fun m hm => by obtain ⟨m0, hm0, rfl⟩ := List.mem_map.1 hm; exact dampM_ok m0 ft (Hok.out m0 hm0) Fs.out.1 Fs.out.2.1 Fs.out.2.2)
        have H1 := Lib.hid (show ∀ m ∈ ms.map (dampM 1065353216), m.ok from fun m hm => by obtain ⟨m0, hm0, rfl⟩ := List.mem_map.1 hm; exact dampM_ok m0 1065353216 (Hok.out m0 hm0) one_s.1 (by rw [one_s.2]; grind) (by rw [one_s.2]; exact Rat.le_refl))
        have RD := Lib.hid (ring_small (ms.map (dampM ft)) Hd.out q n (by rw [List.length_map, Hq.out]) hlen (by omega) xs (by rw [Hp.out]; omega) Hsam.out)
        have RO := Lib.hid (ring_small (ms.map (dampM 1065353216)) H1.out q n (by rw [List.length_map, Hq.out]) hlen (by omega) xs (by rw [Hp.out]; omega) Hsam.out)
        have T1 := Lib.hid (touch_one ms Hok.out k n (inputOf xs) R1.out.1 RO.out.1)
        have T2 := Lib.hid (touch_never ms (ms.map (dampM ft)) n (inputOf xs) R1.out.1)
        have T3 := Lib.hid (touch_once ms (ms.map (dampM ft)) (by rw [List.length_map]) n (inputOf xs) RD.out.1)
        go_wp2_with fail
        refine (dampBody_ok ms Hok.out q _ ft _ Hq.out (by omega) Fs.out.1 Fs.out.2.1 Fs.out.2.2 _ M9.out).mono ?_
        rintro e w11 ⟨dv, rfl, own11, n11⟩
        obtain ⟨da, dc, rfl⟩ := own_shape' own11
        have N11 := Lib.hid ((N9.out.trans n11).alloc (.cells #[.slice da q dc] 45 (0, 0)))
        have W11 := Lib.hid ((own_nw W9.out n11).alloc (.cells #[.slice da q dc] 45 (0, 0)))
        have B11 := Lib.hid ((B9.out.nw n11).alloc (.cells #[.slice da q dc] 45 (0, 0)))
        have M11 := Lib.hid ((own_nw M9.out n11).alloc (.cells #[.slice da q dc] 45 (0, 0)))
        have X11 := Lib.hid ((own_nw X9.out n11).alloc (.cells #[.slice da q dc] 45 (0, 0)))
        have D11 := Lib.hid (own11.alloc (.cells #[.slice da q dc] 45 (0, 0)))
        have E11 := Lib.hid (Has1.new w11 45 (.slice da q dc))
        clear own11 n11 b0 b1 b2 r1 d1
        obtain ⟨b0, b1, b2⟩ := B11.out
        go_wp2_with fail
        refine (touchBody_ok ms Hok.out 1065353216 one_s.1 (by rw [one_s.2]; grind) (by rw [one_s.2]; exact Rat.le_refl) xs k n q p _ _ _ _ Hq.out (by omega) Hp.out (by omega) (by omega) (by omega) _ M11.out X11.out T1.out.1).mono ?_
        rintro e w12 ⟨v12, rfl, own12, n12⟩
        obtain ⟨ta, tc, rfl⟩ := own_shape' own12
        rw [T1.out.2, ring_len] at own12
        rw [touch_len]
        have A12 := Lib.hid own12
        have N12 := Lib.hid (N11.out.trans n12)
        have W12 := Lib.hid (own_nw W11.out n12)
        have B12 := Lib.hid (B11.out.nw n12)
        have M12 := Lib.hid (own_nw M11.out n12)
        have X12 := Lib.hid (own_nw X11.out n12)
        have D12 := Lib.hid (own_nw D11.out n12)
        have E12 := Lib.hid (E11.out.nw n12)
        clear own12 n12 b0 b1 b2
        obtain ⟨b0, b1, b2⟩ := B12.out
        go_wp2_with fail
        refine (touchBody_ok ms Hok.out ft Fs.out.1 Fs.out.2.1 Fs.out.2.2 xs n n q p _ _ _ _ Hq.out (by omega) Hp.out (by omega) (by omega) (by omega) _ M12.out X12.out T2.out.1).mono ?_
        rintro e w13 ⟨v13, rfl, own13, n13⟩
        obtain ⟨na, nc, rfl⟩ := own_shape' own13
        rw [T2.out.2, ring_len] at own13
        rw [touch_len]
        have V13 := Lib.hid own13
        have A13 := Lib.hid (own_nw A12.out n13)
        have N13 := Lib.hid (N12.out.trans n13)
        have W13 := Lib.hid (own_nw W12.out n13)
        have B13 := Lib.hid (B12.out.nw n13)
        have M13 := Lib.hid (own_nw M12.out n13)
        have X13 := Lib.hid (own_nw X12.out n13)
        have D13 := Lib.hid (own_nw D12.out n13)
        have E13 := Lib.hid (E12.out.nw n13)
        clear own13 n13 b0 b1 b2
        obtain ⟨b0, b1, b2⟩ := B13.out
        have T3' := T3.out.1
        go_wp2_with fail
        refine (touchBody_ok ms Hok.out ft Fs.out.1 Fs.out.2.1 Fs.out.2.2 xs 0 n q p _ _ _ _ Hq.out (by omega) Hp.out (by omega) (by omega) (by omega) _ M13.out X13.out T3').mono ?_
        rintro e w14 ⟨v14, rfl, own14, n14⟩
        obtain ⟨oa, oc, rfl⟩ := own_shape' own14
        rw [T3.out.2, ring_len] at own14
        rw [touch_len]
        have O14 := Lib.hid own14
        have V14 := Lib.hid (own_nw V13.out n14)
        have A14 := Lib.hid (own_nw A13.out n14)
        have N14 := Lib.hid (N13.out.trans n14)
        have W14 := Lib.hid (own_nw W13.out n14)
        have X14 := Lib.hid (own_nw X13.out n14)
        have D14 := Lib.hid (own_nw D13.out n14)
        have E14 := Lib.hid (E13.out.nw n14)
        clear own14 n14 b0 b1 b2 T3'
        obtain ⟨b0, b1, b2⟩ := E14.out
        go_wp2_with fail
        refine (ringBody_some' (ms.map (dampM ft)) Hd.out xs n q p _ _ _ _ (by rw [List.length_map, Hq.out]) (by omega) Hp.out (by omega) (by omega) _ D14.out X14.out RD.out.1).mono ?_
        rintro e w15 ⟨gs, rfl, own15, n15⟩
        have S15 := Lib.hid own15
        have O15 := Lib.hid (own_nw O14.out n15)
        have V15 := Lib.hid (own_nw V14.out n15)
        have A15 := Lib.hid (own_nw A14.out n15)
        have N15 := Lib.hid (N14.out.trans n15)
        have W15 := Lib.hid (own_nw W14.out n15)
        clear own15 n15 b0 b1 b2
        go_wp2_with fail
        refine (same_eq (ringS ms (inputOf xs) n) (ringS ms (inputOf xs) n) n _ _ _ _ (ring_len ..) (ring_len ..) (by omega) _ A15.out W15.out R1.out.2 R1.out.2 (same_self _)).mono ?_
        rintro e w16 ⟨rfl, n16⟩
        have N16 := Lib.hid n16
        clear n16
        go_wp2_with fail
        refine (same_eq (ringS ms (inputOf xs) n) (ringS ms (inputOf xs) n) n _ _ _ _ (ring_len ..) (ring_len ..) (by omega) _ (own_nw V15.out N16.out) (own_nw W15.out N16.out) R1.out.2 R1.out.2 (same_self _)).mono ?_
        rintro e w17 ⟨rfl, n17⟩
        have N17 := Lib.hid (N16.out.trans n17)
        clear n17
        go_wp2_with fail
        refine (same_eq (ringS (ms.map (dampM ft)) (inputOf xs) n) (ringS (ms.map (dampM ft)) (inputOf xs) n) n _ _ _ _ (ring_len ..) (ring_len ..) (by omega) _ (own_nw O15.out N17.out) (own_nw S15.out N17.out) RD.out.2 RD.out.2 (same_self _)).mono ?_
        rintro e w18 ⟨rfl, n18⟩
        have N18 := Lib.hid (N15.out.trans (N17.out.trans n18))
        clear n18
        go_wp2_with fail
        go_ret
        exact ⟨rfl, nw_below N18.out⟩
  · go_enter Try.func6, Try.ntmps6
    go_wp2
    go_ret
    exact ⟨rfl, Below.refl _ _⟩

/-! ### THE ROW's STEP: WRITTEN OUT: LEAVE IT -/
set_option maxRecDepth 100000 in
theorem lifted (os : Os) (started : os.Started) (H : Type) (enc : TypeId × Value → H) :
    ReturnsInHanded {} Try.checked os 6 .any (Rows.fnRungSpec.pre6 enc Try.prog Try.f6 Rows.fnRungRow.domain false) (Rows.fnRungSpec.post enc Try.prog Try.f6 false true false false) := by
  refine returnsInHanded_of_change (C := Try.checked) own started (by kernel_rfl) Try.func6
    (ChangeSpec.witness6 (enc := enc) (C := Try.checked) false ⟨#[], #[.slice none 0 0], []⟩ 8 (by kernel_rfl) (by kernel_rfl) (by kernel_rfl) (by kernel_rfl)) ?_
  intro W base args ds gs before hval0 hW hcnd _
  have hval : ∀ (j : Nat) t v, Try.f6.params[j]? = some t → args[j]? = some v → Value.okWide Try.prog W .any base t v := hval0
  have hW' := hW
  obtain ⟨p, q, hA0, hV, rfl, hfz, hnd⟩ := hW
  have hA : DataW.TrodAll enc Try.prog W 0 (fun _ => true) true Try.f6.params.toList args.toList ds p := hA0
  rw [Try.params6] at hA hval
  obtain ⟨v0, vs0, d0, ds0, p0, q0, hargs, rfl, rfl, h0, r0⟩ := trodAll_cons hA
  obtain ⟨rfl, rfl, rfl⟩ := trodAll_nil r0
  obtain rfl : args = #[v0] := by cases args; simp_all
  obtain ⟨rfl, rfl⟩ := trodVars_none hV
  obtain ⟨a0, len0, cap0, rfl⟩ := okWide_slice Try.underlying22 (hval 0 22 v0 rfl rfl)
  have k0 := h0
  have lt0 : ∀ x ∈ p0, x.block < W.heap.size := by obtain ⟨m, hm⟩ := k0; exact DataW.trod_lt m _ _ _ hm
  obtain ⟨z0, w0⟩ : ∃ zs, IsRow .u8 W a0 len0 cap0 zs := by
    obtain ⟨fuel, hf⟩ := h0
    rcases open_ints Try.underlying22 Try.underlying5 (by kernel_rfl) hf with ⟨hcs, _⟩ | ⟨x, l, c, zs, hcs, _, hl, hm, hz, _, hcell, hwz⟩
    · simp [Value.cells] at hcs
      obtain ⟨rfl, rfl, rfl⟩ := hcs
      exact ⟨[], .inl ⟨rfl, rfl, rfl, rfl⟩⟩
    · simp [Value.cells] at hcs
      obtain ⟨rfl, rfl, rfl⟩ := hcs
      exact ⟨zs, .inr ⟨_, rfl, hl, hm, by simpa using hz, hcell, hwz⟩⟩
  clear hA0 hval0
  refine (walk a0 len0 cap0 z0 W w0).mono fun e W' ⟨he, bel⟩ => ?_
  subst he
  exact ⟨_, rfl, _, _, _, [], _, [], hW', trodAll_mk1 (shut_bool Try.underlying4 _), (trodAll_cons_mk (Below.trod laidOut (by kernel_rfl) (of_decide_eq_true (by kernel_rfl)) k0 bel lt0) trodAll_mk0), rfl, bel.frame _, fun h => by cases h⟩

theorem over : Rows.fnRungRow.holds Try.pinned (OpenSpec.ofChange Rows.fnRungSpec) :=
  OpenClaim.holds_of_wide 6 Try.f6 rfl rfl rfl rfl rfl rfl rfl ⟨rfl, rfl, rfl, rfl, rfl⟩ rfl rfl rfl rfl rfl (by kernel_rfl) Try.func6 (by kernel_rfl)
    (of_decide_eq_true (by kernel_rfl)) (by unfold Func.isWrapper; first | (rw [if_pos (by decide +kernel)]; kernel_rfl) | (rw [if_neg (by decide +kernel)]; exact ⟨rfl, rfl⟩))
    (fun os started H enc _ => lifted os started H enc)

/-- ████ THE STATEMENT ████ -/
theorem proved : Rows.FnRungSaid := over
#print axioms proved
end Go.Proofs.Ytfgofmcpgfofaaa.fnRung

