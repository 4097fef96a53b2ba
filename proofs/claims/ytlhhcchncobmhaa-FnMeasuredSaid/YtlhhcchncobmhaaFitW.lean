/- The walks of QuotientsOf, FitQuotients, sumConjugated, where all numbers are as told: no NaN comes up.
   Conditions: those that each statement names. -/
import Derived.Test.YtlhhcchncobmhaaPairX
namespace Go.Proofs.Ytlhhcchncobmhaa
set_option linter.unusedSimpArgs false
set_option linter.unusedVariables false
open Go Go.RowKit

/-- the quotients of each number by the one ahead of it -/
def QuoOk (zs qs : List (Nat × Nat)) : Prop := qs.length + 1 = zs.length ∧ (∀ z ∈ zs, Wz z) ∧ ∀ (k : Nat) a b q, zs[k]? = some a → zs[k + 1]? = some b → qs[k]? = some q → divD b.1 b.2 a.1 a.2 = some (q.1, q.2)
/-- the sums, from 0 on -/
def SumsOk (ps ss : List (Nat × Nat)) : Prop := ss.length = ps.length + 1 ∧ ss[0]? = some (0, 0) ∧ ∀ (k : Nat) p s t, ps[k]? = some p → ss[k]? = some s → ss[k + 1]? = some t → AddOk s p t
theorem getZ {zs : List (Nat × Nat)} {k : Nat} (h : k < zs.length) : ∃ z, zs[k]? = some z := ⟨zs[k], List.getElem?_eq_getElem h⟩

def mixZ (qs : List (Nat × Nat)) (k m : Nat) : List (Nat × Nat) := qs.take k ++ List.replicate (m - k) (0, 0)
theorem mixZ_zero (qs : List (Nat × Nat)) (m : Nat) : mixZ qs 0 m = List.replicate m (0, 0) := by simp [mixZ]
theorem mixZ_full (qs : List (Nat × Nat)) : mixZ qs qs.length qs.length = qs := by simp [mixZ]
theorem mixZ_len (qs : List (Nat × Nat)) (k m : Nat) (h : k ≤ m) (hq : qs.length = m) : (mixZ qs k m).length = m := by simp [mixZ]; omega
theorem mixZ_set (qs : List (Nat × Nat)) (k m : Nat) (q : Nat × Nat) (hk : k < m) (hq : qs.length = m) (h : qs[k]? = some q) : (cellsZ (mixZ qs k m)).set k (.complex .f64 q.1 q.2) = cellsZ (mixZ qs (k + 1) m) := by
  rw [cellsZ_set]
  congr 1
  apply List.ext_getElem?
  intro i
  unfold mixZ
  by_cases hik : i = k
  · subst hik
    rw [List.getElem?_set_self (by simp; omega), List.getElem?_append_left (by simp; omega), List.getElem?_take_of_lt (by omega), h]
  · rw [List.getElem?_set_ne (fun e => hik e.symm)]
    by_cases hlt : i < k
    · rw [List.getElem?_append_left (by simp; omega), List.getElem?_append_left (by simp; omega), List.getElem?_take_of_lt hlt, List.getElem?_take_of_lt (by omega)]
    · rw [List.getElem?_append_right (by simp; omega), List.getElem?_append_right (by simp; omega), List.getElem?_replicate, List.getElem?_replicate]
      simp only [List.length_take]
      rw [Nat.min_eq_left (by omega), Nat.min_eq_left (by omega)]
      by_cases h2 : i < m
      · rw [if_pos (by omega), if_pos (by omega)]
      · rw [if_neg (by omega), if_neg (by omega)]

def QuoI (B g m : Nat) (qs : List (Nat × Nat)) (w : World) (i : Value) (wr : World) : Prop :=
  ∃ k : Nat, k ≤ m ∧ i = .int .i64 (k : Int) ∧ wr.ownsRow B 41 1 (.slice (some ⟨g, 0, none⟩) m m) m (cellsZ (mixZ qs k m)) ∧ Nw w wr
def QuoP (qs : List (Nat × Nat)) (w : World) (e : Ending) (w' : World) : Prop :=
  ∃ v, e = .returned (.tuple #[v, .bool true]) ∧ w'.ownsRow w.heap.size 41 1 v qs.length (cellsZ qs) ∧ Nw w w'
set_option maxRecDepth 100000 in
theorem quotientsOf_ok (zs qs : List (Nat × Nat)) (n : Nat) (hn : zs.length = n) (h2 : 2 ≤ n) (hn2 : n ≤ 2000) (hq : QuoOk zs qs) (v : Value) (w : World) (h : RowZ w v zs) :
    Calls Try.prog 71 #[v] w (QuoP qs w) := by
  obtain ⟨j0, hj, hjz0, hjz1, hjz2⟩ := info_parts info_z128
  obtain ⟨va, cap, rfl, hcap, hmax, hcell⟩ := h
  rw [hn] at hcap ⊢
  have hzne : ¬ zs = [] := by intro e; rw [e] at hn; simp at hn; omega
  rcases hcell with hcell | ⟨g, off, rfl, hg, hc⟩
  · exact absurd hcell hzne
  have hqn : qs.length = n - 1 := by have := hq.1; omega
  obtain ⟨m, hm⟩ : ∃ m, m = n - 1 := ⟨_, rfl⟩
  have hmi : (n : Int) - 1 = (m : Int) := by omega
  have hmn : m + 1 = n := by omega
  have Hq := Lib.hid hq
  have Hc := Lib.hid hc
  have Hn := Lib.hid (And.intro hn (And.intro hqn hm))
  have hn2i : ¬ (n : Int) < 2 := by omega
  have hn3i : ¬ (2000 : Int) < (n : Int) := by omega
  unfold maxLen at hmax
  clear hc hq hn hqn hm hzne
  go_enter Try.func71, Try.ntmps71
  go_wp2_with (first
    | (at_make; refine wpList_make_full _ rfl _ _ 43 rfl w.heap.size 41 j0 (.complex .f64 0 0) 1 Try.underlying43 hj hjz0 hjz1 _ _ _ _ m (by first | rfl | (simp only [hmi]) | simp [hmi]) (by first | rfl | (simp only [hmi]) | simp [hmi]) (by first | rfl | (simp only [hmi]) | simp [hmi]) (by first | rfl | (simp only [hmi]) | simp [hmi]) (by rw [hjz2]; omega) (by unfold maxLen; omega) (Nat.le_refl _) ?_))
  intro w3 hown3 hgrow3
  have Hs3 := Lib.hid (show w3.ownsRow w.heap.size 41 1 (.slice (some ⟨w.heap.size, 0, none⟩) m m) m (cellsZ (mixZ qs 0 m)) from by
    rw [toList_madeCells_one] at hown3
    rw [mixZ_zero]
    simpa [cellsZ] using hown3)
  have Hn3 := Lib.hid (show Nw w w3 from hgrow3)
  clear hown3 hgrow3
  go_wp2_with fail
  go_loopw [22] (fun i wr => QuoI w.heap.size w.heap.size m qs w i wr) (fun i _ => m - (intOf i).toNat)
  case atStart => exact ⟨0, by omega, rfl, Hs3.out, Hn3.out⟩
  case round =>
    obtain ⟨k, hk, rfl, hown, hnw⟩ := hrel
    have Hown := Lib.hid hown
    have Hnw := Lib.hid hnw
    clear hown hnw
    by_cases hlt : k < m
    · obtain ⟨a, ha⟩ := getZ (zs := zs) (k := k) (by rw [Hn.out.1]; omega)
      obtain ⟨b, hb⟩ := getZ (zs := zs) (k := k + 1) (by rw [Hn.out.1]; omega)
      obtain ⟨q, hq⟩ := getZ (zs := qs) (k := k) (by rw [Hn.out.2.1]; omega)
      have Hd := Lib.hid (And.intro (Hq.out.2.2 k a b q ha hb hq) (And.intro (Hq.out.2.1 a (List.mem_of_getElem? ha)) (Hq.out.2.1 b (List.mem_of_getElem? hb))))
      have e1 := (Hnw.out.cell (p := ⟨g, off + k, none⟩) hg).trans (Hc.out k a ha)
      have e2 := (Hnw.out.cell (p := ⟨g, off + (k + 1), none⟩) hg).trans (Hc.out (k + 1) b hb)
      have e4 := Hown.out.frozenAt k
      have e3 := Hown.out.cellAt k (by omega)
      obtain ⟨y, hy⟩ := getZ (zs := mixZ qs k m) (k := k) (by rw [mixZ_len _ _ _ hk (by have := Hn.out.2; omega)]; exact hlt)
      rw [cellsZ_at hy] at e3
      have hset := Hown.out.stored k (.complex .f64 q.1 q.2)
      rw [mixZ_set qs k m q hlt (by have := Hn.out.2; omega) hq] at hset
      have Hset := Lib.hid hset.1
      have N4 := Lib.hid (fun z => Hnw.out.set (p := ⟨w.heap.size, k, none⟩) (by show w.heap.size ≤ w.heap.size; omega) z)
      clear ha hb hq hy hset
      have hz : ((k : Int) + 1).toNat = k + 1 := by omega
      have hk1 : (k : Int) + 1 < (n : Int) := by omega
      have hk0 : (0 : Int) ≤ (k : Int) + 1 := by omega
      have hk2 : (k : Int) < (n : Int) := by omega
      have hk3 : (k : Int) < (m : Int) := by omega
      go_wp2_with fail
      go_quiet (first | (go_at_call 70; exact Calls.quiet_of (implDiv_some _ _ _ _ _ _ _ Hd.out.2.2.1 Hd.out.2.2.2 Hd.out.2.1.1 Hd.out.2.1.2 Hd.out.1)))
      go_wp2_with fail
      go_roundw
      case rel => exact ⟨k + 1, by omega, by rw [show ((k + 1 : Nat) : Int) = (k : Int) + 1 from by omega], own_nw Hset.out ((Nw.refl _).draw _), (N4.out _).draw _⟩
      case measure => simp only [intOf]; omega
    · obtain rfl : k = m := by omega
      have hqk : qs.length = k := by have := Hn.out.2; omega
      have hfin := Hown.out
      rw [← hqk, mixZ_full] at hfin
      have Hfin := Lib.hid hfin
      have Hqk := Lib.hid hqk
      clear hfin hqk
      go_wp2_with fail
      go_ret2
      exact ⟨_, rfl, by have := Hfin.out; rwa [Hqk.out] at this ⊢, Hnw.out⟩

/-! ### sums -/
def SumZI (ss : List (Nat × Nat)) (m : Nat) (w : World) (s i : Value) (wr : World) : Prop := ∃ (k : Nat) (z : Nat × Nat), k ≤ m ∧ i = .int .i64 (k : Int) ∧ ss[k]? = some z ∧ s = .complex .f64 z.1 z.2 ∧ Nw w wr
def FitP (p : Nat × Nat) (w : World) (e : Ending) (w' : World) : Prop := e = .returned (.tuple #[.complex .f64 p.1 p.2, .bool true]) ∧ Nw w w'
set_option maxRecDepth 100000 in
theorem fitQuotients_ok (zs qs ss : List (Nat × Nat)) (n : Nat) (hn : zs.length = n) (h2 : 2 ≤ n) (hn2 : n ≤ 2000) (hq : QuoOk zs qs) (hs : SumsOk qs ss) (s p : Nat × Nat) (hl : ss[n - 1]? = some s) (hsw : Wz s) (hp : divD s.1 s.2 (floatOfInt .f64 ((n - 1 : Nat) : Int)) 0 = some (p.1, p.2)) (v : Value) (w : World) (h : RowZ w v zs) :
    Calls Try.prog 30 #[v] w (FitP p w) := by
  have Hq := Lib.hid (quotientsOf_ok zs qs n hn h2 hn2 hq v w h)
  have hqn : qs.length = n - 1 := by have := hq.1; omega
  obtain ⟨m, hm⟩ : ∃ m, m = n - 1 := ⟨_, rfl⟩
  rw [← hm] at hl hp hqn
  have Hs := Lib.hid (And.intro hs (And.intro hl (And.intro hsw hp)))
  have Hn := Lib.hid hqn
  obtain ⟨va, cap, rfl, -, -, -⟩ := h
  have hm2000 : m ≤ 2000 := by omega
  have hw : floatOfInt .f64 (m : Int) < 2 ^ 64 := by have := floatOfInt_wf .f64 (m : Int); simpa [Lit.wf] using this
  have Hd := Lib.hid (fun W => implDiv_some s.1 s.2 (floatOfInt .f64 (m : Int)) 0 p.1 p.2 W hsw.1 hsw.2 hw (by decide) hp)
  clear hq hs hl hsw hp hqn hn hw hm
  go_enter Try.func30, Try.ntmps30
  go_wp2_with fail
  refine Hq.out.mono ?_
  rintro e w1 ⟨v1, rfl, own1, n1⟩
  rw [Hn.out] at own1
  obtain ⟨ua, uc, rfl⟩ := own_shape' own1
  have Own := Lib.hid own1
  have N1 := Lib.hid n1
  clear own1 n1
  go_wp2_with fail
  go_loopw [6, 18] (fun s i wr => SumZI ss m w1 s i wr) (fun _ i _ => m - (intOf i).toNat)
  case atStart => exact ⟨0, (0, 0), by omega, rfl, Hs.out.1.2.1, rfl, Nw.refl _⟩
  case round =>
    obtain ⟨k, z, hk, rfl, hz, rfl, hnw⟩ := hrel
    have Hz := Lib.hid hz
    have Hnw := Lib.hid hnw
    clear hz hnw
    by_cases hlt : k < m
    · obtain ⟨q, hq⟩ := getZ (zs := qs) (k := k) (by rw [Hn.out]; exact hlt)
      obtain ⟨t, ht⟩ := getZ (zs := ss) (k := k + 1) (by rw [Hs.out.1.1, Hn.out]; omega)
      have hadd := Hs.out.1.2.2 k q z t hq Hz.out ht
      have own2 := own_nw Own.out Hnw.out
      rcases own2.2 with ⟨hv, h0⟩ | ⟨g, cap', cur, hv, hb, hg, hc, hmx, -⟩
      · omega
      · cases hv
        have e1 := own2.cellAt k (by omega)
        rw [cellsZ_at hq] at e1
        unfold maxLen at hmx
        have t1 : ∀ w, fres w .add .f64 z.1 q.1 = t.1 := fun w => by unfold fres; rw [hadd.1]
        have t2 : ∀ w, fres w .add .f64 z.2 q.2 = t.2 := fun w => by unfold fres; rw [hadd.2]
        have d1 : fdr .add .f64 z.1 q.1 = 0 := by unfold fdr; rw [hadd.1]; rfl
        have d2 : fdr .add .f64 z.2 q.2 = 0 := by unfold fdr; rw [hadd.2]; rfl
        have Ht := Lib.hid ht
        clear hq ht hadd own2 hg hb
        have hk3 : (k : Int) < (m : Int) := by omega
        go_wp2_with fail
        go_roundw
        case rel => exact ⟨k + 1, t, by omega, by rw [show ((k + 1 : Nat) : Int) = (k : Int) + 1 from by omega], Ht.out, rfl, Hnw.out⟩
        case measure => simp only [intOf]; omega
    · obtain rfl : k = m := by omega
      obtain rfl : z = s := by have h1 := Hz.out; rw [Hs.out.2.1] at h1; cases h1; rfl
      go_wp2_with fail
      refine (Hd.out _).mono ?_
      rintro e w5 ⟨rfl, m5, rfl⟩
      go_wp2_with fail
      go_ret2
      exact ⟨rfl, (N1.out.trans Hnw.out).draw _⟩

/-! ### sums of products with conjugates -/
def conjZ (z : Nat × Nat) : Nat × Nat := (z.1, Op.negFloat .f64 z.2)
def ConjOk (us bs ps : List (Nat × Nat)) : Prop := bs.length = us.length ∧ ps.length = us.length ∧ ∀ (k : Nat) a b p, us[k]? = some a → bs[k]? = some b → ps[k]? = some p → mulC (fabC a) (fabC (conjZ b)) = (some p.1, some p.2)
theorem conj_any (x y : Nat) (w : World) :
    Calls Try.prog 99 #[.complex .f64 x y] w fun e w' => e = .returned (.complex .f64 (conjZ (x, y)).1 (conjZ (x, y)).2) ∧ w = w' := by
  unfold conjZ
  go_enter Try.func99, Try.ntmps99
  go_wp2_with fail
  all_goals (go_ret; exact ⟨rfl, rfl⟩)
theorem implMul_some (a b p : Nat × Nat) (h : mulC (fabC a) (fabC b) = (some p.1, some p.2)) (w : World) :
    Calls Try.prog 22 #[.complex .f64 a.1 a.2, .complex .f64 b.1 b.2] w fun e w' => e = .returned (.complex .f64 p.1 p.2) ∧ ∃ n, w' = w.drewN n := by
  refine (implMul_any _ _ _ _ _).mono ?_
  rintro e w1 ⟨x, y, n, rfl, rfl, hx, hy, -, -⟩
  have e1 : x = p.1 := fab_some_eq (hx.trans (congrArg Prod.fst h))
  have e2 : y = p.2 := fab_some_eq (hy.trans (congrArg Prod.snd h))
  subst e1 e2
  exact ⟨rfl, n, rfl⟩
theorem add_run {P : Program} {T : TypeId} {x y z : Nat × Nat} (h : AddOk x y z) (w : World) : (binOp .add T (.complex .f64 x.1 x.2) (.complex .f64 y.1 y.2)).run P w = .ok (.complex .f64 z.1 z.2) w := by
  have t1 : ∀ w, fres w .add .f64 x.1 y.1 = z.1 := fun w => by unfold fres; rw [h.1]
  have t2 : ∀ w, fres w .add .f64 x.2 y.2 = z.2 := fun w => by unfold fres; rw [h.2]
  have d1 : fdr .add .f64 x.1 y.1 = 0 := by unfold fdr; rw [h.1]; rfl
  have d2 : fdr .add .f64 x.2 y.2 = 0 := by unfold fdr; rw [h.2]; rfl
  rw [run_cx_add, d1, d2, t1, t2]
  rfl

set_option maxRecDepth 100000 in
theorem sumConj_ok (us bs ps ss : List (Nat × Nat)) (n : Nat) (hn : us.length = n) (hn2 : n ≤ 2000) (hp : ConjOk us bs ps) (hs : SumsOk ps ss) (s : Nat × Nat) (hl : ss[n]? = some s) (va vb : Value) (w : World) (ha : RowZ w va us) (hb : RowZ w vb bs) :
    Calls Try.prog 72 #[va, vb] w fun e w' => e = .returned (.complex .f64 s.1 s.2) ∧ Nw w w' := by
  have hbn : bs.length = n := by rw [hp.1, hn]
  have hpn : ps.length = n := by rw [hp.2.1, hn]
  obtain ⟨a, capa, rfl, hcapa, hmaxa, hca⟩ := ha
  obtain ⟨b, capb, rfl, hcapb, hmaxb, hcb⟩ := hb
  rw [hn] at hcapa ⊢
  rw [hbn] at hcapb ⊢
  have Hs := Lib.hid (And.intro hp (And.intro hs hl))
  have Ha := Lib.hid hca
  have Hb := Lib.hid hcb
  have Hn := Lib.hid (And.intro hn (And.intro hbn hpn))
  unfold maxLen at hmaxa hmaxb
  clear hp hs hl hca hcb hn hbn hpn
  go_enter Try.func72, Try.ntmps72
  go_wp2_with fail
  go_loopw [5, 9] (fun s i wr => SumZI ss n w s i wr) (fun _ i _ => n - (intOf i).toNat)
  case atStart => exact ⟨0, (0, 0), by omega, rfl, Hs.out.2.1.2.1, rfl, Nw.refl _⟩
  case round =>
    obtain ⟨k, z, hk, rfl, hz, rfl, hnw⟩ := hrel
    have Hz := Lib.hid hz
    have Hnw := Lib.hid hnw
    clear hz hnw
    by_cases hlt : k < n
    · obtain ⟨x, hx⟩ := getZ (zs := us) (k := k) (by rw [Hn.out.1]; exact hlt)
      obtain ⟨y, hy⟩ := getZ (zs := bs) (k := k) (by rw [Hn.out.2.1]; exact hlt)
      obtain ⟨p, hp⟩ := getZ (zs := ps) (k := k) (by rw [Hn.out.2.2]; exact hlt)
      obtain ⟨t, ht⟩ := getZ (zs := ss) (k := k + 1) (by rw [Hs.out.2.1.1, Hn.out.2.2]; omega)
      have hmul := Hs.out.1.2.2 k x y p hx hy hp
      have hadd := Hs.out.2.1.2.2 k p z t hp Hz.out ht
      rcases Ha.out with h0 | ⟨ga, offa, rfl, hga, hca⟩
      · rw [h0] at hx; simp at hx
      rcases Hb.out with h0 | ⟨gb, offb, rfl, hgb, hcb⟩
      · rw [h0] at hy; simp at hy
      have e1 := (Hnw.out.cell (p := ⟨ga, offa + k, none⟩) hga).trans (hca k x hx)
      have e2 := (Hnw.out.cell (p := ⟨gb, offb + k, none⟩) hgb).trans (hcb k y hy)
      have r1 : ∀ w, (binOp .add 41 (.complex .f64 z.1 z.2) (.complex .f64 p.1 p.2)).run Try.prog w = .ok (.complex .f64 t.1 t.2) w := fun w => add_run hadd w
      have Hm := Lib.hid (fun W => implMul_some x (conjZ y) p hmul W)
      have Hc := Lib.hid (fun W => conj_any y.1 y.2 W)
      have Ht := Lib.hid ht
      clear hx hy hp ht hmul hadd hca hcb
      have hk3 : (k : Int) < (n : Int) := by omega
      go_wp2_with fail
      go_quiet (first
        | (go_at_call 99; exact quiet_eq (Hc.out _))
        | (go_at_call 22; exact Calls.quiet_of (Hm.out _)))
      go_wp2_with fail
      go_roundw
      case rel => exact ⟨k + 1, t, by omega, by rw [show ((k + 1 : Nat) : Int) = (k : Int) + 1 from by omega], Ht.out, rfl, Hnw.out.draw _⟩
      case measure => simp only [intOf]; omega
    · obtain rfl : k = n := by omega
      obtain rfl : z = s := by have h1 := Hz.out; rw [Hs.out.2.2] at h1; cases h1; rfl
      go_wp2_with fail
      go_ret
      exact ⟨rfl, Hnw.out⟩

/-! ### pieces of a recording -/
theorem rowz_piece {w : World} {g off n cap : Nat} {zs : List (Nat × Nat)} (hc : ∀ (k : Nat) z, zs[k]? = some z → w.cell? ⟨g, off + k, none⟩ = some (.complex .f64 z.1 z.2)) (hn : zs.length = n) (hcap : n ≤ cap) (hmax : cap ≤ maxLen) (hg : g < w.heap.size) (i m : Nat) (him : i + m ≤ n) :
    RowZ w (.slice (some ⟨g, off + i, none⟩) m (cap - i)) ((zs.drop i).take m) := by
  have hl : ((zs.drop i).take m).length = m := by rw [List.length_take, List.length_drop, hn]; omega
  refine ⟨some ⟨g, off + i, none⟩, cap - i, by rw [hl], by rw [hl]; omega, by omega, .inr ⟨g, off + i, rfl, hg, fun k z hk => ?_⟩⟩
  have hkm : k < m := by have := (List.getElem?_eq_some_iff.1 hk).1; omega
  rw [List.getElem?_take_of_lt hkm, List.getElem?_drop] at hk
  have := hc (i + k) z hk
  rwa [← Nat.add_assoc] at this
/-- a sum over products with conjugates, as told -/
def SumTold (us bs : List (Nat × Nat)) (s : Nat × Nat) : Prop := Wz s ∧ ∃ ps ss, ConjOk us bs ps ∧ SumsOk ps ss ∧ ss[us.length]? = some s

theorem sumTold_ok (us bs : List (Nat × Nat)) (n : Nat) (hn : us.length = n) (hn2 : n ≤ 2000) (s : Nat × Nat) (h : SumTold us bs s) (va vb : Value) (w : World) (ha : RowZ w va us) (hb : RowZ w vb bs) :
    Calls Try.prog 72 #[va, vb] w fun e w' => e = .returned (.complex .f64 s.1 s.2) ∧ Nw w w' := by
  obtain ⟨-, ps, ss, a1, a2, a3⟩ := h
  rw [hn] at a3
  exact sumConj_ok us bs ps ss n hn hn2 a1 a2 s a3 va vb w ha hb
set_option maxRecDepth 100000 in
theorem fitSquares_ok (zs : List (Nat × Nat)) (n : Nat) (hn : zs.length = n) (h2 : 2 ≤ n) (hn2 : n ≤ 2000) (s1 s2 p : Nat × Nat) (h1 : SumTold (zs.drop 1) (zs.take (n - 1)) s1) (h3 : SumTold (zs.take (n - 1)) (zs.take (n - 1)) s2) (hp : divD s1.1 s1.2 s2.1 s2.2 = some (p.1, p.2)) (v : Value) (w : World) (h : RowZ w v zs) :
    Calls Try.prog 31 #[v] w (FitP p w) := by
  obtain ⟨va, cap, rfl, hcap, hmax, hcell⟩ := h
  rw [hn] at hcap ⊢
  have hzne : ¬ zs = [] := by intro e; rw [e] at hn; simp at hn; omega
  rcases hcell with hcell | ⟨g, off, rfl, hg, hc⟩
  · exact absurd hcell hzne
  obtain ⟨m, hm⟩ : ∃ m, m = n - 1 := ⟨_, rfl⟩
  rw [← hm] at h1 h3
  have l1 : (zs.drop 1).length = m := by rw [List.length_drop, hn, hm]
  have l2 : (zs.take m).length = m := by rw [List.length_take, hn]; omega
  have R1 := Lib.hid (show RowZ w (.slice (some ⟨g, off + 1, none⟩) m (cap - 1)) (zs.drop 1) from by
    have := rowz_piece hc hn hcap hmax hg 1 m (by omega)
    rwa [List.take_of_length_le (by rw [l1]; exact Nat.le_refl _)] at this)
  have R2 := Lib.hid (show RowZ w (.slice (some ⟨g, off, none⟩) m cap) (zs.take m) from by
    have := rowz_piece hc hn hcap hmax hg 0 m (by omega)
    simpa using this)
  have C1 := Lib.hid (fun W (hW : Nw w W) => sumTold_ok (zs.drop 1) (zs.take m) m l1 (by omega) s1 h1 _ _ W (R1.out.nw hW) (R2.out.nw hW))
  have C2 := Lib.hid (fun W (hW : Nw w W) => sumTold_ok (zs.take m) (zs.take m) m l2 (by omega) s2 h3 _ _ W (R2.out.nw hW) (R2.out.nw hW))
  have Hd := Lib.hid (fun W => implDiv_some s1.1 s1.2 s2.1 s2.2 p.1 p.2 W h1.1.1 h1.1.2 h3.1.1 h3.1.2 hp)
  have hmi : (n : Int) - 1 = (m : Int) := by omega
  have hmn : n - 1 = m := hm.symm
  have hn2i : ¬ (n : Int) < 2 := by omega
  have hn3i : ¬ (2000 : Int) < (n : Int) := by omega
  have hc1 : ¬ cap = 1 := by omega
  have hm0 : (0 : Int) ≤ (m : Int) := by omega
  have hmc : (m : Int) ≤ (cap : Int) := by omega
  have h1n : (1 : Int) ≤ (n : Int) := by omega
  unfold maxLen at hmax
  clear hc hzne l1 l2 h1 h3 hp hn hm
  go_enter Try.func31, Try.ntmps31
  go_wp2_with fail
  refine (C1.out _ (Nw.refl _)).mono ?_
  rintro e w1 ⟨rfl, n1⟩
  have N1 := Lib.hid n1
  clear n1
  go_wp2_with fail
  refine (C2.out _ N1.out).mono ?_
  rintro e w2 ⟨rfl, n2⟩
  have N2 := Lib.hid (N1.out.trans n2)
  clear n2
  go_wp2_with fail
  refine (Hd.out _).mono ?_
  rintro e w3 ⟨rfl, m3, rfl⟩
  go_wp2_with fail
  go_ret2
  exact ⟨rfl, N2.out.draw _⟩

set_option maxRecDepth 100000 in
theorem fitStart_ok (zs ys : List (Nat × Nat)) (n : Nat) (hn : zs.length = n) (h2 : 1 ≤ n) (hn2 : n ≤ 2000) (a b : Nat) (hab : Wz (a, b)) (s1 s2 p : Nat × Nat) (hyl : ys.length = n)
    (hy : ∀ y, y.length = n → Ringing (fabC (a, b)) (fabC (4607182418800017408, 0)) y → y = ys) (h1 : SumTold zs ys s1) (h3 : SumTold ys ys s2) (hp : divD s1.1 s1.2 s2.1 s2.2 = some (p.1, p.2)) (v : Value) (w : World) (h : RowZ w v zs) :
    Calls Try.prog 32 #[v, .complex .f64 a b] w (FitP p w) := by
  have Hr := Lib.hid (ringMode_any a b 4607182418800017408 0 n hab ⟨by decide, by decide⟩ hn2 w)
  have R0 := Lib.hid h
  have C1 := Lib.hid (fun W va vb (ha : RowZ W va zs) (hb : RowZ W vb ys) => sumTold_ok zs ys n hn hn2 s1 h1 va vb W ha hb)
  have C2 := Lib.hid (fun W va vb (ha : RowZ W va ys) (hb : RowZ W vb ys) => sumTold_ok ys ys n hyl hn2 s2 h3 va vb W ha hb)
  have Hd := Lib.hid (fun W => implDiv_some s1.1 s1.2 s2.1 s2.2 p.1 p.2 W h1.1.1 h1.1.2 h3.1.1 h3.1.2 hp)
  have Hy := Lib.hid (And.intro hy hyl)
  obtain ⟨va, cap, rfl, hcap, hmax, -⟩ := h
  rw [hn] at hcap R0 ⊢
  clear hy hyl h1 h3 hp hn
  go_enter Try.func32, Try.ntmps32
  go_wp2_with fail
  refine Hr.out.mono ?_
  rintro e w1 ⟨v1, y1, rfl, hl1, own1, ring1, n1⟩
  obtain rfl := Hy.out.1 y1 hl1 ring1
  have Y1 := Lib.hid (RowZ.of_own own1 hl1)
  obtain ⟨ua, uc, rfl⟩ := own_shape' own1
  have N1 := Lib.hid n1
  clear own1 ring1 n1 hl1
  go_wp2_with fail
  refine (C1.out _ _ _ (R0.out.nw N1.out) Y1.out).mono ?_
  rintro e w2 ⟨rfl, n2⟩
  have N2 := Lib.hid (N1.out.trans n2)
  have Y2 := Lib.hid (Y1.out.nw n2)
  clear n2
  go_wp2_with fail
  refine (C2.out _ _ _ Y2.out Y2.out).mono ?_
  rintro e w3 ⟨rfl, n3⟩
  have N3 := Lib.hid (N2.out.trans n3)
  clear n3
  go_wp2_with fail
  refine (Hd.out _).mono ?_
  rintro e w4 ⟨rfl, m4, rfl⟩
  go_wp2_with fail
  go_ret2
  exact ⟨rfl, N3.out.draw _⟩

/-! ### spectra, as told -/
def SpecTold (W : Nat × Nat) (zs : List (Nat × Nat)) (s : Nat × Nat) : Prop := ∃ ns : List (Nat × Nat), ns.length = zs.length + 1 ∧ ns[zs.length]? = some (0, 0) ∧ ns[0]? = some s ∧
  ∀ (k : Nat) z a b, zs[k]? = some z → ns[k + 1]? = some a → ns[k]? = some b → ∃ q : Nat × Nat, mulC (fabC a) (fabC W) = (some q.1, some q.2) ∧ AddOk q z b
def SpecD (ns : List (Nat × Nat)) (n : Nat) (w : World) (number i : Value) (wr : World) : Prop :=
  ∃ (j : Nat) (a : Nat × Nat), j ≤ n ∧ i = .int .i64 ((j : Int) - 1) ∧ number = .complex .f64 a.1 a.2 ∧ ns[j]? = some a ∧ ∃ q, wr = w.drewN q
set_option maxRecDepth 100000 in
theorem spectrumTold_ok (zs : List (Nat × Nat)) (v : Value) (W s : Nat × Nat) (hl : zs.length ≤ 1048576) (w : World) (h : RowZ w v zs) (hs : SpecTold W zs s) :
    Calls Try.prog 23 #[v, .complex .f64 W.1 W.2] w fun e w' => e = .returned (.complex .f64 s.1 s.2) ∧ ∃ n, w' = w.drewN n := by
  obtain ⟨va, cap, rfl, hcap, hmax, hcell⟩ := h
  have Hcell := Lib.hid hcell
  clear hcell
  unfold maxLen at hmax
  obtain ⟨ns, hn1, hn2, hn3, hn4⟩ := hs
  obtain ⟨n, hn⟩ : ∃ n, n = zs.length := ⟨_, rfl⟩
  rw [← hn] at hl hcap hn1 hn2
  rw [← hn]
  have Hn := Lib.hid hn
  have Hs := Lib.hid (And.intro hn1 (And.intro hn2 (And.intro hn3 hn4)))
  clear hn hn1 hn2 hn3 hn4
  go_enter Try.func23, Try.ntmps23
  go_wp2_with fail
  go_loopw [5, 6] (fun number i wr => SpecD ns n w number i wr) (fun _ i _ => (intOf i + 1).toNat)
  case atStart => exact ⟨n, (0, 0), Nat.le_refl _, rfl, rfl, Hs.out.2.1, 0, rfl⟩
  case round =>
    obtain ⟨j, a, hj, rfl, rfl, ha, qw, rfl⟩ := hrel
    have Ha := Lib.hid ha
    clear ha
    by_cases hj0 : 0 < j
    · obtain ⟨k, rfl⟩ : ∃ k, j = k + 1 := ⟨j - 1, by omega⟩
      rw [show (((k + 1 : Nat) : Int) - 1) = (k : Int) from by omega]
      obtain ⟨z, hzk⟩ := getZ (zs := zs) (k := k) (by rw [← Hn.out]; omega)
      obtain ⟨b, hb⟩ := getZ (zs := ns) (k := k) (by rw [Hs.out.1]; omega)
      rcases Hcell.out with h0 | ⟨g, off, rfl, hg, hc⟩
      · rw [h0] at hzk; simp at hzk
      obtain ⟨q, hm, hadd⟩ := Hs.out.2.2.2 k z a b hzk Ha.out hb
      have e1 : (w.drewN qw).cell? ⟨g, off + k, none⟩ = some (.complex .f64 z.1 z.2) := hc k z hzk
      have r1 : ∀ w, (binOp .add 41 (.complex .f64 q.1 q.2) (.complex .f64 z.1 z.2)).run Try.prog w = .ok (.complex .f64 b.1 b.2) w := fun w => add_run hadd w
      have Hm := Lib.hid (fun X => implMul_some a W q hm X)
      have Hb := Lib.hid hb
      have hk3 : (k : Int) < (n : Int) := by omega
      have hk0 : (0 : Int) ≤ (k : Int) := by omega
      clear hc hzk hb hm hadd
      obtain ⟨wo, hwo⟩ : ∃ wo, wo = w.drewN qw := ⟨_, rfl⟩
      rw [← hwo] at e1 ⊢
      have Hwo := Lib.hid hwo
      clear hwo
      go_wp2_with fail
      go_quiet (first | (go_at_call 22; exact Calls.quiet_of (Hm.out _)))
      go_wp2_with fail
      go_roundw
      case rel => exact ⟨k, b, by omega, rfl, rfl, Hb.out, qw + nq, by rw [Hwo.out]; first | rfl | rw [World.drewN_drewN]⟩
      case measure => simp only [intOf]; omega
    · obtain rfl : j = 0 := by omega
      obtain rfl : a = s := by have h1 := Ha.out; rw [Hs.out.2.2.1] at h1; cases h1; rfl
      go_wp2_with fail
      go_ret
      exact ⟨rfl, qw, rfl⟩

set_option maxHeartbeats 1600000 in
set_option maxRecDepth 100000 in
theorem fitSpectra_ok (zs : List (Nat × Nat)) (n half : Nat) (hn : zs.length = n) (h1 : 1 ≤ half) (h2 : 2 * half ≤ n) (hn2 : n ≤ 1000) (W s1 s2 p : Nat × Nat) (w1 : Wz s1) (w2 : Wz s2) (t1 : SpecTold W ((zs.drop half).take half) s1) (t2 : SpecTold W (zs.take half) s2)
    (hp : divD s1.1 s1.2 s2.1 s2.2 = some (p.1, p.2)) (v : Value) (w : World) (h : RowZ w v zs) :
    Calls Try.prog 33 #[v, .complex .f64 W.1 W.2, .int .i64 (half : Int)] w (FitP p w) := by
  obtain ⟨va, cap, rfl, hcap, hmax, hcell⟩ := h
  rw [hn] at hcap ⊢
  have hzne : ¬ zs = [] := by intro e; rw [e] at hn; simp at hn; omega
  rcases hcell with hcell | ⟨g, off, rfl, hg, hc⟩
  · exact absurd hcell hzne
  have l1 : ((zs.drop half).take half).length = half := by rw [List.length_take, List.length_drop, hn]; omega
  have l2 : (zs.take half).length = half := by rw [List.length_take, hn]; omega
  have R1 := Lib.hid (rowz_piece hc hn hcap hmax hg half half (by omega))
  have R2 := Lib.hid (show RowZ w (.slice (some ⟨g, off, none⟩) half cap) (zs.take half) from by
    have := rowz_piece hc hn hcap hmax hg 0 half (by omega)
    simpa using this)
  have C1 := Lib.hid (fun X (hX : Nw w X) => spectrumTold_ok ((zs.drop half).take half) _ W s1 (by omega) X (R1.out.nw hX) t1)
  have C2 := Lib.hid (fun X (hX : Nw w X) => spectrumTold_ok (zs.take half) _ W s2 (by omega) X (R2.out.nw hX) t2)
  have Hd := Lib.hid (fun X => implDiv_some s1.1 s1.2 s2.1 s2.2 p.1 p.2 X w1.1 w1.2 w2.1 w2.2 hp)
  have i1 : ¬ (half : Int) < 1 := by omega
  have i2 : ¬ (2000 : Int) < (half : Int) := by omega
  have i3 : ¬ (n : Int) < 2 * (half : Int) := by omega
  have i4 : (half : Int) ≤ 2 * (half : Int) := by omega
  have i5 : 2 * (half : Int) ≤ (cap : Int) := by omega
  have i6 : (0 : Int) ≤ (half : Int) := by omega
  have i7 : (half : Int) ≤ (cap : Int) := by omega
  have i8 : ¬ cap = half := by omega
  have i9 : ¬ cap - half = 0 := by omega
  have i10 : (2 * (half : Int)).toNat = 2 * half := by omega
  have i11 : 2 * half - half = half := by omega
  have i12 : IntKind.i64.wrap (2 * (half : Int)) = 2 * (half : Int) := by rw [IntKind.wrap_i64]; omega
  unfold maxLen at hmax
  clear hc hzne l1 l2 t1 t2 hp hn w1 w2
  go_enter Try.func33, Try.ntmps33
  go_wp2_with fail
  go_quiet (first
    | (go_at_call 23; with_reducible exact Calls.quiet_of (C1.out _ ((Nw.refl w).draw _)))
    | (go_at_call 23; with_reducible exact Calls.quiet_of (C2.out _ ((Nw.refl w).draw _)))
    | (go_at_call 70; with_reducible exact Calls.quiet_of (Hd.out _)))
  go_wp2_with fail
  go_ret2
  exact ⟨rfl, (Nw.refl w).draw _⟩

end Go.Proofs.Ytlhhcchncobmhaa
