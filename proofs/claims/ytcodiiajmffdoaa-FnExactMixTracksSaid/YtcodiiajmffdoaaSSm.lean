/- The walks of eqFloat32SS and markFloat32SS over rows that the law has copied.
   Conditions: those that each statement names. -/
import Derived.Test.YtcodiiajmffdoaaSS
namespace Go.Proofs.Ytcodiiajmffdoaa
open Go Go.RowKit

set_option maxHeartbeats 6400000 in
set_option maxRecDepth 100000 in
theorem eqFloat32SS_ok (rows : List (List Nat)) (n b1 g1 b2 g2 : Nat) (gs1 gs2 : List Nat) (hn : n ≤ 1048576) (hr : ∀ r ∈ rows, r.length ≤ 1048576) (w : World) (h1 : SRows w b1 g1 n gs1 rows) (h2 : SRows w b2 g2 n gs2 rows) :
    Calls Try.prog 50 #[.slice (some ⟨g1, 0, none⟩) n n, .slice (some ⟨g2, 0, none⟩) n n] w fun e w' => e = .returned (.bool true) ∧ Nw w w' := by
  have H1 := Lib.hid h1
  have H2 := Lib.hid h2
  have Hr := Lib.hid hr
  clear h1 h2 hr
  go_enter Try.func50, Try.ntmps50
  go_wp2_with fail
  go_loopw [5] (fun i wr => CountI n w i wr) (fun i _ => n - (intOf i).toNat)
  case atStart => exact ⟨0, by omega, rfl, Nw.refl _⟩
  case round =>
    obtain ⟨k, hk, rfl, hN⟩ := hrel
    have Nr := Lib.hid hN
    clear hN
    by_cases hlt : k < n
    · obtain ⟨x1, r, hx1, hrk, e1, o1⟩ := (H1.out.nw Nr.out).at hlt
      obtain ⟨x2, r2, hx2, hrk2, e2, o2⟩ := (H2.out.nw Nr.out).at hlt
      rw [hrk] at hrk2
      cases hrk2
      have hrl := Hr.out r (List.mem_of_getElem? hrk)
      have nd : Nw wr wr.drew := ⟨rfl, rfl, rfl, Nat.le_refl _, fun _ _ _ => rfl⟩
      have A1 := Lib.hid (show wr.drew.ownsRow b1 25 1 (.slice (some ⟨x1, 0, none⟩) r.length r.length) r.length (cellsS r) from own_nw o1 nd)
      have A2 := Lib.hid (show wr.drew.ownsRow b2 25 1 (.slice (some ⟨x2, 0, none⟩) r.length r.length) r.length (cellsS r) from own_nw o2 nd)
      have Nd := Lib.hid (Nr.out.trans nd)
      clear hx1 hx2 hrk o1 o2 nd
      go_upto_region 6 with fail
      go_region_with (first | (go_at_call 36; refine (eqFloat32S_ok r r.length b1 b2 _ _ rfl hrl _ A1.out A2.out).mono ?_; rintro e w5 ⟨rfl, n5⟩))
      all_goals
        go_wp2_with fail
        go_roundw
        case rel => exact ⟨k + 1, by omega, by rw [show ((k + 1 : Nat) : Int) = (k : Int) + 1 from by omega], Nd.out.trans n5⟩
        case measure => simp only [intOf]; omega
    · obtain rfl : k = n := by omega
      go_wp2_with fail
      go_ret
      exact ⟨rfl, Nr.out⟩

/-! ### the marks, whatever they are -/
def MarkAI (n b : Nat) (v : Value) (q : Nat) (w : World) (m i : Value) (wr : World) : Prop :=
  ∃ (k : Nat) (zs : List Nat), k ≤ n ∧ i = .int .i64 (k : Int) ∧ m = .int .i64 ((q : Int) + k) ∧ zs.length = n ∧ wr.ownsRow b 25 1 v n (cellsS zs) ∧ w.grownBy wr v.ownBlock
def MarkAP (n b q : Nat) (v : Value) (w : World) (e : Ending) (w' : World) : Prop :=
  ∃ zs : List Nat, e = .returned (.int .i64 ((q : Int) + n)) ∧ zs.length = n ∧ w'.ownsRow b 25 1 v n (cellsS zs) ∧ w.grownBy w' v.ownBlock
theorem markAny_ok (zs : List Nat) (n b q : Nat) (v : Value) (hl : zs.length = n) (hn : n ≤ 1048576) (hq : q ≤ 1099513724928) (w : World) (h : w.ownsRow b 25 1 v n (cellsS zs)) :
    Calls Try.prog 44 #[v, .int .i64 (q : Int)] w (MarkAP n b q v w) := by
  obtain ⟨va, vc, rfl⟩ := own_shape' h
  have H := Lib.hid h
  have Hl := Lib.hid hl
  clear h hl
  go_enter Try.func44, Try.ntmps44
  go_wp2_with fail
  go_loopw [1, 5] (fun m i wr => MarkAI n b (.slice va n vc) q w m i wr) (fun _ i _ => n - (intOf i).toNat)
  case atStart => exact ⟨0, zs, by omega, rfl, by rw [show (q : Int) + ((0 : Nat) : Int) = q from by omega], Hl.out, H.out, World.grownBy.refl _ _⟩
  case round =>
    obtain ⟨k, ys, hk, rfl, rfl, hyl, how, hgr⟩ := hrel
    have Hy := Lib.hid hyl
    have Ow := Lib.hid how
    have Gr := Lib.hid hgr
    clear how hgr hyl
    by_cases hlt : k < n
    · obtain ⟨x, hxk⟩ : ∃ x, ys[k]? = some x := ⟨ys[k]'(by rw [Hy.out]; exact hlt), List.getElem?_eq_getElem _⟩
      obtain ⟨g1, cap1, hv1, hcap1, hmax1, -, e1⟩ := own_sample Ow.out hxk Hy.out.symm
      cases hv1
      unfold maxLen at hmax1
      have e2 := Ow.out.frozenAt k
      have hset := Ow.out.stored k (.float .f32 (floatOfInt .f32 ((q : Int) + k)))
      rw [show (cellsS ys).set k (.float .f32 (floatOfInt .f32 ((q : Int) + k))) = cellsS (ys.set k (floatOfInt .f32 ((q : Int) + k))) from by simp [cellsS, List.map_set]] at hset
      have F := Lib.hid hset.1
      have G2 := Lib.hid (Kp.set (c := g1) Gr.out k (.float .f32 (floatOfInt .f32 ((q : Int) + k))))
      clear hset hxk
      go_wp2_with fail
      go_roundw
      case rel => exact ⟨k + 1, _, by omega, by rw [show ((k + 1 : Nat) : Int) = (k : Int) + 1 from by omega], by rw [show (q : Int) + ((k + 1 : Nat) : Int) = (q : Int) + k + 1 from by omega], by rw [List.length_set]; exact Hy.out, F.out, G2.out⟩
      case measure => simp only [intOf]; omega
    · obtain rfl : k = n := by omega
      go_wp2_with fail
      go_ret
      exact ⟨ys, rfl, Hy.out, Ow.out, Gr.out⟩

/-- what lies in none of these blocks is as it was -/
def Else (gs : List Nat) (w w' : World) : Prop :=
  (∀ (b : Nat) (E : TypeId) (size n : Nat) (v : Value) (xs : List Value), w.ownsRow b E size v n xs → (∀ x ∈ gs, v.ownBlock ≠ some x) → w'.ownsRow b E size v n xs) ∧
    ∀ w0 : World, Nw w0 w → (∀ x ∈ gs, w0.heap.size ≤ x) → Nw w0 w'
theorem Else.refl (gs : List Nat) (w : World) : Else gs w w := ⟨fun _ _ _ _ _ _ h _ => h, fun _ h _ => h⟩
theorem Else.grown {gs : List Nat} {w w1 w2 : World} {x : Nat} (h : Else gs w w1) (hx : x ∈ gs) (hg : w1.grownBy w2 (some x)) : Else gs w w2 :=
  ⟨fun b E size n v xs ho hne => (h.1 b E size n v xs ho hne).kept hg (.inr (hne x hx)), fun w0 h0 hb => (h.2 w0 h0 hb).grown hg (fun q hq => by cases hq; exact hb x hx)⟩
def MarkSI (n b g : Nat) (gs : List Nat) (rows : List (List Nat)) (w : World) (m i : Value) (wr : World) : Prop :=
  ∃ (k q : Nat), k ≤ n ∧ i = .int .i64 (k : Int) ∧ m = .int .i64 (q : Int) ∧ q ≤ 1 + k * 1048576 ∧ Else gs w wr ∧
    (∀ (j x : Nat) r, k ≤ j → gs[j]? = some x → rows[j]? = some r → wr.ownsRow b 25 1 (rowV x r) r.length (cellsS r))
def MarkSP (gs : List Nat) (w : World) (e : Ending) (w' : World) : Prop :=
  ∃ q : Nat, e = .returned (.int .i64 (q : Int)) ∧ q ≤ 1099513724928 ∧ Else gs w w'
set_option maxRecDepth 100000 in
theorem markFloat32SS_ok (rows : List (List Nat)) (n b g : Nat) (gs : List Nat) (hn : n ≤ 1048576) (hr : ∀ r ∈ rows, r.length ≤ 1048576) (hgg : ∀ x ∈ gs, x ≠ g) (w : World) (h : SRows w b g n gs rows) :
    Calls Try.prog 51 #[.slice (some ⟨g, 0, none⟩) n n, .int .i64 1] w (MarkSP gs w) := by
  have H := Lib.hid h
  have Hr := Lib.hid hr
  have Hg := Lib.hid hgg
  clear h hr hgg
  go_enter Try.func51, Try.ntmps51
  go_wp2_with fail
  go_loopw [1, 5] (fun m i wr => MarkSI n b g gs rows w m i wr) (fun _ i _ => n - (intOf i).toNat)
  case atStart => exact ⟨0, 1, by omega, rfl, rfl, by omega, Else.refl _ _, fun j x r _ hx hr => H.out.2.2.2.2 j x r hx hr⟩
  case round =>
    obtain ⟨k, q, hk, rfl, rfl, hq, hel, hin⟩ := hrel
    have El := Lib.hid hel
    have In := Lib.hid hin
    clear hel hin
    by_cases hlt : k < n
    · obtain ⟨x, r, hx, hrk, -, -⟩ := H.out.at hlt
      have ho := El.out.1 _ _ _ _ _ _ H.out.2.2.2.1 (fun y hy e => Hg.out y hy (by simp [Value.ownBlock] at e; exact e.symm))
      have e0 := ho.cellAt k (by omega)
      rw [show (cellsG gs rows)[k]? = some (.slice (some ⟨x, 0, none⟩) r.length r.length) from by unfold cellsG; rw [List.getElem?_zipWith, hx, hrk]; rfl] at e0
      have hrl := Hr.out r (List.mem_of_getElem? hrk)
      have o1 := In.out k x r (Nat.le_refl _) hx hrk
      have O1 := Lib.hid o1
      have Hx := Lib.hid hx
      clear ho o1 hx hrk
      go_wp2_with fail
      refine (markAny_ok r r.length b q (rowV x r) rfl hrl (by omega) _ O1.out).mono ?_
      rintro e w5 ⟨zs, rfl, hz, own5, gr5⟩
      have El5 := Lib.hid (El.out.grown (List.mem_of_getElem? Hx.out) gr5)
      have In5 := Lib.hid (show ∀ (j y : Nat) r', k + 1 ≤ j → gs[j]? = some y → rows[j]? = some r' → w5.ownsRow b 25 1 (rowV y r') r'.length (cellsS r') from by
        intro j y r' hj hy hr'
        refine (In.out j y r' (by omega) hy hr').kept gr5 (.inr ?_)
        intro e
        simp [rowV, Value.ownBlock] at e
        subst e
        have := (List.getElem?_inj (List.getElem?_eq_some_iff.1 Hx.out).1 H.out.2.2.1).1 (Hx.out.trans hy.symm)
        omega)
      clear own5 gr5 hz
      go_wp2_with fail
      go_roundw
      case rel => exact ⟨k + 1, q + r.length, by omega, by rw [show ((k + 1 : Nat) : Int) = (k : Int) + 1 from by omega], by rw [show ((q + r.length : Nat) : Int) = (q : Int) + r.length from by omega], by omega, El5.out, In5.out⟩
      case measure => simp only [intOf]; omega
    · obtain rfl : k = n := by omega
      go_wp2_with fail
      go_ret
      exact ⟨q, rfl, by omega, El.out⟩

end Go.Proofs.Ytcodiiajmffdoaa
