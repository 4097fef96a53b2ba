/- Texts of a proof, put together: TxS, StrA, StrB, StrC, StrD, StrE, OpA, OpB.
   Conditions: those that each statement names. -/
import Derived.Test.YtiakcibeobbonaaGreatKFnCut6
import Derived.Lib.SliceRun
import Derived.Deep.RegionLawGrows
/- The model's text of a score that is drawn, as a function (FnCut).
   Conditions: those that each statement names. -/
namespace Go.Proofs.YtiakcibeobbonaaGreat
set_option linter.unusedSimpArgs false
set_option linter.unusedVariables false
open Go Go.RowKit

def numF (n : Nat) : List UInt8 := bytF (dgs n)
theorem numF_len (n : Nat) (h : n ≤ 2000) : (numF n).length ≤ 18 := by
  unfold numF bytF
  rw [List.length_map]
  exact dgs_len 17 n (by omega)
theorem l1Number_f (n : Nat) (hn : n ≤ 2000) (w : World) : Calls Tryz.prog 38 #[.int .i64 (n : Int)] w (StrF (numF n) w) := by
  refine (l1Number_ok n (by omega) w).mono ?_
  rintro e w' ⟨rfl, hn⟩
  exact ⟨rfl, hn⟩
theorem l1Number_z (x : Int) (h : 0 ≤ x ∧ x ≤ 2000) (w : World) : Calls Tryz.prog 38 #[.int .i64 x] w (StrF (numF x.toNat) w) := by
  obtain ⟨n, rfl⟩ := Int.eq_ofNat_of_zero_le h.1
  exact l1Number_f n (by omega) w
def tScore : List UInt8 := [115, 99, 111, 114, 101, 32]
noncomputable def headF (L V C R : Nat) : List UInt8 := tScore ++ numF L ++ [32] ++ numF V ++ [32] ++ dblL (wid C) ++ [32] ++ dblL (wid R) ++ [10]
def tBody : List UInt8 := [98, 111, 100, 121, 10]
noncomputable def bodF (ms : List M4) : List UInt8 := tBody ++ modesF ms
noncomputable def bodsF (bs : List (List M4)) : List UInt8 := bs.flatMap bodF
def tAt : List UInt8 := [97, 116, 32]
noncomputable def kindF (e : Ev6) : List UInt8 :=
  if e.k = 1 then [32, 115, 116, 114, 105, 107, 101, 32] ++ numF e.b.toNat ++ [32] ++ numF e.s.toNat ++ [32] ++ numF e.m.toNat ++ [32] ++ dblL (wid e.f)
  else if e.k = 2 then [32, 100, 97, 109, 112, 32] ++ numF e.b.toNat ++ [32] ++ dblL (wid e.f)
  else [32, 115, 116, 111, 112, 32] ++ numF e.b.toNat
noncomputable def evF (e : Ev6) : List UInt8 := tAt ++ numF e.t.toNat ++ kindF e ++ [10]
noncomputable def evsF (es : List Ev6) : List UInt8 := es.flatMap evF
noncomputable def scoreF (L V C R : Nat) (bs : List (List M4)) (es : List Ev6) : List UInt8 := headF L V C R ++ bodsF bs ++ evsF es
theorem bodsF_snoc (bs : List (List M4)) (k : Nat) (ms : List M4) (h : bs[k]? = some ms) : bodsF (bs.take (k + 1)) = bodsF (bs.take k) ++ bodF ms := by
  unfold bodsF
  rw [List.take_add_one, h, List.flatMap_append]
  simp
theorem evsF_snoc (es : List Ev6) (k : Nat) (e : Ev6) (h : es[k]? = some e) : evsF (es.take (k + 1)) = evsF (es.take k) ++ evF e := by
  unfold evsF
  rw [List.take_add_one, h, List.flatMap_append]
  simp
theorem bodF_len (ms : List M4) (h : ms.length ≤ 4) : (bodF ms).length ≤ 1001 := by
  have := modesF_len ms
  unfold bodF
  simp [tBody]
  omega
def FmSI (hd : List UInt8) (bs : List (List M4)) (n : Nat) (w : World) (o i : Value) (wr : World) : Prop :=
  ∃ (k : Nat) (l : List UInt8), k ≤ n ∧ i = .int .i64 (k : Int) ∧ o = .string ⟨l.toArray⟩ ∧ l = hd ++ bodsF (bs.take k) ∧ l.length ≤ 200 + k * 1010 ∧ Nw w wr
def FmEI (hd : List UInt8) (es : List Ev6) (n : Nat) (w : World) (o i : Value) (wr : World) : Prop :=
  ∃ (k : Nat) (l : List UInt8), k ≤ n ∧ i = .int .i64 (k : Int) ∧ o = .string ⟨l.toArray⟩ ∧ l = hd ++ evsF (es.take k) ∧ l.length ≤ 4000 + k * 300 ∧ Nw w wr
theorem fmE_next {hd : List UInt8} {es : List Ev6} {n k : Nat} {l : List UInt8} {w wr wz : World} {e : Ev6} (hl : l = hd ++ evsF (es.take k)) (he : es[k]? = some e) (hk : k < n) (hll : l.length ≤ 4000 + k * 300) {m : List UInt8} (hm : m = evF e) (hml : m.length ≤ 300) (N : Nw w wz) :
    FmEI hd es n w (.string ⟨(l ++ m).toArray⟩) (.int .i64 ((k : Int) + 1)) wz := by
  refine ⟨k + 1, l ++ m, by omega, by rw [show ((k + 1 : Nat) : Int) = (k : Int) + 1 from by omega], rfl, ?_, by rw [List.length_append]; omega, N⟩
  rw [hl, hm, evsF_snoc es k e he, List.append_assoc]
set_option maxHeartbeats 12800000 in
set_option maxRecDepth 100000 in
theorem formatScore_f (base L V C R : Nat) (bs : List (List M4)) (es : List Ev6) (sv ev : Value) (w : World) (h : ScoV w base L V C R bs es sv ev) :
    Calls Tryz.prog 18 #[.agg #[.int .i64 (L : Int), .int .i64 (V : Int), .float .f32 C, .float .f32 R, sv, ev]] w (StrF (scoreF L V C R bs es) w) := by
  obtain ⟨nb, hnb⟩ : ∃ nb, nb = bs.length := ⟨_, rfl⟩
  obtain ⟨ne, hne⟩ : ∃ ne, ne = es.length := ⟨_, rfl⟩
  obtain ⟨⟨sa, sc, rfl⟩, ea, ec, rfl⟩ := h.shape
  rw [← hnb, ← hne] at h ⊢
  have hL := h.hL
  have hV := h.hV
  have hb3 := h.hb
  have he13 := h.he
  rw [← hnb] at hb3
  rw [← hne] at he13
  have H := Lib.hid h
  have Hn := Lib.hid (And.intro hnb hne)
  have S0 := Lib.hid (HasC.new w 27 (.int .i64 (L : Int)) (.int .i64 (V : Int)) (.float .f32 C) (.float .f32 R) (.slice sa nb sc) (.slice ea ne ec))
  have N0 := Lib.hid ((Nw.refl w).alloc (.cells #[.int .i64 (L : Int), .int .i64 (V : Int), .float .f32 C, .float .f32 R, .slice sa nb sc, .slice ea ne ec] 27 (0, 0)))
  have P1 := Lib.hid (fun w => l1Number_f L (by omega) w)
  have P2 := Lib.hid (fun w => l1Number_f V (by omega) w)
  have P3 := Lib.hid (fun w => specSgl_f C h.hC.1 w)
  have P4 := Lib.hid (fun w => specSgl_f R h.hR.1.1 w)
  have g1 := numF_len L (by omega)
  have g2 := numF_len V (by omega)
  have g3 := dblL_len (wid C)
  have g4 := dblL_len (wid R)
  have Hh := Lib.hid (show headF L V C R = tScore ++ numF L ++ [32] ++ numF V ++ [32] ++ dblL (wid C) ++ [32] ++ dblL (wid R) ++ [10] from rfl)
  have hh : (headF L V C R).length ≤ 200 := by rw [Hh.out]; simp [tScore]; omega
  obtain ⟨hd, hhd⟩ : ∃ hd, hd = headF L V C R := ⟨_, rfl⟩
  rw [← hhd] at Hh hh
  have Hhd := Lib.hid hhd
  clear h hnb hne hhd
  go_enter Tryz.func18, Tryz.ntmps18
  go_wp2_with fail
  refine (specScore_v base L V C R bs es _ _ _ (H.out.nw N0.out)).mono ?_
  rintro e w1 ⟨rfl, n1⟩
  have N1 := Lib.hid (N0.out.trans n1)
  have S1 := Lib.hid (S0.out.nw n1)
  clear n1 S0
  have KeepS := Lib.hid (show ∀ W', Nw w1 W' → W'.cell? ⟨w.heap.size, 0, none⟩ = some (.int .i64 (L : Int)) ∧ W'.cell? ⟨w.heap.size, 1, none⟩ = some (.int .i64 (V : Int)) ∧ W'.cell? ⟨w.heap.size, 2, none⟩ = some (.float .f32 C) ∧ W'.cell? ⟨w.heap.size, 3, none⟩ = some (.float .f32 R) from fun W' hW => by
    obtain ⟨⟨e0, -⟩, ⟨e1, -⟩, ⟨e2, -⟩, ⟨e3, -⟩, -, -⟩ := six_at (S1.out.nw hW)
    exact ⟨e0, e1, e2, e3⟩)
  obtain ⟨⟨e0, g0⟩, ⟨e1, g1'⟩, ⟨e2, g2'⟩, ⟨e3, g3'⟩, ⟨e4, g4'⟩, ⟨e5, g5'⟩⟩ := six_at S1.out
  go_upto_region 3 with fail
  clear e0 g0 e1 g1' e2 g2' e3 g3' e4 g4' e5 g5'
  generalize numF L = t1 at *
  generalize numF V = t2 at *
  generalize dblL (wid C) = t3 at *
  generalize dblL (wid R) = t4 at *
  refine wp_region_held_drew (S := fun W' => W'.cell? ⟨w.heap.size, 0, none⟩ = some (.int .i64 (L : Int)) ∧ W'.cell? ⟨w.heap.size, 1, none⟩ = some (.int .i64 (V : Int)) ∧ W'.cell? ⟨w.heap.size, 2, none⟩ = some (.float .f32 C) ∧ W'.cell? ⟨w.heap.size, 3, none⟩ = some (.float .f32 R)) (by kernel_rfl) (KeepS.out _ ((Nw.refl w1).draw 1)) (fun hHeld => ?_)
  refine wpAnyH_take (i := 0) (oi := _) (v := ?_) rfl (by kernel_rfl) (by kernel_rfl) (by kernel_rfl) (fun _ _ _ h => h) (_root_.Or.inl ⟨by rfl, ?_⟩) (by assumption) ?_
  rotate_left
  · intro w hSw
    (try dsimp only at hSw)
    go_simp
    all_goals first | with_reducible rfl | (rw [if_neg (by omega)]; done) | (rw [if_neg (by simp; omega)]; done) | (rw [if_neg (by omega)]; with_reducible rfl) | (rw [if_neg (by simp; omega)]; with_reducible rfl)
  try simp only [List.getElem_toArray, List.getElem_cons_succ, List.getElem_cons_zero, Act.put, List.setIfInBounds_toArray, List.set_cons_zero, List.set_cons_succ]
  refine wpAnyH_take (i := 1) (oi := _) (v := ?_) rfl (by kernel_rfl) (by kernel_rfl) (by kernel_rfl) (fun _ _ _ h => h) (_root_.Or.inl ⟨by rfl, ?_⟩) (by assumption) ?_
  rotate_left
  · intro w hSw
    (try dsimp only at hSw)
    go_simp
    all_goals first | with_reducible rfl | (rw [if_neg (by omega)]; done) | (rw [if_neg (by simp; omega)]; done) | (rw [if_neg (by omega)]; with_reducible rfl) | (rw [if_neg (by simp; omega)]; with_reducible rfl)
  try simp only [List.getElem_toArray, List.getElem_cons_succ, List.getElem_cons_zero, Act.put, List.setIfInBounds_toArray, List.set_cons_zero, List.set_cons_succ]
  refine wpAnyH_take (i := 5) (oi := _) (v := ?_) rfl (by kernel_rfl) (by kernel_rfl) (by kernel_rfl) (fun _ _ _ h => h) (_root_.Or.inl ⟨by rfl, ?_⟩) (by assumption) ?_
  rotate_left
  · intro w hSw
    (try dsimp only at hSw)
    go_simp
    all_goals first | with_reducible rfl | (rw [if_neg (by omega)]; done) | (rw [if_neg (by simp; omega)]; done) | (rw [if_neg (by omega)]; with_reducible rfl) | (rw [if_neg (by simp; omega)]; with_reducible rfl)
  try simp only [List.getElem_toArray, List.getElem_cons_succ, List.getElem_cons_zero, Act.put, List.setIfInBounds_toArray, List.set_cons_zero, List.set_cons_succ]
  refine wpAnyH_take (i := 6) (oi := _) (v := ?_) rfl (by kernel_rfl) (by kernel_rfl) (by kernel_rfl) (fun _ _ _ h => h) (_root_.Or.inl ⟨by rfl, ?_⟩) (by assumption) ?_
  rotate_left
  · intro w hSw
    (try dsimp only at hSw)
    go_simp
    all_goals first | with_reducible rfl | (rw [if_neg (by omega)]; done) | (rw [if_neg (by simp; omega)]; done) | (rw [if_neg (by omega)]; with_reducible rfl) | (rw [if_neg (by simp; omega)]; with_reducible rfl)
  try simp only [List.getElem_toArray, List.getElem_cons_succ, List.getElem_cons_zero, Act.put, List.setIfInBounds_toArray, List.set_cons_zero, List.set_cons_succ]
  refine wpAnyH_take (i := 10) (oi := _) (v := ?_) rfl (by kernel_rfl) (by kernel_rfl) (by kernel_rfl) (fun _ _ _ h => h) (_root_.Or.inl ⟨by rfl, ?_⟩) (by assumption) ?_
  rotate_left
  · intro w hSw
    (try dsimp only at hSw)
    go_simp
    all_goals first | with_reducible rfl | (rw [if_neg (by omega)]; done) | (rw [if_neg (by simp; omega)]; done) | (rw [if_neg (by omega)]; with_reducible rfl) | (rw [if_neg (by simp; omega)]; with_reducible rfl)
  try simp only [List.getElem_toArray, List.getElem_cons_succ, List.getElem_cons_zero, Act.put, List.setIfInBounds_toArray, List.set_cons_zero, List.set_cons_succ]
  refine wpAnyH_take (i := 11) (oi := _) (v := ?_) rfl (by kernel_rfl) (by kernel_rfl) (by kernel_rfl) (fun _ _ _ h => h) (_root_.Or.inl ⟨by rfl, ?_⟩) (by assumption) ?_
  rotate_left
  · intro w hSw
    (try dsimp only at hSw)
    go_simp
    all_goals first | with_reducible rfl | (rw [if_neg (by omega)]; done) | (rw [if_neg (by simp; omega)]; done) | (rw [if_neg (by omega)]; with_reducible rfl) | (rw [if_neg (by simp; omega)]; with_reducible rfl)
  try simp only [List.getElem_toArray, List.getElem_cons_succ, List.getElem_cons_zero, Act.put, List.setIfInBounds_toArray, List.set_cons_zero, List.set_cons_succ]
  refine wpAnyH_take (i := 15) (oi := _) (v := ?_) rfl (by kernel_rfl) (by kernel_rfl) (by kernel_rfl) (fun _ _ _ h => h) (_root_.Or.inl ⟨by rfl, ?_⟩) (by assumption) ?_
  rotate_left
  · intro w hSw
    (try dsimp only at hSw)
    go_simp
    all_goals first | with_reducible rfl | (rw [if_neg (by omega)]; done) | (rw [if_neg (by simp; omega)]; done) | (rw [if_neg (by omega)]; with_reducible rfl) | (rw [if_neg (by simp; omega)]; with_reducible rfl)
  try simp only [List.getElem_toArray, List.getElem_cons_succ, List.getElem_cons_zero, Act.put, List.setIfInBounds_toArray, List.set_cons_zero, List.set_cons_succ]
  refine wpAnyH_take (i := 16) (oi := _) (v := ?_) rfl (by kernel_rfl) (by kernel_rfl) (by kernel_rfl) (fun _ _ _ h => h) (_root_.Or.inl ⟨by rfl, ?_⟩) (by assumption) ?_
  rotate_left
  · intro w hSw
    (try dsimp only at hSw)
    go_simp
    all_goals first | with_reducible rfl | (rw [if_neg (by omega)]; done) | (rw [if_neg (by simp; omega)]; done) | (rw [if_neg (by omega)]; with_reducible rfl) | (rw [if_neg (by simp; omega)]; with_reducible rfl)
  try simp only [List.getElem_toArray, List.getElem_cons_succ, List.getElem_cons_zero, Act.put, List.setIfInBounds_toArray, List.set_cons_zero, List.set_cons_succ]
  refine wpAnyH_ready (rs := [2]) (by kernel_rfl) (by simp) ?_
  refine AllReadyH.cons (o := _) rfl (fun K hK => ?_) AllReadyH.nil
  go_simp
  go_at_call 38
  refine (P1.out _).mono ?_
  rintro e u1 ⟨rfl, n1⟩
  have Nu1 := Lib.hid (((Nw.refl w1).draw 1).trans n1)
  clear n1 hHeld
  go_wp2_with fail
  refine hK.out _ _ ?_ (fun hHeld => ?_)
  · exact KeepS.out _ Nu1.out
  clear hK K
  try simp only [List.getElem_toArray, List.getElem_cons_succ, List.getElem_cons_zero, Act.put, List.setIfInBounds_toArray, List.set_cons_zero, List.set_cons_succ]
  refine wpAnyH_take (i := 3) (oi := _) (v := ?_) rfl (by kernel_rfl) (by kernel_rfl) (by kernel_rfl) (fun _ _ _ h => h) (_root_.Or.inl ⟨by rfl, ?_⟩) (by assumption) ?_
  rotate_left
  · intro w hSw
    (try dsimp only at hSw)
    go_simp
    all_goals first | with_reducible rfl | (rw [if_neg (by omega)]; done) | (rw [if_neg (by simp; omega)]; done) | (rw [if_neg (by omega)]; with_reducible rfl) | (rw [if_neg (by simp; omega)]; with_reducible rfl)
  try simp only [List.getElem_toArray, List.getElem_cons_succ, List.getElem_cons_zero, Act.put, List.setIfInBounds_toArray, List.set_cons_zero, List.set_cons_succ]
  refine wpAnyH_take (i := 4) (oi := _) (v := ?_) rfl (by kernel_rfl) (by kernel_rfl) (by kernel_rfl) (fun _ _ _ h => h) (_root_.Or.inl ⟨by rfl, ?_⟩) (by assumption) ?_
  rotate_left
  · intro w hSw
    (try dsimp only at hSw)
    go_simp
    all_goals first | with_reducible rfl | (rw [if_neg (by omega)]; done) | (rw [if_neg (by simp; omega)]; done) | (rw [if_neg (by omega)]; with_reducible rfl) | (rw [if_neg (by simp; omega)]; with_reducible rfl)
  try simp only [List.getElem_toArray, List.getElem_cons_succ, List.getElem_cons_zero, Act.put, List.setIfInBounds_toArray, List.set_cons_zero, List.set_cons_succ]
  refine wpAnyH_ready (rs := [7]) (by kernel_rfl) (by simp) ?_
  refine AllReadyH.cons (o := _) rfl (fun K hK => ?_) AllReadyH.nil
  go_simp
  go_at_call 38
  refine (P2.out _).mono ?_
  rintro e u2 ⟨rfl, n2⟩
  have Nu2 := Lib.hid (Nu1.out.trans n2)
  clear n2 hHeld
  go_wp2_with fail
  refine hK.out _ _ ?_ (fun hHeld => ?_)
  · exact KeepS.out _ Nu2.out
  clear hK K
  try simp only [List.getElem_toArray, List.getElem_cons_succ, List.getElem_cons_zero, Act.put, List.setIfInBounds_toArray, List.set_cons_zero, List.set_cons_succ]
  refine wpAnyH_take (i := 8) (oi := _) (v := ?_) rfl (by kernel_rfl) (by kernel_rfl) (by kernel_rfl) (fun _ _ _ h => h) (_root_.Or.inl ⟨by rfl, ?_⟩) (by assumption) ?_
  rotate_left
  · intro w hSw
    (try dsimp only at hSw)
    go_simp
    all_goals first | with_reducible rfl | (rw [if_neg (by omega)]; done) | (rw [if_neg (by simp; omega)]; done) | (rw [if_neg (by omega)]; with_reducible rfl) | (rw [if_neg (by simp; omega)]; with_reducible rfl)
  try simp only [List.getElem_toArray, List.getElem_cons_succ, List.getElem_cons_zero, Act.put, List.setIfInBounds_toArray, List.set_cons_zero, List.set_cons_succ]
  refine wpAnyH_take (i := 9) (oi := _) (v := ?_) rfl (by kernel_rfl) (by kernel_rfl) (by kernel_rfl) (fun _ _ _ h => h) (_root_.Or.inl ⟨by rfl, ?_⟩) (by assumption) ?_
  rotate_left
  · intro w hSw
    (try dsimp only at hSw)
    go_simp
    all_goals first | with_reducible rfl | (rw [if_neg (by omega)]; done) | (rw [if_neg (by simp; omega)]; done) | (rw [if_neg (by omega)]; with_reducible rfl) | (rw [if_neg (by simp; omega)]; with_reducible rfl)
  try simp only [List.getElem_toArray, List.getElem_cons_succ, List.getElem_cons_zero, Act.put, List.setIfInBounds_toArray, List.set_cons_zero, List.set_cons_succ]
  refine wpAnyH_ready (rs := [12]) (by kernel_rfl) (by simp) ?_
  refine AllReadyH.cons (o := _) rfl (fun K hK => ?_) AllReadyH.nil
  go_simp
  go_at_call 39
  refine (P3.out _).mono ?_
  rintro e u3 ⟨rfl, n3⟩
  have Nu3 := Lib.hid (Nu2.out.trans n3)
  clear n3 hHeld
  go_wp2_with fail
  refine hK.out _ _ ?_ (fun hHeld => ?_)
  · exact KeepS.out _ Nu3.out
  clear hK K
  try simp only [List.getElem_toArray, List.getElem_cons_succ, List.getElem_cons_zero, Act.put, List.setIfInBounds_toArray, List.set_cons_zero, List.set_cons_succ]
  refine wpAnyH_take (i := 13) (oi := _) (v := ?_) rfl (by kernel_rfl) (by kernel_rfl) (by kernel_rfl) (fun _ _ _ h => h) (_root_.Or.inl ⟨by rfl, ?_⟩) (by assumption) ?_
  rotate_left
  · intro w hSw
    (try dsimp only at hSw)
    go_simp
    all_goals first | with_reducible rfl | (rw [if_neg (by omega)]; done) | (rw [if_neg (by simp; omega)]; done) | (rw [if_neg (by omega)]; with_reducible rfl) | (rw [if_neg (by simp; omega)]; with_reducible rfl)
  try simp only [List.getElem_toArray, List.getElem_cons_succ, List.getElem_cons_zero, Act.put, List.setIfInBounds_toArray, List.set_cons_zero, List.set_cons_succ]
  refine wpAnyH_take (i := 14) (oi := _) (v := ?_) rfl (by kernel_rfl) (by kernel_rfl) (by kernel_rfl) (fun _ _ _ h => h) (_root_.Or.inl ⟨by rfl, ?_⟩) (by assumption) ?_
  rotate_left
  · intro w hSw
    (try dsimp only at hSw)
    go_simp
    all_goals first | with_reducible rfl | (rw [if_neg (by omega)]; done) | (rw [if_neg (by simp; omega)]; done) | (rw [if_neg (by omega)]; with_reducible rfl) | (rw [if_neg (by simp; omega)]; with_reducible rfl)
  try simp only [List.getElem_toArray, List.getElem_cons_succ, List.getElem_cons_zero, Act.put, List.setIfInBounds_toArray, List.set_cons_zero, List.set_cons_succ]
  refine wpAnyH_ready (rs := [17]) (by kernel_rfl) (by simp) ?_
  refine AllReadyH.cons (o := _) rfl (fun K hK => ?_) AllReadyH.nil
  go_simp
  go_at_call 39
  refine (P4.out _).mono ?_
  rintro e u4 ⟨rfl, n4⟩
  have Nu4 := Lib.hid (Nu3.out.trans n4)
  clear n4 hHeld
  go_wp2_with fail
  refine hK.out _ _ ?_ (fun hHeld => ?_)
  · exact KeepS.out _ Nu4.out
  clear hK K
  try simp only [List.getElem_toArray, List.getElem_cons_succ, List.getElem_cons_zero, Act.put, List.setIfInBounds_toArray, List.set_cons_zero, List.set_cons_succ]
  refine wpAnyH_take (i := 18) (oi := _) (v := ?_) rfl (by kernel_rfl) (by kernel_rfl) (by kernel_rfl) (fun _ _ _ h => h) (_root_.Or.inl ⟨by rfl, ?_⟩) (by assumption) ?_
  rotate_left
  · intro w hSw
    (try dsimp only at hSw)
    go_simp
    all_goals first | with_reducible rfl | (rw [if_neg (by omega)]; done) | (rw [if_neg (by simp; omega)]; done) | (rw [if_neg (by omega)]; with_reducible rfl) | (rw [if_neg (by simp; omega)]; with_reducible rfl)
  try simp only [List.getElem_toArray, List.getElem_cons_succ, List.getElem_cons_zero, Act.put, List.setIfInBounds_toArray, List.set_cons_zero, List.set_cons_succ]
  refine wpAnyH_take (i := 19) (oi := _) (v := ?_) rfl (by kernel_rfl) (by kernel_rfl) (by kernel_rfl) (fun _ _ _ h => h) (_root_.Or.inl ⟨by rfl, ?_⟩) (by assumption) ?_
  rotate_left
  · intro w hSw
    (try dsimp only at hSw)
    go_simp
    all_goals first | with_reducible rfl | (rw [if_neg (by omega)]; done) | (rw [if_neg (by simp; omega)]; done) | (rw [if_neg (by omega)]; with_reducible rfl) | (rw [if_neg (by simp; omega)]; with_reducible rfl)
  try simp only [List.getElem_toArray, List.getElem_cons_succ, List.getElem_cons_zero, Act.put, List.setIfInBounds_toArray, List.set_cons_zero, List.set_cons_succ]
  refine wpAnyH_take (i := 20) (oi := _) (v := ?_) rfl (by kernel_rfl) (by kernel_rfl) (by kernel_rfl) (fun _ _ _ h => h) (_root_.Or.inl ⟨by rfl, ?_⟩) (by assumption) ?_
  rotate_left
  · intro w hSw
    (try dsimp only at hSw)
    go_simp
    all_goals first | with_reducible rfl | (rw [if_neg (by omega)]; done) | (rw [if_neg (by simp; omega)]; done) | (rw [if_neg (by omega)]; with_reducible rfl) | (rw [if_neg (by simp; omega)]; with_reducible rfl)
  try simp only [List.getElem_toArray, List.getElem_cons_succ, List.getElem_cons_zero, Act.put, List.setIfInBounds_toArray, List.set_cons_zero, List.set_cons_succ]
  refine wpAnyH_done (by kernel_rfl) ?_ _
  clear hHeld
  have N4 := Lib.hid (N1.out.trans Nu4.out)
  have S4 := Lib.hid (S1.out.nw Nu4.out)
  clear Nu1 Nu2 Nu3
  obtain ⟨⟨e0, g0⟩, ⟨e1, g1'⟩, ⟨e2, g2'⟩, ⟨e3, g3'⟩, ⟨e4, g4'⟩, ⟨e5, g5'⟩⟩ := six_at S4.out
  go_wp2_with fail
  clear e0 g0 e1 g1' e2 g2' e3 g3' e4 g4' e5 g5' KeepS P1 P2 P3 P4
  go_loopw [3, 34] (fun o i wr => FmSI hd bs nb u4 o i wr) (fun _ i _ => nb - (intOf i).toNat)
  case atStart => exact ⟨0, hd, by omega, rfl, congrArg Value.string (by apply ByteArray.ext; rw [Hh.out]; simp [tScore]), by simp [bodsF], by omega, Nw.refl _⟩
  case round =>
    obtain ⟨j, l, hj, rfl, rfl, hl, hll, hnw⟩ := hrel
    obtain ⟨wo, hwo⟩ : ∃ wo, wo = wr := ⟨_, rfl⟩
    subst hwo
    have Nr := Lib.hid hnw
    have Ls := Lib.hid hl
    clear hnw hl
    by_cases hlt : j < nb
    · obtain ⟨ms, hmk⟩ : ∃ ms, bs[j]? = some ms := ⟨bs[j]'(by rw [← Hn.out.1]; exact hlt), List.getElem?_eq_getElem _⟩
      obtain ⟨g, cap, a, c, hv, hcap, hmax, hgs, e1, own⟩ := (((H.out.bods.nw N4.out).nw Nr.out)).at Hn.out.1 hmk
      cases hv
      have hbk := H.out.bok ms (List.mem_of_getElem? hmk)
      have Own := Lib.hid (own.alloc (.cells #[.slice a ms.length c] 65 (0, 0)))
      have Fm := Lib.hid (fun w hw => specFormatBody_f ms hbk.2 ms.length base (.slice a ms.length c) rfl (by omega) w hw)
      have Mk := Lib.hid hmk
      have A1 := Lib.hid (Nr.out.alloc (.cells #[.slice a ms.length c] 65 (0, 0)))
      have hbl := bodF_len ms hbk.1
      have Hbf := Lib.hid (show bodF ms = tBody ++ modesF ms from rfl)
      have hml := modesF_len ms
      have hm4 := hbk.1
      unfold maxLen at hmax
      clear own hmk hbk
      generalize modesF ms = t at *
      go_wp2_with fail
      refine (Fm.out _ Own.out).mono ?_
      rintro e v5 ⟨rfl, n5⟩
      have N5 := Lib.hid (A1.out.trans n5)
      clear n5 e1
      go_wp2_with fail
      go_roundw
      case rel =>
        refine ⟨j + 1, l ++ (tBody ++ t), by omega, by rw [show ((j + 1 : Nat) : Int) = (j : Int) + 1 from by omega], congrArg Value.string (by apply ByteArray.ext; simp [tBody]), ?_, by simp [tBody]; omega, N5.out⟩
        rw [bodsF_snoc bs j ms Mk.out, Ls.out, Hbf.out, List.append_assoc]
      case measure => simp only [intOf]; omega
    · have hjn : j = nb := by omega
      have Lb := Lib.hid (show l = hd ++ bodsF bs from by have h := Ls.out; rwa [List.take_of_length_le (by rw [← Hn.out.1]; omega)] at h)
      have S5 := Lib.hid (S4.out.nw Nr.out)
      have N5 := Lib.hid (N4.out.trans Nr.out)
      have hll5 : l.length ≤ 4000 := by omega
      clear hjn hll
      obtain ⟨⟨e0, g0⟩, ⟨e1, g1'⟩, ⟨e2, g2'⟩, ⟨e3, g3'⟩, ⟨e4, g4'⟩, ⟨e5, g5'⟩⟩ := six_at S5.out
      go_wp2_with fail
      clear e0 g0 e1 g1' e2 g2' e3 g3' e4 g4' e5 g5'
      go_loopw [3, 47] (fun o i wr => FmEI l es ne wo o i wr) (fun _ i _ => ne - (intOf i).toNat)
      case atStart => exact ⟨0, l, by omega, rfl, rfl, by simp [evsF], by omega, Nw.refl _⟩
      case round =>
        obtain ⟨i, z, hi, rfl, rfl, hz, hzl, hnw⟩ := hrel
        have Nx := Lib.hid hnw
        have Qs := Lib.hid hz
        clear hnw hz
        have hzl2 : z.length ≤ 10000 := by omega
        by_cases hlt2 : i < ne
        · obtain ⟨e, hek⟩ : ∃ e, es[i]? = some e := ⟨es[i]'(by rw [← Hn.out.2]; exact hlt2), List.getElem?_eq_getElem _⟩
          have oe := own_nw (own_nw H.out.evs N5.out) Nx.out
          rw [← Hn.out.2] at oe
          obtain ⟨g, cap, hv, hcap, hmax, hgs, c0, c1, c2, c3, c4, c5⟩ := own_event oe Hn.out.2.symm hek
          cases hv
          have hev : EvOk L bs.length e.t e.k e.b e.s e.m e.f := H.out.eok e (List.mem_of_getElem? hek)
          rw [← Hn.out.1] at hev
          obtain ⟨q0, q1, q2, q3, hkk⟩ := hev
          have Mk := Lib.hid hek
          unfold maxLen at hmax
          have A4 := Lib.hid (Nx.out.alloc (.cells #[.int .i64 e.t, .int .i64 e.k, .int .i64 e.b, .int .i64 e.s, .int .i64 e.m, .float .f32 e.f] 68 (0, 0)))
          have E4 := Lib.hid (HasC.new wr 68 (.int .i64 e.t) (.int .i64 e.k) (.int .i64 e.b) (.int .i64 e.s) (.int .i64 e.m) (.float .f32 e.f))
          have Ct := Lib.hid (fun w => l1Number_z e.t ⟨by omega, by omega⟩ w)
          have P2 := Lib.hid (fun w => l1Number_z e.b ⟨by omega, by omega⟩ w)
          have l1 := numF_len e.t.toNat (by omega)
          have l2 := numF_len e.b.toNat (by omega)
          have Hev := Lib.hid (show evF e = tAt ++ numF e.t.toNat ++ kindF e ++ [10] from rfl)
          have HkF : kindF e = if e.k = 1 then [32, 115, 116, 114, 105, 107, 101, 32] ++ numF e.b.toNat ++ [32] ++ numF e.s.toNat ++ [32] ++ numF e.m.toNat ++ [32] ++ dblL (wid e.f)
  else if e.k = 2 then [32, 100, 97, 109, 112, 32] ++ numF e.b.toNat ++ [32] ++ dblL (wid e.f)
  else [32, 115, 116, 111, 112, 32] ++ numF e.b.toNat := rfl
          clear hek oe
          generalize numF e.t.toNat = t1 at *
          generalize numF e.b.toNat = t2 at *
          go_wp2_with fail
          refine (Ct.out _).mono ?_
          rintro x5 u0 ⟨rfl, n6⟩
          have N6 := Lib.hid (A4.out.trans n6)
          have E6 := Lib.hid (E4.out.nw n6)
          obtain ⟨q, hq⟩ : ∃ q, q = wr.heap.size := ⟨_, rfl⟩
          rw [← hq] at E6 ⊢
          clear n6 c0 c1 c2 c3 c4 c5 hq E4
          obtain ⟨⟨y0, -⟩, ⟨y1, -⟩, ⟨y2, -⟩, ⟨y3, -⟩, ⟨y4, -⟩, y5, -⟩ := six_at E6.out
          have KeepS := Lib.hid (show ∀ W, Nw u0 W → W.cell? ⟨q, 2, none⟩ = some (.int .i64 e.b) ∧ W.cell? ⟨q, 3, none⟩ = some (.int .i64 e.s) ∧ W.cell? ⟨q, 4, none⟩ = some (.int .i64 e.m) ∧ W.cell? ⟨q, 5, none⟩ = some (.float .f32 e.f) from fun W hW => by
            obtain ⟨⟨y0, -⟩, ⟨y1, -⟩, ⟨y2, -⟩, ⟨y3, -⟩, ⟨y4, -⟩, y5, -⟩ := six_at (E6.out.nw hW)
            exact ⟨y2, y3, y4, y5⟩)
          rcases hkk with ⟨hk1, s0, s1, m0, m1, f0, -⟩ | ⟨hk2, -, -, hf⟩ | ⟨hk3, -, -, -⟩
          · rw [if_pos hk1] at HkF
            have Hk := Lib.hid HkF
            have P3 := Lib.hid (fun w => l1Number_z e.s ⟨by omega, by omega⟩ w)
            have P4 := Lib.hid (fun w => l1Number_z e.m ⟨by omega, by omega⟩ w)
            have P5 := Lib.hid (fun w => specSgl_f e.f f0 w)
            have l3 := numF_len e.s.toNat (by omega)
            have l4 := numF_len e.m.toNat (by omega)
            have l5 := dblL_len (wid e.f)
            clear HkF f0
            generalize numF e.s.toNat = t3 at *
            generalize numF e.m.toNat = t4 at *
            generalize dblL (wid e.f) = t5 at *
            rw [hk1] at y1
            go_upto_region 16 with fail
            refine wp_region_held_drew (S := fun W' => W'.cell? ⟨q, 2, none⟩ = some (.int .i64 e.b) ∧ W'.cell? ⟨q, 3, none⟩ = some (.int .i64 e.s) ∧ W'.cell? ⟨q, 4, none⟩ = some (.int .i64 e.m) ∧ W'.cell? ⟨q, 5, none⟩ = some (.float .f32 e.f)) (by kernel_rfl) (KeepS.out _ ((Nw.refl u0).draw 1)) (fun hHeld => ?_)
            refine wpAnyH_take (i := 0) (oi := _) (v := ?_) rfl (by kernel_rfl) (by kernel_rfl) (by kernel_rfl) (fun _ _ _ h => h) (_root_.Or.inl ⟨by rfl, ?_⟩) (by assumption) ?_
            rotate_left
            · intro w hSw
              (try dsimp only at hSw)
              go_simp
              all_goals first | with_reducible rfl | (rw [if_neg (by omega)]; done) | (rw [if_neg (by simp; omega)]; done) | (rw [if_neg (by omega)]; with_reducible rfl) | (rw [if_neg (by simp; omega)]; with_reducible rfl)
            try simp only [List.getElem_toArray, List.getElem_cons_succ, List.getElem_cons_zero, Act.put, List.setIfInBounds_toArray, List.set_cons_zero, List.set_cons_succ]
            refine wpAnyH_take (i := 1) (oi := _) (v := ?_) rfl (by kernel_rfl) (by kernel_rfl) (by kernel_rfl) (fun _ _ _ h => h) (_root_.Or.inl ⟨by rfl, ?_⟩) (by assumption) ?_
            rotate_left
            · intro w hSw
              (try dsimp only at hSw)
              go_simp
              all_goals first | with_reducible rfl | (rw [if_neg (by omega)]; done) | (rw [if_neg (by simp; omega)]; done) | (rw [if_neg (by omega)]; with_reducible rfl) | (rw [if_neg (by simp; omega)]; with_reducible rfl)
            try simp only [List.getElem_toArray, List.getElem_cons_succ, List.getElem_cons_zero, Act.put, List.setIfInBounds_toArray, List.set_cons_zero, List.set_cons_succ]
            refine wpAnyH_take (i := 2) (oi := _) (v := ?_) rfl (by kernel_rfl) (by kernel_rfl) (by kernel_rfl) (fun _ _ _ h => h) (_root_.Or.inl ⟨by rfl, ?_⟩) (by assumption) ?_
            rotate_left
            · intro w hSw
              (try dsimp only at hSw)
              go_simp
              all_goals first | with_reducible rfl | (rw [if_neg (by omega)]; done) | (rw [if_neg (by simp; omega)]; done) | (rw [if_neg (by omega)]; with_reducible rfl) | (rw [if_neg (by simp; omega)]; with_reducible rfl)
            try simp only [List.getElem_toArray, List.getElem_cons_succ, List.getElem_cons_zero, Act.put, List.setIfInBounds_toArray, List.set_cons_zero, List.set_cons_succ]
            refine wpAnyH_take (i := 3) (oi := _) (v := ?_) rfl (by kernel_rfl) (by kernel_rfl) (by kernel_rfl) (fun _ _ _ h => h) (_root_.Or.inl ⟨by rfl, ?_⟩) (by assumption) ?_
            rotate_left
            · intro w hSw
              (try dsimp only at hSw)
              go_simp
              all_goals first | with_reducible rfl | (rw [if_neg (by omega)]; done) | (rw [if_neg (by simp; omega)]; done) | (rw [if_neg (by omega)]; with_reducible rfl) | (rw [if_neg (by simp; omega)]; with_reducible rfl)
            try simp only [List.getElem_toArray, List.getElem_cons_succ, List.getElem_cons_zero, Act.put, List.setIfInBounds_toArray, List.set_cons_zero, List.set_cons_succ]
            refine wpAnyH_take (i := 7) (oi := _) (v := ?_) rfl (by kernel_rfl) (by kernel_rfl) (by kernel_rfl) (fun _ _ _ h => h) (_root_.Or.inl ⟨by rfl, ?_⟩) (by assumption) ?_
            rotate_left
            · intro w hSw
              (try dsimp only at hSw)
              go_simp
              all_goals first | with_reducible rfl | (rw [if_neg (by omega)]; done) | (rw [if_neg (by simp; omega)]; done) | (rw [if_neg (by omega)]; with_reducible rfl) | (rw [if_neg (by simp; omega)]; with_reducible rfl)
            try simp only [List.getElem_toArray, List.getElem_cons_succ, List.getElem_cons_zero, Act.put, List.setIfInBounds_toArray, List.set_cons_zero, List.set_cons_succ]
            refine wpAnyH_take (i := 8) (oi := _) (v := ?_) rfl (by kernel_rfl) (by kernel_rfl) (by kernel_rfl) (fun _ _ _ h => h) (_root_.Or.inl ⟨by rfl, ?_⟩) (by assumption) ?_
            rotate_left
            · intro w hSw
              (try dsimp only at hSw)
              go_simp
              all_goals first | with_reducible rfl | (rw [if_neg (by omega)]; done) | (rw [if_neg (by simp; omega)]; done) | (rw [if_neg (by omega)]; with_reducible rfl) | (rw [if_neg (by simp; omega)]; with_reducible rfl)
            try simp only [List.getElem_toArray, List.getElem_cons_succ, List.getElem_cons_zero, Act.put, List.setIfInBounds_toArray, List.set_cons_zero, List.set_cons_succ]
            refine wpAnyH_take (i := 12) (oi := _) (v := ?_) rfl (by kernel_rfl) (by kernel_rfl) (by kernel_rfl) (fun _ _ _ h => h) (_root_.Or.inl ⟨by rfl, ?_⟩) (by assumption) ?_
            rotate_left
            · intro w hSw
              (try dsimp only at hSw)
              go_simp
              all_goals first | with_reducible rfl | (rw [if_neg (by omega)]; done) | (rw [if_neg (by simp; omega)]; done) | (rw [if_neg (by omega)]; with_reducible rfl) | (rw [if_neg (by simp; omega)]; with_reducible rfl)
            try simp only [List.getElem_toArray, List.getElem_cons_succ, List.getElem_cons_zero, Act.put, List.setIfInBounds_toArray, List.set_cons_zero, List.set_cons_succ]
            refine wpAnyH_take (i := 13) (oi := _) (v := ?_) rfl (by kernel_rfl) (by kernel_rfl) (by kernel_rfl) (fun _ _ _ h => h) (_root_.Or.inl ⟨by rfl, ?_⟩) (by assumption) ?_
            rotate_left
            · intro w hSw
              (try dsimp only at hSw)
              go_simp
              all_goals first | with_reducible rfl | (rw [if_neg (by omega)]; done) | (rw [if_neg (by simp; omega)]; done) | (rw [if_neg (by omega)]; with_reducible rfl) | (rw [if_neg (by simp; omega)]; with_reducible rfl)
            try simp only [List.getElem_toArray, List.getElem_cons_succ, List.getElem_cons_zero, Act.put, List.setIfInBounds_toArray, List.set_cons_zero, List.set_cons_succ]
            refine wpAnyH_take (i := 17) (oi := _) (v := ?_) rfl (by kernel_rfl) (by kernel_rfl) (by kernel_rfl) (fun _ _ _ h => h) (_root_.Or.inl ⟨by rfl, ?_⟩) (by assumption) ?_
            rotate_left
            · intro w hSw
              (try dsimp only at hSw)
              go_simp
              all_goals first | with_reducible rfl | (rw [if_neg (by omega)]; done) | (rw [if_neg (by simp; omega)]; done) | (rw [if_neg (by omega)]; with_reducible rfl) | (rw [if_neg (by simp; omega)]; with_reducible rfl)
            try simp only [List.getElem_toArray, List.getElem_cons_succ, List.getElem_cons_zero, Act.put, List.setIfInBounds_toArray, List.set_cons_zero, List.set_cons_succ]
            refine wpAnyH_take (i := 18) (oi := _) (v := ?_) rfl (by kernel_rfl) (by kernel_rfl) (by kernel_rfl) (fun _ _ _ h => h) (_root_.Or.inl ⟨by rfl, ?_⟩) (by assumption) ?_
            rotate_left
            · intro w hSw
              (try dsimp only at hSw)
              go_simp
              all_goals first | with_reducible rfl | (rw [if_neg (by omega)]; done) | (rw [if_neg (by simp; omega)]; done) | (rw [if_neg (by omega)]; with_reducible rfl) | (rw [if_neg (by simp; omega)]; with_reducible rfl)
            try simp only [List.getElem_toArray, List.getElem_cons_succ, List.getElem_cons_zero, Act.put, List.setIfInBounds_toArray, List.set_cons_zero, List.set_cons_succ]
            refine wpAnyH_ready (rs := [4]) (by kernel_rfl) (by simp) ?_
            refine AllReadyH.cons (o := _) rfl (fun K hK => ?_) AllReadyH.nil
            go_simp
            go_at_call 38
            refine (P2.out _).mono ?_
            rintro e u5 ⟨rfl, n5⟩
            have Nu5 := Lib.hid (((Nw.refl u0).draw 1).trans n5)
            clear n5 hHeld
            go_wp2_with fail
            refine hK.out _ _ ?_ (fun hHeld => ?_)
            · exact KeepS.out _ Nu5.out
            clear hK K
            try simp only [List.getElem_toArray, List.getElem_cons_succ, List.getElem_cons_zero, Act.put, List.setIfInBounds_toArray, List.set_cons_zero, List.set_cons_succ]
            refine wpAnyH_take (i := 5) (oi := _) (v := ?_) rfl (by kernel_rfl) (by kernel_rfl) (by kernel_rfl) (fun _ _ _ h => h) (_root_.Or.inl ⟨by rfl, ?_⟩) (by assumption) ?_
            rotate_left
            · intro w hSw
              (try dsimp only at hSw)
              go_simp
              all_goals first | with_reducible rfl | (rw [if_neg (by omega)]; done) | (rw [if_neg (by simp; omega)]; done) | (rw [if_neg (by omega)]; with_reducible rfl) | (rw [if_neg (by simp; omega)]; with_reducible rfl)
            try simp only [List.getElem_toArray, List.getElem_cons_succ, List.getElem_cons_zero, Act.put, List.setIfInBounds_toArray, List.set_cons_zero, List.set_cons_succ]
            refine wpAnyH_take (i := 6) (oi := _) (v := ?_) rfl (by kernel_rfl) (by kernel_rfl) (by kernel_rfl) (fun _ _ _ h => h) (_root_.Or.inl ⟨by rfl, ?_⟩) (by assumption) ?_
            rotate_left
            · intro w hSw
              (try dsimp only at hSw)
              go_simp
              all_goals first | with_reducible rfl | (rw [if_neg (by omega)]; done) | (rw [if_neg (by simp; omega)]; done) | (rw [if_neg (by omega)]; with_reducible rfl) | (rw [if_neg (by simp; omega)]; with_reducible rfl)
            try simp only [List.getElem_toArray, List.getElem_cons_succ, List.getElem_cons_zero, Act.put, List.setIfInBounds_toArray, List.set_cons_zero, List.set_cons_succ]
            refine wpAnyH_ready (rs := [9]) (by kernel_rfl) (by simp) ?_
            refine AllReadyH.cons (o := _) rfl (fun K hK => ?_) AllReadyH.nil
            go_simp
            go_at_call 38
            refine (P3.out _).mono ?_
            rintro e u6 ⟨rfl, n6⟩
            have Nu6 := Lib.hid (Nu5.out.trans n6)
            clear n6 hHeld
            go_wp2_with fail
            refine hK.out _ _ ?_ (fun hHeld => ?_)
            · exact KeepS.out _ Nu6.out
            clear hK K
            try simp only [List.getElem_toArray, List.getElem_cons_succ, List.getElem_cons_zero, Act.put, List.setIfInBounds_toArray, List.set_cons_zero, List.set_cons_succ]
            refine wpAnyH_take (i := 10) (oi := _) (v := ?_) rfl (by kernel_rfl) (by kernel_rfl) (by kernel_rfl) (fun _ _ _ h => h) (_root_.Or.inl ⟨by rfl, ?_⟩) (by assumption) ?_
            rotate_left
            · intro w hSw
              (try dsimp only at hSw)
              go_simp
              all_goals first | with_reducible rfl | (rw [if_neg (by omega)]; done) | (rw [if_neg (by simp; omega)]; done) | (rw [if_neg (by omega)]; with_reducible rfl) | (rw [if_neg (by simp; omega)]; with_reducible rfl)
            try simp only [List.getElem_toArray, List.getElem_cons_succ, List.getElem_cons_zero, Act.put, List.setIfInBounds_toArray, List.set_cons_zero, List.set_cons_succ]
            refine wpAnyH_take (i := 11) (oi := _) (v := ?_) rfl (by kernel_rfl) (by kernel_rfl) (by kernel_rfl) (fun _ _ _ h => h) (_root_.Or.inl ⟨by rfl, ?_⟩) (by assumption) ?_
            rotate_left
            · intro w hSw
              (try dsimp only at hSw)
              go_simp
              all_goals first | with_reducible rfl | (rw [if_neg (by omega)]; done) | (rw [if_neg (by simp; omega)]; done) | (rw [if_neg (by omega)]; with_reducible rfl) | (rw [if_neg (by simp; omega)]; with_reducible rfl)
            try simp only [List.getElem_toArray, List.getElem_cons_succ, List.getElem_cons_zero, Act.put, List.setIfInBounds_toArray, List.set_cons_zero, List.set_cons_succ]
            refine wpAnyH_ready (rs := [14]) (by kernel_rfl) (by simp) ?_
            refine AllReadyH.cons (o := _) rfl (fun K hK => ?_) AllReadyH.nil
            go_simp
            go_at_call 38
            refine (P4.out _).mono ?_
            rintro e u7 ⟨rfl, n7⟩
            have Nu7 := Lib.hid (Nu6.out.trans n7)
            clear n7 hHeld
            go_wp2_with fail
            refine hK.out _ _ ?_ (fun hHeld => ?_)
            · exact KeepS.out _ Nu7.out
            clear hK K
            try simp only [List.getElem_toArray, List.getElem_cons_succ, List.getElem_cons_zero, Act.put, List.setIfInBounds_toArray, List.set_cons_zero, List.set_cons_succ]
            refine wpAnyH_take (i := 15) (oi := _) (v := ?_) rfl (by kernel_rfl) (by kernel_rfl) (by kernel_rfl) (fun _ _ _ h => h) (_root_.Or.inl ⟨by rfl, ?_⟩) (by assumption) ?_
            rotate_left
            · intro w hSw
              (try dsimp only at hSw)
              go_simp
              all_goals first | with_reducible rfl | (rw [if_neg (by omega)]; done) | (rw [if_neg (by simp; omega)]; done) | (rw [if_neg (by omega)]; with_reducible rfl) | (rw [if_neg (by simp; omega)]; with_reducible rfl)
            try simp only [List.getElem_toArray, List.getElem_cons_succ, List.getElem_cons_zero, Act.put, List.setIfInBounds_toArray, List.set_cons_zero, List.set_cons_succ]
            refine wpAnyH_take (i := 16) (oi := _) (v := ?_) rfl (by kernel_rfl) (by kernel_rfl) (by kernel_rfl) (fun _ _ _ h => h) (_root_.Or.inl ⟨by rfl, ?_⟩) (by assumption) ?_
            rotate_left
            · intro w hSw
              (try dsimp only at hSw)
              go_simp
              all_goals first | with_reducible rfl | (rw [if_neg (by omega)]; done) | (rw [if_neg (by simp; omega)]; done) | (rw [if_neg (by omega)]; with_reducible rfl) | (rw [if_neg (by simp; omega)]; with_reducible rfl)
            try simp only [List.getElem_toArray, List.getElem_cons_succ, List.getElem_cons_zero, Act.put, List.setIfInBounds_toArray, List.set_cons_zero, List.set_cons_succ]
            refine wpAnyH_ready (rs := [19]) (by kernel_rfl) (by simp) ?_
            refine AllReadyH.cons (o := _) rfl (fun K hK => ?_) AllReadyH.nil
            go_simp
            go_at_call 39
            refine (P5.out _).mono ?_
            rintro e u8 ⟨rfl, n8⟩
            have Nu8 := Lib.hid (Nu7.out.trans n8)
            clear n8 hHeld
            go_wp2_with fail
            refine hK.out _ _ ?_ (fun hHeld => ?_)
            · exact KeepS.out _ Nu8.out
            clear hK K
            try simp only [List.getElem_toArray, List.getElem_cons_succ, List.getElem_cons_zero, Act.put, List.setIfInBounds_toArray, List.set_cons_zero, List.set_cons_succ]
            refine wpAnyH_take (i := 20) (oi := _) (v := ?_) rfl (by kernel_rfl) (by kernel_rfl) (by kernel_rfl) (fun _ _ _ h => h) (_root_.Or.inl ⟨by rfl, ?_⟩) (by assumption) ?_
            rotate_left
            · intro w hSw
              (try dsimp only at hSw)
              go_simp
              all_goals first | with_reducible rfl | (rw [if_neg (by omega)]; done) | (rw [if_neg (by simp; omega)]; done) | (rw [if_neg (by omega)]; with_reducible rfl) | (rw [if_neg (by simp; omega)]; with_reducible rfl)
            try simp only [List.getElem_toArray, List.getElem_cons_succ, List.getElem_cons_zero, Act.put, List.setIfInBounds_toArray, List.set_cons_zero, List.set_cons_succ]
            refine wpAnyH_take (i := 21) (oi := _) (v := ?_) rfl (by kernel_rfl) (by kernel_rfl) (by kernel_rfl) (fun _ _ _ h => h) (_root_.Or.inl ⟨by rfl, ?_⟩) (by assumption) ?_
            rotate_left
            · intro w hSw
              (try dsimp only at hSw)
              go_simp
              all_goals first | with_reducible rfl | (rw [if_neg (by omega)]; done) | (rw [if_neg (by simp; omega)]; done) | (rw [if_neg (by omega)]; with_reducible rfl) | (rw [if_neg (by simp; omega)]; with_reducible rfl)
            try simp only [List.getElem_toArray, List.getElem_cons_succ, List.getElem_cons_zero, Act.put, List.setIfInBounds_toArray, List.set_cons_zero, List.set_cons_succ]
            refine wpAnyH_done (by kernel_rfl) ?_ _
            clear hHeld
            go_wp2_with fail
            go_roundw
            case rel =>
              have X := fmE_next (n := ne) (wr := wr) (m := tAt ++ t1 ++ ([32, 115, 116, 114, 105, 107, 101, 32] ++ t2 ++ [32] ++ t3 ++ [32] ++ t4 ++ [32] ++ t5) ++ [10]) Qs.out Mk.out hlt2 hzl (by rw [Hev.out, Hk.out]) (by simp [tAt]; omega) (N6.out.trans Nu8.out)
              exact (congrArg (fun b : ByteArray => FmEI l es ne wo (.string b) (.int .i64 ((i : Int) + 1)) _) (show (⟨(z ++ (tAt ++ t1 ++ ([32, 115, 116, 114, 105, 107, 101, 32] ++ t2 ++ [32] ++ t3 ++ [32] ++ t4 ++ [32] ++ t5) ++ [10])).toArray⟩ : ByteArray) = _ from by apply ByteArray.ext; simp [tAt])).mp X
            case measure => simp only [intOf]; omega
          · rw [if_neg (by omega), if_pos hk2] at HkF
            have Hk := Lib.hid HkF
            have P5 := Lib.hid (fun w => specSgl_f e.f hf.1 w)
            have l5 := dblL_len (wid e.f)
            clear HkF hf
            generalize dblL (wid e.f) = t5 at *
            rw [hk2] at y1
            go_upto_region 18 with fail
            refine wp_region_held_drew (S := fun W' => W'.cell? ⟨q, 2, none⟩ = some (.int .i64 e.b) ∧ W'.cell? ⟨q, 3, none⟩ = some (.int .i64 e.s) ∧ W'.cell? ⟨q, 4, none⟩ = some (.int .i64 e.m) ∧ W'.cell? ⟨q, 5, none⟩ = some (.float .f32 e.f)) (by kernel_rfl) (KeepS.out _ ((Nw.refl u0).draw 1)) (fun hHeld => ?_)
            refine wpAnyH_take (i := 0) (oi := _) (v := ?_) rfl (by kernel_rfl) (by kernel_rfl) (by kernel_rfl) (fun _ _ _ h => h) (_root_.Or.inl ⟨by rfl, ?_⟩) (by assumption) ?_
            rotate_left
            · intro w hSw
              (try dsimp only at hSw)
              go_simp
              all_goals first | with_reducible rfl | (rw [if_neg (by omega)]; done) | (rw [if_neg (by simp; omega)]; done) | (rw [if_neg (by omega)]; with_reducible rfl) | (rw [if_neg (by simp; omega)]; with_reducible rfl)
            try simp only [List.getElem_toArray, List.getElem_cons_succ, List.getElem_cons_zero, Act.put, List.setIfInBounds_toArray, List.set_cons_zero, List.set_cons_succ]
            refine wpAnyH_take (i := 1) (oi := _) (v := ?_) rfl (by kernel_rfl) (by kernel_rfl) (by kernel_rfl) (fun _ _ _ h => h) (_root_.Or.inl ⟨by rfl, ?_⟩) (by assumption) ?_
            rotate_left
            · intro w hSw
              (try dsimp only at hSw)
              go_simp
              all_goals first | with_reducible rfl | (rw [if_neg (by omega)]; done) | (rw [if_neg (by simp; omega)]; done) | (rw [if_neg (by omega)]; with_reducible rfl) | (rw [if_neg (by simp; omega)]; with_reducible rfl)
            try simp only [List.getElem_toArray, List.getElem_cons_succ, List.getElem_cons_zero, Act.put, List.setIfInBounds_toArray, List.set_cons_zero, List.set_cons_succ]
            refine wpAnyH_take (i := 2) (oi := _) (v := ?_) rfl (by kernel_rfl) (by kernel_rfl) (by kernel_rfl) (fun _ _ _ h => h) (_root_.Or.inl ⟨by rfl, ?_⟩) (by assumption) ?_
            rotate_left
            · intro w hSw
              (try dsimp only at hSw)
              go_simp
              all_goals first | with_reducible rfl | (rw [if_neg (by omega)]; done) | (rw [if_neg (by simp; omega)]; done) | (rw [if_neg (by omega)]; with_reducible rfl) | (rw [if_neg (by simp; omega)]; with_reducible rfl)
            try simp only [List.getElem_toArray, List.getElem_cons_succ, List.getElem_cons_zero, Act.put, List.setIfInBounds_toArray, List.set_cons_zero, List.set_cons_succ]
            refine wpAnyH_take (i := 3) (oi := _) (v := ?_) rfl (by kernel_rfl) (by kernel_rfl) (by kernel_rfl) (fun _ _ _ h => h) (_root_.Or.inl ⟨by rfl, ?_⟩) (by assumption) ?_
            rotate_left
            · intro w hSw
              (try dsimp only at hSw)
              go_simp
              all_goals first | with_reducible rfl | (rw [if_neg (by omega)]; done) | (rw [if_neg (by simp; omega)]; done) | (rw [if_neg (by omega)]; with_reducible rfl) | (rw [if_neg (by simp; omega)]; with_reducible rfl)
            try simp only [List.getElem_toArray, List.getElem_cons_succ, List.getElem_cons_zero, Act.put, List.setIfInBounds_toArray, List.set_cons_zero, List.set_cons_succ]
            refine wpAnyH_take (i := 7) (oi := _) (v := ?_) rfl (by kernel_rfl) (by kernel_rfl) (by kernel_rfl) (fun _ _ _ h => h) (_root_.Or.inl ⟨by rfl, ?_⟩) (by assumption) ?_
            rotate_left
            · intro w hSw
              (try dsimp only at hSw)
              go_simp
              all_goals first | with_reducible rfl | (rw [if_neg (by omega)]; done) | (rw [if_neg (by simp; omega)]; done) | (rw [if_neg (by omega)]; with_reducible rfl) | (rw [if_neg (by simp; omega)]; with_reducible rfl)
            try simp only [List.getElem_toArray, List.getElem_cons_succ, List.getElem_cons_zero, Act.put, List.setIfInBounds_toArray, List.set_cons_zero, List.set_cons_succ]
            refine wpAnyH_take (i := 8) (oi := _) (v := ?_) rfl (by kernel_rfl) (by kernel_rfl) (by kernel_rfl) (fun _ _ _ h => h) (_root_.Or.inl ⟨by rfl, ?_⟩) (by assumption) ?_
            rotate_left
            · intro w hSw
              (try dsimp only at hSw)
              go_simp
              all_goals first | with_reducible rfl | (rw [if_neg (by omega)]; done) | (rw [if_neg (by simp; omega)]; done) | (rw [if_neg (by omega)]; with_reducible rfl) | (rw [if_neg (by simp; omega)]; with_reducible rfl)
            try simp only [List.getElem_toArray, List.getElem_cons_succ, List.getElem_cons_zero, Act.put, List.setIfInBounds_toArray, List.set_cons_zero, List.set_cons_succ]
            refine wpAnyH_ready (rs := [4]) (by kernel_rfl) (by simp) ?_
            refine AllReadyH.cons (o := _) rfl (fun K hK => ?_) AllReadyH.nil
            go_simp
            go_at_call 38
            refine (P2.out _).mono ?_
            rintro e u9 ⟨rfl, n9⟩
            have Nu9 := Lib.hid (((Nw.refl u0).draw 1).trans n9)
            clear n9 hHeld
            go_wp2_with fail
            refine hK.out _ _ ?_ (fun hHeld => ?_)
            · exact KeepS.out _ Nu9.out
            clear hK K
            try simp only [List.getElem_toArray, List.getElem_cons_succ, List.getElem_cons_zero, Act.put, List.setIfInBounds_toArray, List.set_cons_zero, List.set_cons_succ]
            refine wpAnyH_take (i := 5) (oi := _) (v := ?_) rfl (by kernel_rfl) (by kernel_rfl) (by kernel_rfl) (fun _ _ _ h => h) (_root_.Or.inl ⟨by rfl, ?_⟩) (by assumption) ?_
            rotate_left
            · intro w hSw
              (try dsimp only at hSw)
              go_simp
              all_goals first | with_reducible rfl | (rw [if_neg (by omega)]; done) | (rw [if_neg (by simp; omega)]; done) | (rw [if_neg (by omega)]; with_reducible rfl) | (rw [if_neg (by simp; omega)]; with_reducible rfl)
            try simp only [List.getElem_toArray, List.getElem_cons_succ, List.getElem_cons_zero, Act.put, List.setIfInBounds_toArray, List.set_cons_zero, List.set_cons_succ]
            refine wpAnyH_take (i := 6) (oi := _) (v := ?_) rfl (by kernel_rfl) (by kernel_rfl) (by kernel_rfl) (fun _ _ _ h => h) (_root_.Or.inl ⟨by rfl, ?_⟩) (by assumption) ?_
            rotate_left
            · intro w hSw
              (try dsimp only at hSw)
              go_simp
              all_goals first | with_reducible rfl | (rw [if_neg (by omega)]; done) | (rw [if_neg (by simp; omega)]; done) | (rw [if_neg (by omega)]; with_reducible rfl) | (rw [if_neg (by simp; omega)]; with_reducible rfl)
            try simp only [List.getElem_toArray, List.getElem_cons_succ, List.getElem_cons_zero, Act.put, List.setIfInBounds_toArray, List.set_cons_zero, List.set_cons_succ]
            refine wpAnyH_ready (rs := [9]) (by kernel_rfl) (by simp) ?_
            refine AllReadyH.cons (o := _) rfl (fun K hK => ?_) AllReadyH.nil
            go_simp
            go_at_call 39
            refine (P5.out _).mono ?_
            rintro e u10 ⟨rfl, n10⟩
            have Nu10 := Lib.hid (Nu9.out.trans n10)
            clear n10 hHeld
            go_wp2_with fail
            refine hK.out _ _ ?_ (fun hHeld => ?_)
            · exact KeepS.out _ Nu10.out
            clear hK K
            try simp only [List.getElem_toArray, List.getElem_cons_succ, List.getElem_cons_zero, Act.put, List.setIfInBounds_toArray, List.set_cons_zero, List.set_cons_succ]
            refine wpAnyH_take (i := 10) (oi := _) (v := ?_) rfl (by kernel_rfl) (by kernel_rfl) (by kernel_rfl) (fun _ _ _ h => h) (_root_.Or.inl ⟨by rfl, ?_⟩) (by assumption) ?_
            rotate_left
            · intro w hSw
              (try dsimp only at hSw)
              go_simp
              all_goals first | with_reducible rfl | (rw [if_neg (by omega)]; done) | (rw [if_neg (by simp; omega)]; done) | (rw [if_neg (by omega)]; with_reducible rfl) | (rw [if_neg (by simp; omega)]; with_reducible rfl)
            try simp only [List.getElem_toArray, List.getElem_cons_succ, List.getElem_cons_zero, Act.put, List.setIfInBounds_toArray, List.set_cons_zero, List.set_cons_succ]
            refine wpAnyH_take (i := 11) (oi := _) (v := ?_) rfl (by kernel_rfl) (by kernel_rfl) (by kernel_rfl) (fun _ _ _ h => h) (_root_.Or.inl ⟨by rfl, ?_⟩) (by assumption) ?_
            rotate_left
            · intro w hSw
              (try dsimp only at hSw)
              go_simp
              all_goals first | with_reducible rfl | (rw [if_neg (by omega)]; done) | (rw [if_neg (by simp; omega)]; done) | (rw [if_neg (by omega)]; with_reducible rfl) | (rw [if_neg (by simp; omega)]; with_reducible rfl)
            try simp only [List.getElem_toArray, List.getElem_cons_succ, List.getElem_cons_zero, Act.put, List.setIfInBounds_toArray, List.set_cons_zero, List.set_cons_succ]
            refine wpAnyH_done (by kernel_rfl) ?_ _
            clear hHeld
            go_wp2_with fail
            go_roundw
            case rel =>
              have X := fmE_next (n := ne) (wr := wr) (m := tAt ++ t1 ++ ([32, 100, 97, 109, 112, 32] ++ t2 ++ [32] ++ t5) ++ [10]) Qs.out Mk.out hlt2 hzl (by rw [Hev.out, Hk.out]) (by simp [tAt]; omega) (N6.out.trans Nu10.out)
              exact (congrArg (fun b : ByteArray => FmEI l es ne wo (.string b) (.int .i64 ((i : Int) + 1)) _) (show (⟨(z ++ (tAt ++ t1 ++ ([32, 100, 97, 109, 112, 32] ++ t2 ++ [32] ++ t5) ++ [10])).toArray⟩ : ByteArray) = _ from by apply ByteArray.ext; simp [tAt])).mp X
            case measure => simp only [intOf]; omega
          · rw [if_neg (by omega), if_neg (by omega)] at HkF
            have Hk := Lib.hid HkF
            clear HkF
            rw [hk3] at y1
            go_wp2_with fail
            refine (P2.out _).mono ?_
            rintro x7 v7 ⟨rfl, n7⟩
            have N7 := Lib.hid (N6.out.trans n7)
            clear n7
            go_wp2_with fail
            go_roundw
            case rel =>
              have X := fmE_next (n := ne) (wr := wr) (m := tAt ++ t1 ++ ([32, 115, 116, 111, 112, 32] ++ t2) ++ [10]) Qs.out Mk.out hlt2 hzl (by rw [Hev.out, Hk.out]) (by simp [tAt]; omega) N7.out
              exact (congrArg (fun b : ByteArray => FmEI l es ne wo (.string b) (.int .i64 ((i : Int) + 1)) _) (show (⟨(z ++ (tAt ++ t1 ++ ([32, 115, 116, 111, 112, 32] ++ t2) ++ [10])).toArray⟩ : ByteArray) = _ from by apply ByteArray.ext; simp [tAt])).mp X
            case measure => simp only [intOf]; omega
        · have hin : i = ne := by omega
          have Ae := Lib.hid (show z = l ++ evsF es from by have h := Qs.out; rwa [List.take_of_length_le (by rw [← Hn.out.2]; omega)] at h)
          go_wp2_with fail
          go_ret
          refine ⟨?_, N5.out.trans Nx.out⟩
          rw [Ae.out, Lb.out, Hhd.out]
          rfl
end Go.Proofs.YtiakcibeobbonaaGreat

/- Voices compared with what plays: sameComplex, sameMode, sameVoice, slices.EqualFunc of voices, isAt (FnCut).
   Conditions: those that each statement names. -/
namespace Go.Proofs.YtiakcibeobbonaaGreat
set_option linter.unusedSimpArgs false
set_option linter.unusedVariables false
open Go Go.RowKit

theorem sameComplex_self (a b : Nat) (w : World) :
    Calls Tryz.prog 88 #[.complex .f32 a b, .complex .f32 a b] w fun e w' => e = .returned (.bool true) ∧ Nw w w' := by
  go_enter Tryz.func88, Tryz.ntmps88
  go_wp2_with (go_at_call 56; refine (sameSingle_any _ _ _).mono ?_; rintro e w5 ⟨rfl, nk, rfl⟩; rw [sameX_self])
  all_goals
    go_ret
    exact ⟨rfl, (Nw.refl w).draw _⟩
theorem HasC.two {w : World} {b : Nat} {v0 v1 : Value} (h : HasC w b [v0, v1]) : w.cell? ⟨b, 0, none⟩ = some v0 ∧ w.cell? ⟨b, 1, none⟩ = some v1 := ⟨(h.2 0 _ rfl).1, (h.2 1 _ rfl).1⟩
theorem sameMode_self (m : M4) (w : World) :
    Calls Tryz.prog 86 #[.agg #[.complex .f32 m.pr m.pi, .complex .f32 m.gr m.gi], .agg #[.complex .f32 m.pr m.pi, .complex .f32 m.gr m.gi]] w fun e w' => e = .returned (.bool true) ∧ Nw w w' := by
  obtain ⟨w1, hw1⟩ : ∃ w1, w1 = w.alloc (.cells #[.complex .f32 m.pr m.pi, .complex .f32 m.gr m.gi] 93 (0, 0)) := ⟨_, rfl⟩
  have B0 := Lib.hid (show HasC (w1.alloc (.cells #[.complex .f32 m.pr m.pi, .complex .f32 m.gr m.gi] 93 (0, 0))) w.heap.size [.complex .f32 m.pr m.pi, .complex .f32 m.gr m.gi] from by rw [hw1]; exact (HasC.newB w _ _).alloc _)
  have B1 := Lib.hid (show HasC (w1.alloc (.cells #[.complex .f32 m.pr m.pi, .complex .f32 m.gr m.gi] 93 (0, 0))) w1.heap.size [.complex .f32 m.pr m.pi, .complex .f32 m.gr m.gi] from HasC.newB w1 _ _)
  have N0 := Lib.hid (show Nw w (w1.alloc (.cells #[.complex .f32 m.pr m.pi, .complex .f32 m.gr m.gi] 93 (0, 0))) from by rw [hw1]; exact ((Nw.refl w).alloc _).alloc _)
  have Hw := Lib.hid hw1
  have Hs := Lib.hid (show w1.heap.size = w.heap.size + 1 from by rw [hw1]; simp)
  clear hw1
  go_enter Tryz.func86, Tryz.ntmps86
  go_upto_region 1 with fail
  rw [← Hw.out, ← Hs.out]
  obtain ⟨w2, hw2⟩ : ∃ w2, w2 = w1.alloc (.cells #[.complex .f32 m.pr m.pi, .complex .f32 m.gr m.gi] 93 (0, 0)) := ⟨_, rfl⟩
  rw [← hw2] at B0 B1 N0 ⊢
  clear hw2 Hw
  obtain ⟨a0, a1⟩ := B0.out.two
  obtain ⟨b0, b1⟩ := B1.out.two
  go_wp2_with fail
  refine (sameComplex_self m.pr m.pi w2).mono ?_
  rintro e w3 ⟨rfl, n3⟩
  have N3 := Lib.hid n3
  clear n3 a0 a1 b0 b1
  obtain ⟨a0, a1⟩ := (B0.out.nw N3.out).two
  obtain ⟨b0, b1⟩ := (B1.out.nw N3.out).two
  go_wp2_with fail
  refine (sameComplex_self m.gr m.gi w3).mono ?_
  rintro e w4 ⟨rfl, n4⟩
  have N4 := Lib.hid ((N0.out.trans N3.out).trans n4)
  clear n4 a0 a1 b0 b1
  go_wp2_with fail
  go_ret
  exact ⟨rfl, N4.out⟩

set_option maxRecDepth 100000 in
theorem equalModes_self (ms : List M4) (n b1 b2 : Nat) (v u : Value) (hn : ms.length = n) (hn64 : n ≤ 1000) (w : World) (h1 : w.ownsRow b1 93 2 v n (cellsM ms)) (h2 : w.ownsRow b2 93 2 u n (cellsM ms)) :
    Calls Tryz.prog 85 #[v, u, .func (.func 86) #[] #[]] w fun e w' => e = .returned (.bool true) ∧ Nw w w' := by
  obtain ⟨va, vc, rfl⟩ := own_shape' h1
  obtain ⟨ua, uc, rfl⟩ := own_shape' h2
  have H1 := Lib.hid h1
  have H2 := Lib.hid h2
  have Hn := Lib.hid hn
  clear h1 h2 hn
  go_enter Tryz.func85, Tryz.ntmps85
  go_wp2_with fail
  go_loopw [17] (fun i wr => ∃ k : Nat, k ≤ n ∧ i = .int .i64 (k : Int) ∧ Nw w wr) (fun i _ => n - (intOf i).toNat)
  case atStart => exact ⟨0, by omega, rfl, Nw.refl _⟩
  case round =>
    obtain ⟨k, hk, rfl, hN⟩ := hrel
    have Nr := Lib.hid hN
    clear hN
    by_cases hlt : k < n
    · obtain ⟨m, hmk⟩ : ∃ m, ms[k]? = some m := ⟨ms[k]'(by rw [Hn.out]; exact hlt), List.getElem?_eq_getElem _⟩
      obtain ⟨g, cap, hv, hcap, hmax, hgs, e1, e2⟩ := own_mode (own_nw H1.out Nr.out) hmk Hn.out.symm
      cases hv
      obtain ⟨g', cap', hv', hcap', hmax', hgs', f1, f2⟩ := own_mode (own_nw H2.out Nr.out) hmk Hn.out.symm
      cases hv'
      unfold maxLen at hmax hmax'
      clear hmk
      have K1 := Lib.hid (Nr.out.alloc (.cells #[.complex .f32 m.pr m.pi, .complex .f32 m.gr m.gi] 93 (0, 0)))
      have K2 := Lib.hid (K1.out.alloc (.cells #[.complex .f32 m.pr m.pi, .complex .f32 m.gr m.gi] 93 (0, 0)))
      go_wp2_with fail
      refine (sameMode_self m _).mono ?_
      rintro e w5 ⟨rfl, n5⟩
      have N5 := Lib.hid (K2.out.trans n5)
      clear n5 e1 e2 f1 f2
      go_wp2_with fail
      go_roundw
      case rel => exact ⟨k + 1, by omega, by rw [show ((k + 1 : Nat) : Int) = (k : Int) + 1 from by omega], N5.out⟩
      case measure => simp only [intOf]; omega
    · obtain rfl : k = n := by omega
      go_wp2_with fail
      go_ret
      exact ⟨rfl, Nr.out⟩
theorem own_state {w : World} {base n k g cap : Nat} {ss : List (Nat × Nat)} (h : w.ownsRow base 91 1 (.slice (some ⟨g, 0, none⟩) n cap) n (cellsC ss)) {s : Nat × Nat} (hk : ss[k]? = some s) (hn : n = ss.length) : w.cell? ⟨g, k, none⟩ = some (.complex .f32 s.1 s.2) := by
  have hkl := (List.getElem?_eq_some_iff.1 hk).1
  have c := h.cellAt k (by omega)
  rw [show (cellsC ss)[k]? = some (.complex .f32 s.1 s.2) from by unfold cellsC; rw [List.getElem?_map, hk]; rfl] at c
  exact c
set_option maxRecDepth 100000 in
theorem equalStates_self (ss : List (Nat × Nat)) (n b1 b2 g1 g2 c1 c2 : Nat) (hn : ss.length = n) (hn64 : n ≤ 1000) (w : World) (h1 : w.ownsRow b1 91 1 (.slice (some ⟨g1, 0, none⟩) n c1) n (cellsC ss)) (h2 : w.ownsRow b2 91 1 (.slice (some ⟨g2, 0, none⟩) n c2) n (cellsC ss)) :
    Calls Tryz.prog 87 #[.slice (some ⟨g1, 0, none⟩) n c1, .slice (some ⟨g2, 0, none⟩) n c2, .func (.func 88) #[] #[]] w fun e w' => e = .returned (.bool true) ∧ Nw w w' := by
  have H1 := Lib.hid h1
  have H2 := Lib.hid h2
  have Hn := Lib.hid hn
  clear h1 h2 hn
  go_enter Tryz.func87, Tryz.ntmps87
  go_wp2_with fail
  go_loopw [17] (fun i wr => ∃ k : Nat, k ≤ n ∧ i = .int .i64 (k : Int) ∧ Nw w wr) (fun i _ => n - (intOf i).toNat)
  case atStart => exact ⟨0, by omega, rfl, Nw.refl _⟩
  case round =>
    obtain ⟨k, hk, rfl, hN⟩ := hrel
    have Nr := Lib.hid hN
    clear hN
    by_cases hlt : k < n
    · obtain ⟨s, hsk⟩ : ∃ s, ss[k]? = some s := ⟨ss[k]'(by rw [Hn.out]; exact hlt), List.getElem?_eq_getElem _⟩
      have e1 := own_state (own_nw H1.out Nr.out) hsk Hn.out.symm
      have e2 := own_state (own_nw H2.out Nr.out) hsk Hn.out.symm
      clear hsk
      go_wp2_with fail
      refine (sameComplex_self s.1 s.2 _).mono ?_
      rintro e w5 ⟨rfl, n5⟩
      have N5 := Lib.hid (Nr.out.trans n5)
      clear n5 e1 e2
      go_wp2_with fail
      go_roundw
      case rel => exact ⟨k + 1, by omega, by rw [show ((k + 1 : Nat) : Int) = (k : Int) + 1 from by omega], N5.out⟩
      case measure => simp only [intOf]; omega
    · obtain rfl : k = n := by omega
      go_wp2_with fail
      go_ret
      exact ⟨rfl, Nr.out⟩
set_option maxRecDepth 100000 in
theorem equalInput_self (xs : List Nat) (n b1 b2 : Nat) (v u : Value) (hn : xs.length = n) (hn64 : n ≤ 1000) (w : World) (h1 : View w b1 v xs) (h2 : View w b2 u xs) :
    Calls Tryz.prog 89 #[v, u, .func (.func 56) #[] #[]] w fun e w' => e = .returned (.bool true) ∧ Nw w w' := by
  obtain ⟨g1, o1, c1, cu1, rfl, hc1, hm1, -, hh1, ex⟩ := h1
  obtain ⟨g2, o2, c2, cu2, rfl, hc2, hm2, -, hh2, ey⟩ := h2
  rw [hn] at hc1 hc2 ⊢
  have hg1 : g1 < w.heap.size := (Array.getElem?_eq_some_iff.1 hh1).1
  have hg2 : g2 < w.heap.size := (Array.getElem?_eq_some_iff.1 hh2).1
  have Ex := Lib.hid ex
  have Ey := Lib.hid ey
  have Hn := Lib.hid hn
  unfold maxLen at hm1 hm2
  clear ex ey hn hh1 hh2
  go_enter Tryz.func89, Tryz.ntmps89
  go_wp2_with fail
  go_loopw [17] (fun i wr => ∃ k : Nat, k ≤ n ∧ i = .int .i64 (k : Int) ∧ Nw w wr) (fun i _ => n - (intOf i).toNat)
  case atStart => exact ⟨0, by omega, rfl, Nw.refl _⟩
  case round =>
    obtain ⟨k, hk, rfl, hN⟩ := hrel
    have Nr := Lib.hid hN
    clear hN
    by_cases hlt : k < n
    · obtain ⟨x, hxk⟩ : ∃ x, xs[k]? = some x := ⟨xs[k]'(by rw [Hn.out]; exact hlt), List.getElem?_eq_getElem _⟩
      have e1 : wr.cell? ⟨g1, o1 + k, none⟩ = some (.float .f32 x) := (Nr.out.cell (p := ⟨g1, o1 + k, none⟩) hg1).trans (Ex.out k x hxk)
      have e2 : wr.cell? ⟨g2, o2 + k, none⟩ = some (.float .f32 x) := (Nr.out.cell (p := ⟨g2, o2 + k, none⟩) hg2).trans (Ey.out k x hxk)
      clear hxk
      go_wp2_with fail
      refine (sameSingle_any x x _).mono ?_
      rintro e w5 ⟨rfl, nk, rfl⟩
      have N5 := Lib.hid (Nr.out.draw nk)
      clear e1 e2
      rw [sameX_self]
      go_wp2_with fail
      go_roundw
      case rel => exact ⟨k + 1, by omega, by rw [show ((k + 1 : Nat) : Int) = (k : Int) + 1 from by omega], N5.out⟩
      case measure => simp only [intOf]; omega
    · obtain rfl : k = n := by omega
      go_wp2_with fail
      go_ret
      exact ⟨rfl, Nr.out⟩

/-! ### voices in memory -/
def cellV (z : Prt × Loc) : List Value := [.int .i64 z.1.b, z.2.vm, .slice (some ⟨z.2.g, 0, none⟩) z.1.ms.length z.1.ms.length, z.2.vi]
def cellsVo : List (Prt × Loc) → List Value
  | [] => []
  | z :: l => cellV z ++ cellsVo l
theorem cellsVo_len : ∀ zs, (cellsVo zs).length = zs.length * 4
  | [] => rfl
  | z :: l => by simp [cellsVo, cellV, cellsVo_len l]; omega
theorem cellsVo_append : ∀ a b, cellsVo (a ++ b) = cellsVo a ++ cellsVo b
  | [], b => rfl
  | z :: a, b => by simp [cellsVo, cellsVo_append a b]
theorem cellsVo_get : ∀ (zs : List (Prt × Loc)) (k j : Nat) z, zs[k]? = some z → j < 4 → (cellsVo zs)[k * 4 + j]? = (cellV z)[j]?
  | [], k, j, z, h, _ => by simp at h
  | y :: l, 0, j, z, h, hj => by
    simp at h
    subst h
    rw [Nat.zero_mul, Nat.zero_add, cellsVo, List.getElem?_append_left (by simpa [cellV] using hj)]
  | y :: l, k + 1, j, z, h, hj => by
    rw [cellsVo, List.getElem?_append_right (by simp [cellV]; omega), show (k + 1) * 4 + j - (cellV y).length = k * 4 + j from by simp [cellV]; omega]
    exact cellsVo_get l k j z (by simpa using h) hj
/-- the voices of a stream -/
structure VoicesR (w : World) (base : Nat) (vv : Value) (zs : List (Prt × Loc)) : Prop where
  row : w.ownsRow base 59 4 vv zs.length (cellsVo zs)
  ins : ∀ z ∈ zs, PartIn w base z
theorem VoicesR.nil (w : World) (base : Nat) : VoicesR w base (.slice none 0 0) [] := ⟨World.ownsRow_nil _ _ _ _, fun z h => by simp at h⟩
theorem VoicesR.nw {w w' : World} {base : Nat} {vv : Value} {zs : List (Prt × Loc)} (h : VoicesR w base vv zs) (k : Nw w w') : VoicesR w' base vv zs := ⟨own_nw h.row k, fun z hz => (h.ins z hz).nw k⟩
theorem VoicesR.base {w : World} {base b2 : Nat} {vv : Value} {zs : List (Prt × Loc)} (h : VoicesR w base vv zs) (hb : b2 ≤ base) : VoicesR w b2 vv zs := ⟨own_base h.row hb, fun z hz => (h.ins z hz).base hb⟩
theorem voice_at {w : World} {base n : Nat} {vv : Value} {zs : List (Prt × Loc)} {z : Prt × Loc} {k : Nat} (h : w.ownsRow base 59 4 vv n (cellsVo zs)) (hn : n = zs.length) (hk : zs[k]? = some z) :
    ∃ g cap, vv = .slice (some ⟨g, 0, none⟩) n cap ∧ n ≤ cap ∧ cap ≤ maxLen ∧ g < w.heap.size ∧ w.cell? ⟨g, k * 4, none⟩ = some (.int .i64 z.1.b) ∧ w.cell? ⟨g, k * 4 + 1, none⟩ = some z.2.vm ∧ w.cell? ⟨g, k * 4 + 2, none⟩ = some (.slice (some ⟨z.2.g, 0, none⟩) z.1.ms.length z.1.ms.length) ∧ w.cell? ⟨g, k * 4 + 3, none⟩ = some z.2.vi := by
  have hkl := (List.getElem?_eq_some_iff.1 hk).1
  rcases h.2 with ⟨_, h0⟩ | ⟨g, cap, cur, rfl, hb, hg, hc, hm, hs, ht⟩
  · omega
  · have c : ∀ j v, (cellV z)[j]? = some v → j < 4 → w.cell? ⟨g, k * 4 + j, none⟩ = some v := by
      intro j v hv hj
      rw [h.cellAt (k * 4 + j) (by omega), cellsVo_get zs k j z hk hj, hv]
    exact ⟨g, cap, rfl, hc, hm, (h.lt g rfl).2, c 0 _ rfl (by decide), c 1 _ rfl (by decide), c 2 _ rfl (by decide), c 3 _ rfl (by decide)⟩
theorem PartIn.shape {w : World} {base : Nat} {z : Prt × Loc} (h : PartIn w base z) : (∃ a c, z.2.vm = .slice a z.1.ms.length c) ∧ ∃ a c, z.2.vi = .slice a z.1.xs.length c := by
  obtain ⟨a, c, e⟩ := own_shape' h.ms
  obtain ⟨g, off, cap, cur, e2, -⟩ := h.xs
  exact ⟨⟨_, _, e⟩, _, _, e2⟩
set_option maxHeartbeats 3200000 in
set_option maxRecDepth 100000 in
theorem sameVoice_self (p : Prt) (l1 l2 : Loc) (b1 b2 : Nat) (w : World) (h1 : PartIn w b1 (p, l1)) (h2 : PartIn w b2 (p, l2)) (hl : p.ms.length ≤ 1000 ∧ p.st.length = p.ms.length ∧ p.xs.length ≤ 1000) :
    Calls Tryz.prog 59 #[.agg #[.int .i64 p.b, l1.vm, .slice (some ⟨l1.g, 0, none⟩) p.ms.length p.ms.length, l1.vi], .agg #[.int .i64 p.b, l2.vm, .slice (some ⟨l2.g, 0, none⟩) p.ms.length p.ms.length, l2.vi]] w fun e w' => e = .returned (.bool true) ∧ Nw w w' := by
  obtain ⟨⟨ma, mc, hm1⟩, ia, ic, hi1⟩ := h1.shape
  obtain ⟨⟨na, nc, hm2⟩, ja, jc, hi2⟩ := h2.shape
  obtain ⟨vm1, g1, vi1, t1⟩ := l1
  obtain ⟨vm2, g2, vi2, t2⟩ := l2
  simp only at hm1 hi1 hm2 hi2
  subst hm1; subst hi1; subst hm2; subst hi2
  obtain ⟨n, hn⟩ : ∃ n, n = p.ms.length := ⟨_, rfl⟩
  obtain ⟨m, hm⟩ : ∃ m, m = p.xs.length := ⟨_, rfl⟩
  have M1 := Lib.hid (show w.ownsRow b1 _ _ _ n _ from by have h := h1.ms; simp only at h; rw [← hn] at h; exact h)
  have M2 := Lib.hid (show w.ownsRow b2 _ _ _ n _ from by have h := h2.ms; simp only at h; rw [← hn] at h; exact h)
  have T1 := Lib.hid (show w.ownsRow b1 _ _ _ n _ from by have h := h1.st; simp only at h; rw [← hn] at h; exact h)
  have T2 := Lib.hid (show w.ownsRow b2 _ _ _ n _ from by have h := h2.st; simp only at h; rw [← hn] at h; exact h)
  have I1 := Lib.hid (show View w b1 (.slice ia m ic) p.xs from by rw [hm]; exact h1.xs)
  have I2 := Lib.hid (show View w b2 (.slice ja m jc) p.xs from by rw [hm]; exact h2.xs)
  have Hn := Lib.hid (And.intro hn (And.intro hm hl))
  simp only
  rw [← hn, ← hm]
  rw [← hn, ← hm] at hl
  clear h1 h2 hn hm
  obtain ⟨w1, hw1⟩ : ∃ w1, w1 = w.alloc (.cells #[.int .i64 p.b, .slice ma n mc, .slice (some ⟨g1, 0, none⟩) n n, .slice ia m ic] 59 (0, 0)) := ⟨_, rfl⟩
  obtain ⟨w2, hw2⟩ : ∃ w2, w2 = w1.alloc (.cells #[.int .i64 p.b, .slice na n nc, .slice (some ⟨g2, 0, none⟩) n n, .slice ja m jc] 59 (0, 0)) := ⟨_, rfl⟩
  have B0 := Lib.hid (show HasC w2 w.heap.size [.int .i64 p.b, .slice ma n mc, .slice (some ⟨g1, 0, none⟩) n n, .slice ia m ic] from by rw [hw2, hw1]; exact (HasC.newB w _ _).alloc _)
  have B1 := Lib.hid (show HasC w2 w1.heap.size [.int .i64 p.b, .slice na n nc, .slice (some ⟨g2, 0, none⟩) n n, .slice ja m jc] from by rw [hw2]; exact HasC.newB w1 _ _)
  have N2 := Lib.hid (show Nw w w2 from by rw [hw2, hw1]; exact ((Nw.refl w).alloc _).alloc _)
  have Hw := Lib.hid (And.intro hw1 hw2)
  have Hs := Lib.hid (show w1.heap.size = w.heap.size + 1 from by rw [hw1]; simp)
  clear hw1 hw2
  go_enter Tryz.func59, Tryz.ntmps59
  go_upto_region 1 with fail
  rw [← Hw.out.1, ← Hw.out.2, ← Hs.out]
  clear Hw
  obtain ⟨⟨a0, -⟩, ⟨a1, -⟩, ⟨a2, -⟩, a3, -⟩ := four_at B0.out
  obtain ⟨⟨c0, -⟩, ⟨c1, -⟩, ⟨c2, -⟩, c3, -⟩ := four_at B1.out
  go_wp2_with fail
  refine (equalModes_self p.ms n b1 b2 _ _ Hn.out.1.symm hl.1 w2 (own_nw M1.out N2.out) (own_nw M2.out N2.out)).mono ?_
  rintro e w3 ⟨rfl, n3⟩
  have N3 := Lib.hid (N2.out.trans n3)
  have B03 := Lib.hid (B0.out.nw n3)
  have B13 := Lib.hid (B1.out.nw n3)
  clear n3 a0 a1 a2 a3 c0 c1 c2 c3 B0 B1
  obtain ⟨⟨a0, -⟩, ⟨a1, -⟩, ⟨a2, -⟩, a3, -⟩ := four_at B03.out
  obtain ⟨⟨c0, -⟩, ⟨c1, -⟩, ⟨c2, -⟩, c3, -⟩ := four_at B13.out
  go_wp2_with fail
  refine (equalStates_self p.st n b1 b2 g1 g2 n n (Hn.out.2.2.2.1.trans Hn.out.1.symm) hl.1 w3 (own_nw T1.out N3.out) (own_nw T2.out N3.out)).mono ?_
  rintro e w4 ⟨rfl, n4⟩
  have N4 := Lib.hid (N3.out.trans n4)
  have B04 := Lib.hid (B03.out.nw n4)
  have B14 := Lib.hid (B13.out.nw n4)
  clear n4 a0 a1 a2 a3 c0 c1 c2 c3 B03 B13
  obtain ⟨⟨a0, -⟩, ⟨a1, -⟩, ⟨a2, -⟩, a3, -⟩ := four_at B04.out
  obtain ⟨⟨c0, -⟩, ⟨c1, -⟩, ⟨c2, -⟩, c3, -⟩ := four_at B14.out
  go_wp2_with fail
  refine (equalInput_self p.xs m b1 b2 _ _ Hn.out.2.1.symm hl.2.2 w4 (I1.out.nw N4.out) (I2.out.nw N4.out)).mono ?_
  rintro e w5 ⟨rfl, n5⟩
  have N5 := Lib.hid (N4.out.trans n5)
  clear n5 a0 a1 a2 a3 c0 c1 c2 c3
  go_wp2_with fail
  go_ret
  exact ⟨rfl, N5.out⟩
set_option maxHeartbeats 3200000 in
set_option maxRecDepth 100000 in
theorem isAtC_self (p : Prt) (l1 l2 : Loc) (b1 b2 : Nat) (w : World) (h1 : PartIn w b1 (p, l1)) (h2 : PartIn w b2 (p, l2)) (hl : p.ms.length ≤ 1000 ∧ p.st.length = p.ms.length ∧ p.xs.length ≤ 1000) :
    Calls Tryz.prog 58 #[.agg #[.int .i64 p.b, l1.vm, .slice (some ⟨l1.g, 0, none⟩) p.ms.length p.ms.length, l1.vi], .agg #[.int .i64 p.b, l2.vm, .slice (some ⟨l2.g, 0, none⟩) p.ms.length p.ms.length, l2.vi, .int .i64 l2.tr]] w fun e w' => e = .returned (.bool true) ∧ Nw w w' := by
  obtain ⟨⟨ma, mc, hm1⟩, ia, ic, hi1⟩ := h1.shape
  obtain ⟨⟨na, nc, hm2⟩, ja, jc, hi2⟩ := h2.shape
  have P1 := Lib.hid h1
  have P2 := Lib.hid h2
  have hm1 : l1.vm = .slice ma p.ms.length mc := hm1
  have hm2 : l2.vm = .slice na p.ms.length nc := hm2
  have hi1 : l1.vi = .slice ia p.xs.length ic := hi1
  have hi2 : l2.vi = .slice ja p.xs.length jc := hi2
  obtain ⟨w1, hw1⟩ : ∃ w1, w1 = w.alloc (.cells #[.int .i64 p.b, .slice ma p.ms.length mc, .slice (some ⟨l1.g, 0, none⟩) p.ms.length p.ms.length, .slice ia p.xs.length ic] 59 (0, 0)) := ⟨_, rfl⟩
  obtain ⟨w2, hw2⟩ : ∃ w2, w2 = w1.alloc (.cells #[.int .i64 p.b, .slice na p.ms.length nc, .slice (some ⟨l2.g, 0, none⟩) p.ms.length p.ms.length, .slice ja p.xs.length jc, .int .i64 l2.tr] 84 (0, 0)) := ⟨_, rfl⟩
  have B0 := Lib.hid (show HasC w2 w.heap.size [.int .i64 p.b, .slice ma p.ms.length mc, .slice (some ⟨l1.g, 0, none⟩) p.ms.length p.ms.length, .slice ia p.xs.length ic] from by rw [hw2, hw1]; exact (HasC.newB w _ _).alloc _)
  have B1 := Lib.hid (show HasC w2 w1.heap.size [.int .i64 p.b, .slice na p.ms.length nc, .slice (some ⟨l2.g, 0, none⟩) p.ms.length p.ms.length, .slice ja p.xs.length jc, .int .i64 l2.tr] from by rw [hw2]; exact HasC.newB w1 _ _)
  have N2 := Lib.hid (show Nw w w2 from by rw [hw2, hw1]; exact ((Nw.refl w).alloc _).alloc _)
  have Hw := Lib.hid (And.intro hw1 hw2)
  have Hs := Lib.hid (show w1.heap.size = w.heap.size + 1 from by rw [hw1]; simp)
  have Hv := Lib.hid (And.intro hm1 (And.intro hi1 (And.intro hm2 hi2)))
  rw [hm1, hm2, hi1, hi2]
  clear hw1 hw2 h1 h2 hm1 hi1 hm2 hi2
  go_enter Tryz.func58, Tryz.ntmps58
  go_upto_region 1 with fail
  rw [← Hw.out.1, ← Hw.out.2, ← Hs.out]
  clear Hw
  obtain ⟨⟨a0, -⟩, ⟨a1, -⟩, ⟨a2, -⟩, a3, -⟩ := four_at B0.out
  obtain ⟨⟨c0, -⟩, ⟨c1, -⟩, ⟨c2, -⟩, ⟨c3, -⟩, -⟩ := five_at B1.out
  go_wp2_with fail
  have sv := sameVoice_self p l1 l2 b1 b2 w2 (P1.out.nw N2.out) (P2.out.nw N2.out) hl
  rw [Hv.out.1, Hv.out.2.1, Hv.out.2.2.1, Hv.out.2.2.2] at sv
  refine sv.mono ?_
  rintro e w3 ⟨rfl, n3⟩
  have N3 := Lib.hid (N2.out.trans n3)
  clear n3 sv a0 a1 a2 a3 c0 c1 c2 c3
  go_wp2_with fail
  go_ret
  exact ⟨rfl, N3.out⟩
end Go.Proofs.YtiakcibeobbonaaGreat

/- A player that is where a stream is: isAt, playerOf, IsStream (FnCut).
   Conditions: those that each statement names. -/
namespace Go.Proofs.YtiakcibeobbonaaGreat
set_option linter.unusedSimpArgs false
set_option linter.unusedVariables false
open Go Go.RowKit

/-- how great a voice that plays is -/
def PSz (p : Prt) : Prop := p.ms.length ≤ 1000 ∧ p.st.length = p.ms.length ∧ p.xs.length ≤ 1000
theorem PrtOk.sz {B X : Rat} {p : Prt} (h : PrtOk B X p) : PSz p := ⟨by have := h.len; omega, h.st, by have := h.xl; omega⟩
set_option maxHeartbeats 6400000 in
set_option maxRecDepth 100000 in
theorem equalVoices_self (zs1 zs2 : List (Prt × Loc)) (n b1 b2 : Nat) (vv pv : Value) (w : World) (h1 : VoicesR w b1 vv zs1) (h2 : PartsR w b2 pv zs2) (he : zs1.map Prod.fst = zs2.map Prod.fst) (hn : n = zs1.length) (hn64 : n ≤ 1000) (hsz : ∀ z ∈ zs1, PSz z.1) :
    Calls Tryz.prog 57 #[vv, pv, .func (.func 58) #[] #[]] w fun e w' => e = .returned (.bool true) ∧ Nw w w' := by
  have hl : zs2.length = n := by have := congrArg List.length he; simp at this; omega
  obtain ⟨va, vc, rfl⟩ := own_shape' h1.row
  obtain ⟨pa, pc, rfl⟩ := own_shape' h2.row
  rw [← hn] at h1 ⊢
  rw [hl] at h2 ⊢
  have H1 := Lib.hid h1
  have H2 := Lib.hid h2
  have Hn := Lib.hid (And.intro hn hl)
  have He := Lib.hid he
  have Hz := Lib.hid hsz
  clear h1 h2 hn he hl hsz
  go_enter Tryz.func57, Tryz.ntmps57
  go_wp2_with fail
  go_loopw [17] (fun i wr => ∃ k : Nat, k ≤ n ∧ i = .int .i64 (k : Int) ∧ Nw w wr) (fun i _ => n - (intOf i).toNat)
  case atStart => exact ⟨0, by omega, rfl, Nw.refl _⟩
  case round =>
    obtain ⟨k, hk, rfl, hN⟩ := hrel
    have Nr := Lib.hid hN
    clear hN
    by_cases hlt : k < n
    · obtain ⟨⟨p1, l1⟩, hk1⟩ : ∃ z, zs1[k]? = some z := ⟨zs1[k]'(by rw [← Hn.out.1]; exact hlt), List.getElem?_eq_getElem _⟩
      obtain ⟨⟨p2, l2⟩, hk2⟩ : ∃ z, zs2[k]? = some z := ⟨zs2[k]'(by rw [Hn.out.2]; exact hlt), List.getElem?_eq_getElem _⟩
      have hp : p1 = p2 := by
        have e := congrArg (fun l => l[k]?) He.out
        simp only [List.getElem?_map, hk1, hk2] at e
        simpa using e
      subst hp
      have P1 := Lib.hid ((H1.out.ins _ (List.mem_of_getElem? hk1)).nw Nr.out)
      have P2 := Lib.hid ((H2.out.ins _ (List.mem_of_getElem? hk2)).nw Nr.out)
      have Sz := Lib.hid (Hz.out _ (List.mem_of_getElem? hk1))
      obtain ⟨g, cap, hv, hcap, hmax, hgs, e0, e1, e2, e3⟩ := voice_at (by have o := own_nw H1.out.row Nr.out; rw [← Hn.out.1] at o; exact o) Hn.out.1 hk1
      cases hv
      obtain ⟨g', rfl, hpc, hpm⟩ : ∃ g', pa = some ⟨g', 0, none⟩ ∧ n ≤ pc ∧ pc ≤ maxLen := by
        rcases H2.out.row.2 with ⟨h1, h2⟩ | ⟨g', cap, cur, h1, hb, hg, hc, hmx, hs, ht⟩
        · rw [Hn.out.2] at h2; omega
        · cases h1; exact ⟨g', rfl, by rw [Hn.out.2] at hc; exact hc, hmx⟩
      obtain ⟨f0, f1, f2, f3, f4⟩ := part_at (by have o := own_nw H2.out.row Nr.out; rw [Hn.out.2] at o; exact o) Hn.out.2.symm hk2
      have hgs' : g' < wr.heap.size := ((own_nw H2.out.row Nr.out).lt g' rfl).2
      obtain ⟨⟨ma, mc, hm1⟩, ia, ic, hi1⟩ := P1.out.shape
      obtain ⟨⟨na, nc, hm2⟩, ja, jc, hi2⟩ := P2.out.shape
      have hm1 : l1.vm = .slice ma p1.ms.length mc := hm1
      have hm2 : l2.vm = .slice na p1.ms.length nc := hm2
      have hi1 : l1.vi = .slice ia p1.xs.length ic := hi1
      have hi2 : l2.vi = .slice ja p1.xs.length jc := hi2
      have e1 : wr.cell? ⟨g, k * 4 + 1, none⟩ = some (.slice ma p1.ms.length mc) := by rw [← hm1]; exact e1
      have e3 : wr.cell? ⟨g, k * 4 + 3, none⟩ = some (.slice ia p1.xs.length ic) := by rw [← hi1]; exact e3
      have f1 : wr.cell? ⟨g', k * 5 + 1, none⟩ = some (.slice na p1.ms.length nc) := by rw [← hm2]; exact f1
      have f3 : wr.cell? ⟨g', k * 5 + 3, none⟩ = some (.slice ja p1.xs.length jc) := by rw [← hi2]; exact f3
      simp only at e0 e2 f0 f2 f4
      have Hv := Lib.hid (And.intro hm1 (And.intro hi1 (And.intro hm2 hi2)))
      have K1 := Lib.hid ((Nw.refl wr).alloc (.cells #[.int .i64 p1.b, .slice ma p1.ms.length mc, .slice (some ⟨l1.g, 0, none⟩) p1.ms.length p1.ms.length, .slice ia p1.xs.length ic] 59 (0, 0)))
      have K2 := Lib.hid (K1.out.alloc (.cells #[.int .i64 p1.b, .slice na p1.ms.length nc, .slice (some ⟨l2.g, 0, none⟩) p1.ms.length p1.ms.length, .slice ja p1.xs.length jc, .int .i64 l2.tr] 84 (0, 0)))
      have sv := Lib.hid (fun W (hW : Nw wr W) => isAtC_self p1 l1 l2 b1 b2 W (P1.out.nw hW) (P2.out.nw hW) Sz.out)
      unfold maxLen at hmax hpm
      clear hk1 hk2 hm1 hm2 hi1 hi2
      go_wp2_with fail
      have sv2 := sv.out _ K2.out
      rw [Hv.out.1, Hv.out.2.1, Hv.out.2.2.1, Hv.out.2.2.2] at sv2
      refine sv2.mono ?_
      rintro e w5 ⟨rfl, n5⟩
      have N5 := Lib.hid ((Nr.out.trans K2.out).trans n5)
      clear n5 sv2 e0 e1 e2 e3 f0 f1 f2 f3 f4
      go_wp2_with fail
      go_roundw
      case rel => exact ⟨k + 1, by omega, by rw [show ((k + 1 : Nat) : Int) = (k : Int) + 1 from by omega], N5.out⟩
      case measure => simp only [intOf]; omega
    · obtain rfl : k = n := by omega
      go_wp2_with fail
      go_ret
      exact ⟨rfl, Nr.out⟩

set_option maxHeartbeats 6400000 in
set_option maxRecDepth 100000 in
theorem isAt_ok {W1 : World} {q L V C R L' V' C' R' : Nat} {sv ev eo sv' ev' : Value} {i i' d b env env2 b1 : Nat} {pv vv : Value} {zs zs1 : List (Prt × Loc)} {w : World} (h : PlS W1 q L' V' C' R' sv ev eo i' d b pv env2 zs w)
    (hv : VoicesR w b1 vv zs1) (hz : zs1.map Prod.fst = zs.map Prod.fst) (hl : zs1.length ≤ 1000) (hsz : ∀ z ∈ zs1, PSz z.1) (he : fab .f32 env = fab .f32 env2) (hss : (∃ a n c, sv' = .slice a n c) ∧ ∃ a n c, ev' = .slice a n c) :
    Calls Tryz.prog 33 #[.pointer (some ⟨q, 0, none⟩), .agg #[.int .i64 (L : Int), .int .i64 (V : Int), .float .f32 C, .float .f32 R, sv', ev', .int .i64 (i : Int), .int .i64 (d : Int), vv, .float .f32 env]] w fun e w' => e = .returned (.bool true) ∧ Nw w w' := by
  obtain ⟨⟨sa, sn, sc, rfl⟩, ea, en, ec, rfl⟩ := hss
  obtain ⟨va, vc, rfl⟩ := own_shape' hv.row
  obtain ⟨pa, pc, rfl⟩ := own_shape' h.par.row
  have hl2 : zs.length = zs1.length := by have := congrArg List.length hz; simp at this; omega
  obtain ⟨n, hn⟩ : ∃ n, n = zs1.length := ⟨_, rfl⟩
  rw [hl2, ← hn] at h
  rw [← hn] at hv hl ⊢
  have hn64 := hl
  have hbx := h.box
  have hqw := h.box.1
  obtain ⟨wd, hwd⟩ : ∃ wd, wd = w.alloc (.cells #[.int .i64 (L : Int), .int .i64 (V : Int), .float .f32 C, .float .f32 R, .slice sa sn sc, .slice ea en ec, .int .i64 (i : Int), .int .i64 (d : Int), .slice va n vc, .float .f32 env] 31 (0, 0)) := ⟨_, rfl⟩
  have Nd := Lib.hid (show Nw w wd from by rw [hwd]; exact (Nw.refl w).alloc _)
  have Bx := Lib.hid (show HasC wd w.heap.size [.int .i64 (L : Int), .int .i64 (V : Int), .float .f32 C, .float .f32 R, .slice sa sn sc, .slice ea en ec, .int .i64 (i : Int), .int .i64 (d : Int), .slice va n vc, .float .f32 env] from by rw [hwd]; exact HasC.newB w _ _)
  have Px := Lib.hid (hbx.nw Nd.out)
  have Hv := Lib.hid hv
  have Hp := Lib.hid h.par
  have Hz := Lib.hid (And.intro hz (And.intro hn hsz))
  have He := Lib.hid (sameX_of_fab he)
  have Hwd := Lib.hid hwd
  have KeepS := Lib.hid (show ∀ W', Nw wd W' → W'.cell? ⟨w.heap.size, 7, none⟩ = some (.int .i64 (d : Int)) ∧ W'.cell? ⟨w.heap.size, 8, none⟩ = some (.slice va n vc) ∧ W'.cell? ⟨w.heap.size, 9, none⟩ = some (.float .f32 env) ∧ W'.cell? ⟨q, 8, none⟩ = some (.int .i64 (d : Int)) ∧ W'.cell? ⟨q, 10, none⟩ = some (.slice pa n pc) ∧ W'.cell? ⟨q, 11, none⟩ = some (.float .f32 env2) from fun W' hW => by
    have x := Bx.out.nw hW
    have y := Px.out.nw hW
    exact ⟨(x.2 7 _ rfl).1, (x.2 8 _ rfl).1, (x.2 9 _ rfl).1, (y.2 8 _ rfl).1, (y.2 10 _ rfl).1, (y.2 11 _ rfl).1⟩)
  clear h hv hz hn hsz he hwd hl2 hbx hl
  go_enter Tryz.func33, Tryz.ntmps33
  go_upto_region 1 with fail
  rw [← Hwd.out]
  clear Hwd
  refine wp_region_held_drew (S := fun W' => W'.cell? ⟨w.heap.size, 7, none⟩ = some (.int .i64 (d : Int)) ∧ W'.cell? ⟨w.heap.size, 8, none⟩ = some (.slice va n vc) ∧ W'.cell? ⟨w.heap.size, 9, none⟩ = some (.float .f32 env) ∧ W'.cell? ⟨q, 8, none⟩ = some (.int .i64 (d : Int)) ∧ W'.cell? ⟨q, 10, none⟩ = some (.slice pa n pc) ∧ W'.cell? ⟨q, 11, none⟩ = some (.float .f32 env2)) (by kernel_rfl) (KeepS.out _ ((Nw.refl wd).draw 1)) (fun hHeld => ?_)
  refine wpAnyH_take (i := 0) (oi := _) (v := ?_) rfl (by kernel_rfl) (by kernel_rfl) (by kernel_rfl) (fun _ _ _ h => h) (_root_.Or.inl ⟨by kernel_rfl, ?_⟩) (by assumption) ?_
  rotate_left
  · intro w hSw
    (try dsimp only at hSw)
    go_simp
    all_goals with_reducible rfl
  try simp only [List.getElem_toArray, List.getElem_cons_succ, List.getElem_cons_zero, Act.put, List.setIfInBounds_toArray, List.set_cons_zero, List.set_cons_succ]
  refine wpAnyH_take (i := 1) (oi := _) (v := ?_) rfl (by kernel_rfl) (by kernel_rfl) (by kernel_rfl) (fun _ _ _ h => h) (_root_.Or.inl ⟨by kernel_rfl, ?_⟩) (by assumption) ?_
  rotate_left
  · intro w hSw
    (try dsimp only at hSw)
    go_simp
    all_goals with_reducible rfl
  try simp only [List.getElem_toArray, List.getElem_cons_succ, List.getElem_cons_zero, Act.put, List.setIfInBounds_toArray, List.set_cons_zero, List.set_cons_succ]
  refine wpAnyH_take (i := 2) (oi := _) (v := ?_) rfl (by kernel_rfl) (by kernel_rfl) (by kernel_rfl) (fun _ _ _ h => h) (_root_.Or.inl ⟨by kernel_rfl, ?_⟩) (by assumption) ?_
  rotate_left
  · intro w hSw
    (try dsimp only at hSw)
    go_simp
    all_goals with_reducible rfl
  try simp only [List.getElem_toArray, List.getElem_cons_succ, List.getElem_cons_zero, Act.put, List.setIfInBounds_toArray, List.set_cons_zero, List.set_cons_succ]
  refine wpAnyH_take (i := 3) (oi := _) (v := ?_) rfl (by kernel_rfl) (by kernel_rfl) (by kernel_rfl) (fun _ _ _ h => h) (_root_.Or.inl ⟨by kernel_rfl, ?_⟩) (by assumption) ?_
  rotate_left
  · intro w hSw
    (try dsimp only at hSw)
    go_simp
    all_goals with_reducible rfl
  try simp only [List.getElem_toArray, List.getElem_cons_succ, List.getElem_cons_zero, Act.put, List.setIfInBounds_toArray, List.set_cons_zero, List.set_cons_succ]
  refine wpAnyH_take (i := 4) (oi := _) (v := ?_) rfl (by kernel_rfl) (by kernel_rfl) (by kernel_rfl) (fun _ _ _ h => h) (_root_.Or.inl ⟨by kernel_rfl, ?_⟩) (by assumption) ?_
  rotate_left
  · intro w hSw
    (try dsimp only at hSw)
    go_simp
    all_goals with_reducible rfl
  try simp only [List.getElem_toArray, List.getElem_cons_succ, List.getElem_cons_zero, Act.put, List.setIfInBounds_toArray, List.set_cons_zero, List.set_cons_succ]
  refine wpAnyH_take (i := 5) (oi := _) (v := ?_) rfl (by kernel_rfl) (by kernel_rfl) (by kernel_rfl) (fun _ _ _ h => h) (_root_.Or.inl ⟨by kernel_rfl, ?_⟩) (by assumption) ?_
  rotate_left
  · intro w hSw
    (try dsimp only at hSw)
    go_simp
    all_goals with_reducible rfl
  try simp only [List.getElem_toArray, List.getElem_cons_succ, List.getElem_cons_zero, Act.put, List.setIfInBounds_toArray, List.set_cons_zero, List.set_cons_succ]
  refine wpAnyH_take (i := 6) (oi := _) (v := ?_) rfl (by kernel_rfl) (by kernel_rfl) (by kernel_rfl) (fun _ _ _ h => h) (_root_.Or.inl ⟨by kernel_rfl, ?_⟩) (by assumption) ?_
  rotate_left
  · intro w hSw
    (try dsimp only at hSw)
    go_simp
    all_goals with_reducible rfl
  try simp only [List.getElem_toArray, List.getElem_cons_succ, List.getElem_cons_zero, Act.put, List.setIfInBounds_toArray, List.set_cons_zero, List.set_cons_succ]
  refine wpAnyH_take (i := 7) (oi := _) (v := ?_) rfl (by kernel_rfl) (by kernel_rfl) (by kernel_rfl) (fun _ _ _ h => h) (_root_.Or.inl ⟨by kernel_rfl, ?_⟩) (by assumption) ?_
  rotate_left
  · intro w hSw
    (try dsimp only at hSw)
    go_simp
    all_goals with_reducible rfl
  try simp only [List.getElem_toArray, List.getElem_cons_succ, List.getElem_cons_zero, Act.put, List.setIfInBounds_toArray, List.set_cons_zero, List.set_cons_succ]
  refine wpAnyH_take (i := 8) (oi := _) (v := ?_) rfl (by kernel_rfl) (by kernel_rfl) (by kernel_rfl) (fun _ _ _ h => h) (_root_.Or.inl ⟨by kernel_rfl, ?_⟩) (by assumption) ?_
  rotate_left
  · intro w hSw
    (try dsimp only at hSw)
    go_simp
    all_goals with_reducible rfl
  try simp only [List.getElem_toArray, List.getElem_cons_succ, List.getElem_cons_zero, Act.put, List.setIfInBounds_toArray, List.set_cons_zero, List.set_cons_succ]
  refine wpAnyH_take (i := 9) (oi := _) (v := ?_) rfl (by kernel_rfl) (by kernel_rfl) (by kernel_rfl) (fun _ _ _ h => h) (_root_.Or.inl ⟨by kernel_rfl, ?_⟩) (by assumption) ?_
  rotate_left
  · intro w hSw
    (try dsimp only at hSw)
    go_simp
    all_goals with_reducible rfl
  try simp only [List.getElem_toArray, List.getElem_cons_succ, List.getElem_cons_zero, Act.put, List.setIfInBounds_toArray, List.set_cons_zero, List.set_cons_succ]
  refine wpAnyH_take (i := 10) (oi := _) (v := ?_) rfl (by kernel_rfl) (by kernel_rfl) (by kernel_rfl) (fun _ _ _ h => h) (_root_.Or.inl ⟨by kernel_rfl, ?_⟩) (by assumption) ?_
  rotate_left
  · intro w hSw
    (try dsimp only at hSw)
    go_simp
    all_goals with_reducible rfl
  try simp only [List.getElem_toArray, List.getElem_cons_succ, List.getElem_cons_zero, Act.put, List.setIfInBounds_toArray, List.set_cons_zero, List.set_cons_succ]
  refine wpAnyH_take (i := 11) (oi := _) (v := ?_) rfl (by kernel_rfl) (by kernel_rfl) (by kernel_rfl) (fun _ _ _ h => h) (_root_.Or.inl ⟨by kernel_rfl, ?_⟩) (by assumption) ?_
  rotate_left
  · intro w hSw
    (try dsimp only at hSw)
    go_simp
    all_goals with_reducible rfl
  try simp only [List.getElem_toArray, List.getElem_cons_succ, List.getElem_cons_zero, Act.put, List.setIfInBounds_toArray, List.set_cons_zero, List.set_cons_succ]
  refine wpAnyH_take (i := 12) (oi := _) (v := ?_) rfl (by kernel_rfl) (by kernel_rfl) (by kernel_rfl) (fun _ _ _ h => h) (_root_.Or.inl ⟨by kernel_rfl, ?_⟩) (by assumption) ?_
  rotate_left
  · intro w hSw
    (try dsimp only at hSw)
    go_simp
    all_goals with_reducible rfl
  try simp only [List.getElem_toArray, List.getElem_cons_succ, List.getElem_cons_zero, Act.put, List.setIfInBounds_toArray, List.set_cons_zero, List.set_cons_succ]
  refine wpAnyH_take (i := 13) (oi := _) (v := ?_) rfl (by kernel_rfl) (by kernel_rfl) (by kernel_rfl) (fun _ _ _ h => h) (_root_.Or.inl ⟨by kernel_rfl, ?_⟩) (by assumption) ?_
  rotate_left
  · intro w hSw
    (try dsimp only at hSw)
    go_simp
    all_goals with_reducible rfl
  try simp only [List.getElem_toArray, List.getElem_cons_succ, List.getElem_cons_zero, Act.put, List.setIfInBounds_toArray, List.set_cons_zero, List.set_cons_succ]
  refine wpAnyH_ready (rs := [14]) (by kernel_rfl) (by simp) ?_
  refine AllReadyH.cons (o := _) rfl (fun K hK => ?_) AllReadyH.nil
  go_simp
  go_at_call 56
  refine (sameSingle_any env env2 _).mono ?_
  rintro e w5 ⟨rfl, nk, rfl⟩
  have N5 := Lib.hid ((Nw.refl wd).draw (1 + nk))
  rw [He.out]
  clear hHeld
  go_wp2_with fail
  refine hK.out _ _ ?_ (fun hHeld => ?_)
  · exact KeepS.out _ N5.out
  clear hK K
  try simp only [List.getElem_toArray, List.getElem_cons_succ, List.getElem_cons_zero, Act.put, List.setIfInBounds_toArray, List.set_cons_zero, List.set_cons_succ]
  refine wpAnyH_take (i := 15) (oi := _) (v := ?_) rfl (by kernel_rfl) (by kernel_rfl) (by kernel_rfl) (fun _ _ _ h => h) (_root_.Or.inl ⟨by kernel_rfl, ?_⟩) (by assumption) ?_
  rotate_left
  · intro w hSw
    (try dsimp only at hSw)
    go_simp
    all_goals with_reducible rfl
  try simp only [List.getElem_toArray, List.getElem_cons_succ, List.getElem_cons_zero, Act.put, List.setIfInBounds_toArray, List.set_cons_zero, List.set_cons_succ]
  refine wpAnyH_take (i := 16) (oi := _) (v := ?_) rfl (by kernel_rfl) (by kernel_rfl) (by kernel_rfl) (fun _ _ _ h => h) (_root_.Or.inl ⟨by kernel_rfl, ?_⟩) (by assumption) ?_
  rotate_left
  · intro w hSw
    (try dsimp only at hSw)
    go_simp
    all_goals with_reducible rfl
  try simp only [List.getElem_toArray, List.getElem_cons_succ, List.getElem_cons_zero, Act.put, List.setIfInBounds_toArray, List.set_cons_zero, List.set_cons_succ]
  refine wpAnyH_take (i := 17) (oi := _) (v := ?_) rfl (by kernel_rfl) (by kernel_rfl) (by kernel_rfl) (fun _ _ _ h => h) (_root_.Or.inl ⟨by kernel_rfl, ?_⟩) (by assumption) ?_
  rotate_left
  · intro w hSw
    (try dsimp only at hSw)
    go_simp
    all_goals with_reducible rfl
  try simp only [List.getElem_toArray, List.getElem_cons_succ, List.getElem_cons_zero, Act.put, List.setIfInBounds_toArray, List.set_cons_zero, List.set_cons_succ]
  refine wpAnyH_take (i := 18) (oi := _) (v := ?_) rfl (by kernel_rfl) (by kernel_rfl) (by kernel_rfl) (fun _ _ _ h => h) (_root_.Or.inl ⟨by kernel_rfl, ?_⟩) (by assumption) ?_
  rotate_left
  · intro w hSw
    (try dsimp only at hSw)
    go_simp
    all_goals with_reducible rfl
  try simp only [List.getElem_toArray, List.getElem_cons_succ, List.getElem_cons_zero, Act.put, List.setIfInBounds_toArray, List.set_cons_zero, List.set_cons_succ]
  refine wpAnyH_take (i := 19) (oi := _) (v := ?_) rfl (by kernel_rfl) (by kernel_rfl) (by kernel_rfl) (fun _ _ _ h => h) (_root_.Or.inl ⟨by kernel_rfl, ?_⟩) (by assumption) ?_
  rotate_left
  · intro w hSw
    (try dsimp only at hSw)
    go_simp
    all_goals with_reducible rfl
  try simp only [List.getElem_toArray, List.getElem_cons_succ, List.getElem_cons_zero, Act.put, List.setIfInBounds_toArray, List.set_cons_zero, List.set_cons_succ]
  refine wpAnyH_take (i := 20) (oi := _) (v := ?_) rfl (by kernel_rfl) (by kernel_rfl) (by kernel_rfl) (fun _ _ _ h => h) (_root_.Or.inl ⟨by kernel_rfl, ?_⟩) (by assumption) ?_
  rotate_left
  · intro w hSw
    (try dsimp only at hSw)
    go_simp
    all_goals with_reducible rfl
  try simp only [List.getElem_toArray, List.getElem_cons_succ, List.getElem_cons_zero, Act.put, List.setIfInBounds_toArray, List.set_cons_zero, List.set_cons_succ]
  refine wpAnyH_take (i := 21) (oi := _) (v := ?_) rfl (by kernel_rfl) (by kernel_rfl) (by kernel_rfl) (fun _ _ _ h => h) (_root_.Or.inl ⟨by kernel_rfl, ?_⟩) (by assumption) ?_
  rotate_left
  · intro w hSw
    (try dsimp only at hSw)
    go_simp
    all_goals with_reducible rfl
  try simp only [List.getElem_toArray, List.getElem_cons_succ, List.getElem_cons_zero, Act.put, List.setIfInBounds_toArray, List.set_cons_zero, List.set_cons_succ]
  refine wpAnyH_take (i := 22) (oi := _) (v := ?_) rfl (by kernel_rfl) (by kernel_rfl) (by kernel_rfl) (fun _ _ _ h => h) (_root_.Or.inl ⟨by kernel_rfl, ?_⟩) (by assumption) ?_
  rotate_left
  · intro w hSw
    (try dsimp only at hSw)
    go_simp
    all_goals with_reducible rfl
  try simp only [List.getElem_toArray, List.getElem_cons_succ, List.getElem_cons_zero, Act.put, List.setIfInBounds_toArray, List.set_cons_zero, List.set_cons_succ]
  refine wpAnyH_ready (rs := [23]) (by kernel_rfl) (by simp) ?_
  refine AllReadyH.cons (o := _) rfl (fun K hK => ?_) AllReadyH.nil
  go_simp
  go_at_call 57
  refine (equalVoices_self zs1 zs n b1 W1.heap.size _ _ _ (Hv.out.nw (Nd.out.trans N5.out)) (Hp.out.nw (Nd.out.trans N5.out)) Hz.out.1 Hz.out.2.1 hn64 Hz.out.2.2).mono ?_
  rintro e w6 ⟨rfl, n6⟩
  have N6 := Lib.hid (N5.out.trans n6)
  clear n6 hHeld
  go_wp2_with fail
  refine hK.out _ _ ?_ (fun hHeld => ?_)
  · exact KeepS.out _ N6.out
  clear hK K
  try simp only [List.getElem_toArray, List.getElem_cons_succ, List.getElem_cons_zero, Act.put, List.setIfInBounds_toArray, List.set_cons_zero, List.set_cons_succ]
  refine wpAnyH_take (i := 24) (oi := _) (v := ?_) rfl (by kernel_rfl) (by kernel_rfl) (by kernel_rfl) (fun _ _ _ h => h) (_root_.Or.inl ⟨by kernel_rfl, ?_⟩) (by assumption) ?_
  rotate_left
  · intro w hSw
    (try dsimp only at hSw)
    go_simp
    all_goals with_reducible rfl
  try simp only [List.getElem_toArray, List.getElem_cons_succ, List.getElem_cons_zero, Act.put, List.setIfInBounds_toArray, List.set_cons_zero, List.set_cons_succ]
  refine wpAnyH_take (i := 25) (oi := _) (v := ?_) rfl (by kernel_rfl) (by kernel_rfl) (by kernel_rfl) (fun _ _ _ h => h) (_root_.Or.inl ⟨by kernel_rfl, ?_⟩) (by assumption) ?_
  rotate_left
  · intro w hSw
    (try dsimp only at hSw)
    go_simp
    all_goals with_reducible rfl
  try simp only [List.getElem_toArray, List.getElem_cons_succ, List.getElem_cons_zero, Act.put, List.setIfInBounds_toArray, List.set_cons_zero, List.set_cons_succ]
  refine wpAnyH_done (by kernel_rfl) ?_ _
  clear hHeld
  go_wp2_with fail
  go_ret
  exact ⟨rfl, Nd.out.trans N6.out⟩
end Go.Proofs.YtiakcibeobbonaaGreat

/- The player of a stream: playerOf, IsStream (FnCut).
   Conditions: those that each statement names. -/
namespace Go.Proofs.YtiakcibeobbonaaGreat
set_option linter.unusedSimpArgs false
set_option linter.unusedVariables false
open Go Go.RowKit

/-- a stream in memory, at sample i -/
structure StrV (w : World) (base L V C R : Nat) (bs : List (List M4)) (es : List Ev6) (i : Nat) (sv ev vv : Value) (env : Nat) (zs : List (Prt × Loc)) : Prop where
  sco : ScoV w base L V C R bs es sv ev
  voi : VoicesR w base vv zs
  hz : zs.map Prod.fst = preP bs V es i
  he : fab .f32 env = eAt bs V es R 0 (fab .f32 0) i
  hi : i ≤ L
  hL : L ≤ 70
theorem StrV.nw {w w' : World} {base L V C R : Nat} {bs : List (List M4)} {es : List Ev6} {i : Nat} {sv ev vv : Value} {env : Nat} {zs : List (Prt × Loc)} (h : StrV w base L V C R bs es i sv ev vv env zs) (k : Nw w w') : StrV w' base L V C R bs es i sv ev vv env zs :=
  ⟨h.sco.nw k, h.voi.nw k, h.hz, h.he, h.hi, h.hL⟩
theorem StrV.sz {w : World} {base L V C R : Nat} {bs : List (List M4)} {es : List Ev6} {i : Nat} {sv ev vv : Value} {env : Nat} {zs : List (Prt × Loc)} (h : StrV w base L V C R bs es i sv ev vv env zs) : zs.length ≤ 4 ∧ ∀ z ∈ zs, PSz z.1 := by
  have hp := pre_ok bs h.sco.bok L V h.sco.hV.1 es h.sco.eok i (by have := h.hi; have := h.hL; omega)
  rw [← h.hz] at hp
  refine ⟨by have := hp.1; rw [List.length_map] at this; have := h.sco.hV.2; omega, fun z hz => (hp.2 z.1 (List.mem_map_of_mem hz)).sz⟩
def strA (L V C R : Nat) (sv ev : Value) (i d : Nat) (vv : Value) (env : Nat) : Value := .agg #[.int .i64 (L : Int), .int .i64 (V : Int), .float .f32 C, .float .f32 R, sv, ev, .int .i64 (i : Int), .int .i64 (d : Int), vv, .float .f32 env]
def strC (L V C R : Nat) (sv ev : Value) (i d : Nat) (vv : Value) (env : Nat) : List Value := [.int .i64 (L : Int), .int .i64 (V : Int), .float .f32 C, .float .f32 R, sv, ev, .int .i64 (i : Int), .int .i64 (d : Int), vv, .float .f32 env]
theorem ten_at {w : World} {b : Nat} {v0 v1 v2 v3 v4 v5 v6 v7 v8 v9 : Value} (h : HasC w b [v0, v1, v2, v3, v4, v5, v6, v7, v8, v9]) :
    w.cell? ⟨b, 0, none⟩ = some v0 ∧ w.cell? ⟨b, 1, none⟩ = some v1 ∧ w.cell? ⟨b, 2, none⟩ = some v2 ∧ w.cell? ⟨b, 3, none⟩ = some v3 ∧ w.cell? ⟨b, 4, none⟩ = some v4 ∧ w.cell? ⟨b, 5, none⟩ = some v5 ∧ w.cell? ⟨b, 6, none⟩ = some v6 ∧ w.cell? ⟨b, 7, none⟩ = some v7 ∧ w.cell? ⟨b, 8, none⟩ = some v8 ∧ w.cell? ⟨b, 9, none⟩ = some v9 :=
  ⟨(h.2 0 _ rfl).1, (h.2 1 _ rfl).1, (h.2 2 _ rfl).1, (h.2 3 _ rfl).1, (h.2 4 _ rfl).1, (h.2 5 _ rfl).1, (h.2 6 _ rfl).1, (h.2 7 _ rfl).1, (h.2 8 _ rfl).1, (h.2 9 _ rfl).1⟩

def PlOfP (base L V C R : Nat) (bs : List (List M4)) (es : List Ev6) (sv ev : Value) (i : Nat) (w : World) (e : Ending) (w' : World) : Prop :=
  ∃ (q : Nat) (W0 W1 : World) (eo : Value) (b : Nat) (pv : Value) (env : Nat) (zs : List (Prt × Loc)), e = .returned (.tuple #[.pointer (some ⟨q, 0, none⟩), .bool true]) ∧ Nw w W0 ∧ PlF W0 W1 q base L V C R bs es sv ev eo ∧
    PlS W1 q L V C R sv ev eo i (dAt (ordE es) i) b pv env zs w' ∧ b ≤ dAt (ordE es) i ∧ fab .f32 env = eAt bs V es R 0 (fab .f32 0) i ∧ zs.map Prod.fst = preP bs V es i
set_option maxHeartbeats 6400000 in
set_option maxRecDepth 100000 in
theorem playerOf_ok {base L V C R : Nat} {bs : List (List M4)} {es : List Ev6} {i : Nat} {sv ev vv : Value} {env : Nat} {zs : List (Prt × Loc)} {w : World} (h : StrV w base L V C R bs es i sv ev vv env zs) :
    Calls Tryz.prog 15 #[strA L V C R sv ev i (dAt (ordE es) i) vv env] w (PlOfP base L V C R bs es sv ev i w) := by
  obtain ⟨nb, hnb⟩ : ∃ nb, nb = bs.length := ⟨_, rfl⟩
  obtain ⟨ne, hne⟩ : ∃ ne, ne = es.length := ⟨_, rfl⟩
  obtain ⟨⟨sa, sc, rfl⟩, ea, ec, rfl⟩ := h.sco.shape
  obtain ⟨va, vc, rfl⟩ := own_shape' h.voi.row
  obtain ⟨n, hn⟩ : ∃ n, n = zs.length := ⟨_, rfl⟩
  obtain ⟨d, hd⟩ : ∃ d, d = dAt (ordE es) i := ⟨_, rfl⟩
  rw [← hnb, ← hne, ← hn] at h ⊢
  rw [← hd]
  have hiL := h.hi
  have hL70 := h.hL
  obtain ⟨w1, hw1⟩ : ∃ w1, w1 = w.alloc (.cells #[.int .i64 (L : Int), .int .i64 (V : Int), .float .f32 C, .float .f32 R, .slice sa nb sc, .slice ea ne ec, .int .i64 (i : Int), .int .i64 (d : Int), .slice va n vc, .float .f32 env] 31 (0, 0)) := ⟨_, rfl⟩
  have N1 := Lib.hid (show Nw w w1 from by rw [hw1]; exact (Nw.refl w).alloc _)
  have X1 := Lib.hid (show HasC w1 w.heap.size (strC L V C R (.slice sa nb sc) (.slice ea ne ec) i d (.slice va n vc) env) from by rw [hw1]; exact HasC.newB w _ _)
  have H := Lib.hid h
  have Hn := Lib.hid (And.intro hnb (And.intro hne (And.intro hn hd)))
  have Hw := Lib.hid hw1
  clear h hnb hne hn hd hw1
  unfold strA
  go_enter Tryz.func15, Tryz.ntmps15
  go_upto_region 1 with fail
  rw [← Hw.out]
  clear Hw
  obtain ⟨e0, e1, e2, e3, e4, e5, e6, e7, e8, e9⟩ := ten_at X1.out
  go_wp2_with fail
  refine (isScore_ok base L V C R nb ne bs es _ _ _ (H.out.sco.nw N1.out) Hn.out.1 Hn.out.2.1).mono ?_
  rintro e w2 ⟨rfl, n2⟩
  have N2 := Lib.hid (N1.out.trans n2)
  have X2 := Lib.hid (X1.out.nw n2)
  clear n2 e0 e1 e2 e3 e4 e5 e6 e7 e8 e9 N1 X1
  obtain ⟨e0, e1, e2, e3, e4, e5, e6, e7, e8, e9⟩ := ten_at X2.out
  have hi0 : ¬ ((i : Int) < 0) := by omega
  have hiL2 : ¬ ((L : Int) < (i : Int)) := by omega
  go_wp2_with fail
  refine (newPlayer_ok base L V C R bs es _ _ _ (H.out.sco.nw N2.out)).mono ?_
  rintro e w3 ⟨q, eo, rfl, hq1, hq2, px, hbox, hev, n3⟩
  have F3 := Lib.hid (show PlF w2 w3 q base L V C R bs es (.slice sa nb sc) (.slice ea ne ec) eo from ⟨H.out.sco.nw N2.out, n3, hq1, hq2, px, hev⟩)
  have P3 := Lib.hid (show PlS w3 q L V C R (.slice sa nb sc) (.slice ea ne ec) eo 0 (dAt (ordE es) 0) 0 (.slice none 0 0) 0 [] w3 from ⟨Kp.refl _ _, by rw [dAt_zero _ (fun e he => (ord_mem es L bs.length H.out.sco.eok e he).1)]; exact hbox, PartsR.nil _ _, px⟩)
  have X3 := Lib.hid (X2.out.nw n3)
  clear hq1 hq2 px hbox hev n3 e0 e1 e2 e3 e4 e5 e6 e7 e8 e9
  obtain ⟨e0, e1, e2, e3, e4, e5, e6, e7, e8, e9⟩ := ten_at X3.out
  go_wp2_with fail
  refine (play_ok F3.out P3.out i (by omega) (Nat.zero_le _) rfl).mono ?_
  rintro e w4 ⟨g, ys, rfl, -, -, b', pv', env', zs', hb', hP, he', hz', hfr⟩
  rw [Nat.zero_add] at hb' hP hz'
  have P4 := Lib.hid hP
  have Q4 := Lib.hid (And.intro hb' (And.intro he' hz'))
  have N4 := Lib.hid (F3.out.nw hP.kp)
  have X4 := Lib.hid (X2.out.nw N4.out)
  clear hb' hP he' hz' hfr e0 e1 e2 e3 e4 e5 e6 e7 e8 e9 X3 P3
  obtain ⟨e0, e1, e2, e3, e4, e5, e6, e7, e8, e9⟩ := ten_at X4.out
  go_wp2_with fail
  have hvz := (H.out.voi.nw N2.out).nw N4.out
  have hse := H.out.sz
  have Z4 := Lib.hid (isAt_ok (L := L) (V := V) (C := C) (R := R) (i := i) (env := env) (sv' := .slice sa nb sc) (ev' := .slice ea ne ec) P4.out hvz (by rw [H.out.hz, Q4.out.2.2]) (by omega) hse.2 (by rw [H.out.he, Q4.out.2.1]) ⟨⟨_, _, _, rfl⟩, _, _, _, rfl⟩)
  rw [← Hn.out.2.2.2] at Z4
  refine Z4.out.mono ?_
  rintro e w5 ⟨rfl, n5⟩
  have P5 := Lib.hid (P4.out.nw n5)
  clear n5 e0 e1 e2 e3 e4 e5 e6 e7 e8 e9 hvz hse
  go_wp2_with fail
  go_ret2
  exact ⟨q, w2, w3, eo, b', pv', env', zs', rfl, N2.out, F3.out, P5.out, Q4.out.1, Q4.out.2.1, Q4.out.2.2⟩
set_option maxHeartbeats 6400000 in
set_option maxRecDepth 100000 in
theorem isStream_ok {base L V C R : Nat} {bs : List (List M4)} {es : List Ev6} {i : Nat} {sv ev vv : Value} {env : Nat} {zs : List (Prt × Loc)} {w : World} (h : StrV w base L V C R bs es i sv ev vv env zs) :
    Calls Tryz.prog 8 #[strA L V C R sv ev i (dAt (ordE es) i) vv env] w fun e w' => e = .returned (.bool true) ∧ Nw w w' := by
  obtain ⟨⟨sa, sc, rfl⟩, ea, ec, rfl⟩ := h.sco.shape
  obtain ⟨va, vc, rfl⟩ := own_shape' h.voi.row
  obtain ⟨d, hd⟩ : ∃ d, d = dAt (ordE es) i := ⟨_, rfl⟩
  obtain ⟨w1, hw1⟩ : ∃ w1, w1 = w.alloc (.cells #[.int .i64 (L : Int), .int .i64 (V : Int), .float .f32 C, .float .f32 R, .slice sa bs.length sc, .slice ea es.length ec, .int .i64 (i : Int), .int .i64 (d : Int), .slice va zs.length vc, .float .f32 env] 31 (0, 0)) := ⟨_, rfl⟩
  have N1 := Lib.hid (show Nw w w1 from by rw [hw1]; exact (Nw.refl w).alloc _)
  have X1 := Lib.hid (show HasC w1 w.heap.size (strC L V C R (.slice sa bs.length sc) (.slice ea es.length ec) i d (.slice va zs.length vc) env) from by rw [hw1]; exact HasC.newB w _ _)
  have Hp := Lib.hid (playerOf_ok (h.nw N1.out))
  unfold strA at Hp ⊢
  rw [← hd] at Hp ⊢
  have Hw := Lib.hid hw1
  clear h hd hw1
  go_enter Tryz.func8, Tryz.ntmps8
  go_upto_region 1 with fail
  rw [← Hw.out]
  clear Hw
  obtain ⟨e0, e1, e2, e3, e4, e5, e6, e7, e8, e9⟩ := ten_at X1.out
  go_wp2_with fail
  refine Hp.out.mono ?_
  rintro e w2 ⟨q, W0, W1, eo, b, pv, env', zs', rfl, n0, hF, hP, -, -, -⟩
  have N2 := Lib.hid ((N1.out.trans n0).trans (hF.nw hP.kp))
  clear n0 hF hP
  go_wp2_with fail
  go_ret
  exact ⟨rfl, N2.out⟩
end Go.Proofs.YtiakcibeobbonaaGreat

/- A player hands its stream over: stream, Advance (FnCut).
   Conditions: those that each statement names. -/
namespace Go.Proofs.YtiakcibeobbonaaGreat
set_option linter.unusedSimpArgs false
set_option linter.unusedVariables false
open Go Go.RowKit

/-- a box that is a stream -/
def SmX (w : World) (b : Nat) : Prop := ∃ cs f, w.heap[b]? = some (.cells cs 31 f)
theorem SmX.new (w : World) (cs : Array Value) : SmX (w.alloc (.cells cs 31 (0, 0))) w.heap.size := ⟨cs, (0, 0), by show (w.heap.push _)[w.heap.size]? = _; simp⟩
theorem SmX.of {w w' : World} {b : Nat} (h : SmX w b) (hb : w'.heap[b]? = w.heap[b]?) : SmX w' b := by
  obtain ⟨cs, f, e⟩ := h
  exact ⟨cs, f, by rw [hb, e]⟩
theorem SmX.lt {w : World} {b : Nat} (h : SmX w b) : b < w.heap.size := by
  obtain ⟨cs, f, e⟩ := h
  exact (Array.getElem?_eq_some_iff.1 e).1
theorem SmX.nw {w w' : World} {b : Nat} (h : SmX w b) (k : Nw w w') : SmX w' b := h.of (k.block b h.lt (by simp))
theorem SmX.set {w : World} {b : Nat} (h : SmX w b) (c o : Nat) (u : Value) : SmX (w.setCell ⟨c, o, none⟩ u) b := by
  by_cases e : c = b
  · subst e
    obtain ⟨cs, f, e⟩ := h
    refine ⟨cs.setIfInBounds o u, f, ?_⟩
    simp [World.setCell, Array.getElem?_modify, e]
  · exact h.of (Below.heap_setCell _ _ _ _ (fun h => e h.symm))
theorem own_smx {w : World} {base : Nat} {E : TypeId} {size n c : Nat} {v : Value} {xs : List Value} (h : w.ownsRow base E size v n xs) (hB : SmX w c) (hE : E ≠ 31) : v.ownBlock = none ∨ v.ownBlock ≠ some c := by
  obtain ⟨cs, f, e⟩ := hB
  rcases h.2 with ⟨rfl, _⟩ | ⟨g, cap, cur, rfl, hb, hg, _⟩
  · exact .inl rfl
  · right
    intro e2
    simp [Value.ownBlock] at e2
    subst e2
    rw [hg] at e
    injection e with e
    injection e with e1 e2 e3
    exact hE e2
theorem SmX.grown {w w' : World} {base : Nat} {E : TypeId} {size n b : Nat} {v : Value} {xs : List Value} (h : SmX w b) (ho : w.ownsRow base E size v n xs) (hE : E ≠ 31) (hg : w.grownBy w' v.ownBlock) : SmX w' b :=
  h.of (hg.block b h.lt (fun e => by rcases own_smx ho h hE with h2 | h2; rw [h2] at e; cases e; exact h2 e.symm))
theorem own_setm {w : World} {base : Nat} {E : TypeId} {size n c : Nat} {v : Value} {xs : List Value} (h : w.ownsRow base E size v n xs) (hB : SmX w c) (hE : E ≠ 31) (o : Nat) (u : Value) : (w.setCell ⟨c, o, none⟩ u).ownsRow base E size v n xs :=
  h.kept ((Kp.refl c w).set o u) (own_smx h hB hE)

theorem info_voice : (Tryz.prog.info? 59).map (fun i => (i.zero, i.size, i.bytes)) = some (some (.agg #[.int .i64 0, .slice none 0 0, .slice none 0 0, .slice none 0 0]), 4, 80) := by kernel_rfl
theorem ten_fz {w : World} {b : Nat} {v0 v1 v2 v3 v4 v5 v6 v7 v8 v9 : Value} (h : HasC w b [v0, v1, v2, v3, v4, v5, v6, v7, v8, v9]) :
    w.frozen? ⟨b, 0, none⟩ = false ∧ w.frozen? ⟨b, 1, none⟩ = false ∧ w.frozen? ⟨b, 2, none⟩ = false ∧ w.frozen? ⟨b, 3, none⟩ = false ∧ w.frozen? ⟨b, 4, none⟩ = false ∧ w.frozen? ⟨b, 5, none⟩ = false ∧ w.frozen? ⟨b, 6, none⟩ = false ∧ w.frozen? ⟨b, 7, none⟩ = false ∧ w.frozen? ⟨b, 8, none⟩ = false ∧ w.frozen? ⟨b, 9, none⟩ = false :=
  ⟨(h.2 0 _ rfl).2, (h.2 1 _ rfl).2, (h.2 2 _ rfl).2, (h.2 3 _ rfl).2, (h.2 4 _ rfl).2, (h.2 5 _ rfl).2, (h.2 6 _ rfl).2, (h.2 7 _ rfl).2, (h.2 8 _ rfl).2, (h.2 9 _ rfl).2⟩
theorem ten_store {w : World} {b : Nat} {y0 y1 y2 y3 y4 y5 y6 y7 y8 y9 : Value} (h : HasC w b [y0, y1, y2, y3, y4, y5, y6, y7, y8, y9]) (hs : SmX w b) (x0 x1 x2 x3 x4 x5 x6 x7 x8 x9 : Value) :
    HasC (World.setCell (World.setCell (World.setCell (World.setCell (World.setCell (World.setCell (World.setCell (World.setCell (World.setCell (World.setCell w ⟨b, 0, none⟩ x0) ⟨b, 1, none⟩ x1) ⟨b, 2, none⟩ x2) ⟨b, 3, none⟩ x3) ⟨b, 4, none⟩ x4) ⟨b, 5, none⟩ x5) ⟨b, 6, none⟩ x6) ⟨b, 7, none⟩ x7) ⟨b, 8, none⟩ x8) ⟨b, 9, none⟩ x9) b [x0, x1, x2, x3, x4, x5, x6, x7, x8, x9] ∧ SmX (World.setCell (World.setCell (World.setCell (World.setCell (World.setCell (World.setCell (World.setCell (World.setCell (World.setCell (World.setCell w ⟨b, 0, none⟩ x0) ⟨b, 1, none⟩ x1) ⟨b, 2, none⟩ x2) ⟨b, 3, none⟩ x3) ⟨b, 4, none⟩ x4) ⟨b, 5, none⟩ x5) ⟨b, 6, none⟩ x6) ⟨b, 7, none⟩ x7) ⟨b, 8, none⟩ x8) ⟨b, 9, none⟩ x9) b ∧ (∀ base (E : TypeId) size n v xs, E ≠ 31 → w.ownsRow base E size v n xs → ((World.setCell (World.setCell (World.setCell (World.setCell (World.setCell (World.setCell (World.setCell (World.setCell (World.setCell (World.setCell w ⟨b, 0, none⟩ x0) ⟨b, 1, none⟩ x1) ⟨b, 2, none⟩ x2) ⟨b, 3, none⟩ x3) ⟨b, 4, none⟩ x4) ⟨b, 5, none⟩ x5) ⟨b, 6, none⟩ x6) ⟨b, 7, none⟩ x7) ⟨b, 8, none⟩ x8) ⟨b, 9, none⟩ x9)).ownsRow base E size v n xs) ∧
    (∀ c cs, b ≠ c → HasC w c cs → HasC (World.setCell (World.setCell (World.setCell (World.setCell (World.setCell (World.setCell (World.setCell (World.setCell (World.setCell (World.setCell w ⟨b, 0, none⟩ x0) ⟨b, 1, none⟩ x1) ⟨b, 2, none⟩ x2) ⟨b, 3, none⟩ x3) ⟨b, 4, none⟩ x4) ⟨b, 5, none⟩ x5) ⟨b, 6, none⟩ x6) ⟨b, 7, none⟩ x7) ⟨b, 8, none⟩ x8) ⟨b, 9, none⟩ x9) c cs) ∧ ∀ w0, Nw w0 w → w0.heap.size ≤ b → Nw w0 (World.setCell (World.setCell (World.setCell (World.setCell (World.setCell (World.setCell (World.setCell (World.setCell (World.setCell (World.setCell w ⟨b, 0, none⟩ x0) ⟨b, 1, none⟩ x1) ⟨b, 2, none⟩ x2) ⟨b, 3, none⟩ x3) ⟨b, 4, none⟩ x4) ⟨b, 5, none⟩ x5) ⟨b, 6, none⟩ x6) ⟨b, 7, none⟩ x7) ⟨b, 8, none⟩ x8) ⟨b, 9, none⟩ x9) := by
  refine ⟨?_, ?_, fun base E size n v xs hE ho => ?_, fun c cs hc hh => ?_, fun w0 hn hb => ?_⟩
  · exact (((((((((h.set 0 x0).set 1 x1).set 2 x2).set 3 x3).set 4 x4).set 5 x5).set 6 x6).set 7 x7).set 8 x8).set 9 x9
  · exact (((((((((hs.set b 0 x0).set b 1 x1).set b 2 x2).set b 3 x3).set b 4 x4).set b 5 x5).set b 6 x6).set b 7 x7).set b 8 x8).set b 9 x9
  ·
    have o0 := own_setm ho hs hE 0 x0
    have s0 := hs.set b 0 x0
    have o1 := own_setm o0 s0 hE 1 x1
    have s1 := s0.set b 1 x1
    have o2 := own_setm o1 s1 hE 2 x2
    have s2 := s1.set b 2 x2
    have o3 := own_setm o2 s2 hE 3 x3
    have s3 := s2.set b 3 x3
    have o4 := own_setm o3 s3 hE 4 x4
    have s4 := s3.set b 4 x4
    have o5 := own_setm o4 s4 hE 5 x5
    have s5 := s4.set b 5 x5
    have o6 := own_setm o5 s5 hE 6 x6
    have s6 := s5.set b 6 x6
    have o7 := own_setm o6 s6 hE 7 x7
    have s7 := s6.set b 7 x7
    have o8 := own_setm o7 s7 hE 8 x8
    have s8 := s7.set b 8 x8
    have o9 := own_setm o8 s8 hE 9 x9
    have s9 := s8.set b 9 x9
    exact o9
  · exact (((((((((hh.sete (p := ⟨b, 0, none⟩) hc x0).sete (p := ⟨b, 1, none⟩) hc x1).sete (p := ⟨b, 2, none⟩) hc x2).sete (p := ⟨b, 3, none⟩) hc x3).sete (p := ⟨b, 4, none⟩) hc x4).sete (p := ⟨b, 5, none⟩) hc x5).sete (p := ⟨b, 6, none⟩) hc x6).sete (p := ⟨b, 7, none⟩) hc x7).sete (p := ⟨b, 8, none⟩) hc x8).sete (p := ⟨b, 9, none⟩) hc x9
  · exact (((((((((hn.set (p := ⟨b, 0, none⟩) hb x0).set (p := ⟨b, 1, none⟩) hb x1).set (p := ⟨b, 2, none⟩) hb x2).set (p := ⟨b, 3, none⟩) hb x3).set (p := ⟨b, 4, none⟩) hb x4).set (p := ⟨b, 5, none⟩) hb x5).set (p := ⟨b, 6, none⟩) hb x6).set (p := ⟨b, 7, none⟩) hb x7).set (p := ⟨b, 8, none⟩) hb x8).set (p := ⟨b, 9, none⟩) hb x9
theorem bods_ten {w w' : World} {base : Nat} {sv : Value} {bs : List (List M4)} (hk : ∀ base (E : TypeId) size n v xs, E ≠ 31 → w.ownsRow base E size v n xs → w'.ownsRow base E size v n xs) (h : BodsR w base sv bs) : BodsR w' base sv bs := by
  obtain ⟨vs, k1, k2⟩ := h
  exact ⟨vs, hk _ _ _ _ _ _ (by decide) k1, fun p r hp => by obtain ⟨v, a, b⟩ := k2 p r hp; exact ⟨v, a, hk _ _ _ _ _ _ (by decide) b⟩⟩
theorem bods_setm {w : World} {base b o : Nat} {u : Value} {sv : Value} {bs : List (List M4)} (h : BodsR w base sv bs) (hs : SmX w b) : BodsR (w.setCell ⟨b, o, none⟩ u) base sv bs := by
  obtain ⟨vs, k1, k2⟩ := h
  exact ⟨vs, own_setm k1 hs (by decide) o u, fun p r hp => by obtain ⟨v, a, c⟩ := k2 p r hp; exact ⟨v, a, own_setm c hs (by decide) o u⟩⟩
theorem ten_low {w : World} {b : Nat} (x0 x1 x2 x3 x4 x5 x6 x7 x8 x9 : Value) :
    (∀ base (E : TypeId) size n v xs, b < base → w.ownsRow base E size v n xs → ((World.setCell (World.setCell (World.setCell (World.setCell (World.setCell (World.setCell (World.setCell (World.setCell (World.setCell (World.setCell w ⟨b, 0, none⟩ x0) ⟨b, 1, none⟩ x1) ⟨b, 2, none⟩ x2) ⟨b, 3, none⟩ x3) ⟨b, 4, none⟩ x4) ⟨b, 5, none⟩ x5) ⟨b, 6, none⟩ x6) ⟨b, 7, none⟩ x7) ⟨b, 8, none⟩ x8) ⟨b, 9, none⟩ x9)).ownsRow base E size v n xs) ∧ ∀ w0, Nw w0 w → w0.heap.size ≤ b → Nw w0 (World.setCell (World.setCell (World.setCell (World.setCell (World.setCell (World.setCell (World.setCell (World.setCell (World.setCell (World.setCell w ⟨b, 0, none⟩ x0) ⟨b, 1, none⟩ x1) ⟨b, 2, none⟩ x2) ⟨b, 3, none⟩ x3) ⟨b, 4, none⟩ x4) ⟨b, 5, none⟩ x5) ⟨b, 6, none⟩ x6) ⟨b, 7, none⟩ x7) ⟨b, 8, none⟩ x8) ⟨b, 9, none⟩ x9) := by
  refine ⟨fun base E size n v xs hb ho => ?_, fun w0 hn hb => ?_⟩
  · exact own_set (p := ⟨b, 9, none⟩) (own_set (p := ⟨b, 8, none⟩) (own_set (p := ⟨b, 7, none⟩) (own_set (p := ⟨b, 6, none⟩) (own_set (p := ⟨b, 5, none⟩) (own_set (p := ⟨b, 4, none⟩) (own_set (p := ⟨b, 3, none⟩) (own_set (p := ⟨b, 2, none⟩) (own_set (p := ⟨b, 1, none⟩) (own_set (p := ⟨b, 0, none⟩) ho hb x0) hb x1) hb x2) hb x3) hb x4) hb x5) hb x6) hb x7) hb x8) hb x9
  · exact (((((((((hn.set (p := ⟨b, 0, none⟩) hb x0).set (p := ⟨b, 1, none⟩) hb x1).set (p := ⟨b, 2, none⟩) hb x2).set (p := ⟨b, 3, none⟩) hb x3).set (p := ⟨b, 4, none⟩) hb x4).set (p := ⟨b, 5, none⟩) hb x5).set (p := ⟨b, 6, none⟩) hb x6).set (p := ⟨b, 7, none⟩) hb x7).set (p := ⟨b, 8, none⟩) hb x8).set (p := ⟨b, 9, none⟩) hb x9
theorem cellsVo_snoc (zs : List (Prt × Loc)) (k : Nat) (z : Prt × Loc) (h : zs[k]? = some z) : cellsVo (zs.take (k + 1)) = cellsVo (zs.take k) ++ cellV z := by
  rw [List.take_add_one, h]
  rw [show zs.take k ++ (some z).toList = zs.take k ++ [z] from rfl, cellsVo_append]
  simp [cellsVo]
def StreamP (W1 : World) (L V C R : Nat) (bs : List (List M4)) (es : List Ev6) (i d env : Nat) (zs : List (Prt × Loc)) (w : World) (e : Ending) (w' : World) : Prop :=
  ∃ sv ev vv, e = .returned (strA L V C R sv ev i d vv env) ∧ ScoV w' W1.heap.size L V C R bs es sv ev ∧ VoicesR w' W1.heap.size vv zs ∧ Nw w w'
def StreamS (W1 : World) (q base L V C R : Nat) (bs : List (List M4)) (es : List Ev6) (i d env : Nat) (w : World) (u : Value) (wx : World) : Prop :=
  ∃ (b3 : Nat) (sv ev : Value), u = .pointer (some ⟨b3, 0, none⟩) ∧ w.heap.size < b3 ∧ HasC wx b3 (strC L V C R sv ev i d (.slice none 0 0) env) ∧ SmX wx b3 ∧ BodsR wx (w.heap.size + 1) sv bs ∧ wx.ownsRow (w.heap.size + 1) 68 6 ev es.length (cellsE es) ∧
    HasC wx w.heap.size [.int .i64 0, .int .i64 0, .float .f32 0, .float .f32 0, .slice none 0 0, .slice none 0 0, .int .i64 0, .int .i64 0, .slice none 0 0, .float .f32 0] ∧ Nw w wx
set_option maxHeartbeats 6400000 in
set_option maxRecDepth 100000 in
theorem stream_ok {w0 W1 : World} {q base L V C R : Nat} {bs : List (List M4)} {es : List Ev6} {sv ev eo : Value} {i d b env : Nat} {pv : Value} {zs : List (Prt × Loc)} {w : World} (hF : PlF w0 W1 q base L V C R bs es sv ev eo) (h : PlS W1 q L V C R sv ev eo i d b pv env zs w) (hz : zs.length ≤ 1000) :
    Calls Tryz.prog 17 #[.pointer (some ⟨q, 0, none⟩)] w (StreamP W1 L V C R bs es i d env zs w) := by
  obtain ⟨nb, hnb⟩ : ∃ nb, nb = bs.length := ⟨_, rfl⟩
  obtain ⟨ne, hne⟩ : ∃ ne, ne = es.length := ⟨_, rfl⟩
  obtain ⟨⟨sa, sc, rfl⟩, ea, ec, rfl⟩ := hF.sco.shape
  rw [← hnb, ← hne] at hF h
  obtain ⟨w1, hw1⟩ : ∃ w1, w1 = w.alloc (.cells #[.int .i64 0, .int .i64 0, .float .f32 0, .float .f32 0, .slice none 0 0, .slice none 0 0, .int .i64 0, .int .i64 0, .slice none 0 0, .float .f32 0] 31 (0, 0)) := ⟨_, rfl⟩
  have N1 := Lib.hid (show Nw w w1 from by rw [hw1]; exact (Nw.refl w).alloc _)
  have Z1 := Lib.hid (show HasC w1 w.heap.size [.int .i64 0, .int .i64 0, .float .f32 0, .float .f32 0, .slice none 0 0, .slice none 0 0, .int .i64 0, .int .i64 0, .slice none 0 0, .float .f32 0] from by rw [hw1]; exact HasC.newB w _ _)
  have hs1 : w.heap.size + 1 ≤ w1.heap.size := by rw [hw1]; simp
  have HF := Lib.hid hF
  have H0 := Lib.hid h
  have H := Lib.hid (h.nw N1.out)
  have Hn := Lib.hid (And.intro hnb hne)
  have Hw := Lib.hid hw1
  clear hF h hnb hne hw1
  go_enter Tryz.func17, Tryz.ntmps17
  go_upto_region 1 with fail
  rw [← Hw.out]
  clear Hw
  go_cut [3] (fun u wx => StreamS W1 q base L V C R bs es i d env w u wx)
  case first =>
    have KeepS := Lib.hid (show ∀ W', Nw w1 W' → W'.cell? ⟨q, 0, none⟩ = some (.int .i64 (L : Int)) ∧ W'.cell? ⟨q, 1, none⟩ = some (.int .i64 (V : Int)) ∧ W'.cell? ⟨q, 2, none⟩ = some (.float .f32 C) ∧ W'.cell? ⟨q, 3, none⟩ = some (.float .f32 R) ∧ W'.cell? ⟨q, 4, none⟩ = some (.slice sa nb sc) ∧ W'.cell? ⟨q, 5, none⟩ = some (.slice ea ne ec) ∧ W'.cell? ⟨q, 7, none⟩ = some (.int .i64 (i : Int)) ∧ W'.cell? ⟨q, 8, none⟩ = some (.int .i64 (d : Int)) ∧ W'.cell? ⟨q, 11, none⟩ = some (.float .f32 env) from fun W' hW => by
      have x := (H.out.nw hW).box
      exact ⟨(x.2 0 _ rfl).1, (x.2 1 _ rfl).1, (x.2 2 _ rfl).1, (x.2 3 _ rfl).1, (x.2 4 _ rfl).1, (x.2 5 _ rfl).1, (x.2 7 _ rfl).1, (x.2 8 _ rfl).1, (x.2 11 _ rfl).1⟩)
    refine wp_region_held_drew (S := fun W' => W'.cell? ⟨q, 0, none⟩ = some (.int .i64 (L : Int)) ∧ W'.cell? ⟨q, 1, none⟩ = some (.int .i64 (V : Int)) ∧ W'.cell? ⟨q, 2, none⟩ = some (.float .f32 C) ∧ W'.cell? ⟨q, 3, none⟩ = some (.float .f32 R) ∧ W'.cell? ⟨q, 4, none⟩ = some (.slice sa nb sc) ∧ W'.cell? ⟨q, 5, none⟩ = some (.slice ea ne ec) ∧ W'.cell? ⟨q, 7, none⟩ = some (.int .i64 (i : Int)) ∧ W'.cell? ⟨q, 8, none⟩ = some (.int .i64 (d : Int)) ∧ W'.cell? ⟨q, 11, none⟩ = some (.float .f32 env)) (by kernel_rfl) (KeepS.out _ ((Nw.refl w1).draw 1)) (fun hHeld => ?_)
    refine wpAnyH_take (i := 0) (oi := _) (v := ?_) rfl (by kernel_rfl) (by kernel_rfl) (by kernel_rfl) (fun _ _ _ h => h) (_root_.Or.inl ⟨by rfl, ?_⟩) (by assumption) ?_
    rotate_left
    · intro w hSw
      (try dsimp only at hSw)
      go_simp
      all_goals with_reducible rfl
    try simp only [List.getElem_toArray, List.getElem_cons_succ, List.getElem_cons_zero, Act.put, List.setIfInBounds_toArray, List.set_cons_zero, List.set_cons_succ]
    refine wpAnyH_take (i := 1) (oi := _) (v := ?_) rfl (by kernel_rfl) (by kernel_rfl) (by kernel_rfl) (fun _ _ _ h => h) (_root_.Or.inl ⟨by rfl, ?_⟩) (by assumption) ?_
    rotate_left
    · intro w hSw
      (try dsimp only at hSw)
      go_simp
      all_goals with_reducible rfl
    try simp only [List.getElem_toArray, List.getElem_cons_succ, List.getElem_cons_zero, Act.put, List.setIfInBounds_toArray, List.set_cons_zero, List.set_cons_succ]
    refine wpAnyH_take (i := 2) (oi := _) (v := ?_) rfl (by kernel_rfl) (by kernel_rfl) (by kernel_rfl) (fun _ _ _ h => h) (_root_.Or.inl ⟨by rfl, ?_⟩) (by assumption) ?_
    rotate_left
    · intro w hSw
      (try dsimp only at hSw)
      go_simp
      all_goals with_reducible rfl
    try simp only [List.getElem_toArray, List.getElem_cons_succ, List.getElem_cons_zero, Act.put, List.setIfInBounds_toArray, List.set_cons_zero, List.set_cons_succ]
    refine wpAnyH_take (i := 3) (oi := _) (v := ?_) rfl (by kernel_rfl) (by kernel_rfl) (by kernel_rfl) (fun _ _ _ h => h) (_root_.Or.inl ⟨by rfl, ?_⟩) (by assumption) ?_
    rotate_left
    · intro w hSw
      (try dsimp only at hSw)
      go_simp
      all_goals with_reducible rfl
    try simp only [List.getElem_toArray, List.getElem_cons_succ, List.getElem_cons_zero, Act.put, List.setIfInBounds_toArray, List.set_cons_zero, List.set_cons_succ]
    refine wpAnyH_take (i := 5) (oi := _) (v := ?_) rfl (by kernel_rfl) (by kernel_rfl) (by kernel_rfl) (fun _ _ _ h => h) (_root_.Or.inl ⟨by rfl, ?_⟩) (by assumption) ?_
    rotate_left
    · intro w hSw
      (try dsimp only at hSw)
      go_simp
      all_goals with_reducible rfl
    try simp only [List.getElem_toArray, List.getElem_cons_succ, List.getElem_cons_zero, Act.put, List.setIfInBounds_toArray, List.set_cons_zero, List.set_cons_succ]
    refine wpAnyH_take (i := 6) (oi := _) (v := ?_) rfl (by kernel_rfl) (by kernel_rfl) (by kernel_rfl) (fun _ _ _ h => h) (_root_.Or.inl ⟨by rfl, ?_⟩) (by assumption) ?_
    rotate_left
    · intro w hSw
      (try dsimp only at hSw)
      go_simp
      all_goals with_reducible rfl
    try simp only [List.getElem_toArray, List.getElem_cons_succ, List.getElem_cons_zero, Act.put, List.setIfInBounds_toArray, List.set_cons_zero, List.set_cons_succ]
    refine wpAnyH_take (i := 7) (oi := _) (v := ?_) rfl (by kernel_rfl) (by kernel_rfl) (by kernel_rfl) (fun _ _ _ h => h) (_root_.Or.inl ⟨by rfl, ?_⟩) (by assumption) ?_
    rotate_left
    · intro w hSw
      (try dsimp only at hSw)
      go_simp
      all_goals with_reducible rfl
    try simp only [List.getElem_toArray, List.getElem_cons_succ, List.getElem_cons_zero, Act.put, List.setIfInBounds_toArray, List.set_cons_zero, List.set_cons_succ]
    refine wpAnyH_take (i := 8) (oi := _) (v := ?_) rfl (by kernel_rfl) (by kernel_rfl) (by kernel_rfl) (fun _ _ _ h => h) (_root_.Or.inl ⟨by rfl, ?_⟩) (by assumption) ?_
    rotate_left
    · intro w hSw
      (try dsimp only at hSw)
      go_simp
      all_goals with_reducible rfl
    try simp only [List.getElem_toArray, List.getElem_cons_succ, List.getElem_cons_zero, Act.put, List.setIfInBounds_toArray, List.set_cons_zero, List.set_cons_succ]
    refine wpAnyH_take (i := 9) (oi := _) (v := ?_) rfl (by kernel_rfl) (by kernel_rfl) (by kernel_rfl) (fun _ _ _ h => h) (_root_.Or.inl ⟨by rfl, ?_⟩) (by assumption) ?_
    rotate_left
    · intro w hSw
      (try dsimp only at hSw)
      go_simp
      all_goals with_reducible rfl
    try simp only [List.getElem_toArray, List.getElem_cons_succ, List.getElem_cons_zero, Act.put, List.setIfInBounds_toArray, List.set_cons_zero, List.set_cons_succ]
    refine wpAnyH_take (i := 10) (oi := _) (v := ?_) rfl (by kernel_rfl) (by kernel_rfl) (by kernel_rfl) (fun _ _ _ h => h) (_root_.Or.inl ⟨by rfl, ?_⟩) (by assumption) ?_
    rotate_left
    · intro w hSw
      (try dsimp only at hSw)
      go_simp
      all_goals with_reducible rfl
    try simp only [List.getElem_toArray, List.getElem_cons_succ, List.getElem_cons_zero, Act.put, List.setIfInBounds_toArray, List.set_cons_zero, List.set_cons_succ]
    refine wpAnyH_take (i := 11) (oi := _) (v := ?_) rfl (by kernel_rfl) (by kernel_rfl) (by kernel_rfl) (fun _ _ _ h => h) (_root_.Or.inl ⟨by rfl, ?_⟩) (by assumption) ?_
    rotate_left
    · intro w hSw
      (try dsimp only at hSw)
      go_simp
      all_goals with_reducible rfl
    try simp only [List.getElem_toArray, List.getElem_cons_succ, List.getElem_cons_zero, Act.put, List.setIfInBounds_toArray, List.set_cons_zero, List.set_cons_succ]
    refine wpAnyH_take (i := 12) (oi := _) (v := ?_) rfl (by kernel_rfl) (by kernel_rfl) (by kernel_rfl) (fun _ _ _ h => h) (_root_.Or.inl ⟨by rfl, ?_⟩) (by assumption) ?_
    rotate_left
    · intro w hSw
      (try dsimp only at hSw)
      go_simp
      all_goals with_reducible rfl
    try simp only [List.getElem_toArray, List.getElem_cons_succ, List.getElem_cons_zero, Act.put, List.setIfInBounds_toArray, List.set_cons_zero, List.set_cons_succ]
    refine wpAnyH_take (i := 13) (oi := _) (v := ?_) rfl (by kernel_rfl) (by kernel_rfl) (by kernel_rfl) (fun _ _ _ h => h) (_root_.Or.inl ⟨by rfl, ?_⟩) (by assumption) ?_
    rotate_left
    · intro w hSw
      (try dsimp only at hSw)
      go_simp
      all_goals with_reducible rfl
    try simp only [List.getElem_toArray, List.getElem_cons_succ, List.getElem_cons_zero, Act.put, List.setIfInBounds_toArray, List.set_cons_zero, List.set_cons_succ]
    refine wpAnyH_take (i := 14) (oi := _) (v := ?_) rfl (by kernel_rfl) (by kernel_rfl) (by kernel_rfl) (fun _ _ _ h => h) (_root_.Or.inl ⟨by rfl, ?_⟩) (by assumption) ?_
    rotate_left
    · intro w hSw
      (try dsimp only at hSw)
      go_simp
      all_goals with_reducible rfl
    try simp only [List.getElem_toArray, List.getElem_cons_succ, List.getElem_cons_zero, Act.put, List.setIfInBounds_toArray, List.set_cons_zero, List.set_cons_succ]
    refine wpAnyH_take (i := 15) (oi := _) (v := ?_) rfl (by kernel_rfl) (by kernel_rfl) (by kernel_rfl) (fun _ _ _ h => h) (_root_.Or.inl ⟨by rfl, ?_⟩) (by assumption) ?_
    rotate_left
    · intro w hSw
      (try dsimp only at hSw)
      go_simp
      all_goals with_reducible rfl
    try simp only [List.getElem_toArray, List.getElem_cons_succ, List.getElem_cons_zero, Act.put, List.setIfInBounds_toArray, List.set_cons_zero, List.set_cons_succ]
    refine wpAnyH_take (i := 16) (oi := _) (v := ?_) rfl (by kernel_rfl) (by kernel_rfl) (by kernel_rfl) (fun _ _ _ h => h) (_root_.Or.inl ⟨by rfl, ?_⟩) (by assumption) ?_
    rotate_left
    · intro w hSw
      (try dsimp only at hSw)
      go_simp
      all_goals with_reducible rfl
    try simp only [List.getElem_toArray, List.getElem_cons_succ, List.getElem_cons_zero, Act.put, List.setIfInBounds_toArray, List.set_cons_zero, List.set_cons_succ]
    refine wpAnyH_ready (rs := [4, 18]) (by kernel_rfl) (by simp) ?_
    refine AllReadyH.cons (o := _) rfl (fun K hK => ?_) ?_
    · go_simp
      go_at_call 37
      refine (copyScore_ok base L V C R bs es _ _ _ (HF.out.sc ((H.out.nw ((Nw.refl w1).draw 1)).kp))).mono ?_
      rintro e w3 ⟨sv4, ev4, rfl, hb4, he4, n4⟩
      obtain ⟨ba, bc, hsv4⟩ := hb4.shape
      rw [← Hn.out.1] at hsv4
      subst hsv4
      rw [← Hn.out.2] at he4
      obtain ⟨va, vc, rfl⟩ := own_shape' he4
      have N3 := Lib.hid (show Nw w1 w3 from Nw.trans ((Nw.refl w1).draw 1) n4)
      have Bd3 := Lib.hid (hb4.base (show w.heap.size + 1 ≤ _ from hs1))
      have Ev3 := Lib.hid (own_base he4 (show w.heap.size + 1 ≤ _ from hs1))
      clear hb4 he4 n4 hHeld
      go_wp2_with fail
      refine hK.out _ _ ?_ (fun hHeld => ?_)
      · exact KeepS.out _ N3.out
      clear hK K
      try simp only [List.getElem_toArray, List.getElem_cons_succ, List.getElem_cons_zero, Act.put, List.setIfInBounds_toArray, List.set_cons_zero, List.set_cons_succ]
      refine wpAnyH_take (i := 17) (oi := _) (v := ?_) rfl (by kernel_rfl) (by kernel_rfl) (by kernel_rfl) (fun _ _ _ h => h) (_root_.Or.inl ⟨by rfl, ?_⟩) (by assumption) ?_
      rotate_left
      · intro w hSw
        (try dsimp only at hSw)
        go_simp
        all_goals with_reducible rfl
      try simp only [List.getElem_toArray, List.getElem_cons_succ, List.getElem_cons_zero, Act.put, List.setIfInBounds_toArray, List.set_cons_zero, List.set_cons_succ]
      refine wpAnyH_ready (rs := [18]) (by kernel_rfl) (by simp) ?_
      refine AllReadyH.cons (o := _) rfl (fun K hK => ?_) AllReadyH.nil
      have Na := (Nw.refl w3).alloc (.cells #[.int .i64 0, .int .i64 0, .float .f32 0, .float .f32 0, .slice none 0 0, .slice none 0 0, .int .i64 0, .int .i64 0, .slice none 0 0, .float .f32 0] 31 (0, 0))
      have N4 := Lib.hid (N3.out.trans Na)
      have Bx := Lib.hid (show HasC _ w3.heap.size [.int .i64 0, .int .i64 0, .float .f32 0, .float .f32 0, .slice none 0 0, .slice none 0 0, .int .i64 0, .int .i64 0, .slice none 0 0, .float .f32 0] from HasC.newB w3 #[.int .i64 0, .int .i64 0, .float .f32 0, .float .f32 0, .slice none 0 0, .slice none 0 0, .int .i64 0, .int .i64 0, .slice none 0 0, .float .f32 0] 31)
      clear hHeld
      go_simp
      refine hK.out _ _ ?_ (fun hHeld => ?_)
      · exact KeepS.out _ N4.out
      clear hK K
      try simp only [List.getElem_toArray, List.getElem_cons_succ, List.getElem_cons_zero, Act.put, List.setIfInBounds_toArray, List.set_cons_zero, List.set_cons_succ]
      refine wpAnyH_ready (rs := [19]) (by kernel_rfl) (by simp) ?_
      refine AllReadyH.cons (o := _) rfl (fun K hK => ?_) AllReadyH.nil
      obtain ⟨y0, y1, y2, y3, y4, y5, y6, y7, y8, y9⟩ := ten_at Bx.out
      have fz := ten_fz Bx.out
      obtain ⟨z0, z1, z2, z3, z4, z5, z6, z7, z8, z9⟩ := fz
      go_simp
      clear y0 y1 y2 y3 y4 y5 y6 y7 y8 y9 z0 z1 z2 z3 z4 z5 z6 z7 z8 z9
      have Na := (Nw.refl w3).alloc (.cells #[.int .i64 (L : Int), .int .i64 (V : Int), .float .f32 C, .float .f32 R, .slice ba nb bc, .slice va ne vc, .int .i64 (i : Int), .int .i64 (d : Int), .slice none 0 0, .float .f32 env] 31 (0, 0))
      have N5 := Lib.hid (N3.out.trans Na)
      have Fx := Lib.hid (show HasC _ w3.heap.size (strC L V C R (.slice ba nb bc) (.slice va ne vc) i d (.slice none 0 0) env) from HasC.newB w3 #[.int .i64 (L : Int), .int .i64 (V : Int), .float .f32 C, .float .f32 R, .slice ba nb bc, .slice va ne vc, .int .i64 (i : Int), .int .i64 (d : Int), .slice none 0 0, .float .f32 env] 31)
      have Sx := Lib.hid (SmX.new w3 #[.int .i64 (L : Int), .int .i64 (V : Int), .float .f32 C, .float .f32 R, .slice ba nb bc, .slice va ne vc, .int .i64 (i : Int), .int .i64 (d : Int), .slice none 0 0, .float .f32 env])
      have Bd4 := Lib.hid (Bd3.out.nw Na)
      have Ev4 := Lib.hid (own_nw Ev3.out Na)
      have Z4 := Lib.hid ((Z1.out.nw N3.out).nw Na)
      have hw3 : w.heap.size < w3.heap.size := by have := N3.out.size; omega
      clear Na hHeld
      refine hK.out _ _ ?_ (fun hHeld => ?_)
      · exact KeepS.out _ N5.out
      clear hK K hHeld
      try simp only [List.getElem_toArray, List.getElem_cons_succ, List.getElem_cons_zero, Act.put, List.setIfInBounds_toArray, List.set_cons_zero, List.set_cons_succ]
      refine wpAnyH_done (by kernel_rfl) ?_ _
      go_wp2_with fail
      go_meet
      exact ⟨w3.heap.size, _, _, rfl, hw3, Fx.out, Sx.out, Bd4.out, by rw [← Hn.out.2]; exact Ev4.out, Z4.out, N1.out.trans N5.out⟩
    refine AllReadyH.cons (o := _) rfl (fun K hK => ?_) AllReadyH.nil
    have Na := ((Nw.refl w1).draw 1).alloc (.cells #[.int .i64 0, .int .i64 0, .float .f32 0, .float .f32 0, .slice none 0 0, .slice none 0 0, .int .i64 0, .int .i64 0, .slice none 0 0, .float .f32 0] 31 (0, 0))
    have B2 := Lib.hid (show HasC _ w1.heap.size [.int .i64 0, .int .i64 0, .float .f32 0, .float .f32 0, .slice none 0 0, .slice none 0 0, .int .i64 0, .int .i64 0, .slice none 0 0, .float .f32 0] from HasC.newB (w1.drewN 1) #[.int .i64 0, .int .i64 0, .float .f32 0, .float .f32 0, .slice none 0 0, .slice none 0 0, .int .i64 0, .int .i64 0, .slice none 0 0, .float .f32 0] 31)
    have S2 := Lib.hid (show SmX _ w1.heap.size from SmX.new (w1.drewN 1) #[.int .i64 0, .int .i64 0, .float .f32 0, .float .f32 0, .slice none 0 0, .slice none 0 0, .int .i64 0, .int .i64 0, .slice none 0 0, .float .f32 0])
    clear hHeld
    go_simp
    refine hK.out _ _ ?_ (fun hHeld => ?_)
    · exact KeepS.out _ Na
    clear hK K
    try simp only [List.getElem_toArray, List.getElem_cons_succ, List.getElem_cons_zero, Act.put, List.setIfInBounds_toArray, List.set_cons_zero, List.set_cons_succ]
    refine wpAnyH_ready (rs := [4]) (by kernel_rfl) (by simp) ?_
    refine AllReadyH.cons (o := _) rfl (fun K hK => ?_) AllReadyH.nil
    go_simp
    go_at_call 37
    refine (copyScore_ok base L V C R bs es _ _ _ (HF.out.sc ((H.out.nw Na).kp))).mono ?_
    rintro e w3 ⟨sv4, ev4, rfl, hb4, he4, n4⟩
    obtain ⟨ba, bc, hsv4⟩ := hb4.shape
    rw [← Hn.out.1] at hsv4
    subst hsv4
    rw [← Hn.out.2] at he4
    obtain ⟨va, vc, rfl⟩ := own_shape' he4
    have N23 := Lib.hid n4
    have N3 := Lib.hid (show Nw w1 w3 from Nw.trans (Na) n4)
    have Bd3 := Lib.hid (hb4.base (show w.heap.size + 1 ≤ _ from (Nat.le_trans hs1 Na.size)))
    have Ev3 := Lib.hid (own_base he4 (show w.heap.size + 1 ≤ _ from (Nat.le_trans hs1 Na.size)))
    clear hb4 he4 n4 hHeld
    go_wp2_with fail
    refine hK.out _ _ ?_ (fun hHeld => ?_)
    · exact KeepS.out _ N3.out
    clear hK K
    try simp only [List.getElem_toArray, List.getElem_cons_succ, List.getElem_cons_zero, Act.put, List.setIfInBounds_toArray, List.set_cons_zero, List.set_cons_succ]
    refine wpAnyH_take (i := 17) (oi := _) (v := ?_) rfl (by kernel_rfl) (by kernel_rfl) (by kernel_rfl) (fun _ _ _ h => h) (_root_.Or.inl ⟨by rfl, ?_⟩) (by assumption) ?_
    rotate_left
    · intro w hSw
      (try dsimp only at hSw)
      go_simp
      all_goals with_reducible rfl
    try simp only [List.getElem_toArray, List.getElem_cons_succ, List.getElem_cons_zero, Act.put, List.setIfInBounds_toArray, List.set_cons_zero, List.set_cons_succ]
    refine wpAnyH_ready (rs := [19]) (by kernel_rfl) (by simp) ?_
    refine AllReadyH.cons (o := _) rfl (fun K hK => ?_) AllReadyH.nil
    have Bx := Lib.hid (B2.out.nw N23.out)
    have Sx := Lib.hid (S2.out.nw N23.out)
    obtain ⟨y0, y1, y2, y3, y4, y5, y6, y7, y8, y9⟩ := ten_at Bx.out
    have fz := ten_fz Bx.out
    obtain ⟨z0, z1, z2, z3, z4, z5, z6, z7, z8, z9⟩ := fz
    have T := Lib.hid (ten_store Bx.out Sx.out (.int .i64 (L : Int)) (.int .i64 (V : Int)) (.float .f32 C) (.float .f32 R) (.slice ba nb bc) (.slice va ne vc) (.int .i64 (i : Int)) (.int .i64 (d : Int)) (.slice none 0 0) (.float .f32 env))
    go_simp
    clear y0 y1 y2 y3 y4 y5 y6 y7 y8 y9 z0 z1 z2 z3 z4 z5 z6 z7 z8 z9 hHeld
    refine hK.out _ _ ?_ (fun hHeld => ?_)
    · exact KeepS.out _ (T.out.2.2.2.2 w1 N3.out (Nat.le_refl _))
    clear hK K hHeld
    try simp only [List.getElem_toArray, List.getElem_cons_succ, List.getElem_cons_zero, Act.put, List.setIfInBounds_toArray, List.set_cons_zero, List.set_cons_succ]
    refine wpAnyH_done (by kernel_rfl) ?_ _
    go_wp2_with fail
    go_meet
    exact ⟨w1.heap.size, _, _, rfl, by omega, T.out.1, T.out.2.1, bods_ten T.out.2.2.1 Bd3.out, by rw [← Hn.out.2]; exact T.out.2.2.1 _ _ _ _ _ _ (by decide) Ev3.out, T.out.2.2.2.1 _ _ (by omega) (Z1.out.nw N3.out), N1.out.trans (T.out.2.2.2.2 w1 N3.out (Nat.le_refl _))⟩
  case rest =>
    obtain ⟨b3, sv4, ev4, hu, hb3, hbx, hsx, hbd, hev, hz4, hn⟩ := hcut
    subst hu
    obtain ⟨ba, bc, rfl⟩ := hbd.shape
    obtain ⟨va, vc, rfl⟩ := own_shape' hev
    obtain ⟨i0, hi0, hy0, hy1, hy2⟩ := info_parts info_voice
    obtain ⟨pa, pc, rfl⟩ := own_shape' H0.out.par.row
    obtain ⟨n, hnz⟩ : ∃ n, n = zs.length := ⟨_, rfl⟩
    rw [← hnz] at H0 hz
    have Bx := Lib.hid hbx
    have Sx := Lib.hid hsx
    have Bd := Lib.hid hbd
    have Ev := Lib.hid hev
    have Zx := Lib.hid hz4
    have Nx := Lib.hid hn
    have Px := Lib.hid (H0.out.nw hn)
    have Hnz := Lib.hid hnz
    clear hbx hsx hbd hev hz4 hn H N1 Z1 hs1 hnz
    have c10 := (Px.out.box.2 10 _ rfl).1
    have hqs := Px.out.box.1
    go_wp2_with fail
    clear c10 hqs
    go_loopw [29] (fun c wr => ∃ (k : Nat) (vv : Value), k ≤ n ∧ c = .int .i64 (k : Int) ∧ HasC wr b3 (strC L V C R (.slice ba bs.length bc) (.slice va es.length vc) i d vv env) ∧ SmX wr b3 ∧ BodsR wr (w.heap.size + 1) (.slice ba bs.length bc) bs ∧
      wr.ownsRow (w.heap.size + 1) 68 6 (.slice va es.length vc) es.length (cellsE es) ∧ HasC wr w.heap.size [.int .i64 0, .int .i64 0, .float .f32 0, .float .f32 0, .slice none 0 0, .slice none 0 0, .int .i64 0, .int .i64 0, .slice none 0 0, .float .f32 0] ∧ Nw w wr ∧ wr.ownsRow (w.heap.size + 1) 59 4 vv k (cellsVo (zs.take k))) (fun c _ => n - (intOf c).toNat)
    case atStart => exact ⟨0, _, by omega, rfl, Bx.out, Sx.out, Bd.out, Ev.out, Zx.out, Nx.out, World.ownsRow_nil _ _ _ _⟩
    case round =>
      obtain ⟨k, vv, hk, rfl, hbx, hsx, hbd, hev, hz4, hn, hvr⟩ := hrel
      obtain ⟨ra, rc, rfl⟩ := own_shape' hvr
      have Br := Lib.hid hbx
      have Sr := Lib.hid hsx
      have Bdr := Lib.hid hbd
      have Er := Lib.hid hev
      have Zr := Lib.hid hz4
      have Nr := Lib.hid hn
      have Vr := Lib.hid hvr
      have Pr := Lib.hid (H0.out.nw hn)
      clear hbx hsx hbd hev hz4 hn hvr Bx Sx Bd Ev Zx Nx Px
      have hbr := Br.out.1
      by_cases hlt : k < n
      · obtain ⟨z, hzk⟩ : ∃ z, zs[k]? = some z := ⟨zs[k]'(by rw [← Hnz.out]; exact hlt), List.getElem?_eq_getElem _⟩
        obtain ⟨g, rfl, hpc, hpm⟩ : ∃ g, pa = some ⟨g, 0, none⟩ ∧ n ≤ pc ∧ pc ≤ maxLen := by
          rcases Pr.out.par.row.2 with ⟨h1, h2⟩ | ⟨g, cap, cur, h1, hb, hg, hc, hmx, hs, ht⟩
          · rw [← Hnz.out] at h2; omega
          · cases h1; exact ⟨g, rfl, by rw [Hnz.out]; exact hc, hmx⟩
        have hgr : g < wr.heap.size := (Pr.out.par.row.lt g rfl).2
        obtain ⟨⟨ma, mn, mc, hvm⟩, ia, xn, ic, hvi⟩ := Pr.out.par.shapes z (List.mem_of_getElem? hzk)
        obtain ⟨e0, e1, e2, e3, e4⟩ := part_at (by have o := Pr.out.par.row; rw [← Hnz.out] at o; exact o) Hnz.out hzk
        rw [hvm] at e1
        rw [hvi] at e3
        have Hzk := Lib.hid hzk
        have Hv := Lib.hid (And.intro hvm hvi)
        obtain ⟨wd, hwd⟩ : ∃ wd, wd = wr.alloc (.cells #[.int .i64 z.1.b, .slice ma mn mc, .slice (some ⟨z.2.g, 0, none⟩) z.1.ms.length z.1.ms.length, .slice ia xn ic, .int .i64 z.2.tr] 84 (0, 0)) := ⟨_, rfl⟩
        have Na := Lib.hid (show Nw wr wd from by rw [hwd]; exact (Nw.refl wr).alloc _)
        have Px := Lib.hid (show HasC wd wr.heap.size [.int .i64 z.1.b, .slice ma mn mc, .slice (some ⟨z.2.g, 0, none⟩) z.1.ms.length z.1.ms.length, .slice ia xn ic, .int .i64 z.2.tr] from by rw [hwd]; exact HasC.newB wr _ _)
        have Hwd := Lib.hid hwd
        unfold maxLen at hpm
        clear hzk hvm hvi hwd
        go_upto_region 5 with fail
        rw [← Hwd.out]
        clear Hwd e0 e1 e2 e3 e4
        obtain ⟨⟨f0, -⟩, ⟨f1, -⟩, ⟨f2, -⟩, ⟨f3, -⟩, f4, -⟩ := five_at Px.out
        have y8 := ((Br.out.nw Na.out).2 8 _ rfl).1
        have z8 := ((Br.out.nw Na.out).2 8 _ rfl).2
        have hbd3 : b3 < wd.heap.size := Nat.lt_of_lt_of_le hbr Na.out.size
        have Vd := Lib.hid (own_nw Vr.out Na.out)
        have Vb := Lib.hid (HasC.newB wd #[.int .i64 z.1.b, .slice ma mn mc, .slice (some ⟨z.2.g, 0, none⟩) z.1.ms.length z.1.ms.length, .slice ia xn ic] 59)
        go_wp2_with (at_builtin; refine wpList_append_own _ rfl _ _ 29 rfl (w.heap.size + 1) 59 i0 (.agg #[.int .i64 0, .slice none 0 0, .slice none 0 0, .slice none 0 0]) 4 80 Tryz.underlying29 hi0 hy0 hy1 hy2 rfl (by decide) _ _ _ rfl (Vd.out.alloc _) ⟨wd.heap.size, 0, none⟩ 1 1 [.int .i64 z.1.b, .slice ma mn mc, .slice (some ⟨z.2.g, 0, none⟩) z.1.ms.length z.1.ms.length, .slice ia xn ic] rfl rfl ?c1 ?c2 ?c3 ?c4 ?c5 ?_)
        case c2 => exact ⟨rfl, rfl, rfl, rfl⟩
        case c3 => unfold maxLen; omega
        case c4 => omega
        case c5 => have := Na.out.size; have := Zr.out.1; simp; omega
        · intro v6 w6 hown6 hgrow _
          have Ma := (Nw.refl wd).alloc (.cells #[.int .i64 z.1.b, .slice ma mn mc, .slice (some ⟨z.2.g, 0, none⟩) z.1.ms.length z.1.ms.length, .slice ia xn ic] 59 (0, 0))
          have Nd := Na.out.trans Ma
          have Vold := own_nw Vr.out Nd
          have ap := own_smx Vold (Sr.out.nw Nd) (by decide)
          have hrow : ∀ q, (Value.slice ra k rc).ownBlock = some q → w.heap.size + 1 ≤ q := fun q hq => (Vold.lt q hq).1
          have hnb : (Value.slice ra k rc).ownBlock ≠ some b3 := by
            rcases ap with h | h
            · rw [h]; simp
            · exact h
          have B6 := Lib.hid ((Br.out.nw Nd).grown hgrow hnb)
          have S6 := Lib.hid ((Sr.out.nw Nd).grown Vold (by decide) hgrow)
          have Bd6 := Lib.hid ((Bdr.out.nw Nd).grown Vold (by decide) (by decide) hgrow)
          have E6 := Lib.hid ((own_nw Er.out Nd).kept hgrow (rows_apart (own_nw Er.out Nd) Vold (by decide)))
          have Z6 := Lib.hid ((Zr.out.nw Nd).grown hgrow (fun e => by have := hrow _ e; omega))
          have N6 := Lib.hid ((Nr.out.trans Nd).grown hgrow (fun q hq => by have := hrow q hq; omega))
          have V6 := Lib.hid (show w6.ownsRow (w.heap.size + 1) 59 4 v6 (k + 1) (cellsVo (zs.take (k + 1))) from by
            rw [cellsVo_snoc zs k z Hzk.out, show cellV z = [.int .i64 z.1.b, .slice ma mn mc, .slice (some ⟨z.2.g, 0, none⟩) z.1.ms.length z.1.ms.length, .slice ia xn ic] from by unfold cellV; rw [Hv.out.1, Hv.out.2]]
            exact hown6)
          obtain ⟨ta, tc, rfl⟩ := own_shape' V6.out
          clear hown6 hgrow Ma Nd Vold ap hrow hnb y8 z8 f0 f1 f2 f3 f4
          have y8 := (B6.out.2 8 _ rfl).1
          have z8 := (B6.out.2 8 _ rfl).2
          have B7 := Lib.hid (B6.out.set 8 (.slice ta (k + 1) tc))
          have S7 := Lib.hid (S6.out.set b3 8 (.slice ta (k + 1) tc))
          have Bd7 := Lib.hid (bods_setm (o := 8) (u := .slice ta (k + 1) tc) Bd6.out S6.out)
          have E7 := Lib.hid (own_setm E6.out S6.out (by decide) 8 (.slice ta (k + 1) tc))
          have V7 := Lib.hid (own_setm V6.out S6.out (by decide) 8 (.slice ta (k + 1) tc))
          have Z7 := Lib.hid (Z6.out.sete (p := ⟨b3, 8, none⟩) (by show b3 ≠ w.heap.size; omega) (.slice ta (k + 1) tc))
          have N7 := Lib.hid (N6.out.set (p := ⟨b3, 8, none⟩) (by show w.heap.size ≤ b3; omega) (.slice ta (k + 1) tc))
          go_wp2_with fail
          go_roundw
          case rel => exact ⟨k + 1, .slice ta (k + 1) tc, by omega, by rw [show ((k + 1 : Nat) : Int) = (k : Int) + 1 from by omega], B7.out, S7.out, Bd7.out, E7.out, Z7.out, N7.out, V7.out⟩
          case measure => simp only [intOf]; omega
      · obtain rfl : k = n := by omega
        have hzt : zs.take k = zs := by rw [Hnz.out, List.take_length]
        have V8 := Lib.hid (show wr.ownsRow (w.heap.size + 1) 59 4 (.slice ra k rc) k (cellsVo zs) from by have v := Vr.out; rw [hzt] at v; exact v)
        clear hzt
        go_upto_region 7 with fail
        obtain ⟨y0, y1, y2, y3, y4, y5, y6, y7, y8, y9⟩ := ten_at Br.out
        obtain ⟨r0, r1, r2, r3, r4, r5, r6, r7, r8, r9⟩ := ten_at Zr.out
        obtain ⟨f0, f1, f2, f3, f4, f5, f6, f7, f8, f9⟩ := ten_fz Zr.out
        have hw1 : W1.heap.size ≤ w.heap.size := H0.out.kp.size
        have hz1 := Zr.out.1
        have T := Lib.hid (ten_low (w := wr) (b := w.heap.size) (.int .i64 (L : Int)) (.int .i64 (V : Int)) (.float .f32 C) (.float .f32 R) (.slice ba bs.length bc) (.slice va es.length vc) (.int .i64 (i : Int)) (.int .i64 (d : Int)) (.slice ra k rc) (.float .f32 env))
        have Nf := Lib.hid (T.out.2 w Nr.out (Nat.le_refl _))
        have Scf := Lib.hid (show ScoV _ W1.heap.size L V C R bs es (.slice ba bs.length bc) (.slice va es.length vc) from
          ⟨HF.out.sco.hL, HF.out.sco.hV, HF.out.sco.hC, HF.out.sco.hR, HF.out.sco.hb, HF.out.sco.he, HF.out.sco.bok, HF.out.sco.eok, by
            obtain ⟨vs, k1, k2⟩ := Bdr.out
            exact ⟨vs, own_base (T.out.1 _ _ _ _ _ _ (by omega) k1) (by omega), fun p r hp => by obtain ⟨v, a, c⟩ := k2 p r hp; exact ⟨v, a, own_base (T.out.1 _ _ _ _ _ _ (by omega) c) (by omega)⟩⟩,
            own_base (T.out.1 _ _ _ _ _ _ (by omega) Er.out) (by omega)⟩)
        have Vof := Lib.hid (show VoicesR _ W1.heap.size (.slice ra k rc) zs from ⟨by rw [← Hnz.out]; exact own_base (T.out.1 _ _ _ _ _ _ (by omega) V8.out) (by omega), fun z hz => (H0.out.par.ins z hz).nw Nf.out⟩)
        go_wp2_with fail
        exact bodyPost_ret (v := strA L V C R (.slice ba bs.length bc) (.slice va es.length vc) i d (.slice ra k rc) env) (by simp [strA, results, Tryz.results17, go_sem, r0, r1, r2, r3, r4, r5, r6, r7, r8, r9, f0]) rfl ⟨_, _, _, rfl, Scf.out, Vof.out, Nf.out⟩
end Go.Proofs.YtiakcibeobbonaaGreat

/- A stream is advanced: Advance (FnCut).
   Conditions: those that each statement names. -/
namespace Go.Proofs.YtiakcibeobbonaaGreat
set_option linter.unusedSimpArgs false
set_option linter.unusedVariables false
open Go Go.RowKit

theorem ScoV.set {w : World} {base L V C R : Nat} {bs : List (List M4)} {es : List Ev6} {sv ev : Value} (h : ScoV w base L V C R bs es sv ev) {p : Addr} (hp : p.block < base) (u : Value) : ScoV (w.setCell p u) base L V C R bs es sv ev :=
  ⟨h.hL, h.hV, h.hC, h.hR, h.hb, h.he, h.bok, h.eok, h.bods.set hp u, own_set h.evs hp u⟩
theorem VoicesR.set {w : World} {base : Nat} {vv : Value} {zs : List (Prt × Loc)} (h : VoicesR w base vv zs) {p : Addr} (hp : p.block < base) (u : Value) : VoicesR (w.setCell p u) base vv zs :=
  ⟨own_set h.row hp u, fun z hz => (h.ins z hz).set hp u⟩
theorem ScoV.base {w : World} {base b2 L V C R : Nat} {bs : List (List M4)} {es : List Ev6} {sv ev : Value} (h : ScoV w base L V C R bs es sv ev) (hb : b2 ≤ base) : ScoV w b2 L V C R bs es sv ev :=
  ⟨h.hL, h.hV, h.hC, h.hR, h.hb, h.he, h.bok, h.eok, h.bods.base hb, own_base h.evs hb⟩
theorem ten_str {w : World} {b : Nat} (x0 x1 x2 x3 x4 x5 x6 x7 x8 x9 : Value) {base L V C R : Nat} {bs : List (List M4)} {es : List Ev6} {sv ev vv : Value} {zs : List (Prt × Loc)} (h : ScoV w base L V C R bs es sv ev) (hv : VoicesR w base vv zs) (hb : b < base) :
    ScoV (World.setCell (World.setCell (World.setCell (World.setCell (World.setCell (World.setCell (World.setCell (World.setCell (World.setCell (World.setCell w ⟨b, 0, none⟩ x0) ⟨b, 1, none⟩ x1) ⟨b, 2, none⟩ x2) ⟨b, 3, none⟩ x3) ⟨b, 4, none⟩ x4) ⟨b, 5, none⟩ x5) ⟨b, 6, none⟩ x6) ⟨b, 7, none⟩ x7) ⟨b, 8, none⟩ x8) ⟨b, 9, none⟩ x9) base L V C R bs es sv ev ∧ VoicesR (World.setCell (World.setCell (World.setCell (World.setCell (World.setCell (World.setCell (World.setCell (World.setCell (World.setCell (World.setCell w ⟨b, 0, none⟩ x0) ⟨b, 1, none⟩ x1) ⟨b, 2, none⟩ x2) ⟨b, 3, none⟩ x3) ⟨b, 4, none⟩ x4) ⟨b, 5, none⟩ x5) ⟨b, 6, none⟩ x6) ⟨b, 7, none⟩ x7) ⟨b, 8, none⟩ x8) ⟨b, 9, none⟩ x9) base vv zs := by
  refine ⟨?_, ?_⟩
  · exact (((((((((h.set (p := ⟨b, 0, none⟩) hb x0).set (p := ⟨b, 1, none⟩) hb x1).set (p := ⟨b, 2, none⟩) hb x2).set (p := ⟨b, 3, none⟩) hb x3).set (p := ⟨b, 4, none⟩) hb x4).set (p := ⟨b, 5, none⟩) hb x5).set (p := ⟨b, 6, none⟩) hb x6).set (p := ⟨b, 7, none⟩) hb x7).set (p := ⟨b, 8, none⟩) hb x8).set (p := ⟨b, 9, none⟩) hb x9
  · exact (((((((((hv.set (p := ⟨b, 0, none⟩) hb x0).set (p := ⟨b, 1, none⟩) hb x1).set (p := ⟨b, 2, none⟩) hb x2).set (p := ⟨b, 3, none⟩) hb x3).set (p := ⟨b, 4, none⟩) hb x4).set (p := ⟨b, 5, none⟩) hb x5).set (p := ⟨b, 6, none⟩) hb x6).set (p := ⟨b, 7, none⟩) hb x7).set (p := ⟨b, 8, none⟩) hb x8).set (p := ⟨b, 9, none⟩) hb x9
theorem eAt_add (bs : List (List M4)) (V : Nat) (es : List Ev6) (R i : Nat) (e : Option Nat) : ∀ n, eAt bs V es R 0 e (i + n) = eAt bs V es R i (eAt bs V es R 0 e i) n
  | 0 => rfl
  | n + 1 => by
    show limE (eAt bs V es R 0 e (i + n)) (sumAt bs V es (0 + (i + n))) R = limE (eAt bs V es R i (eAt bs V es R 0 e i) n) (sumAt bs V es (i + n)) R
    rw [eAt_add bs V es R i e n, Nat.zero_add]
theorem yAt_add (bs : List (List M4)) (V : Nat) (es : List Ev6) (C R i : Nat) (e : Option Nat) (n : Nat) : yAt bs V es C R 0 e (i + n) = yAt bs V es C R i (eAt bs V es R 0 e i) n := by
  unfold yAt
  rw [eAt_add, Nat.zero_add]
/-- a stream, advanced; the samples are those of the whole score from i on -/
def AdvP (L V C R : Nat) (bs : List (List M4)) (es : List Ev6) (i n : Nat) (w : World) (e : Ending) (w' : World) : Prop :=
  ∃ (sv ev vv : Value) (env : Nat) (zs : List (Prt × Loc)) (g : Nat) (ys : List Nat), e = .returned (.tuple #[strA L V C R sv ev (i + n) (dAt (ordE es) (i + n)) vv env, .slice (some ⟨g, 0, none⟩) n n, .bool true]) ∧
    StrV w' w.heap.size L V C R bs es (i + n) sv ev vv env zs ∧ w'.ownsRow w.heap.size 23 1 (.slice (some ⟨g, 0, none⟩) n n) n (cellsS ys) ∧ GoodA (fun k => yAt bs V es C R 0 (fab .f32 0) (i + k)) n ys ∧ Nw w w'
set_option maxHeartbeats 6400000 in
set_option maxRecDepth 100000 in
theorem advance_ok {base L V C R : Nat} {bs : List (List M4)} {es : List Ev6} {i n : Nat} {sv ev vv : Value} {env : Nat} {zs : List (Prt × Loc)} {w : World} (h : StrV w base L V C R bs es i sv ev vv env zs) (hin : i + n ≤ L) :
    Calls Tryz.prog 7 #[strA L V C R sv ev i (dAt (ordE es) i) vv env, .int .i64 (n : Int)] w (AdvP L V C R bs es i n w) := by
  obtain ⟨⟨sa, sc, rfl⟩, ea, ec, rfl⟩ := h.sco.shape
  obtain ⟨va, vc, rfl⟩ := own_shape' h.voi.row
  obtain ⟨d, hd⟩ : ∃ d, d = dAt (ordE es) i := ⟨_, rfl⟩
  obtain ⟨w1, hw1⟩ : ∃ w1, w1 = w.alloc (.cells #[.int .i64 (L : Int), .int .i64 (V : Int), .float .f32 C, .float .f32 R, .slice sa bs.length sc, .slice ea es.length ec, .int .i64 (i : Int), .int .i64 (d : Int), .slice va zs.length vc, .float .f32 env] 31 (0, 0)) := ⟨_, rfl⟩
  obtain ⟨w2, hw2⟩ : ∃ w2, w2 = w1.alloc (.cells #[.int .i64 0, .int .i64 0, .float .f32 0, .float .f32 0, .slice none 0 0, .slice none 0 0, .int .i64 0, .int .i64 0, .slice none 0 0, .float .f32 0] 31 (0, 0)) := ⟨_, rfl⟩
  have s1 : w1.heap.size = w.heap.size + 1 := by rw [hw1]; simp
  have s2 : w2.heap.size = w.heap.size + 2 := by rw [hw2]; simp [s1]
  have N2 := Lib.hid (show Nw w w2 from by rw [hw2, hw1]; exact ((Nw.refl w).alloc _).alloc _)
  have X2 := Lib.hid (show HasC w2 w.heap.size (strC L V C R (.slice sa bs.length sc) (.slice ea es.length ec) i d (.slice va zs.length vc) env) from by rw [hw2, hw1]; exact (HasC.newB w _ _).alloc _)
  have Z2 := Lib.hid (show HasC w2 (w.heap.size + 1) [.int .i64 0, .int .i64 0, .float .f32 0, .float .f32 0, .slice none 0 0, .slice none 0 0, .int .i64 0, .int .i64 0, .slice none 0 0, .float .f32 0] from by rw [hw2, ← s1]; exact HasC.newB w1 _ _)
  have Hp := Lib.hid (playerOf_ok (h.nw N2.out))
  have hL70 := h.hL
  have hV4 := h.sco.hV.2
  have Hsco := Lib.hid h.sco
  have He := Lib.hid h.he
  have Hs := Lib.hid s2
  unfold strA at Hp ⊢
  rw [← hd] at Hp ⊢
  have Hw := Lib.hid (And.intro hw1 (And.intro hw2 s1))
  clear h hd hw1 hw2 s1 s2
  go_enter Tryz.func7, Tryz.ntmps7
  go_upto_region 1 with fail
  rw [← Hw.out.1, ← Hw.out.2.1]
  clear Hw
  obtain ⟨e0, e1, e2, e3, e4, e5, e6, e7, e8, e9⟩ := ten_at X2.out
  go_wp2_with fail
  refine Hp.out.mono ?_
  rintro e w3 ⟨q, W0, W1, eo, b, pv, env2, zs2, rfl, n0, hF, hP, hbd, he2, hz2⟩
  have HF := Lib.hid hF
  have P3 := Lib.hid hP
  have Q3 := Lib.hid (And.intro hbd (And.intro he2 hz2))
  have N23 := Lib.hid (n0.trans (hF.nw hP.kp))
  have N0 := Lib.hid n0
  have X3 := Lib.hid (X2.out.nw N23.out)
  have Z3 := Lib.hid (Z2.out.nw N23.out)
  have hW1 : w.heap.size + 2 ≤ W1.heap.size := by have h1 := n0.size; have h2 := hF.n01.size; have h3 := Hs.out; omega
  clear n0 hF hP hbd he2 hz2 e0 e1 e2 e3 e4 e5 e6 e7 e8 e9
  obtain ⟨e0, e1, e2, e3, e4, e5, e6, e7, e8, e9⟩ := ten_at X3.out
  have hn0 : ¬ ((n : Int) < 0) := by omega
  have hn1 : ¬ ((L : Int) - (i : Int) < (n : Int)) := by omega
  go_wp2_with fail
  refine (play_ok HF.out P3.out n (by omega) Q3.out.1 Q3.out.2.2).mono ?_
  rintro e w4 ⟨g, ys, rfl, hown, hgood, b', pv', env', zs', hb', hP, he', hz', hfr⟩
  have P4 := Lib.hid hP
  have Q4 := Lib.hid (And.intro hb' (And.intro he' hz'))
  have O4 := Lib.hid hown
  have G4 := Lib.hid hgood
  have hs3 : W1.heap.size ≤ w3.heap.size := P3.out.kp.size
  clear hP hb' he' hz' hfr hown hgood e0 e1 e2 e3 e4 e5 e6 e7 e8 e9
  go_wp2_with fail
  have hzl : zs'.length ≤ 1000 := by
    have hp := pre_ok bs Hsco.out.bok L V Hsco.out.hV.1 es Hsco.out.eok (i + n) (by omega)
    have := hp.1
    rw [← Q4.out.2.2, List.length_map] at this
    omega
  have St := Lib.hid (stream_ok HF.out P4.out hzl)
  refine St.out.mono ?_
  rintro e w5 ⟨sv5, ev5, vv5, rfl, hsc, hvo, n5⟩
  obtain ⟨⟨ba, bc, rfl⟩, ca, cc, rfl⟩ := hsc.shape
  obtain ⟨ra, rc, rfl⟩ := own_shape' hvo.row
  have N5 := Lib.hid ((N0.out.trans (HF.out.nw P4.out.kp)).trans n5)
  have Z5 := Lib.hid (Z2.out.nw N5.out)
  have O5 := Lib.hid (own_nw O4.out n5)
  obtain ⟨dn, hdn⟩ : ∃ dn, dn = dAt (ordE es) (i + n) := ⟨_, rfl⟩
  obtain ⟨j, hj⟩ : ∃ j, j = i + n := ⟨_, rfl⟩
  have T1 := Lib.hid (ten_str (b := w.heap.size + 1) (.int .i64 (L : Int)) (.int .i64 (V : Int)) (.float .f32 C) (.float .f32 R) (.slice ba bs.length bc) (.slice ca es.length cc) (.int .i64 (j : Int)) (.int .i64 (dn : Int)) (.slice ra zs'.length rc) (.float .f32 env') hsc hvo (by omega))
  have T2 := Lib.hid (ten_low (w := w5) (b := w.heap.size + 1) (.int .i64 (L : Int)) (.int .i64 (V : Int)) (.float .f32 C) (.float .f32 R) (.slice ba bs.length bc) (.slice ca es.length cc) (.int .i64 (j : Int)) (.int .i64 (dn : Int)) (.slice ra zs'.length rc) (.float .f32 env'))
  have Nf := Lib.hid (T2.out.2 w (N2.out.trans N5.out) (by omega))
  have Of := Lib.hid (T2.out.1 _ _ _ _ _ _ (by omega) O5.out)
  have Fin := Lib.hid (show AdvP L V C R bs es i n w (.returned (.tuple #[strA L V C R (.slice ba bs.length bc) (.slice ca es.length cc) (i + n) (dAt (ordE es) (i + n)) (.slice ra zs'.length rc) env', .slice (some ⟨g, 0, none⟩) n n, .bool true])) _ from
    ⟨_, _, _, env', zs', g, ys, rfl, ⟨T1.out.1.base (by omega), T1.out.2.base (by omega), Q4.out.2.2, by rw [Q4.out.2.1, Q3.out.2.1, ← eAt_add], hin, hL70⟩, own_base Of.out (by omega), ⟨G4.out.1, fun k y hk => by
      have g4 := G4.out.2 k y hk
      rw [Q3.out.2.1] at g4
      exact ⟨by rw [g4.1, ← yAt_add], g4.2⟩⟩, Nf.out⟩)
  unfold strA at Fin ⊢
  rw [← hdn, ← hj] at Fin ⊢
  obtain ⟨r0, r1, r2, r3, r4, r5, r6, r7, r8, r9⟩ := ten_at Z5.out
  obtain ⟨f0, f1, f2, f3, f4, f5, f6, f7, f8, f9⟩ := ten_fz Z5.out
  have hz5 := Z5.out.1
  clear hsc hvo n5 hdn hj St hzl
  go_wp2_with fail
  exact bodyPost_ret (v := .tuple #[.agg #[.int .i64 (L : Int), .int .i64 (V : Int), .float .f32 C, .float .f32 R, .slice ba bs.length bc, .slice ca es.length cc, .int .i64 (j : Int), .int .i64 (dn : Int), .slice ra zs'.length rc, .float .f32 env'], .slice (some ⟨g, 0, none⟩) n n, .bool true]) (by simp [results, Tryz.results7, go_sem, r0, r1, r2, r3, r4, r5, r6, r7, r8, r9, f0]) rfl Fin.out
end Go.Proofs.YtiakcibeobbonaaGreat

/- The model's copy of a body: l7Body (FnCut).
   Conditions: those that each statement names. -/
namespace Go.Proofs.YtiakcibeobbonaaGreat
set_option linter.unusedSimpArgs false
set_option linter.unusedVariables false
open Go Go.RowKit

def CBodyP (ms : List M4) (w : World) (e : Ending) (w' : World) : Prop :=
  ∃ v : Value, e = .returned (.agg #[v]) ∧ w'.ownsRow w.heap.size 93 2 v ms.length (cellsM ms) ∧ Nw w w'
set_option maxHeartbeats 1600000 in
set_option maxRecDepth 100000 in
theorem l7Body_c (ms : List M4) (n bm : Nat) (v : Value) (hn : ms.length = n) (hn64 : n ≤ 64) (w : World) (hm : w.ownsRow bm 93 2 v n (cellsM ms)) :
    Calls Tryz.prog 30 #[.agg #[v]] w (CBodyP ms w) := by
  obtain ⟨va, vc, rfl⟩ := own_shape' hm
  obtain ⟨i0, hi, hz0, hz1, hz2⟩ := info_parts info_mode
  obtain ⟨w1, hw1⟩ : ∃ w1, w1 = w.alloc (.cells #[.slice va n vc] 65 (0, 0)) := ⟨_, rfl⟩
  obtain ⟨w2, hw2⟩ : ∃ w2, w2 = w1.alloc (.cells #[.slice none 0 0] 65 (0, 0)) := ⟨_, rfl⟩
  have s1 : w1.heap.size = w.heap.size + 1 := by rw [hw1]; simp
  have s2 : w2.heap.size = w.heap.size + 2 := by rw [hw2]; simp [s1]
  have n2 : Nw w w2 := by rw [hw2, hw1]; exact ((Nw.refl w).alloc _).alloc _
  have x1 : Has1 w2 w.heap.size (.slice va n vc) := by rw [hw2, hw1]; exact (Has1.new w _ _).alloc _
  have x2 : Has1 w2 (w.heap.size + 1) (.slice none 0 0) := by rw [hw2, ← s1]; exact Has1.new w1 _ _
  have Hm := Lib.hid (own_nw hm n2)
  have Hn := Lib.hid hn
  have N2 := Lib.hid n2
  have X1 := Lib.hid x1
  have X2 := Lib.hid x2
  have Hw := Lib.hid (And.intro hw1 hw2)
  have S2 := Lib.hid s2
  clear hm hn hw1 hw2 s1 s2 n2 x1 x2
  go_enter Tryz.func30, Tryz.ntmps30
  go_upto_region 1 with fail
  rw [← Hw.out.1, ← Hw.out.2]
  clear Hw
  have e1 := (X1.out.alloc (.cells #[] 93 (0, 0))).2.1
  have e2 := (X2.out.alloc (.cells #[] 93 (0, 0))).2.1
  have f2 := (X2.out.alloc (.cells #[] 93 (0, 0))).2.2
  rcases Hm.out.2 with ⟨h1, h2⟩ | ⟨g, cap, cur, h1, hb, hg, hc, hmx, hs, ht⟩
  · cases h1
    have hms : ms = [] := List.eq_nil_of_length_eq_zero (by rw [Hn.out])
    subst hms
    have O0 := Lib.hid (show (w2.alloc (.cells #[] 93 (0, 0))).ownsRow w2.heap.size 93 2 (.slice (some ⟨w2.heap.size, 0, none⟩) 0 0) 0 (cellsM []) from World.ownsRow_made w2 #[] 0 (Nat.le_refl _) (Nat.zero_le _) rfl)
    go_wp2_with (at_builtin; refine wpList_append_own_none rfl _ _ 56 rfl _ 93 i0 2 Tryz.underlying56 hi _ _ _ rfl O0.out rfl ?_)
    have O1 := Lib.hid (own_base (own_set (p := ⟨w.heap.size + 1, 0, none⟩) O0.out (by rw [S2.out]; show w.heap.size + 1 < _; omega) (.slice (some ⟨w2.heap.size, 0, none⟩) 0 0)) (show w.heap.size ≤ w2.heap.size from N2.out.size))
    have R1 := Lib.hid ((X2.out.alloc (.cells #[] 93 (0, 0))).put (.slice (some ⟨w2.heap.size, 0, none⟩) 0 0))
    have N3 := Lib.hid ((N2.out.alloc (.cells #[] 93 (0, 0))).set (p := ⟨w.heap.size + 1, 0, none⟩) (by show w.heap.size ≤ w.heap.size + 1; omega) (.slice (some ⟨w2.heap.size, 0, none⟩) 0 0))
    have r1 := R1.out.2.1
    go_wp2_with fail
    exact bodyPost_ret (v := .agg #[.slice (some ⟨w2.heap.size, 0, none⟩) 0 0]) (by simp [results, Tryz.results30, go_sem, r1]) rfl ⟨_, rfl, O1.out, N3.out⟩
  · cases h1
    have Hbel := Lib.hid ((Nw.refl w2).alloc (.cells #[] 93 (0, 0)))
    clear hb hg hc hmx hs ht
    go_wp2_with (at_builtin; refine wpList_append_own _ rfl _ _ 56 rfl w2.heap.size 93 i0 (.agg #[.complex .f32 0 0, .complex .f32 0 0]) 2 16 Tryz.underlying56 hi hz0 hz1 hz2 rfl (by decide) _ _ _ rfl (World.ownsRow_made w2 #[] 0 (Nat.le_refl _) (Nat.zero_le _) rfl) ⟨g, 0, none⟩ n vc (cellsM ms) rfl ?qc1 ?qc2 ?qc3 ?qc4 ?qc5 ?qc6 ?_)
    case qc1 => rw [cellsM_len, Hn.out]
    case qc2 =>
      intro j u hj
      have hj' : j < n * 2 := by
        have := (List.getElem?_eq_some_iff.1 hj).1
        rw [cellsM_len, Hn.out] at this
        exact this
      have c1 := Hm.out.cellAt j hj'
      rw [hj] at c1
      rw [show (⟨g, 0, none⟩ : Addr).add j = ⟨g, j, none⟩ from by simp [Addr.add]; first | done | (intro h; omega)]
      exact Lib.cell?_alloc_some _ c1
    case qc3 =>
      intro u hu
      obtain ⟨m, _, hu⟩ := List.mem_flatMap.1 hu
      simp [M4.cells] at hu
      rcases hu with rfl | rfl <;> rfl
    case qc4 => unfold maxLen; omega
    case qc5 => omega
    case qc6 => simp
    · intro v' w3 hown hgrow hnil
      obtain ⟨ua, un, uc, rfl⟩ := own_shape hown
      have Gr := Lib.hid (Hbel.out.grown hgrow (fun q hq => by simp [Value.ownBlock] at hq; omega))
      have O1 := Lib.hid (own_base (own_set (p := ⟨w.heap.size + 1, 0, none⟩) hown (by rw [S2.out]; show w.heap.size + 1 < _; omega) (.slice ua un uc)) (show w.heap.size ≤ w2.heap.size from N2.out.size))
      have r0 := (X2.out.nw Gr.out).2.1
      have f0 := (X2.out.nw Gr.out).2.2
      have R1 := Lib.hid ((X2.out.nw Gr.out).put (.slice ua un uc))
      have N3 := Lib.hid ((N2.out.trans Gr.out).set (p := ⟨w.heap.size + 1, 0, none⟩) (by show w.heap.size ≤ w.heap.size + 1; omega) (.slice ua un uc))
      have r1 := R1.out.2.1
      clear e1 e2 f2 hown hgrow hnil
      go_wp2_with fail
      exact bodyPost_ret (v := .agg #[.slice ua un uc]) (by simp [results, Tryz.results30, go_sem, r1]) rfl ⟨_, rfl, by have h := O1.out; simpa [Hn.out] using h, N3.out⟩
end Go.Proofs.YtiakcibeobbonaaGreat

/- The model's copy of a score: l7Copy (FnCut).
   Conditions: those that each statement names. -/
namespace Go.Proofs.YtiakcibeobbonaaGreat
set_option linter.unusedSimpArgs false
set_option linter.unusedVariables false
open Go Go.RowKit

set_option maxHeartbeats 6400000 in
set_option maxRecDepth 100000 in
theorem l7Copy_c (base L V C R : Nat) (bs : List (List M4)) (es : List Ev6) (sv ev : Value) (w : World) (h : ScoV w base L V C R bs es sv ev) :
    Calls Tryz.prog 14 #[.agg #[.int .i64 (L : Int), .int .i64 (V : Int), .float .f32 C, .float .f32 R, sv, ev]] w (CpsP L V C R bs es w) := by
  obtain ⟨nb, hnb⟩ : ∃ nb, nb = bs.length := ⟨_, rfl⟩
  obtain ⟨ne, hne⟩ : ∃ ne, ne = es.length := ⟨_, rfl⟩
  obtain ⟨⟨sa, sc, rfl⟩, ea, ec, rfl⟩ := h.shape
  obtain ⟨j0, hj, hjz0, hjz1, hjz2⟩ := info_parts info_event
  have hb3 := h.hb
  have he13 := h.he
  rw [← hnb] at hb3
  rw [← hne] at he13
  rw [← hnb, ← hne] at h ⊢
  have H := Lib.hid h
  have Hn := Lib.hid (And.intro hnb hne)
  have hA : ∀ (w : World) o, (w.alloc o).heap.size = w.heap.size + 1 := fun w o => by simp
  obtain ⟨w1, hw1⟩ : ∃ w1, w1 = w.alloc (.cells #[.int .i64 (L : Int), .int .i64 (V : Int), .float .f32 C, .float .f32 R, .slice sa nb sc, .slice ea ne ec] 27 (0, 0)) := ⟨_, rfl⟩
  obtain ⟨w2, hw2⟩ : ∃ w2, w2 = w1.alloc (.cells #[.int .i64 0, .int .i64 0, .float .f32 0, .float .f32 0, .slice none 0 0, .slice none 0 0] 27 (0, 0)) := ⟨_, rfl⟩
  obtain ⟨w3, hw3⟩ : ∃ w3, w3 = w2.alloc (.cells #[.int .i64 (L : Int), .int .i64 (V : Int), .float .f32 C, .float .f32 R, .slice none 0 0, .slice none 0 0] 27 (0, 0)) := ⟨_, rfl⟩
  have s1 : w1.heap.size = w.heap.size + 1 := by rw [hw1, hA]
  have s2 : w2.heap.size = w.heap.size + 2 := by rw [hw2, hA, s1]
  have s3 : w3.heap.size = w.heap.size + 3 := by rw [hw3, hA, s2]
  have n3 : Nw w w3 := by rw [hw3, hw2, hw1]; exact (((Nw.refl w).alloc _).alloc _).alloc _
  have x1 : HasC w3 w.heap.size [.int .i64 (L : Int), .int .i64 (V : Int), .float .f32 C, .float .f32 R, .slice sa nb sc, .slice ea ne ec] := by
    rw [hw3, hw2, hw1]; exact ((HasC.new w _ _ _ _ _ _ _).alloc _).alloc _
  have x2 : HasC w3 (w.heap.size + 1) [.int .i64 0, .int .i64 0, .float .f32 0, .float .f32 0, .slice none 0 0, .slice none 0 0] := by
    rw [hw3, hw2, ← s1]; exact (HasC.new w1 _ _ _ _ _ _ _).alloc _
  have x3 : HasC w3 (w.heap.size + 2) [.int .i64 (L : Int), .int .i64 (V : Int), .float .f32 C, .float .f32 R, .slice none 0 0, .slice none 0 0] := by
    rw [hw3, ← s2]; exact HasC.new w2 _ _ _ _ _ _ _
  have X12 := Lib.hid (show HasC w2 w.heap.size [.int .i64 (L : Int), .int .i64 (V : Int), .float .f32 C, .float .f32 R, .slice sa nb sc, .slice ea ne ec] from by rw [hw2, hw1]; exact (HasC.new w _ _ _ _ _ _ _).alloc _)
  have N3 := Lib.hid n3
  have X1 := Lib.hid x1
  have X2 := Lib.hid x2
  have X3 := Lib.hid x3
  have Hw := Lib.hid (And.intro hw1 (And.intro hw2 hw3))
  have S3 := Lib.hid (And.intro s1 (And.intro s2 s3))
  clear h hnb hne hw1 hw2 hw3 s1 s2 s3 n3 x1 x2 x3 hA
  go_enter Tryz.func14, Tryz.ntmps14
  go_upto_region 1 with fail
  rw [← Hw.out.1, ← Hw.out.2.1]
  obtain ⟨⟨e0, g0⟩, ⟨e1, g1⟩, ⟨e2, g2⟩, ⟨e3, g3⟩, ⟨e4, g4⟩, ⟨e5, g5⟩⟩ := six_at X12.out
  go_upto_region 2 with fail
  rw [← Hw.out.2.2, S3.out.2.1]
  clear Hw e0 g0 e1 g1 e2 g2 e3 g3 e4 g4 e5 g5
  obtain ⟨⟨e0, g0⟩, ⟨e1, g1⟩, ⟨e2, g2⟩, ⟨e3, g3⟩, ⟨e4, g4⟩, ⟨e5, g5⟩⟩ := six_at X1.out
  have hs3 := S3.out.2.2
  go_wp2_with fail
  clear e0 g0 e1 g1 e2 g2 e3 g3 e4 g4 e5 g5
  go_loopw [18] (fun c wr => ∃ (k : Nat) (sv : Value), k ≤ nb ∧ c = .int .i64 (k : Int) ∧ HasC wr (w.heap.size + 2) [.int .i64 (L : Int), .int .i64 (V : Int), .float .f32 C, .float .f32 R, sv, .slice none 0 0] ∧ HasC wr w.heap.size [.int .i64 (L : Int), .int .i64 (V : Int), .float .f32 C, .float .f32 R, .slice sa nb sc, .slice ea ne ec] ∧ HasC wr (w.heap.size + 1) [.int .i64 0, .int .i64 0, .float .f32 0, .float .f32 0, .slice none 0 0, .slice none 0 0] ∧ BodsR wr (w.heap.size + 3) sv (bs.take k) ∧ Nw w wr) (fun c _ => nb - (intOf c).toNat)
  case atStart => exact ⟨0, _, by omega, rfl, X3.out, X1.out, X2.out, BodsR.nil _ _, N3.out⟩
  case round =>
    obtain ⟨k, sv, hk, rfl, hK, hX, hZ, hB, hN⟩ := hrel
    have Kr := Lib.hid hK
    have Xr := Lib.hid hX
    have Zr := Lib.hid hZ
    have Nr := Lib.hid hN
    have hlen : (bs.take k).length = k := by rw [List.length_take, ← Hn.out.1]; omega
    obtain ⟨vs, ho, hin⟩ := hB
    rw [hlen] at ho
    obtain ⟨ta, tc, rfl⟩ := own_shape' ho
    have hsr : w.heap.size + 2 < wr.heap.size := Kr.out.1
    by_cases hlt : k < nb
    · obtain ⟨ms, hms⟩ : ∃ ms, bs[k]? = some ms := ⟨bs[k]'(by rw [← Hn.out.1]; exact hlt), List.getElem?_eq_getElem _⟩
      have hml : ms.length ≤ 4 := (H.out.bok ms (List.mem_of_getElem? hms)).1
      obtain ⟨sg, scap, ma, mc, hsv, hs1, hs2, hs3', hsc, hso⟩ := (H.out.bods.nw Nr.out).at Hn.out.1 hms
      cases hsv
      have Ho := Lib.hid (And.intro ho hin)
      have Hms := Lib.hid hms
      obtain ⟨wd, hwd⟩ : ∃ wd, wd = wr.alloc (.cells #[.slice ma ms.length mc] 65 (0, 0)) := ⟨_, rfl⟩
      have Na := Lib.hid (show Nw wr wd from by rw [hwd]; exact (Nw.refl wr).alloc _)
      have B4 := Lib.hid (show Has1 wd wr.heap.size (.slice ma ms.length mc) from by rw [hwd]; exact Has1.new wr _ _)
      have Mo := Lib.hid (own_nw hso Na.out)
      have Hwd := Lib.hid hwd
      have hszd : wd.heap.size = wr.heap.size + 1 := by rw [hwd]; simp
      unfold maxLen at hs2
      clear hso hms hwd ho hin hK hX hZ hN
      go_upto_region 5 with fail
      rw [← Hwd.out]
      clear hsc Hwd
      have D := Lib.hid (Na.out.trans ((Nw.refl wd).draw 1))
      obtain ⟨⟨m0, n0⟩, ⟨m1, n1⟩, ⟨m2, n2⟩, ⟨m3, n3⟩, ⟨m4, n4⟩, ⟨m5, n5⟩⟩ := six_at (Kr.out.nw Na.out)
      have b0 := B4.out.2.1
      have K1 := Lib.hid (l7Body_c ms ms.length base _ rfl (by omega) wd.drew (own_nw Mo.out ((Nw.refl wd).draw 1)))
      have hsd : wd.drew.heap.size = wr.heap.size + 1 := hszd
      go_region_law (first
        | (go_simp
           go_at_call 30
           with_reducible refine K1.out.mono ?_
           rintro e w6 ⟨mv, rfl, hown, n6⟩
           obtain ⟨pa, pc, rfl⟩ := own_shape' hown
           have D6 := Lib.hid (D.out.trans n6)
           have O6 := Lib.hid hown
           have Kx6 := Lib.hid (Kr.out.nw D6.out)
           have Ho6 := Lib.hid (own_nw Ho.out.1 D6.out)
           have hS6 : w.heap.size + 2 < w6.heap.size := Kx6.out.1
           obtain ⟨⟨q0, r0⟩, ⟨q1, r1⟩, ⟨q2, r2⟩, ⟨q3, r3⟩, ⟨q4, r4⟩, ⟨q5, r5⟩⟩ := six_at Kx6.out
           have c0 := (B4.out.nw (((Nw.refl wd).draw 1).trans n6)).2.1
           clear hown n6)
        | (refine step_append_body rfl (.tmp 23) (.tmp 26) rfl (w.heap.size + 3) k w6.heap.size (.slice ta k tc) (.slice pa ms.length pc) vs rfl rfl (Ho6.out.alloc _) (by go_simp) rfl (by omega) (by simp; omega) ?_
           intro v7 w7 own7 gr7
           have A7 := Lib.hid (D6.out.trans ((Nw.refl w6).alloc (.cells #[.slice pa ms.length pc] 65 (0, 0))))
           have hnb : ∀ g, (Value.slice ta k tc).ownBlock = some g → w.heap.size + 3 ≤ g := fun g hg => own_ge Ho6.out g hg
           have G7 := Lib.hid (BodsR.snoc (ms := ms) (bs := bs.take k) (by rw [hlen]; exact own_nw Ho.out.1 A7.out) (fun p r hp => by obtain ⟨v, a, b⟩ := Ho.out.2 p r hp; exact ⟨v, a, own_nw b A7.out⟩) (O6.out.alloc _) (by omega) (by rw [hlen]; exact own7) gr7)
           have K7 := Lib.hid ((Kr.out.nw A7.out).grown gr7 (fun e => by have := hnb _ e; omega))
           have X7 := Lib.hid ((Xr.out.nw A7.out).grown gr7 (fun e => by have := hnb _ e; omega))
           have Z7 := Lib.hid ((Zr.out.nw A7.out).grown gr7 (fun e => by have := hnb _ e; omega))
           have N7 := Lib.hid ((Nr.out.trans A7.out).grown gr7 (fun g hg => by have := hnb _ hg; omega))
           obtain ⟨⟨o0, h0⟩, ⟨o1, h1⟩, ⟨o2, h2⟩, ⟨o3, h3⟩, ⟨o4, h4⟩, ⟨o5, h5⟩⟩ := six_at K7.out
           obtain ⟨qa, qn, qc, rfl⟩ := own_shape own7
           clear own7 gr7 hnb))
      all_goals
        go_wp2_with fail
        go_roundw
        case rel =>
          exact ⟨k + 1, .slice qa qn qc, by omega, by rw [show ((k + 1 : Nat) : Int) = (k : Int) + 1 from by omega], K7.out.set 4 _, X7.out.sete (p := ⟨w.heap.size + 2, 4, none⟩) (by show w.heap.size + 2 ≠ w.heap.size; omega) _, Z7.out.sete (p := ⟨w.heap.size + 2, 4, none⟩) (by show w.heap.size + 2 ≠ w.heap.size + 1; omega) _,
            by rw [List.take_add_one, Hms.out]; exact G7.out.set (p := ⟨w.heap.size + 2, 4, none⟩) (by show w.heap.size + 2 < w.heap.size + 3; omega) _, N7.out.set (p := ⟨w.heap.size + 2, 4, none⟩) (by show w.heap.size ≤ w.heap.size + 2; omega) _⟩
        case measure => simp only [intOf]; omega
    · obtain rfl : k = nb := by omega
      have Bd := Lib.hid (show BodsR wr (w.heap.size + 3) (.slice ta k tc) bs from by
        have h : BodsR wr (w.heap.size + 3) (.slice ta k tc) (bs.take k) := ⟨vs, by rw [hlen]; exact ho, hin⟩
        rwa [List.take_of_length_le (by rw [← Hn.out.1]; omega)] at h)
      clear hK hX hZ hN ho hin
      obtain ⟨⟨e0, g0⟩, ⟨e1, g1⟩, ⟨e2, g2⟩, ⟨e3, g3⟩, ⟨e4, g4⟩, ⟨e5, g5⟩⟩ := six_at Xr.out
      obtain ⟨⟨m0, n0⟩, ⟨m1, n1⟩, ⟨m2, n2⟩, ⟨m3, n3⟩, ⟨m4, n4⟩, ⟨m5, n5⟩⟩ := six_at Kr.out
      have Ev := Lib.hid (show wr.ownsRow base 68 6 (.slice ea ne ec) ne (cellsE es) from by have o := own_nw H.out.evs Nr.out; rwa [← Hn.out.2] at o)
      have Fin : ∀ (w6 : World) (v6 : Value), Nw w w6 → HasC w6 (w.heap.size + 2) [.int .i64 (L : Int), .int .i64 (V : Int), .float .f32 C, .float .f32 R, .slice ta k tc, .slice none 0 0] → HasC w6 (w.heap.size + 1) [.int .i64 0, .int .i64 0, .float .f32 0, .float .f32 0, .slice none 0 0, .slice none 0 0] →
          BodsR w6 (w.heap.size + 3) (.slice ta k tc) bs → w6.ownsRow (w.heap.size + 3) 68 6 v6 es.length (cellsE es) →
          HasC (w6.setCell ⟨w.heap.size + 2, 5, none⟩ v6) (w.heap.size + 2) [.int .i64 (L : Int), .int .i64 (V : Int), .float .f32 C, .float .f32 R, .slice ta k tc, v6] ∧ HasC (w6.setCell ⟨w.heap.size + 2, 5, none⟩ v6) (w.heap.size + 1) [.int .i64 0, .int .i64 0, .float .f32 0, .float .f32 0, .slice none 0 0, .slice none 0 0] ∧
          BodsR (w6.setCell ⟨w.heap.size + 2, 5, none⟩ v6) (w.heap.size + 3) (.slice ta k tc) bs ∧ (w6.setCell ⟨w.heap.size + 2, 5, none⟩ v6).ownsRow (w.heap.size + 3) 68 6 v6 es.length (cellsE es) ∧ Nw w (w6.setCell ⟨w.heap.size + 2, 5, none⟩ v6) := fun w6 v6 n6 h1 h2 h3 h4 =>
        ⟨h1.set 5 v6, h2.sete (p := ⟨w.heap.size + 2, 5, none⟩) (by show w.heap.size + 2 ≠ w.heap.size + 1; omega) v6, h3.set (p := ⟨w.heap.size + 2, 5, none⟩) (by show w.heap.size + 2 < w.heap.size + 3; omega) v6,
         own_set (p := ⟨w.heap.size + 2, 5, none⟩) h4 (by show w.heap.size + 2 < w.heap.size + 3; omega) v6, n6.set (p := ⟨w.heap.size + 2, 5, none⟩) (by show w.heap.size ≤ w.heap.size + 2; omega) v6⟩
      have HFin := Lib.hid Fin
      clear Fin
      rcases Ev.out.2 with ⟨h1, h2⟩ | ⟨g, cap, cur, h1, hb, hg, hc, hmx, hs, ht⟩
      · cases h1
        have hes : es = [] := List.eq_nil_of_length_eq_zero (by rw [← Hn.out.2])
        subst hes
        have O6 := Lib.hid (World.ownsRow_nil wr (w.heap.size + 3) 68 6)
        go_upto_region 8 with (at_builtin; refine wpList_append_own_none rfl _ _ 25 rfl _ 68 j0 6 Tryz.underlying25 hj _ _ _ rfl O6.out rfl ?_)
        obtain ⟨f1, f2, f3, f4, f5⟩ := HFin.out wr (.slice none 0 0) Nr.out Kr.out Zr.out Bd.out (World.ownsRow_nil _ _ _ _)
        obtain ⟨w7, hw7⟩ : ∃ w7, w7 = wr.setCell ⟨w.heap.size + 2, 5, none⟩ (.slice none 0 0) := ⟨_, rfl⟩
        rw [← hw7] at f1 f2 f3 f4 f5 ⊢
        obtain ⟨⟨a0, -⟩, ⟨a1, -⟩, ⟨a2, -⟩, ⟨a3, -⟩, ⟨a4, -⟩, ⟨a5, -⟩⟩ := six_at f1
        obtain ⟨⟨r0, z0⟩, ⟨r1, z1⟩, ⟨r2, z2⟩, ⟨r3, z3⟩, ⟨r4, z4⟩, ⟨r5, z5⟩⟩ := six_at f2
        have Fz := Lib.hid (rows_six f3 f4 (b := w.heap.size + 1) (by omega) (.int .i64 (L : Int)) (.int .i64 (V : Int)) (.float .f32 C) (.float .f32 R) (.slice ta k tc) (.slice none 0 0))
        have Nz := Lib.hid (nw_six f5 (b := w.heap.size + 1) (by omega) (.int .i64 (L : Int)) (.int .i64 (V : Int)) (.float .f32 C) (.float .f32 R) (.slice ta k tc) (.slice none 0 0))
        clear hw7 f1 f2 f3 f4 f5 e0 g0 e1 g1 e2 g2 e3 g3 e4 g4 e5 g5 m0 n0 m1 n1 m2 n2 m3 n3 m4 n4 m5 n5
        go_wp2_with fail
        exact bodyPost_ret (v := .agg #[.int .i64 (L : Int), .int .i64 (V : Int), .float .f32 C, .float .f32 R, .slice ta k tc, .slice none 0 0]) (by simp [results, Tryz.results14, go_sem, r0, r1, r2, r3, r4, r5, z0]) rfl
          ⟨_, _, rfl, Fz.out.1.base (by omega), own_base Fz.out.2 (by omega), Nz.out⟩
      · cases h1
        clear hb hg hc hmx hs ht
        have O6 := Lib.hid (World.ownsRow_nil wr (w.heap.size + 3) 68 6)
        go_upto_region 8 with (at_builtin; refine wpList_append_own _ rfl _ _ 25 rfl (w.heap.size + 3) 68 j0 (.agg #[.int .i64 0, .int .i64 0, .int .i64 0, .int .i64 0, .int .i64 0, .float .f32 0]) 6 48 Tryz.underlying25 hj hjz0 hjz1 hjz2 rfl (by decide) _ _ _ rfl O6.out ⟨g, 0, none⟩ ne ec (cellsE es) rfl ?qc1 ?qc2 ?qc3 ?qc4 ?qc5 ?qc6 ?_)
        case qc1 => rw [cellsE_len, ← Hn.out.2]
        case qc2 =>
          intro j u hj
          have hj' : j < ne * 6 := by
            have := (List.getElem?_eq_some_iff.1 hj).1
            rw [cellsE_len, ← Hn.out.2] at this
            exact this
          have c1 := Ev.out.cellAt j hj'
          rw [hj] at c1
          rw [show (⟨g, 0, none⟩ : Addr).add j = ⟨g, j, none⟩ from by simp [Addr.add]; first | done | (intro h; omega)]
          exact c1
        case qc3 => exact cellsE_one es
        case qc4 => unfold maxLen; omega
        case qc5 => omega
        case qc6 => omega
        intro v6 w6 hown hgrow hnil
        obtain ⟨va, vn, vc, rfl⟩ := own_shape hown
        have n6 : Nw wr w6 := (Nw.refl wr).grown hgrow (fun q hq => by simp [Value.ownBlock] at hq)
        obtain ⟨f1, f2, f3, f4, f5⟩ := HFin.out w6 (.slice va vn vc) (Nr.out.trans n6) (Kr.out.nw n6) (Zr.out.nw n6) (Bd.out.nw n6) (by rw [← Hn.out.2]; simpa using hown)
        clear e0 g0 e1 g1 e2 g2 e3 g3 e4 g4 e5 g5 m0 n0 m1 n1 m2 n2 m3 n3 m4 n4 m5 n5
        obtain ⟨⟨e0, g0⟩, ⟨e1, g1⟩, ⟨e2, g2⟩, ⟨e3, g3⟩, ⟨e4, g4⟩, ⟨e5, g5⟩⟩ := six_at (Xr.out.nw n6)
        obtain ⟨⟨m0, n0⟩, ⟨m1, n1⟩, ⟨m2, n2⟩, ⟨m3, n3⟩, ⟨m4, n4⟩, ⟨m5, n5⟩⟩ := six_at (Kr.out.nw n6)
        clear hown hgrow hnil
        go_upto_region 8 with fail
        obtain ⟨w7, hw7⟩ : ∃ w7, w7 = w6.setCell ⟨w.heap.size + 2, 5, none⟩ (.slice va vn vc) := ⟨_, rfl⟩
        rw [← hw7] at f1 f2 f3 f4 f5 ⊢
        obtain ⟨⟨a0, -⟩, ⟨a1, -⟩, ⟨a2, -⟩, ⟨a3, -⟩, ⟨a4, -⟩, ⟨a5, -⟩⟩ := six_at f1
        obtain ⟨⟨r0, z0⟩, ⟨r1, z1⟩, ⟨r2, z2⟩, ⟨r3, z3⟩, ⟨r4, z4⟩, ⟨r5, z5⟩⟩ := six_at f2
        have Fz := Lib.hid (rows_six f3 f4 (b := w.heap.size + 1) (by omega) (.int .i64 (L : Int)) (.int .i64 (V : Int)) (.float .f32 C) (.float .f32 R) (.slice ta k tc) (.slice va vn vc))
        have Nz := Lib.hid (nw_six f5 (b := w.heap.size + 1) (by omega) (.int .i64 (L : Int)) (.int .i64 (V : Int)) (.float .f32 C) (.float .f32 R) (.slice ta k tc) (.slice va vn vc))
        clear hw7 f1 f2 f3 f4 f5 e0 g0 e1 g1 e2 g2 e3 g3 e4 g4 e5 g5 m0 n0 m1 n1 m2 n2 m3 n3 m4 n4 m5 n5
        go_wp2_with fail
        exact bodyPost_ret (v := .agg #[.int .i64 (L : Int), .int .i64 (V : Int), .float .f32 C, .float .f32 R, .slice ta k tc, .slice va vn vc]) (by simp [results, Tryz.results14, go_sem, r0, r1, r2, r3, r4, r5, z0]) rfl
          ⟨_, _, rfl, Fz.out.1.base (by omega), own_base Fz.out.2 (by omega), Nz.out⟩
end Go.Proofs.YtiakcibeobbonaaGreat
