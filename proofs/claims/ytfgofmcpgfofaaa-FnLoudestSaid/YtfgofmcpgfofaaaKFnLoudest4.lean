/- Texts of a proof, put together: BowN, RoomN, TuneB, Merge, Grow, Concat, MergeB, BowM, Wide, Tw, Abs, BowI, BowW, Fit, Ng, NegS, Shape, Strike, StrikeB, RoomI.
   Conditions: those that each statement names. -/
import Derived.Test.YtfgofmcpgfofaaaKFnLoudest3
import Derived.Deep.RegionHeld3
import Derived.StillTailTactics
import Derived.Laws.AppendOwnNone
import Derived.Laws.Cover2
/- A bow's first ten steps in plain numbers: nothing overflows; and one step behind them, which may be infinite, but is the same each time.
   Conditions: those that each statement names. -/
namespace Go.Proofs.Ytfgofmcpgfofaaa
open Go Go.RowKit

theorem calm_some {o : BinOp} {k : FloatKind} {x y : Nat} (h : floatBits o k x y ≠ none) : Calm o k x y := by
  unfold Calm opB
  cases hb : floatBits o k x y with
  | some r => rfl
  | none => exact absurd hb h
theorem calm_mul_num (a b : Nat) (ha : Sm a) (hb : Sm b) : Calm .mul .f32 a b := by
  obtain ⟨s, m, i, ha⟩ := ha
  obtain ⟨t, n, j, hb⟩ := hb
  refine calm_some ?_
  show Ieee.single.mul a b ≠ none
  unfold Ieee.Format.mul
  rw [ha, hb]
  simp [Ieee.Datum.product]
theorem calm_add_num (a b : Nat) (ha : Sm a) (hb : (FloatKind.f32.decode b).isNaN = false) : Calm .add .f32 a b := by
  obtain ⟨s, m, i, ha⟩ := ha
  refine calm_some ?_
  show Ieee.single.add a b ≠ none
  unfold Ieee.Format.add
  unfold FloatKind.decode at hb
  rw [ha]
  cases hr : Ieee.single.read b with
  | nan t f => rw [show FloatKind.f32.format.read b = _ from hr] at hb; simp [Ieee.Datum.isNaN] at hb
  | infinity t => simp [Ieee.Datum.sum]
  | number t n j => simp [Ieee.Datum.sum]

/-- the product of a state and a pole -/
structure ProdOk (m : M4) (s : Nat × Nat) (T : Rat) : Prop where
  p1 : ∃ e D K, PartOk .sub s.1 m.pr s.2 m.pi e D K
  p2 : ∃ e D K, PartOk .add s.1 m.pi s.2 m.pr e D K
  n1 : Sm (mulSre s.1 s.2 m.pr m.pi)
  n2 : Sm (mulSim s.1 s.2 m.pr m.pi)
  b1 : Flo.Ab (S (mulSre s.1 s.2 m.pr m.pi)) (5 * T + 1)
  b2 : Flo.Ab (S (mulSim s.1 s.2 m.pr m.pi)) (5 * T + 1)
theorem prod_near (D T v es : Rat) (hT : 0 ≤ T) (hD : D = 4 * T) (ve : v * 16777216 = 1) (es1 : es ≤ 1 / 1048576) : D + (D * v + (D + 2 * T) * v / 16777216 + 2 * es) ≤ 5 * T + 1 := by
  have hv : v = 1 / 16777216 := by grind
  subst hv; subst hD
  grind
theorem prod_ok (m : M4) (hm : m.ok) (s : Nat × Nat) (h1 : Sm s.1) (h2 : Sm s.2) (T : Rat) (r1 : Flo.Ab (S s.1) T) (r2 : Flo.Ab (S s.2) T) (hT : T ≤ Flo.pw 118) : ProdOk m s T := by
  obtain ⟨n1, n2, n3, n4⟩ := hm.nums
  obtain ⟨q1, q2⟩ := hm.pole
  have hT0 := r1.nonneg
  have l1 : Flo.pw 120 = 4 * Flo.pw 118 := by rw [show (120 : Int) = 2 + 118 from rfl, Flo.pw_add, show Flo.pw 2 = 4 from Flo.pw_nat 2]
  have l2 := Flo.pw_lt (a := 120) (b := 125) (by omega)
  have l3 := Flo.pw_pos 118
  have k1 : Flo.Ab (S s.1 * S m.pr) (2 * T) := (r1.mul q1).mono (by grind)
  have k2 : Flo.Ab (S s.2 * S m.pi) (2 * T) := (r2.mul q2).mono (by grind)
  have k3 : Flo.Ab (S s.1 * S m.pi) (2 * T) := (r1.mul q2).mono (by grind)
  have k4 : Flo.Ab (S s.2 * S m.pr) (2 * T) := (r2.mul q1).mono (by grind)
  have d1 : Flo.Ab (S s.1 * S m.pr - S s.2 * S m.pi) (4 * T) := (k1.sub k2).mono (by grind)
  have d2 : Flo.Ab (S s.1 * S m.pi + S s.2 * S m.pr) (4 * T) := (k3.add k4).mono (by grind)
  have P1 := part_sub s.1 m.pr s.2 m.pi h1 n1 h2 n2 (2 * T) (4 * T) k1 k2 d1 (by grind) (by grind)
  have P2 := part_add s.1 m.pi s.2 m.pr h1 n2 h2 n1 (2 * T) (4 * T) k3 k4 d2 (by grind) (by grind)
  have hb := prod_near (4 * T) T Flo.v Flo.es hT0 rfl Flo.v_eq small'.es1
  refine ⟨⟨_, _, _, P1⟩, ⟨_, _, _, P2⟩, P1.num, P2.num, ?_, ?_⟩
  · exact ((d1.add P1.near).eq (by unfold mulSre; grind)).mono hb
  · exact ((d2.add P2.near).eq (by unfold mulSim; grind)).mono hb

/-- A STEP THAT MAY BE INFINITE, but is no NaN and draws nothing. -/
theorem step_wide (m : M4) (hm : m.ok) (s : Nat × Nat) (x : Nat) (h1 : Sm s.1) (h2 : Sm s.2) (hx : Sm x) (T : Rat) (r1 : Flo.Ab (S s.1) T) (r2 : Flo.Ab (S s.2) T) (hT : T ≤ Flo.pw 118) : StepOk m s x := by
  obtain ⟨n1, n2, n3, n4⟩ := hm.nums
  have P := prod_ok m hm s h1 h2 T r1 r2 hT
  have c1 := calm_mul_num m.gr x n3 hx
  have c2 := calm_mul_num m.gi x n4 hx
  exact ⟨h1, h2, P.p1, P.p2, c1, c2, calm_add_num _ _ P.n1 (floatBits_not_nan c1).1, calm_add_num _ _ P.n2 (floatBits_not_nan c2).1⟩

theorem grow_num (T F v es : Rat) (hT : 0 ≤ T) (hF : 0 ≤ F) (ve : v * 16777216 = 1) (e0 : 0 < es) (es1 : es ≤ 1 / 1048576) :
    (5 * T + 1 + (1024 * F + (1024 * F * v + es))) + ((5 * T + 1 + (1024 * F + (1024 * F * v + es))) * v + es) ≤ 6 * T + 1025 * F + 2 := by
  have hv : v = 1 / 16777216 := by grind
  subst hv
  grind
theorem part_grow (p g x : Nat) (T F : Rat) (hp : Sm p) (hg : Sm g) (hx : Sm x) (hT : 0 ≤ T) (bp : Flo.Ab (S p) (5 * T + 1)) (bg : Flo.Ab (S g) 1024) (bx : Flo.Ab (S x) F) (hTt : T ≤ Flo.pw 118) (hFt : F ≤ Flo.pw 110) :
    Sm (opB .add .f32 p (opB .mul .f32 g x)) ∧ Flo.Ab (S (opB .add .f32 p (opB .mul .f32 g x))) (6 * T + 1025 * F + 2) := by
  have l1 : Flo.pw 126 = 256 * Flo.pw 118 := by rw [show (126 : Int) = 8 + 118 from rfl, Flo.pw_add, show Flo.pw 8 = 256 from Flo.pw_nat 8]
  have l2 : Flo.pw 126 = 65536 * Flo.pw 110 := by rw [show (126 : Int) = 16 + 110 from rfl, Flo.pw_add, show Flo.pw 16 = 65536 from Flo.pw_nat 16]
  have l3 := Flo.pw_lt (a := 126) (b := 127) (by omega)
  have l4 : 1 ≤ Flo.pw 110 := by rw [← Flo.pw_zero]; exact Flo.pw_le (by omega)
  have es1 := small'.es1
  have es0 := Flo.es_pos
  have ve := Flo.v_eq
  have hv : Flo.v = 1 / 16777216 := by grind
  have hF0 := bx.nonneg
  obtain ⟨g1, a1, a2, a3⟩ := Flo.s_mul g x hg hx (1024 * F) (bg.mul bx) (by grind)
  obtain ⟨-, b1⟩ := Calm.of a1
  have bg1 : Flo.Ab (S g1) (1024 * F + (1024 * F * Flo.v + Flo.es)) := ((bg.mul bx).add a3).eq (by grind)
  have hs : Flo.Ab (S p + S g1) (5 * T + 1 + (1024 * F + (1024 * F * Flo.v + Flo.es))) := bp.add bg1
  obtain ⟨r, r1, r2, r3⟩ := Flo.s_add p g1 hp a2 _ hs (by rw [hv]; grind)
  obtain ⟨-, b2⟩ := Calm.of r1
  rw [b1, b2]
  exact ⟨r2, ((hs.add r3).eq (by grind)).mono (grow_num T F Flo.v Flo.es hT hF0 ve es0 es1)⟩
/-- A STEP OF THE FIRST TEN: finite, and its parts are bounded. -/
theorem step_grow (m : M4) (hm : m.ok) (s : Nat × Nat) (x : Nat) (h1 : Sm s.1) (h2 : Sm s.2) (hx : Sm x) (T F : Rat) (r1 : Flo.Ab (S s.1) T) (r2 : Flo.Ab (S s.2) T) (bx : Flo.Ab (S x) F) (bg1 : Flo.Ab (S m.gr) 1024) (bg2 : Flo.Ab (S m.gi) 1024) (hT : T ≤ Flo.pw 118) (hF : F ≤ Flo.pw 110) :
    StepOk m s x ∧ Sm (stepS m s x).1 ∧ Sm (stepS m s x).2 ∧ Flo.Ab (S (stepS m s x).1) (6 * T + 1025 * F + 2) ∧ Flo.Ab (S (stepS m s x).2) (6 * T + 1025 * F + 2) := by
  obtain ⟨n1, n2, n3, n4⟩ := hm.nums
  have P := prod_ok m hm s h1 h2 T r1 r2 hT
  obtain ⟨a1, a2⟩ := part_grow _ m.gr x T F P.n1 n3 hx r1.nonneg P.b1 bg1 bx hT hF
  obtain ⟨c1, c2⟩ := part_grow _ m.gi x T F P.n2 n4 hx r1.nonneg P.b2 bg2 bx hT hF
  exact ⟨step_wide m hm s x h1 h2 hx T r1 r2 hT, a1, c1, a2, c2⟩

end Go.Proofs.Ytfgofmcpgfofaaa

/- Plain facts on rooms: weights make no gain greater, a gain of 0 rings as nothing, a weight of 1 changes nothing. No program stands in it.
   Conditions: those that each statement names. -/
namespace Go.Proofs.Ytfgofmcpgfofaaa
open Go

theorem ra_one {q : Rat} (h : Flo.Ab q 1) : ra q ≤ 1 := ra_le h
/-- a weight from -1 to 1 makes no part greater -/
theorem wt_part (q t : Nat) (hq : Sm q) (ht : Wt t) (hb : ra (S q) ≤ 2048) :
    Calm .mul .f32 q t ∧ Sm (opB .mul .f32 q t) ∧ ra (S (opB .mul .f32 q t)) ≤ ra (S q) := by
  have n1 := one_s
  have l1 : (2048 : Rat) < Flo.pw 127 := by
    have : Flo.pw 11 < Flo.pw 127 := Flo.pw_lt (by omega)
    rw [show Flo.pw 11 = 2048 from Flo.pw_nat 11] at this
    exact this
  have hqn := ra_nonneg (S q)
  have hm := Rat.mul_le_mul_of_nonneg_left (ra_one ht.2) hqn
  obtain ⟨r, r', e1, e2, e3, e4, e5⟩ := Flo.mul_mono Ieee.single (by decide) q t q 1065353216 hq ht.1 hq n1.1
    (by rw [ra_mul, ra_mul, show Flo.V Ieee.single 1065353216 = 1 from n1.2, ra_pos (show (0:Rat) ≤ 1 by grind)]; exact hm)
    (by rw [ra_mul, show Flo.V Ieee.single 1065353216 = 1 from n1.2, ra_pos (show (0:Rat) ≤ 1 by grind), show Flo.top Ieee.single = 127 from by decide]; show ra (S q) * 1 < _; grind)
  obtain ⟨z, z1, z2, z3⟩ := Flo.mul_fix Ieee.single (by decide) q 1065353216 q hq n1.1 hq
    (by rw [show Flo.V Ieee.single 1065353216 = 1 from n1.2, show Flo.V Ieee.single q * 1 = Flo.V Ieee.single q by grind])
    (by rw [show Flo.top Ieee.single = 127 from by decide]; show ra (S q) < _; grind)
  rw [e2] at z1
  cases z1
  rw [z3, show Flo.V Ieee.single 1065353216 = 1 from n1.2, show Flo.V Ieee.single q * 1 = Flo.V Ieee.single q by grind] at e5
  obtain ⟨c1, b1⟩ := Calm.of (show floatBits .mul .f32 q t = some r from e1)
  rw [b1]
  exact ⟨c1, e3, e5⟩
theorem wt_mul (a b : Nat) (ha : Wt a) (hb : Wt b) : Calm .mul .f32 a b ∧ Wt (opB .mul .f32 a b) := by
  have h1 := ra_one ha.2
  obtain ⟨c, s, l⟩ := wt_part a b ha.1 hb (by grind)
  refine ⟨c, s, ?_⟩
  have := ra_ab (S (opB .mul .f32 a b))
  unfold Flo.Ab at *
  constructor <;> grind
theorem wt_zero : Wt 0 := ⟨nil_s.1, by rw [nil_s.2]; constructor <;> grind⟩
theorem wt_one : Wt 1065353216 := ⟨one_s.1, by rw [one_s.2]; constructor <;> grind⟩
theorem mulB_comm (a b : Nat) : opB .mul .f32 a b = opB .mul .f32 b a := by
  show (Ieee.single.mul a b).getD 0 = (Ieee.single.mul b a).getD 0
  rw [Flo.mul_comm']

/-! ### weighed modes -/
def weighM (w : Nat) (m : M4) : M4 := ⟨m.pr, m.pi, opB .mul .f32 m.gr w, opB .mul .f32 m.gi w⟩
theorem gain_2048 {m : M4} (h : m.ok) : ra (S m.gr) ≤ 2048 ∧ ra (S m.gi) ≤ 2048 := by
  have := (gain_ok m h).2.2
  have h1 := ra_nonneg (S m.gr)
  have h2 := ra_nonneg (S m.gi)
  unfold gm at this
  constructor <;> grind
theorem labs_1024 {g g' : Nat} (hg : Sm g) (hg' : Sm g') (hl : ra (S g') ≤ ra (S g)) (h : leB (labs (wid g)) 4652218415073722368 = true) : leB (labs (wid g')) 4652218415073722368 = true := by
  obtain ⟨n, v⟩ := wid_num hg
  obtain ⟨n', v'⟩ := wid_num hg'
  obtain ⟨l, lv⟩ := labs_num _ (wid_lt g) n
  obtain ⟨l', lv'⟩ := labs_num _ (wid_lt g') n'
  have h1 := (leB_iff l num_1024).1 h
  refine (leB_iff l' num_1024).2 ?_
  rw [lv, v] at h1
  rw [lv', v']
  grind
theorem weighM_calm (m : M4) (w : Nat) (h : m.ok) (hw : Wt w) : Calm .mul .f32 m.gr w ∧ Calm .mul .f32 m.gi w := by
  obtain ⟨s1, s2, s3, s4⟩ := h.nums
  obtain ⟨b1, b2⟩ := gain_2048 h
  exact ⟨(wt_part m.gr w s3 hw b1).1, (wt_part m.gi w s4 hw b2).1⟩
theorem weighM_ok (m : M4) (w : Nat) (h : m.ok) (hw : Wt w) : (weighM w m).ok := by
  obtain ⟨s1, s2, s3, s4⟩ := h.nums
  obtain ⟨b1, b2⟩ := gain_2048 h
  obtain ⟨f1, f2, f3, f4, f5, f6, f7⟩ := Valid.parts h
  obtain ⟨-, a1, a2⟩ := wt_part m.gr w s3 hw b1
  obtain ⟨-, c1, c2⟩ := wt_part m.gi w s4 hw b2
  show modeB m.pr m.pi (opB .mul .f32 m.gr w) (opB .mul .f32 m.gi w) labs = true
  unfold modeB
  rw [f1, f2, f5, (fin_iff' .f32 _).2 a1, (fin_iff' .f32 _).2 c1, labs_1024 s3 a1 a2 f6, labs_1024 s4 c1 c2 f7]
  rfl

/-- the modes, each weighed by its weight -/
def weighL (ms : List M4) (ws : List Nat) : List M4 := List.zipWith (fun m w => weighM w m) ms ws
theorem weighL_len (ms : List M4) (ws : List Nat) (h : ws.length = ms.length) : (weighL ms ws).length = ms.length := by simp [weighL, h]
theorem weighL_at (ms : List M4) (ws : List Nat) (k : Nat) (m : M4) (w : Nat) (h1 : ms[k]? = some m) (h2 : ws[k]? = some w) : (weighL ms ws)[k]? = some (weighM w m) := by
  unfold weighL; rw [List.getElem?_zipWith, h1, h2]
theorem zipw_mem {α β γ : Type} (f : α → β → γ) : ∀ (xs : List α) (ys : List β) (z : γ), z ∈ List.zipWith f xs ys → ∃ x ∈ xs, ∃ y ∈ ys, z = f x y
  | [], _, _, h => by simp at h
  | x :: xs, [], _, h => by simp at h
  | x :: xs, y :: ys, z, h => by
    simp only [List.zipWith_cons_cons] at h
    rcases List.mem_cons.1 h with h | h
    · exact ⟨x, List.mem_cons_self .., y, List.mem_cons_self .., h⟩
    · obtain ⟨a, ha, b, hb, e⟩ := zipw_mem f xs ys z h
      exact ⟨a, List.mem_cons_of_mem _ ha, b, List.mem_cons_of_mem _ hb, e⟩
theorem weighL_ok (ms : List M4) (ws : List Nat) (h : ∀ m ∈ ms, m.ok) (hw : ∀ w ∈ ws, Wt w) : ∀ m ∈ weighL ms ws, m.ok := by
  intro m hm
  obtain ⟨m0, h0, w, h1, rfl⟩ := zipw_mem _ _ _ _ hm
  exact weighM_ok m0 w (h m0 h0) (hw w h1)
/-- products of weights -/
def mulW (a b : List Nat) : List Nat := List.zipWith (fun x y => opB .mul .f32 x y) a b
theorem mulW_len (a b : List Nat) (h : a.length = b.length) : (mulW a b).length = a.length := by simp [mulW, h]
theorem mulW_comm : ∀ (a b : List Nat), mulW a b = mulW b a
  | [], [] => rfl
  | [], _ :: _ => rfl
  | _ :: _, [] => rfl
  | x :: xs, y :: ys => by
    show opB .mul .f32 x y :: mulW xs ys = opB .mul .f32 y x :: mulW ys xs
    rw [mulB_comm x y, mulW_comm xs ys]
theorem mulW_wt (a b : List Nat) (ha : ∀ x ∈ a, Wt x) (hb : ∀ x ∈ b, Wt x) : ∀ x ∈ mulW a b, Wt x := by
  intro x hx
  obtain ⟨p, hp, q, hq, rfl⟩ := zipw_mem _ _ _ _ hx
  exact (wt_mul p q (ha p hp) (hb q hq)).2

/-! ### what is read decides -/
theorem mul_read {a b x : Nat} (h : Ieee.single.read a = Ieee.single.read b) : opB .mul .f32 x a = opB .mul .f32 x b := by
  show (Ieee.single.mul x a).getD 0 = (Ieee.single.mul x b).getD 0
  unfold Ieee.Format.mul; rw [h]
theorem add_read {a b x : Nat} (h : Ieee.single.read a = Ieee.single.read b) : opB .add .f32 x a = opB .add .f32 x b := by
  show (Ieee.single.add x a).getD 0 = (Ieee.single.add x b).getD 0
  unfold Ieee.Format.add; rw [h]
theorem calm_add_read {a b x : Nat} (h : Ieee.single.read a = Ieee.single.read b) (c : Calm .add .f32 x b) : Calm .add .f32 x a := by
  refine calm_some (fun e => ?_)
  have h2 : floatBits .add .f32 x a = floatBits .add .f32 x b := by
    show Ieee.single.add x a = Ieee.single.add x b
    unfold Ieee.Format.add; rw [h]
  rw [h2, c] at e
  cases e
/-- weights of 1 -/
theorem weigh_ones : ∀ (ms : List M4) (ws : List Nat), (∀ w ∈ ws, Sm w) → weighL ms (mulW ws (List.replicate ws.length 1065353216)) = weighL ms ws
  | [], ws, _ => by simp [weighL]
  | m :: ms, [], _ => by simp [weighL, mulW]
  | m :: ms, w :: ws, h => by
    show weighM (opB .mul .f32 w 1065353216) m :: weighL ms (mulW ws (List.replicate ws.length 1065353216)) = weighM w m :: weighL ms ws
    rw [weigh_ones ms ws (fun w hw => h w (List.mem_cons_of_mem _ hw))]
    have r := mul_one_read (h w (List.mem_cons_self ..))
    unfold weighM
    rw [mul_read r, mul_read r]

/-! ### rings of up to 16 modes -/
theorem ring_small16 (ms : List M4) (hms : ∀ m ∈ ms, m.ok) (q n : Nat) (hq : ms.length = q) (hq16 : q ≤ 16) (hn : n ≤ 100) (xs : List Nat) (hxs : xs.length ≤ 20) (hsm : ∀ x ∈ xs, Sm x ∧ Flo.Ab (S x) 5) :
    RingOk ms (inputOf xs) n ∧ ∀ x ∈ ringS ms (inputOf xs) n, Sm x := by
  have hG : rs gm ms ≤ 32768 ∧ 0 ≤ rs gm ms := by
    have h1 := rs_max gm 2048 ms (fun m hm => (gain_ok m (hms m hm)).2.2)
    have h2 : (ms.length : Rat) ≤ 16 := by
      have : ((ms.length : Nat) : Rat) ≤ ((16 : Nat) : Rat) := by exact_mod_cast (by omega : ms.length ≤ 16)
      exact this
    exact ⟨by grind, rs_nonneg gm _ (fun m _ => gm_nonneg m)⟩
  have hX : xsum xs ≤ 100 := by
    have h1 := xsum_le xs 5 (fun x hx => ra_le (hsm x hx).2)
    have h2 : ((xs.length : Nat) : Rat) ≤ ((20 : Nat) : Rat) := by exact_mod_cast hxs
    have h3 : ((20 : Nat) : Rat) = 20 := rfl
    grind
  have hgx : rs gm ms * xsum xs ≤ 3276800 := by
    have h1 := Rat.mul_le_mul_of_nonneg_right hG.1 (xsum_nonneg xs)
    grind
  have hP100 : (3276800 : Rat) ≤ Flo.pw 100 := by
    have h1 : Flo.pw 40 ≤ Flo.pw 100 := Flo.pw_le (by omega)
    rw [show Flo.pw 40 = 1099511627776 from Flo.pw_nat 40] at h1
    grind
  have hD := drift_ok ms hms (inputOf xs) n q hq (by omega) (by omega) (by
      intro i _
      by_cases hi : i < xs.length
      · have e : xs[i]? = some xs[i] := List.getElem?_eq_getElem hi
        rw [show inputOf xs i = xs[i] from by unfold inputOf; rw [List.getD_eq_getElem?_getD, e]; rfl]
        exact (hsm _ (List.getElem_mem hi)).1
      · rw [show inputOf xs i = 0 from by unfold inputOf; rw [List.getD_eq_getElem?_getD, List.getElem?_eq_none (by omega)]; rfl]
        exact zero_single.1) (xsum xs) (fun i _ => by rw [psum_xsum]; exact xsum_take_le _ i) (xsum_nonneg _) (by grind)
  refine ⟨hD.1, fun x hx => ?_⟩
  obtain ⟨i, hi, rfl⟩ := List.mem_map.1 hx
  exact (hD.2.2.1 i (List.mem_range.1 hi)).1
theorem input_sm (xs : List Nat) (h : ∀ x ∈ xs, Sm x) (i : Nat) : Sm (inputOf xs i) := by
  by_cases hi : i < xs.length
  · have e : xs[i]? = some xs[i] := List.getElem?_eq_getElem hi
    rw [show inputOf xs i = xs[i] from by unfold inputOf; rw [List.getD_eq_getElem?_getD, e]; rfl]
    exact h _ (List.getElem_mem hi)
  · rw [show inputOf xs i = 0 from by unfold inputOf; rw [List.getD_eq_getElem?_getD, List.getElem?_eq_none (by omega)]; rfl]
    exact zero_single.1

/-! ### a gain of 0 -/
def Mute (m : M4) : Prop := Flo.Zr Ieee.single m.gr ∧ Flo.Zr Ieee.single m.gi
theorem mute_state (m : M4) (hm : m.ok) (hz : Mute m) (x : Nat → Nat) (hx : ∀ i, Sm (x i)) : ∀ i, Flo.Zr Ieee.single (st1 m x i).1 ∧ Flo.Zr Ieee.single (st1 m x i).2
  | 0 => ⟨zr_zero, zr_zero⟩
  | i + 1 => by
    obtain ⟨z1, z2⟩ := mute_state m hm hz x hx i
    obtain ⟨n1, n2, n3, n4⟩ := hm.nums
    have p1 := (wid_num n1).1
    have p2 := (wid_num n2).1
    have w1 := wid_zr z1
    have w2 := wid_zr z2
    exact ⟨add_zr' (k := .f32) (nar_zr (sub_zr' (k := .f64) (mul_zr' (k := .f64) w1 p1) (mul_zr' (k := .f64) w2 p2))) (mul_zr' (k := .f32) hz.1 (hx i)),
      add_zr' (k := .f32) (nar_zr (add_zr' (k := .f64) (mul_zr' (k := .f64) w1 p2) (mul_zr' (k := .f64) w2 p1))) (mul_zr' (k := .f32) hz.2 (hx i))⟩
theorem add_zero_val {a z : Nat} (ha : Sm a) (hz : Flo.Zr Ieee.single z) : Sm (opB .add .f32 a z) ∧ S (opB .add .f32 a z) = S a := by
  obtain ⟨s, m, p, h⟩ := ha
  obtain ⟨t, j, k⟩ := hz
  obtain ⟨q, c, b, h1, h2⟩ := Flo.sum_val s t m 0 p j
  rw [Flo.val_zero] at h2
  have he : Flo.Ev Ieee.single (Ieee.single.write (.number q c b)) (Ieee.single.write (.number s m p)) := Flo.write_ev _ _ _ _ _ _ _ (by rw [h2]; grind)
  have hr := Flo.read_back Ieee.single bin_inf h
  have e : opB .add .f32 a z = Ieee.single.write (.number q c b) := by
    show (Ieee.single.add a z).getD 0 = _
    unfold Ieee.Format.add; rw [h, k, h1]; rfl
  rw [e]
  rcases he with he | ⟨⟨s1, p1, h3⟩, ⟨s2, p2, h4⟩⟩
  · rw [he]
    exact ⟨⟨_, _, _, hr⟩, by rw [show S (Ieee.single.write (.number s m p)) = _ from Flo.V_eq hr, show S a = _ from Flo.V_eq h]⟩
  · rw [hr] at h4
    injection h4 with a1 a2 a3
    subst a2
    exact ⟨⟨_, _, _, h3⟩, by rw [show S (Ieee.single.write (.number q c b)) = _ from Flo.V_eq h3, show S a = _ from Flo.V_eq h, Flo.val_zero, Flo.val_zero]⟩
theorem fold_mute : ∀ (l : List (Nat × Nat)) (a : Nat), Sm a → (∀ s ∈ l, Flo.Zr Ieee.single s.1) → Sm (l.foldl (fun y s => opB .add .f32 y s.1) a) ∧ S (l.foldl (fun y s => opB .add .f32 y s.1) a) = S a
  | [], a, h, _ => ⟨h, rfl⟩
  | s :: l, a, h, hl => by
    obtain ⟨h1, h2⟩ := add_zero_val h (hl s (List.mem_cons_self ..))
    obtain ⟨h3, h4⟩ := fold_mute l _ h1 (fun s hs => hl s (List.mem_cons_of_mem _ hs))
    exact ⟨h3, h4.trans h2⟩
theorem mute_out (A Z : List M4) (hZ : ∀ m ∈ Z, m.ok ∧ Mute m) (x : Nat → Nat) (hx : ∀ i, Sm (x i)) (i : Nat) (hs : Sm (outS (stAt A x i))) :
    Sm (outS (stAt (A ++ Z) x i)) ∧ S (outS (stAt (A ++ Z) x i)) = S (outS (stAt A x i)) := by
  rw [stAt_map] at hs ⊢
  rw [stAt_map, List.map_append]
  unfold outS at *
  rw [List.foldl_append]
  refine fold_mute _ _ hs (fun s h => ?_)
  obtain ⟨m, hm, rfl⟩ := List.mem_map.1 h
  exact (mute_state m (hZ m hm).1 (hZ m hm).2 x hx i).1
theorem val_order {a b : Nat} (ha : Sm a) (hb : Sm b) (h : S a = S b) : (FloatKind.f32.format.order a b == some .eq) = true := by
  rw [show FloatKind.f32.format = Ieee.single from rfl, beq_iff_eq]
  exact (Flo.order_num Ieee.single a b ha hb).2.1.2 h

end Go.Proofs.Ytfgofmcpgfofaaa

/- The walk of TuneBody over a valid body and the number 1.
   Conditions: those that each statement names. -/
namespace Go.Proofs.Ytfgofmcpgfofaaa
open Go Go.RowKit

theorem tune_part1 (m : M4) (h : m.ok) : PartOk .sub m.pr 1065353216 m.pi 0 (S m.pr * S 1065353216 - S m.pi * S 0) 4 4 := by
  obtain ⟨s1, s2, s3, s4⟩ := h.nums
  obtain ⟨p1, p2⟩ := h.pole
  have l1 : (4 : Rat) ≤ Flo.pw 120 := by
    have : Flo.pw 2 ≤ Flo.pw 120 := Flo.pw_le (by omega)
    rw [show Flo.pw 2 = 4 from Flo.pw_nat 2] at this
    exact this
  have l2 : (4 : Rat) ≤ Flo.pw 125 := by
    have : Flo.pw 2 ≤ Flo.pw 125 := Flo.pw_le (by omega)
    rw [show Flo.pw 2 = 4 from Flo.pw_nat 2] at this
    exact this
  refine part_sub m.pr 1065353216 m.pi 0 s1 one_s.1 s2 nil_s.1 4 4 ?_ ?_ ?_ l1 l2
  all_goals (try rw [one_s.2]) <;> (try rw [nil_s.2])
  all_goals (unfold Flo.Ab at *; constructor <;> grind)
theorem tune_part2 (m : M4) (h : m.ok) : PartOk .add m.pr 0 m.pi 1065353216 (S m.pr * S 0 + S m.pi * S 1065353216) 4 4 := by
  obtain ⟨s1, s2, s3, s4⟩ := h.nums
  obtain ⟨p1, p2⟩ := h.pole
  have l1 : (4 : Rat) ≤ Flo.pw 120 := by
    have : Flo.pw 2 ≤ Flo.pw 120 := Flo.pw_le (by omega)
    rw [show Flo.pw 2 = 4 from Flo.pw_nat 2] at this
    exact this
  have l2 : (4 : Rat) ≤ Flo.pw 125 := by
    have : Flo.pw 2 ≤ Flo.pw 125 := Flo.pw_le (by omega)
    rw [show Flo.pw 2 = 4 from Flo.pw_nat 2] at this
    exact this
  refine part_add m.pr 0 m.pi 1065353216 s1 nil_s.1 s2 one_s.1 4 4 ?_ ?_ ?_ l1 l2
  all_goals (try rw [one_s.2]) <;> (try rw [nil_s.2])
  all_goals (unfold Flo.Ab at *; constructor <;> grind)

def tuneL (ms : List M4) (k : Nat) : List M4 := (ms.take k).map tuneM ++ ms.drop k
theorem tuneL_len (ms : List M4) (k : Nat) : (tuneL ms k).length = ms.length := by simp [tuneL]; omega
theorem tuneL_zero (ms : List M4) : tuneL ms 0 = ms := by simp [tuneL]
theorem tuneL_full (ms : List M4) (n : Nat) (h : ms.length = n) : tuneL ms n = ms.map tuneM := by
  simp [tuneL, List.take_of_length_le (Nat.le_of_eq h), List.drop_of_length_le (Nat.le_of_eq h)]
theorem tuneL_at (ms : List M4) (k : Nat) (m : M4) (h : ms[k]? = some m) : (tuneL ms k)[k]? = some m := by
  obtain ⟨hk, he⟩ := List.getElem?_eq_some_iff.1 h
  unfold tuneL
  rw [List.getElem?_append_right (by simp; omega)]
  simp only [List.length_map, List.length_take, Nat.min_eq_left (Nat.le_of_lt hk), Nat.sub_self, List.getElem?_drop, Nat.add_zero, h]
theorem tuneL_set (ms : List M4) (k : Nat) (m : M4) (h : ms[k]? = some m) : (tuneL ms k).set k (tuneM m) = tuneL ms (k + 1) := by
  obtain ⟨hk, he⟩ := List.getElem?_eq_some_iff.1 h
  unfold tuneL
  rw [List.take_succ_eq_append_getElem hk, he, List.drop_eq_getElem_cons hk, he, List.set_append_right _ _ (by simp; omega)]
  simp [Nat.min_eq_left (Nat.le_of_lt hk)]

def TuneI (ms : List M4) (n base D E : Nat) (v : Value) (w : World) (i : Value) (wr : World) : Prop :=
  ∃ k : Nat, k ≤ n ∧ i = .int .i64 (k : Int) ∧ wr.ownsRow base 38 2 v n (cellsM (tuneL ms k)) ∧ Has1 wr D (.slice none 0 0) ∧ Has1 wr E v ∧ Nw w wr

set_option maxRecDepth 100000 in
theorem tuneBody_ok (ms : List M4) (hms : ∀ m ∈ ms, m.ok) (n bm : Nat) (v : Value) (hn : ms.length = n) (hn16 : n ≤ 16) (w : World)
    (hm : w.ownsRow bm 38 2 v n (cellsM ms)) :
    Calls Try.prog 40 #[.agg #[v], .complex .f32 1065353216 0] w (DampP n (ms.map tuneM) w) := by
  obtain ⟨va, vc, rfl⟩ := own_shape' hm
  have Hm := Lib.hid ((hm.alloc (.cells #[.slice va n vc] 45 (0, 0))).alloc (.cells #[.slice none 0 0] 45 (0, 0)))
  have Hms := Lib.hid hms
  have Hn := Lib.hid hn
  have N0 := Lib.hid (((Nw.refl w).alloc (.cells #[.slice va n vc] 45 (0, 0))).alloc (.cells #[.slice none 0 0] 45 (0, 0)))
  have B0 := Lib.hid ((Has1.new w 45 (.slice va n vc)).alloc (.cells #[.slice none 0 0] 45 (0, 0)))
  have D0 := Lib.hid (Has1.new (w.alloc (.cells #[.slice va n vc] 45 (0, 0))) 45 (.slice none 0 0))
  rw [show (w.alloc (.cells #[.slice va n vc] 45 (0, 0))).heap.size = w.heap.size + 1 from by simp] at D0
  clear hm hms hn
  go_enter Try.func40, Try.ntmps40
  go_wp2_with fail
  refine (implIsBody_ok ms Hms.out n bm _ Hn.out hn16 _ Hm.out).mono ?_
  rintro e w1 ⟨rfl, n1⟩
  have N1 := Lib.hid (N0.out.trans n1)
  have M1 := Lib.hid (own_nw Hm.out n1)
  have B1 := Lib.hid (B0.out.nw n1)
  have D1 := Lib.hid (D0.out.nw n1)
  clear n1
  obtain ⟨b0, b1, b2⟩ := B1.out
  go_wp2_with fail
  refine (clone_modes ms n bm _ Hn.out (by omega) _ M1.out).mono ?_
  rintro e w3 ⟨v3, rfl, own3, n3⟩
  obtain ⟨va3, vc3, rfl⟩ := own_shape' own3
  rw [Hn.out] at own3 ⊢
  have N3 := Lib.hid ((N1.out.trans n3).alloc (.cells #[.slice va3 n vc3] 45 (0, 0)))
  have Hlt3 := Lib.hid (fun q hq => (own3.lt q hq).2)
  have O3 := Lib.hid (own3.alloc (.cells #[.slice va3 n vc3] 45 (0, 0)))
  have D3 := Lib.hid ((D1.out.nw n3).alloc (.cells #[.slice va3 n vc3] 45 (0, 0)))
  have E3 := Lib.hid (Has1.new w3 45 (.slice va3 n vc3))
  have hs3 := Lib.hid (show w.heap.size + 2 ≤ w3.heap.size from by have h1 := (D1.out.nw n3).1; omega)
  have hs1 := Lib.hid (show w.heap.size + 2 ≤ w1.heap.size from by have h1 := D1.out.1; omega)
  clear own3 n3 b0 b1 b2
  obtain ⟨d0, d1, d2⟩ := D3.out
  go_wp2_with fail
  go_loopw [20] (fun i wr => TuneI ms n w1.heap.size (w.heap.size + 1) w3.heap.size (.slice va3 n vc3) w i wr) (fun i _ => n - (intOf i).toNat)
  case atStart => exact ⟨0, by omega, rfl, by rw [tuneL_zero]; exact O3.out, D3.out, E3.out, N3.out⟩
  case round =>
    obtain ⟨k, hk, rfl, own, hD, hE, hN⟩ := hrel
    have Ow := Lib.hid own
    have Dw := Lib.hid hD
    have Ew := Lib.hid hE
    have Nr := Lib.hid hN
    clear own hD hE hN d0 d1 d2
    by_cases hlt : k < n
    · obtain ⟨m, hmk⟩ : ∃ m, ms[k]? = some m := ⟨ms[k]'(by rw [Hn.out]; exact hlt), List.getElem?_eq_getElem _⟩
      obtain ⟨g, cap, hv, hcap, hmax, hgs, e1, e2⟩ := own_mode Ow.out (tuneL_at ms k m hmk) (by rw [tuneL_len, Hn.out])
      cases hv
      have Hmk := Lib.hid hmk
      have Hmo := Lib.hid (Hms.out m (List.mem_of_getElem? hmk))
      unfold maxLen at hmax
      clear hmk
      have K1 := Lib.hid (HasMode.new wr 38 m.pr m.pi m.gr m.gi)
      have K2 := Lib.hid (Ow.out.alloc (.cells #[.complex .f32 m.pr m.pi, .complex .f32 m.gr m.gi] 38 (0, 0)))
      have K3 := Lib.hid (Dw.out.alloc (.cells #[.complex .f32 m.pr m.pi, .complex .f32 m.gr m.gi] 38 (0, 0)))
      have K4 := Lib.hid (Ew.out.alloc (.cells #[.complex .f32 m.pr m.pi, .complex .f32 m.gr m.gi] 38 (0, 0)))
      have K5 := Lib.hid (Nr.out.alloc (.cells #[.complex .f32 m.pr m.pi, .complex .f32 m.gr m.gi] 38 (0, 0)))
      go_wp2_with fail
      obtain ⟨w4, hw4⟩ : ∃ w4, w4 = wr.alloc (.cells #[.complex .f32 m.pr m.pi, .complex .f32 m.gr m.gi] 38 (0, 0)) := ⟨_, rfl⟩
      rw [← hw4] at K1 K2 K3 K4 K5
      rw [← hw4]
      clear hw4 e1 e2
      obtain ⟨l0, l1, l2, l3, l4⟩ := K1.out
      obtain ⟨f0, f1, f2⟩ := K4.out
      obtain ⟨s1, s2, s3, s4⟩ := Hmo.out.nums
      obtain ⟨p1, p2⟩ := Hmo.out.pole
      have P1 := Lib.hid (tune_part1 m Hmo.out)
      have P2 := Lib.hid (tune_part2 m Hmo.out)
      refine wp_region_still_tail 7 (by kernel_rfl) (by kernel_rfl) ?_
      simp only [List.take_succ_cons, List.take_zero, List.drop_succ_cons, List.drop_zero]
      repeat still_step
      still_call ((implMulSingle_ok _ _ _ _ _ s1 s2 one_s.1 nil_s.1 ⟨_, _, _, P1.out⟩ ⟨_, _, _, P2.out⟩).mono fun _ _ h => ⟨h.1, h.2.symm⟩)
      refine wpStill_nil ?_
      change wpList _ _ _ _ _ (w4.drewN 1)
      have G2 := Lib.hid (own_nw K2.out ((Nw.refl w4).draw 1))
      have G3 := Lib.hid (K3.out.draw 1)
      have G4 := Lib.hid (K4.out.draw 1)
      have G5 := Lib.hid (K5.out.draw 1)
      have hs4 := (K2.out.lt _ rfl)
      clear l0 l1 l2 l3 l4 f0 f1 f2
      generalize w4.drewN 1 = w5 at *
      have e3 := G2.out.cellAt (k * 2) (by omega)
      have hc := (cellsM_at _ k m (tuneL_at ms k m Hmk.out)).1
      rw [Nat.mul_comm] at hc
      rw [hc] at e3
      have e4 := G2.out.frozenAt (k * 2)
      have hset := G2.out.stored (k * 2) (.complex .f32 (tuneM m).pr (tuneM m).pi)
      rw [cellsM_set (tuneL ms k) k m (tuneM m) (tuneL_at ms k m Hmk.out) ⟨rfl, rfl⟩, tuneL_set ms k m Hmk.out] at hset
      have hs1' := hs1.out
      have hs3' := hs3.out
      have hg1 : w1.heap.size ≤ g := (K2.out.lt g rfl).1
      have hg3 : g < w3.heap.size := Hlt3.out g rfl
      have hne : g ≠ w3.heap.size := by omega
      have hfin : TuneI ms n w1.heap.size (w.heap.size + 1) w3.heap.size (.slice (some ⟨g, 0, none⟩) n vc3) w (.int .i64 ((k : Int) + 1)) (w5.setCell ⟨g, k * 2, none⟩ (.complex .f32 (tuneM m).pr (tuneM m).pi)) :=
        ⟨k + 1, by omega, by rw [show ((k + 1 : Nat) : Int) = (k : Int) + 1 from by omega], hset.1, G3.out.set (by show g ≠ w.heap.size + 1; omega) _, G4.out.set hne _, G5.out.set (by show w.heap.size ≤ g; omega) _⟩
      have Hfin := Lib.hid hfin
      clear hfin hset hc
      go_wp2_with fail
      go_roundw
      case rel => exact Hfin.out
      case measure => simp only [intOf]; omega
    · obtain rfl : k = n := by omega
      obtain ⟨f0, f1, f2⟩ := Ew.out
      obtain ⟨d0, d1, d2⟩ := Dw.out
      go_wp2_with fail
      have Of := Lib.hid (show wr.ownsRow w1.heap.size 38 2 (.slice va3 k vc3) k (cellsM (ms.map tuneM)) from by rw [← tuneL_full ms k Hn.out]; exact Ow.out)
      refine (implIsBody_ok (ms.map tuneM) (fun m hm => by obtain ⟨m0, h0, rfl⟩ := List.mem_map.1 hm; exact (tuneM_ok m0 (Hms.out m0 h0)).1) k _ _ (by rw [List.length_map]; exact Hn.out) hn16 _ Of.out).mono ?_
      rintro e w6 ⟨rfl, n6⟩
      have O6 := Lib.hid (own_nw Of.out n6)
      have D6 := Lib.hid (Dw.out.nw n6)
      have E6 := Lib.hid (Ew.out.nw n6)
      have N6 := Lib.hid (Nr.out.trans n6)
      clear f0 f1 f2 d0 d1 d2 n6
      obtain ⟨f0, f1, f2⟩ := E6.out
      obtain ⟨d0, d1, d2⟩ := D6.out
      go_wp2_with fail
      exact bodyPost_ret (v := .tuple #[.agg #[.slice va3 k vc3], .bool true]) (by simp [results, Try.results40, go_sem, d0, d1, d2]) rfl ⟨_, rfl, own_base (own_set O6.out (by show w.heap.size + 1 < w1.heap.size; have := hs1.out; omega) _) (by have := hs1.out; omega), N6.out.set (by show w.heap.size ≤ w.heap.size + 1; omega) _⟩

end Go.Proofs.Ytfgofmcpgfofaaa

/- The walks of EqualSingle and mergeMode over modes with finite parts.
   Conditions: those that each statement names. -/
namespace Go.Proofs.Ytfgofmcpgfofaaa
open Go Go.RowKit

def eqB (a b : Nat) : Bool := FloatKind.f32.format.order a b == some .eq

theorem equalSingle_any (a b c d : Nat) (w : World) :
    Calls Try.prog 39 #[.complex .f32 a b, .complex .f32 c d] w fun e w' => e = .returned (.bool (eqB a c && eqB b d)) ∧ w = w' := by
  go_enter Try.func39, Try.ntmps39
  go_wp2
  go_ret
  exact ⟨rfl, rfl⟩

def poleEq (x m : M4) : Bool := eqB x.pr m.pr && eqB x.pi m.pi
def addG (x m : M4) : M4 := ⟨x.pr, x.pi, opB .add .f32 x.gr m.gr, opB .add .f32 x.gi m.gi⟩
/-- one mode more: added to the first one with an equal pole, or put at the end -/
def put1 : List M4 → M4 → List M4
  | [], m => [m]
  | x :: l, m => if poleEq x m then addG x m :: l else x :: put1 l m
theorem put1_none (l : List M4) (m : M4) (h : ∀ j : Nat, j < l.length → ∀ x, l[j]? = some x → poleEq x m = false) : put1 l m = l ++ [m] := by
  induction l with
  | nil => rfl
  | cons x l ih =>
    have h0 := h 0 (by simp) x rfl
    simp only [put1, h0, Bool.false_eq_true, if_false, List.cons_append]
    rw [ih (fun j hj y hy => h (j + 1) (by simp; omega) y (by simpa using hy))]
theorem put1_hit (l : List M4) (m : M4) (k : Nat) (x : M4) (hk : l[k]? = some x) (hx : poleEq x m = true) (h : ∀ j : Nat, j < k → ∀ x, l[j]? = some x → poleEq x m = false) : put1 l m = l.set k (addG x m) := by
  induction l generalizing k with
  | nil => simp at hk
  | cons y l ih =>
    cases k with
    | zero =>
      simp at hk
      subst hk
      simp [put1, hx]
    | succ k =>
      have h0 := h 0 (by omega) y rfl
      simp only [put1, h0, Bool.false_eq_true, if_false, List.set_cons_succ]
      rw [ih k (by simpa using hk) (fun j hj z hz => h (j + 1) (by omega) z (by simpa using hz))]
theorem put1_len (l : List M4) (m : M4) : (put1 l m).length = l.length ∨ (put1 l m).length = l.length + 1 := by
  induction l with
  | nil => right; rfl
  | cons x l ih =>
    unfold put1
    split
    · left; simp
    · rcases ih with h | h <;> simp [h]

theorem cellsM_setG (l : List M4) (k : Nat) (m m' : M4) (h : l[k]? = some m) (hg : m'.pr = m.pr ∧ m'.pi = m.pi) :
    (cellsM l).set (k * 2 + 1) (.complex .f32 m'.gr m'.gi) = cellsM (l.set k m') := by
  induction l generalizing k with
  | nil => simp at h
  | cons x l ih =>
    cases k with
    | zero =>
      simp at h
      subst h
      simp [cellsM, M4.cells, hg.1, hg.2]
    | succ k =>
      have hk := ih k (by simpa using h)
      simp only [cellsM, List.flatMap_cons, List.set_cons_succ] at *
      rw [show (k + 1) * 2 + 1 = k * 2 + 1 + 2 from by omega]
      simp only [M4.cells, List.cons_append, List.nil_append, List.set_cons_succ]
      rw [hk]

def MergeP (base : Nat) (v : Value) (out : List M4) (w : World) (e : Ending) (w' : World) : Prop :=
  ∃ v', e = .returned v' ∧ w'.ownsRow base 38 2 v' out.length (cellsM out) ∧ w.grownBy w' v.ownBlock
def MergeI (out : List M4) (m : M4) (n base : Nat) (v : Value) (b : Nat) (w : World) (i : Value) (wr : World) : Prop :=
  ∃ k : Nat, k ≤ n ∧ i = .int .i64 (k : Int) ∧ (∀ j : Nat, j < k → ∀ x, out[j]? = some x → poleEq x m = false) ∧ wr.ownsRow base 38 2 v n (cellsM out) ∧ HasMode wr b m.pr m.pi m.gr m.gi ∧ w.grownBy wr v.ownBlock

set_option maxRecDepth 100000 in
theorem mergeMode_ok (out : List M4) (m : M4) (n base : Nat) (v : Value) (hn : out.length = n) (hn64 : n ≤ 64) (w : World) (hb : base ≤ w.heap.size)
    (hc : ∀ x ∈ out, Calm .add .f32 x.gr m.gr ∧ Calm .add .f32 x.gi m.gi) (hm : w.ownsRow base 38 2 v n (cellsM out)) :
    Calls Try.prog 86 #[v, .agg #[.complex .f32 m.pr m.pi, .complex .f32 m.gr m.gi]] w (MergeP base v (put1 out m) w) := by
  obtain ⟨va, vc, rfl⟩ := own_shape' hm
  have Hm := Lib.hid hm
  have Hn := Lib.hid hn
  have Hc := Lib.hid hc
  have H0 := Lib.hid (hm.alloc (.cells #[.complex .f32 m.pr m.pi, .complex .f32 m.gr m.gi] 38 (0, 0)))
  have M0 := Lib.hid (HasMode.new w 38 m.pr m.pi m.gr m.gi)
  have G0 := Lib.hid (World.grownBy_alloc w (.cells #[.complex .f32 m.pr m.pi, .complex .f32 m.gr m.gi] 38 (0, 0)) (Value.slice va n vc).ownBlock)
  have Hlt := Lib.hid (fun q hq => (hm.lt q hq).2)
  clear hm hn hc
  go_enter Try.func86, Try.ntmps86
  go_wp2_with fail
  go_loopw [8] (fun i wr => MergeI out m n base (.slice va n vc) w.heap.size w i wr) (fun i _ => n - (intOf i).toNat)
  case atStart => exact ⟨0, by omega, rfl, fun j hj => absurd hj (by omega), H0.out, M0.out, G0.out⟩
  case round =>
    obtain ⟨k, hk, rfl, hno, hrow, hmo, hgr⟩ := hrel
    have Hno := Lib.hid hno
    have Hro := Lib.hid hrow
    have Hmo := Lib.hid hmo
    have Hgr := Lib.hid hgr
    clear hno hrow hmo hgr
    by_cases hlt : k < n
    · obtain ⟨x, hxk⟩ : ∃ x, out[k]? = some x := ⟨out[k]'(by rw [Hn.out]; exact hlt), List.getElem?_eq_getElem _⟩
      obtain ⟨g, cap, hv, hcap, hmax, hgs, e1, e2⟩ := own_mode Hro.out hxk Hn.out.symm
      cases hv
      have Hxk := Lib.hid hxk
      obtain ⟨l0, l1, l2, l3, l4⟩ := Hmo.out
      unfold maxLen at hmax
      clear hxk
      cases hb : poleEq x m with
      | false =>
        have hb0 := hb
        unfold poleEq eqB at hb0
        go_wp2_with fail
        go_quiet (fail)
        have R1 := Lib.hid (own_nw Hro.out ((Nw.refl wr).draw nq))
        have R2 := Lib.hid (Hmo.out.draw nq)
        have R3 := Lib.hid (Hgr.out.trans' ⟨rfl, rfl, rfl, Nat.le_refl _, fun _ _ _ => rfl⟩ : w.grownBy (wr.drewN nq) _)
        clear l0 l1 l2 l3 l4 e1 e2
        go_wp2_with fail
        go_roundw
        case rel =>
          refine ⟨k + 1, by omega, by rw [show ((k + 1 : Nat) : Int) = (k : Int) + 1 from by omega], fun j hj y hy => ?_, R1.out, R2.out, R3.out⟩
          by_cases hjk : j < k
          · exact Hno.out j hjk y hy
          · obtain rfl : j = k := by omega
            rw [Hxk.out] at hy
            cases hy
            exact hb
        case measure => simp only [intOf]; omega
      | true =>
        have hb0 := hb
        unfold poleEq eqB at hb0
        go_wp2_with fail
        go_quiet (fail)
        have R1 := Lib.hid (own_nw Hro.out ((Nw.refl wr).draw nq))
        have R2 := Lib.hid (Hmo.out.draw nq)
        have R3 := Lib.hid (Hgr.out.trans' ⟨rfl, rfl, rfl, Nat.le_refl _, fun _ _ _ => rfl⟩ : w.grownBy (wr.drewN nq) _)
        clear l0 l1 l2 l3 l4 e1 e2
        generalize wr.drewN nq = w2 at *
        obtain ⟨g', cap', hv', hcap', hmax', hgs', e1, e2⟩ := own_mode R1.out Hxk.out Hn.out.symm
        cases hv'
        obtain ⟨l0, l1, l2, l3, l4⟩ := R2.out
        have hcc := Hc.out x (List.mem_of_getElem? Hxk.out)
        have hrun : ∀ w, (binOp .add 36 (.complex .f32 x.gr x.gi) (.complex .f32 m.gr m.gi)).run Try.prog w = .ok (.complex .f32 (opB .add .f32 x.gr m.gr) (opB .add .f32 x.gi m.gi)) w := fun w => by
          rw [run_cx_add, hcc.1.res, hcc.2.res, hcc.1.fdr, hcc.2.fdr]; rfl
        clear hcc
        go_wp2_with fail
        refine wp_region_still_tail 8 (by kernel_rfl) (by kernel_rfl) ?_
        simp only [List.take_succ_cons, List.take_zero, List.drop_succ_cons, List.drop_zero]
        repeat still_step
        refine wpStill_nil ?_
        change wpList _ _ _ _ _ (w2.drewN 1)
        have G1 := Lib.hid (own_nw R1.out ((Nw.refl w2).draw 1))
        have G3 := Lib.hid (R3.out.trans' ⟨rfl, rfl, rfl, Nat.le_refl _, fun _ _ _ => rfl⟩ : w.grownBy (w2.drewN 1) _)
        clear e1 e2 l0 l1 l2 l3 l4
        generalize w2.drewN 1 = w5 at *
        have e3 := G1.out.cellAt (k * 2 + 1) (by omega)
        have hc2 := (cellsM_at out k x Hxk.out).2
        rw [Nat.mul_comm] at hc2
        rw [hc2] at e3
        have e4 := G1.out.frozenAt (k * 2 + 1)
        have hset := G1.out.stored (k * 2 + 1) (.complex .f32 (addG x m).gr (addG x m).gi)
        rw [cellsM_setG out k x (addG x m) Hxk.out ⟨rfl, rfl⟩, ← put1_hit out m k x Hxk.out hb Hno.out] at hset
        have Hset := Lib.hid hset
        clear hset hc2
        go_wp2_with fail
        go_ret
        exact ⟨_, rfl, by rw [show (put1 out m).length = n from by rw [put1_hit out m k x Hxk.out hb Hno.out, List.length_set, Hn.out]]; exact Hset.out.1, G3.out.trans' Hset.out.2⟩
    · obtain rfl : k = n := by omega
      obtain ⟨l0, l1, l2, l3, l4⟩ := Hmo.out
      obtain ⟨i0, hi, hz0, hz1, hz2⟩ := info_parts info_mode
      go_wp2_with (at_builtin; refine wpList_append_own _ rfl _ _ 43 rfl base 38 i0 (.agg #[.complex .f32 0 0, .complex .f32 0 0]) 2 16 Try.underlying43 hi hz0 hz1 hz2 rfl (by decide) _ _ _ rfl (Hro.out.alloc _) ⟨wr.heap.size, 0, none⟩ 1 1 [.complex .f32 m.pr m.pi, .complex .f32 m.gr m.gi] rfl rfl ?c1 ?c2 ?c3 ?c4 ?c5 ?_)
      case c1 =>
        intro j u hj
        match j, hj with
        | 0, hj => simp at hj; subst hj; simp [Addr.add]
        | 1, hj => simp at hj; subst hj; simp [Addr.add]
      case c2 => intro u hu; simp at hu; rcases hu with rfl | rfl <;> rfl
      case c3 => unfold maxLen; omega
      case c4 => omega
      case c5 => have := Hgr.out.size; simp; omega
      · intro v' w4 hown4 hgrow _
        have Hown := Lib.hid hown4
        have Hgrow := Lib.hid hgrow
        clear hown4 hgrow
        have hput := put1_none out m (by rw [Hn.out]; exact Hno.out)
        have Hput := Lib.hid hput
        clear hput
        go_wp2_with fail
        go_ret
        refine ⟨v', rfl, ?_, ?_⟩
        · rw [Hput.out]
          have h := Hown.out
          simpa [cellsM, M4.cells, Hn.out] using h
        · exact (Hgr.out.trans' (World.grownBy_alloc wr _ _)).trans' Hgrow.out
end Go.Proofs.Ytfgofmcpgfofaaa

/- The walk of slices.Grow of a nil slice of modes.
   Conditions: those that each statement names. -/
namespace Go.Proofs.Ytfgofmcpgfofaaa
open Go Go.RowKit

set_option maxRecDepth 100000 in
theorem grow_nil (n : Nat) (hn : n ≤ 64) (w : World) :
    Calls Try.prog 116 #[.slice none 0 0, .int .i64 (n : Int)] w (RowP [] w) := by
  have hb16 : Try.t38.bytes = 16 := rfl
  go_enter Try.func116, Try.ntmps116
  go_wp2_with fail
  all_goals try (rw [hb16] at *; omega)
  · have e : Builtin.nextslicecap n 0 = n := by unfold Builtin.nextslicecap; rw [if_pos (by omega)]
    simp only [e] at *
    omega
  · have hcap : n ≤ (Question.appendCap n 0 38).cut (w.tape w.drawn (Question.appendCap n 0 38)) ∧ (Question.appendCap n 0 38).cut (w.tape w.drawn (Question.appendCap n 0 38)) ≤ maxLen := by
      simp only [Question.cut]
      have hlt := Nat.mod_lt (w.tape w.drawn (Question.appendCap n 0 38)) (show 0 < 2 ^ 63 - n by omega)
      unfold maxLen
      omega
    generalize (Question.appendCap n 0 38).cut (w.tape w.drawn (Question.appendCap n 0 38)) = cp at *
    go_ret
    refine ⟨_, rfl, ?_, ((Nw.refl w).alloc _).draw 1⟩
    exact own_nw (World.ownsRow_made w _ cp (Nat.le_refl _) hcap.2 (by simp [Builtin.zeroCells]; omega)) ((Nw.refl _).draw 1)
  · go_ret
    exact ⟨_, rfl, World.ownsRow_nil _ _ _ _, Nw.refl _⟩
end Go.Proofs.Ytfgofmcpgfofaaa

/- The walk of slices.Concat over two bodies' modes.
   Conditions: those that each statement names. -/
namespace Go.Proofs.Ytfgofmcpgfofaaa
open Go Go.RowKit

def partL (a b : List M4) (k : Nat) : List M4 := if k = 0 then [] else if k = 1 then a else a ++ b
def SizeI (n m : Nat) (w : World) (y i : Value) (wr : World) : Prop := ∃ k : Nat, k ≤ 2 ∧ i = .int .i64 (k : Int) ∧ y = .int .i64 ((if k = 0 then 0 else if k = 1 then n else n + m : Nat) : Int) ∧ wr = w

def ConcI (a b : List M4) (w : World) (y i : Value) (wr : World) : Prop :=
  ∃ k : Nat, k ≤ 2 ∧ i = .int .i64 (k : Int) ∧ wr.ownsRow w.heap.size 38 2 y (partL a b k).length (cellsM (partL a b k)) ∧ Nw w wr

theorem cells_one (a : List M4) : ∀ u ∈ cellsM a, u.oneCell' = true := by
  intro u hu
  obtain ⟨m, _, hu⟩ := List.mem_flatMap.1 hu
  simp [M4.cells] at hu
  rcases hu with rfl | rfl <;> rfl
theorem own_cell {w : World} {base n g cap : Nat} {a : List M4} (h : w.ownsRow base 38 2 (.slice (some ⟨g, 0, none⟩) n cap) n (cellsM a)) (hn : a.length = n) {j : Nat} {u : Value} (hj : (cellsM a)[j]? = some u) :
    w.cell? ((⟨g, 0, none⟩ : Addr).add j) = some u := by
  have hj' : j < n * 2 := by
    have := (List.getElem?_eq_some_iff.1 hj).1
    rw [cellsM_len, hn] at this
    exact this
  have c1 := h.cellAt j hj'
  rw [hj] at c1
  rw [show (⟨g, 0, none⟩ : Addr).add j = ⟨g, j, none⟩ from by simp [Addr.add]; first | done | (intro h; omega)]
  exact c1

set_option maxHeartbeats 1600000 in
set_option maxRecDepth 100000 in
theorem concat_modes (a b : List M4) (n m bm bn h : Nat) (va vb : Value) (hn : a.length = n) (hm : b.length = m) (hn64 : n ≤ 16) (hm64 : m ≤ 16) (w : World)
    (ha : w.ownsRow bm 38 2 va n (cellsM a)) (hb : w.ownsRow bn 38 2 vb m (cellsM b))
    (h0 : h < w.heap.size) (h1 : w.cell? ⟨h, 0, none⟩ = some va) (h2 : w.cell? ⟨h, 1, none⟩ = some vb) :
    Calls Try.prog 85 #[.slice (some ⟨h, 0, none⟩) 2 2] w (RowP (a ++ b) w) := by
  obtain ⟨va, vc, rfl⟩ := own_shape' ha
  obtain ⟨ub, uc, rfl⟩ := own_shape' hb
  have Ha := Lib.hid ha
  have Hb := Lib.hid hb
  have Hn := Lib.hid hn
  have Hm := Lib.hid hm
  clear ha hb hn hm
  go_enter Try.func85, Try.ntmps85
  go_wp2_with fail
  go_loopw [3, 11] (fun y i wr => SizeI n m w y i wr) (fun _ i _ => 2 - (intOf i).toNat)
  case atStart => exact ⟨0, by omega, rfl, rfl, rfl⟩
  case round =>
    obtain ⟨k, hk, rfl, rfl, rfl⟩ := hrel
    have hk3 : k = 0 ∨ k = 1 ∨ k = 2 := by omega
    rcases hk3 with rfl | rfl | rfl
    · go_wp2_with fail
      go_roundw
      case rel => exact ⟨1, by omega, rfl, by simp, rfl⟩
      case measure => simp [intOf]
    · go_wp2_with fail
      go_roundw
      case rel => exact ⟨2, by omega, rfl, by simp, rfl⟩
      case measure => simp [intOf]
    · go_wp2_with fail
      rw [show ((n : Int) + (m : Int)) = ((n + m : Nat) : Int) from by omega]
      refine (grow_nil (n + m) (by omega) _).mono ?_
      rintro e w3 ⟨v3, rfl, own3, n3⟩
      obtain ⟨va3, vc3, rfl⟩ := own_shape' own3
      have O3 := Lib.hid own3
      have N3 := Lib.hid n3
      clear own3 n3
      have P1 := Lib.hid h1
      have P2 := Lib.hid h2
      clear h1 h2
      go_wp2_with fail
      go_loopw [6, 27] (fun y i wx => ConcI a b wr y i wx) (fun _ i _ => 2 - (intOf i).toNat)
      case atStart => exact ⟨0, by omega, rfl, by simpa [partL, cellsM] using O3.out, N3.out⟩
      case round =>
        obtain ⟨k, hk, rfl, hrow, hnw⟩ := hrel
        have Row := Lib.hid hrow
        have Nx := Lib.hid hnw
        clear hrow hnw
        have hk3 : k = 0 ∨ k = 1 ∨ k = 2 := by omega
        obtain ⟨ya, yc, rfl⟩ := own_shape' Row.out
        obtain ⟨i0, hi, hz0, hz1, hz2⟩ := info_parts info_mode
        rcases hk3 with rfl | rfl | rfl
        · have c1 := (Nx.out.cell (p := ⟨h, 0, none⟩) h0).trans P1.out
          have Hax := Lib.hid (own_nw Ha.out Nx.out)
          rcases Hax.out.2 with ⟨g1, g2⟩ | ⟨g, cap, cur, g1, hb, hg, hc, hmx, hs, ht⟩
          · cases g1
            have ha0 := Lib.hid (show a = [] from List.eq_nil_of_length_eq_zero (by have := Hn.out; omega))
            go_wp2_with (at_builtin; refine wpList_append_own_none rfl _ _ 43 rfl _ 38 i0 2 Try.underlying43 hi _ _ _ rfl Row.out rfl ?_)
            go_wp2_with fail
            go_roundw
            case rel =>
                have F : ConcI a b _ _ _ _ := ⟨1, by omega, rfl, by have h := Row.out; simp only [partL] at h ⊢; have e := ha0.out; subst e; simpa using h, Nx.out⟩
                first | exact F | exact ⟨_, _, _, F, rfl, rfl, rfl⟩
            case measure => simp [intOf]
          · cases g1
            clear hb hg hc hs ht
            go_wp2_with (at_builtin; go_loud (refine wpList_append_own _ rfl _ _ 43 rfl _ 38 i0 (.agg #[.complex .f32 0 0, .complex .f32 0 0]) 2 16 Try.underlying43 hi hz0 hz1 hz2 rfl (by decide) _ _ _ rfl Row.out ⟨g, 0, none⟩ n _ (cellsM a) rfl (by rw [cellsM_len]; have := Hn.out; omega) ?qc2 (cells_one a) ?qc4 ?qc5 Nx.out.size ?_))
            case qc2 => exact fun j u hj => own_cell Hax.out Hn.out hj
            case qc4 => simp [partL]; unfold maxLen; omega
            case qc5 => simp [partL]; omega
            · intro v' w1 hown hgrow hnil
              have Hown := Lib.hid hown
              have Hgr := Lib.hid (Nx.out.grown hgrow (fun q hq => (Row.out.lt q hq).1))
              clear hown hgrow hnil
              go_wp2_with fail
              go_roundw
              case rel =>
                have F : ConcI a b _ _ _ _ := ⟨1, by omega, rfl, by have h := Hown.out; simp only [partL] at h ⊢; simpa [cellsM, Hn.out] using h, Hgr.out⟩
                first | exact F | exact ⟨_, _, _, F, rfl, rfl, rfl⟩
              case measure => simp [intOf]
        · have c1 := (Nx.out.cell (p := ⟨h, 1, none⟩) h0).trans P2.out
          have Hax := Lib.hid (own_nw Hb.out Nx.out)
          rcases Hax.out.2 with ⟨g1, g2⟩ | ⟨g, cap, cur, g1, hb, hg, hc, hmx, hs, ht⟩
          · cases g1
            have ha0 := Lib.hid (show b = [] from List.eq_nil_of_length_eq_zero (by have := Hm.out; omega))
            go_wp2_with (at_builtin; refine wpList_append_own_none rfl _ _ 43 rfl _ 38 i0 2 Try.underlying43 hi _ _ _ rfl Row.out rfl ?_)
            go_wp2_with fail
            go_roundw
            case rel =>
                have F : ConcI a b _ _ _ _ := ⟨2, by omega, rfl, by have h := Row.out; simp only [partL] at h ⊢; have e := ha0.out; subst e; simpa using h, Nx.out⟩
                first | exact F | exact ⟨_, _, _, F, rfl, rfl, rfl⟩
            case measure => simp [intOf]
          · cases g1
            clear hb hg hc hs ht
            go_wp2_with (at_builtin; go_loud (refine wpList_append_own _ rfl _ _ 43 rfl _ 38 i0 (.agg #[.complex .f32 0 0, .complex .f32 0 0]) 2 16 Try.underlying43 hi hz0 hz1 hz2 rfl (by decide) _ _ _ rfl Row.out ⟨g, 0, none⟩ m _ (cellsM b) rfl (by rw [cellsM_len]; have := Hm.out; omega) ?qc2 (cells_one b) ?qc4 ?qc5 Nx.out.size ?_))
            case qc2 => exact fun j u hj => own_cell Hax.out Hm.out hj
            case qc4 => simp [partL, Hn.out]; unfold maxLen; omega
            case qc5 => simp [partL, Hn.out]; omega
            · intro v' w1 hown hgrow hnil
              have Hown := Lib.hid hown
              have Hgr := Lib.hid (Nx.out.grown hgrow (fun q hq => (Row.out.lt q hq).1))
              clear hown hgrow hnil
              go_wp2_with fail
              go_roundw
              case rel =>
                have F : ConcI a b _ _ _ _ := ⟨2, by omega, rfl, by have h := Hown.out; simp only [partL] at h ⊢; simpa [cellsM, Hn.out, Hm.out] using h, Hgr.out⟩
                first | exact F | exact ⟨_, _, _, F, rfl, rfl, rfl⟩
              case measure => simp [intOf]
        · go_wp2_with fail
          go_ret
          exact ⟨_, rfl, by have h := Row.out; simpa [partL] using h, Nx.out⟩

end Go.Proofs.Ytfgofmcpgfofaaa

/- Merged bodies as a plain function, and the walk of MergeBodies.
   Conditions: those that each statement names. -/
namespace Go.Proofs.Ytfgofmcpgfofaaa
open Go Go.RowKit

def mergeL (l : List M4) : List M4 := l.foldl put1 []
theorem mergeL_take (l : List M4) (k : Nat) (m : M4) (h : l[k]? = some m) : mergeL (l.take (k + 1)) = put1 (mergeL (l.take k)) m := by
  obtain ⟨hk, he⟩ := List.getElem?_eq_some_iff.1 h
  unfold mergeL
  rw [List.take_succ_eq_append_getElem hk, List.foldl_append, he]; rfl
/-- finite parts, and gains of at most 2048 for each mode that came in -/
def GB (k : Nat) (x : M4) : Prop := x.Fin ∧ Flo.Ab (S x.gr) (2048 * ((k : Rat) + 1)) ∧ Flo.Ab (S x.gi) (2048 * ((k : Rat) + 1))
theorem gb_ok (m : M4) (hm : m.ok) : m.Fin ∧ Flo.Ab (S m.gr) 1024 ∧ Flo.Ab (S m.gi) 1024 := by
  obtain ⟨n1, n2, n3, n4⟩ := hm.nums
  obtain ⟨-, -, -, -, -, h6, h7⟩ := Valid.parts hm
  obtain ⟨m3, v3⟩ := wid_num n3
  obtain ⟨m4, v4⟩ := wid_num n4
  obtain ⟨l3, lv3⟩ := labs_num _ (wid_lt m.gr) m3
  obtain ⟨l4, lv4⟩ := labs_num _ (wid_lt m.gi) m4
  rw [v3] at lv3
  rw [v4] at lv4
  have v1024 : Flo.W 4652218415073722368 = 1024 := by
    have h : Ieee.double.read 4652218415073722368 = .number false 4503599627370496 (-42) := by decide
    rw [show Flo.W 4652218415073722368 = _ from Flo.V_eq h]
    unfold Flo.val
    have := Flo.pw_neg_mul 42
    rw [show Flo.pw 42 = 4398046511104 from Flo.pw_nat 42] at this
    simp only [Bool.false_eq_true, if_false]
    have e2 : ((4503599627370496 : Nat) : Rat) = 4503599627370496 := rfl
    rw [e2]; grind
  have g3 := (leB_iff l3 num_1024).1 h6
  have g4 := (leB_iff l4 num_1024).1 h7
  rw [v1024, lv3] at g3
  rw [v1024, lv4] at g4
  exact ⟨⟨n1, n2, n3, n4⟩, (ra_ab _).mono g3, (ra_ab _).mono g4⟩
theorem gb_add (k : Nat) (hk : k ≤ 40) (x y : Nat) (hx : Sm x) (hy : Sm y) (h1 : Flo.Ab (S x) (2048 * ((k : Rat) + 1))) (h2 : Flo.Ab (S y) 1024) :
    Calm .add .f32 x y ∧ Sm (opB .add .f32 x y) ∧ Flo.Ab (S (opB .add .f32 x y)) (2048 * (((k + 1 : Nat) : Rat) + 1)) := by
  have hk0 : (k : Rat) ≤ ((40 : Nat) : Rat) := by exact_mod_cast hk
  have hk1 : ((40 : Nat) : Rat) = 40 := rfl
  have hk2 : (0 : Rat) ≤ k := by exact_mod_cast Nat.zero_le k
  have h := h1.add h2
  have l1 : Flo.pw 40 ≤ Flo.pw 127 := Flo.pw_le (by omega)
  have l2 : Flo.pw 40 = 1099511627776 := Flo.pw_nat 40
  obtain ⟨r, r1, r2, r3⟩ := Flo.s_add x y hx hy _ h (by grind)
  obtain ⟨c1, e1⟩ := Calm.of r1
  rw [← e1] at r2 r3
  have hv : Flo.v ≤ 1 / 1048576 := by have := Flo.v_eq; grind
  have hv0 := Flo.v_pos
  have hes : Flo.es ≤ 1 := by rw [← Flo.pw_zero]; exact Flo.pw_le (by omega)
  have hb := Rat.mul_le_mul_of_nonneg_left hv (show 0 ≤ 2048 * ((k : Rat) + 1) + 1024 by grind)
  have hc : ((k + 1 : Nat) : Rat) = (k : Rat) + 1 := by exact_mod_cast rfl
  refine ⟨c1, r2, ?_⟩
  rw [hc]
  exact ((r3.add h).eq (by grind)).mono (by grind)
theorem gb_put (k : Nat) (hk : k ≤ 40) (m : M4) (hm : m.ok) : ∀ l : List M4, (∀ x ∈ l, GB k x) → ∀ x ∈ put1 l m, GB (k + 1) x
  | [], _, x, hx => by
    obtain ⟨f, a, b⟩ := gb_ok m hm
    simp [put1] at hx
    subst hx
    have hk2 : (0 : Rat) ≤ ((k + 1 : Nat) : Rat) := by exact_mod_cast Nat.zero_le _
    exact ⟨f, a.mono (by grind), b.mono (by grind)⟩
  | y :: l, h, x, hx => by
    have hc : ((k + 1 : Nat) : Rat) = (k : Rat) + 1 := by exact_mod_cast rfl
    have up : ∀ z, GB k z → GB (k + 1) z := fun z hz => ⟨hz.1, hz.2.1.mono (by rw [hc]; grind), hz.2.2.mono (by rw [hc]; grind)⟩
    have hy := h y (List.mem_cons_self ..)
    have hl := fun z hz => h z (List.mem_cons_of_mem _ hz)
    unfold put1 at hx
    split at hx
    · rcases List.mem_cons.1 hx with rfl | hx
      · obtain ⟨f, a, b⟩ := gb_ok m hm
        have a1 := gb_add k hk y.gr m.gr hy.1.2.2.1 f.2.2.1 hy.2.1 a
        have a2 := gb_add k hk y.gi m.gi hy.1.2.2.2 f.2.2.2 hy.2.2 b
        exact ⟨⟨hy.1.1, hy.1.2.1, a1.2.1, a2.2.1⟩, a1.2.2, a2.2.2⟩
      · exact up x (hl x hx)
    · rcases List.mem_cons.1 hx with rfl | hx
      · exact up _ hy
      · exact gb_put k hk m hm l hl x hx
theorem gb_merge (l : List M4) (hl : ∀ m ∈ l, m.ok) : ∀ k, k ≤ l.length → k ≤ 40 → ∀ x ∈ mergeL (l.take k), GB k x
  | 0, _, _, x, hx => by simp [mergeL] at hx
  | k + 1, h, h40, x, hx => by
    have hk : l[k]? = some l[k] := List.getElem?_eq_getElem (by omega)
    rw [mergeL_take l k _ hk] at hx
    exact gb_put k (by omega) _ (hl _ (List.getElem_mem _)) _ (gb_merge l hl k (by omega) (by omega)) x hx
theorem merge_calm (l : List M4) (hl : ∀ m ∈ l, m.ok) (k : Nat) (m : M4) (hk : l[k]? = some m) (h40 : k ≤ 40) : ∀ x ∈ mergeL (l.take k), Calm .add .f32 x.gr m.gr ∧ Calm .add .f32 x.gi m.gi := by
  intro x hx
  have h := gb_merge l hl k (by have := (List.getElem?_eq_some_iff.1 hk).1; omega) h40 x hx
  obtain ⟨f, a, b⟩ := gb_ok m (hl m (List.mem_of_getElem? hk))
  exact ⟨(gb_add k h40 x.gr m.gr h.1.2.2.1 f.2.2.1 h.2.1 a).1, (gb_add k h40 x.gi m.gi h.1.2.2.2 f.2.2.2 h.2.2 b).1⟩
theorem mergeL_len (l : List M4) : ∀ k, k ≤ l.length → (mergeL (l.take k)).length ≤ k
  | 0, _ => by simp [mergeL]
  | k + 1, h => by
    have hk : l[k]? = some l[k] := List.getElem?_eq_getElem (by omega)
    rw [mergeL_take l k _ hk]
    have := mergeL_len l k (by omega)
    rcases put1_len (mergeL (l.take k)) l[k] with e | e <;> omega

theorem grownBy_set (W : World) (p : Addr) (v : Value) : W.grownBy (W.setCell p v) (some p.block) :=
  ⟨rfl, rfl, rfl, by simp [World.setCell], fun i hi hne => by simp only [World.setCell, Array.getElem?_modify]; rw [if_neg (fun e => hne (by rw [e]))]⟩
def MergedP (c : List M4) (w : World) (e : Ending) (w' : World) : Prop :=
  ∃ v : Value, e = .returned (.tuple #[.agg #[v], .bool (bodyB c)]) ∧ w'.ownsRow w.heap.size 38 2 v (if bodyB c then c.length else 0) (cellsM (if bodyB c then c else [])) ∧ Nw w w'
def MbI (l : List M4) (N base bl L R D : Nat) (lv : Value) (w : World) (i : Value) (wr : World) : Prop :=
  ∃ (k : Nat) (cur : Value), k ≤ N ∧ i = .int .i64 (k : Int) ∧ Has1 wr D cur ∧ Has1 wr R (.slice none 0 0) ∧ wr.ownsRow base 38 2 cur (mergeL (l.take k)).length (cellsM (mergeL (l.take k))) ∧ wr.ownsRow bl 38 2 lv N (cellsM l) ∧ Nw w wr ∧ base ≤ wr.heap.size

set_option maxRecDepth 100000 in
set_option maxHeartbeats 3200000 in
theorem mergeBodies_ok (a b : List M4) (ha : ∀ m ∈ a, m.ok) (hb : ∀ m ∈ b, m.ok) (n m ba bb : Nat) (va vb : Value) (hn : a.length = n) (hm : b.length = m) (hn16 : n ≤ 16) (hm16 : m ≤ 16) (w : World)
    (oa : w.ownsRow ba 38 2 va n (cellsM a)) (ob : w.ownsRow bb 38 2 vb m (cellsM b)) :
    Calls Try.prog 37 #[.agg #[va], .agg #[vb]] w (MergedP (mergeL (a ++ b)) w) := by
  obtain ⟨sa, sc, rfl⟩ := own_shape' oa
  obtain ⟨ta, tc, rfl⟩ := own_shape' ob
  have hl : ∀ x ∈ a ++ b, x.ok := fun x hx => (List.mem_append.1 hx).elim (ha x) (hb x)
  have Hl := Lib.hid hl
  have Hll := Lib.hid (show (a ++ b).length = n + m from by rw [List.length_append, hn, hm])
  obtain ⟨l, hl0⟩ : ∃ l, l = a ++ b := ⟨_, rfl⟩
  have Ha := Lib.hid (And.intro ha (And.intro hn oa))
  have Hb := Lib.hid (And.intro hb (And.intro hm ob))
  have Hl0 := Lib.hid hl0
  rw [← hl0] at Hl Hll ⊢
  have N0 := Lib.hid ((((Nw.refl w).alloc (.cells #[.slice sa n sc] 45 (0, 0))).alloc (.cells #[.slice ta m tc] 45 (0, 0))).alloc (.cells #[.slice none 0 0] 45 (0, 0)))
  have A0 := Lib.hid (((Has1.new w 45 (.slice sa n sc)).alloc (.cells #[.slice ta m tc] 45 (0, 0))).alloc (.cells #[.slice none 0 0] 45 (0, 0)))
  have B0 := Lib.hid ((Has1.new (w.alloc (.cells #[.slice sa n sc] 45 (0, 0))) 45 (.slice ta m tc)).alloc (.cells #[.slice none 0 0] 45 (0, 0)))
  have R0 := Lib.hid (Has1.new ((w.alloc (.cells #[.slice sa n sc] 45 (0, 0))).alloc (.cells #[.slice ta m tc] 45 (0, 0))) 45 (.slice none 0 0))
  rw [show (w.alloc (.cells #[.slice sa n sc] 45 (0, 0))).heap.size = w.heap.size + 1 from by simp] at B0
  rw [show ((w.alloc (.cells #[.slice sa n sc] 45 (0, 0))).alloc (.cells #[.slice ta m tc] 45 (0, 0))).heap.size = w.heap.size + 2 from by simp] at R0
  clear oa ob hn hm ha hb hl hl0
  go_enter Try.func37, Try.ntmps37
  obtain ⟨x0, x1, x2⟩ := A0.out
  obtain ⟨y0, y1, y2⟩ := B0.out
  go_wp2_with fail
  refine (implIsBody_fin a (fun m hm => (Ha.out.1 m hm).nums) n ba _ Ha.out.2.1 (by omega) _ (own_nw Ha.out.2.2 N0.out)).mono ?_
  rintro e w1 ⟨rfl, n1⟩
  rw [(bodyB_iff a).2 ⟨by rw [Ha.out.2.1]; exact hn16, Ha.out.1⟩]
  have N1 := Lib.hid (N0.out.trans n1)
  have A1 := Lib.hid (A0.out.nw n1)
  have B1 := Lib.hid (B0.out.nw n1)
  have R1 := Lib.hid (R0.out.nw n1)
  clear n1 x0 x1 x2 y0 y1 y2
  obtain ⟨x0, x1, x2⟩ := A1.out
  obtain ⟨y0, y1, y2⟩ := B1.out
  go_wp2_with fail
  refine (implIsBody_fin b (fun m hm => (Hb.out.1 m hm).nums) m bb _ Hb.out.2.1 (by omega) _ (own_nw Hb.out.2.2 N1.out)).mono ?_
  rintro e w2 ⟨rfl, n2⟩
  rw [(bodyB_iff b).2 ⟨by rw [Hb.out.2.1]; exact hm16, Hb.out.1⟩]
  have N2 := Lib.hid ((N1.out.trans n2).alloc (.cells #[.slice none 0 0] 45 (0, 0)))
  have A2 := Lib.hid ((A1.out.nw n2).alloc (.cells #[.slice none 0 0] 45 (0, 0)))
  have B2 := Lib.hid ((B1.out.nw n2).alloc (.cells #[.slice none 0 0] 45 (0, 0)))
  have R2 := Lib.hid ((R1.out.nw n2).alloc (.cells #[.slice none 0 0] 45 (0, 0)))
  have W2 := Lib.hid (show w.heap.size + 3 ≤ w2.heap.size from by have h1 := (R1.out.nw n2).1; omega)
  have D2 := Lib.hid (Has1.new w2 45 (.slice none 0 0))
  clear n2 x0 x1 x2 y0 y1 y2
  obtain ⟨x0, x1, x2⟩ := A2.out
  obtain ⟨y0, y1, y2⟩ := B2.out
  have S2 := Lib.hid (show (w2.alloc (.cells #[.slice none 0 0] 45 (0, 0))).heap.size = w2.heap.size + 1 from by simp)
  go_wp2_with fail
  refine (concat_modes a b n m ba bb (w2.heap.size + 1) _ _ Ha.out.2.1 Hb.out.2.1 hn16 hm16 _ (own_nw Ha.out.2.2 (N2.out.alloc _)) (own_nw Hb.out.2.2 (N2.out.alloc _)) (by simp) (by go_simp) (by go_simp)).mono ?_
  rintro e w4 ⟨v4, rfl, own4, n4⟩
  obtain ⟨la, lc, rfl⟩ := own_shape' own4
  rw [← Hl0.out, Hll.out] at own4 ⊢
  have n4' := ((Nw.refl (w2.alloc (.cells #[.slice none 0 0] 45 (0, 0)))).alloc (.cells #[.slice sa n sc, .slice ta m tc] 43 (0, 0))).trans n4
  have N4 := Lib.hid (N2.out.trans n4')
  have R4 := Lib.hid (R2.out.nw n4')
  have D4 := Lib.hid (D2.out.nw n4')
  have O4 := Lib.hid own4
  have Olt := Lib.hid (show ∀ q, (Value.slice la (n + m) lc).ownBlock = some q → w2.heap.size + 2 ≤ q ∧ q < w4.heap.size from fun q hq => ⟨by have := (own4.lt q hq).1; simpa using this, (own4.lt q hq).2⟩)
  clear own4 n4 n4' x0 x1 x2 y0 y1 y2
  go_wp2_with fail
  go_loopw [26] (fun i wr => MbI l (n + m) w4.heap.size 0 0 (w.heap.size + 2) w2.heap.size (.slice la (n + m) lc) w i wr) (fun i _ => (n + m) - (intOf i).toNat)
  case atStart => exact ⟨0, .slice none 0 0, by omega, rfl, D4.out, R4.out, by simpa [mergeL, cellsM] using World.ownsRow_nil _ _ _ _, own_base O4.out (Nat.zero_le _), N4.out, Nat.le_refl _⟩
  case round =>
    obtain ⟨k, cur, hk, rfl, hD, hR, hcur, hlr, hN, hsz4'⟩ := hrel
    obtain ⟨ua, uc, rfl⟩ := own_shape' hcur
    have Dr := Lib.hid hD
    have Rr := Lib.hid hR
    have Cr := Lib.hid hcur
    have Lr := Lib.hid hlr
    have Nr := Lib.hid hN
    clear hD hR hcur hlr hN
    obtain ⟨d0, d1, d2⟩ := Dr.out
    obtain ⟨r0, r1, r2⟩ := Rr.out
    have hsz4 := Lib.hid (show w4.heap.size ≤ wr.heap.size ∧ w2.heap.size < w4.heap.size from ⟨hsz4', D4.out.1⟩)
    by_cases hlt : k < n + m
    · obtain ⟨x, hxk⟩ : ∃ x, l[k]? = some x := ⟨l[k]'(by rw [Hll.out]; exact hlt), List.getElem?_eq_getElem _⟩
      obtain ⟨g, cap, hv, hcap, hmax, hgs, e1, e2⟩ := own_mode Lr.out hxk Hll.out.symm
      cases hv
      unfold maxLen at hmax
      have Hxk := Lib.hid hxk
      clear hxk
      have hml := mergeL_len l k (by rw [Hll.out]; omega)
      have NA := Lib.hid (Nr.out.alloc (.cells #[.complex .f32 x.pr x.pi, .complex .f32 x.gr x.gi] 38 (0, 0)))
      have CA := Lib.hid (Cr.out.alloc (.cells #[.complex .f32 x.pr x.pi, .complex .f32 x.gr x.gi] 38 (0, 0)))
      have DA := Lib.hid (Dr.out.alloc (.cells #[.complex .f32 x.pr x.pi, .complex .f32 x.gr x.gi] 38 (0, 0)))
      have RA := Lib.hid (Rr.out.alloc (.cells #[.complex .f32 x.pr x.pi, .complex .f32 x.gr x.gi] 38 (0, 0)))
      have LA := Lib.hid (Lr.out.alloc (.cells #[.complex .f32 x.pr x.pi, .complex .f32 x.gr x.gi] 38 (0, 0)))
      have sA := Lib.hid (show w4.heap.size ≤ (wr.alloc (.cells #[.complex .f32 x.pr x.pi, .complex .f32 x.gr x.gi] 38 (0, 0))).heap.size from by simp; omega)
      go_wp2_with fail
      refine (mergeMode_ok (mergeL (l.take k)) x _ w4.heap.size _ rfl (by omega) _ sA.out (merge_calm l Hl.out k x Hxk.out (by omega)) CA.out).mono ?_
      rintro e w5 ⟨v5, rfl, own5, gr5⟩
      obtain ⟨pa, pc, rfl⟩ := own_shape' own5
      have hge : ∀ q, (Value.slice ua (mergeL (l.take k)).length uc).ownBlock = some q → w4.heap.size ≤ q := fun q hq => (CA.out.lt q hq).1
      have h42 := hsz4.out
      have hW2 := W2.out
      have D5 := Lib.hid (DA.out.grown gr5 (fun e => by have := hge _ e; omega))
      have R5 := Lib.hid (RA.out.grown gr5 (fun e => by have := hge _ e; omega))
      have L5 := Lib.hid (LA.out.kept gr5 (.inr (fun e => by have := (Olt.out _ rfl).2; have := hge _ e.symm; omega)))
      have N5 := Lib.hid (NA.out.grown gr5 (fun q hq => by have := hge q hq; have := N4.out.size; omega))
      have s5 := Lib.hid (Nat.le_trans sA.out gr5.size)
      rw [← mergeL_take l k x Hxk.out] at own5 ⊢
      have C5 := Lib.hid own5
      clear own5 gr5 d0 d1 d2 r0 r1 r2 e1 e2 hge
      obtain ⟨d0, d1, d2⟩ := D5.out
      go_wp2_with fail
      go_roundw
      case rel =>
        refine ⟨k + 1, _, by omega, by rw [show ((k + 1 : Nat) : Int) = (k : Int) + 1 from by omega], D5.out.put _, R5.out.set (by show w2.heap.size ≠ w.heap.size + 2; omega) _, own_set C5.out (by show w2.heap.size < w4.heap.size; omega) _, ?_, N5.out.set (by show w.heap.size ≤ w2.heap.size; omega) _, ?_⟩
        · exact L5.out.kept (grownBy_set _ _ _) (.inr (fun e => by have := (Olt.out _ e).1; simp at this; omega))
        · have := s5.out
          simpa [World.setCell] using this
      case measure => simp only [intOf]; omega
    · obtain rfl : k = n + m := by omega
      have hml := mergeL_len l (n + m) (by rw [Hll.out]; exact Nat.le_refl _)
      have hall : l.take (n + m) = l := List.take_of_length_le (by rw [Hll.out]; exact Nat.le_refl _)
      have hfin := Lib.hid (fun x hx => (gb_merge l Hl.out (n + m) (by rw [Hll.out]; exact Nat.le_refl _) (by omega) x hx).1)
      go_wp2_with fail
      rw [hall] at Cr hml hfin Dr
      refine (implIsBody_fin (mergeL l) hfin.out _ _ _ rfl (by omega) _ Cr.out).mono ?_
      rintro e w6 ⟨rfl, n6⟩
      have C6 := Lib.hid (own_nw Cr.out n6)
      have D6 := Lib.hid (Dr.out.nw n6)
      have R6 := Lib.hid (Rr.out.nw n6)
      have N6 := Lib.hid (Nr.out.trans n6)
      have h42 := hsz4.out
      have hW2 := W2.out
      clear n6 d0 d1 d2 r0 r1 r2
      obtain ⟨d0, d1, d2⟩ := D6.out
      obtain ⟨r0, r1, r2⟩ := R6.out
      have Hw4 := Lib.hid N4.out.size
      cases hbo : bodyB (mergeL l) with
      | true =>
        go_wp2_with fail
        exact bodyPost_ret (v := .tuple #[.agg #[.slice ua (mergeL l).length uc], .bool true]) (by simp [results, Try.results37, go_sem, r0, r1, r2]) rfl ⟨_, by rw [hbo], by rw [hbo]; simp only [if_true]; exact own_base (own_set C6.out (by show w.heap.size + 2 < w4.heap.size; omega) _) Hw4.out, N6.out.set (by show w.heap.size ≤ w.heap.size + 2; omega) _⟩
      | false =>
        go_wp2_with fail
        exact bodyPost_ret (v := .tuple #[.agg #[.slice none 0 0], .bool false]) (by simp [results, Try.results37, go_sem, r0, r1, r2]) rfl ⟨_, by rw [hbo], by rw [hbo]; simp only [Bool.false_eq_true, if_false]; exact World.ownsRow_nil _ _ _ _, N6.out.set (by show w.heap.size ≤ w.heap.size + 2; omega) _⟩

end Go.Proofs.Ytfgofmcpgfofaaa

/- A bow that sticks: its states and velocities as plain functions, bounded through ten steps, and no NaN in the eleventh's states.
   Conditions: those that each statement names. -/
namespace Go.Proofs.Ytfgofmcpgfofaaa
open Go Go.RowKit

/-- the states and the velocity after k steps, where the bow sticks each time -/
def bowSt (ms : List M4) (x0 : Nat) : Nat → List (Nat × Nat) × Nat
  | 0 => (ms.map fun _ => (0, 0), 0)
  | k + 1 => (stepAll ms (bowSt ms x0 k).1 (opB .sub .f32 x0 (bowSt ms x0 k).2), outS (stepAll ms (bowSt ms x0 k).1 (opB .sub .f32 x0 (bowSt ms x0 k).2)))
def bowF (ms : List M4) (x0 k : Nat) : Nat := opB .sub .f32 x0 (bowSt ms x0 k).2
theorem bowSt_len (ms : List M4) (x0 : Nat) : ∀ k, (bowSt ms x0 k).1.length = ms.length
  | 0 => by simp [bowSt]
  | k + 1 => by simp [bowSt, stepAll, bowSt_len ms x0 k]

/-- the bound of a state's part after k steps -/
def tb : Nat → Nat
  | 0 => 0
  | k + 1 => 3083 * tb k + 9400
theorem tb_all : (List.range 11).all (fun k => decide (tb k ≤ 2 ^ 118)) = true := by decide +kernel
theorem tb_le (k : Nat) (h : k ≤ 10) : tb k ≤ 2 ^ 118 := by
  have := (List.all_eq_true.1 tb_all) k (List.mem_range.2 (by omega))
  exact of_decide_eq_true this
theorem tf_all : (List.range 10).all (fun k => decide (4 * tb k + 10 ≤ 2 ^ 110)) = true := by decide +kernel
theorem tf_le (k : Nat) (h : k < 10) : 4 * tb k + 10 ≤ 2 ^ 110 := by
  have := (List.all_eq_true.1 tf_all) k (List.mem_range.2 h)
  exact of_decide_eq_true this
theorem tbR (k : Nat) (h : k ≤ 10) : ((tb k : Nat) : Rat) ≤ Flo.pw 118 := by
  have h1 : ((tb k : Nat) : Rat) ≤ ((2 ^ 118 : Nat) : Rat) := by exact_mod_cast tb_le k h
  rw [show Flo.pw 118 = ((2 ^ 118 : Nat) : Rat) from Flo.pw_nat 118]
  exact h1
theorem tfR (k : Nat) (h : k < 10) : 4 * ((tb k : Nat) : Rat) + 10 ≤ Flo.pw 110 := by
  have h1 : ((4 * tb k + 10 : Nat) : Rat) ≤ ((2 ^ 110 : Nat) : Rat) := by exact_mod_cast tf_le k h
  rw [show Flo.pw 110 = ((2 ^ 110 : Nat) : Rat) from Flo.pw_nat 110]
  have h2 : ((4 * tb k + 10 : Nat) : Rat) = 4 * ((tb k : Nat) : Rat) + 10 := by push_cast; rfl
  rw [h2] at h1
  exact h1

theorem sum_num (T U v es : Rat) (j : Rat) (hj : 0 ≤ j) (hj3 : j ≤ 2) (hT : 0 ≤ T) (hU : U = j * T + j * T / 100000 + j / 1000) (ve : v * 16777216 = 1) (e0 : 0 < es) (es1 : es ≤ 1 / 1048576) :
    U + T + ((U + T) * v + es) ≤ (j + 1) * T + (j + 1) * T / 100000 + (j + 1) / 1000 ∧ 0 ≤ U ∧ U ≤ 3 * T + 1 := by
  have hv : v = 1 / 16777216 := by grind
  have hjT : j * T ≤ 2 * T := Rat.mul_le_mul_of_nonneg_right hj3 hT
  have hjT0 : 0 ≤ j * T := Rat.mul_nonneg hj hT
  subst hv; subst hU
  refine ⟨?_, ?_, ?_⟩
  · have e1 : (j + 1) * T = j * T + T := by grind
    rw [e1]
    generalize j * T = q at *
    grind
  · generalize j * T = q at *
    grind
  · generalize j * T = q at *
    grind
/-- the sum of at most three outputs -/
theorem sum_small (ss : List (Nat × Nat)) (T : Rat) (hT0 : 0 ≤ T) (hT : T ≤ Flo.pw 118) (h : ∀ s ∈ ss, Sm s.1 ∧ Flo.Ab (S s.1) T) :
    ∀ k : Nat, k ≤ 3 → k ≤ ss.length → Sm (outS (ss.take k)) ∧ Flo.Ab (S (outS (ss.take k))) ((k : Rat) * T + (k : Rat) * T / 100000 + (k : Rat) / 1000)
  | 0, _, _ => by
    refine ⟨zero_single.1, ?_⟩
    show Flo.Ab (S 0) _
    rw [zero_single.2]
    constructor <;> simp <;> grind
  | k + 1, h3, hl => by
    obtain ⟨i1, i2⟩ := sum_small ss T hT0 hT h k (by omega) (by omega)
    have hs : ss[k]? = some (ss[k]'(by omega)) := List.getElem?_eq_getElem _
    obtain ⟨s1, s2⟩ := h _ (List.getElem_mem (by omega : k < ss.length))
    rw [outS_take ss k _ hs]
    have hk : (k : Rat) ≤ 2 := by
      have : ((k : Nat) : Rat) ≤ ((2 : Nat) : Rat) := by exact_mod_cast (by omega : k ≤ 2)
      exact this
    have hk0 : (0 : Rat) ≤ k := by exact_mod_cast Nat.zero_le k
    obtain ⟨n1, n2, n3⟩ := sum_num T _ Flo.v Flo.es (k : Rat) hk0 hk hT0 rfl Flo.v_eq Flo.es_pos small'.es1
    have l1 : Flo.pw 126 = 256 * Flo.pw 118 := by rw [show (126 : Int) = 8 + 118 from rfl, Flo.pw_add, show Flo.pw 8 = 256 from Flo.pw_nat 8]
    have l3 := Flo.pw_lt (a := 126) (b := 127) (by omega)
    have l4 : 1 ≤ Flo.pw 118 := by rw [← Flo.pw_zero]; exact Flo.pw_le (by omega)
    obtain ⟨r, r1, r2, r3⟩ := Flo.s_add _ _ i1 s1 _ (i2.add s2) (by grind)
    obtain ⟨-, b2⟩ := Calm.of r1
    rw [b2]
    refine ⟨r2, (((i2.add s2).add r3).eq (by grind)).mono ?_⟩
    rw [show ((k + 1 : Nat) : Rat) = (k : Rat) + 1 from by push_cast; rfl]
    exact n1

/-- what is known after k steps -/
structure BowOk (ms : List M4) (x0 k : Nat) : Prop where
  st : ∀ s ∈ (bowSt ms x0 k).1, (Sm s.1 ∧ Flo.Ab (S s.1) (tb k)) ∧ (Sm s.2 ∧ Flo.Ab (S s.2) (tb k))
  vel : Sm (bowSt ms x0 k).2
  big : Flo.Ab (S (bowSt ms x0 k).2) (3 * (tb k : Rat) + (tb k : Rat) / 10000 + 1 / 100)
theorem force_num (T v es : Rat) (hT : 0 ≤ T) (ve : v * 16777216 = 1) (e0 : 0 < es) (es1 : es ≤ 1 / 1048576) :
    9 + (3 * T + T / 10000 + 1 / 100) + ((9 + (3 * T + T / 10000 + 1 / 100)) * v + es) ≤ 3 * T + T / 1000 + 91 / 10 := by
  have hv : v = 1 / 16777216 := by grind
  subst hv
  grind
/-- the force of the next step -/
theorem force_ok (ms : List M4) (x0 k : Nat) (hx : Sm x0) (b0 : Flo.Ab (S x0) 9) (hk : k ≤ 10) (h : BowOk ms x0 k) :
    Calm .sub .f32 x0 (bowSt ms x0 k).2 ∧ Sm (bowF ms x0 k) ∧ Flo.Ab (S (bowF ms x0 k)) (3 * (tb k : Rat) + (tb k : Rat) / 1000 + 91 / 10) := by
  have hT0 : (0 : Rat) ≤ tb k := by exact_mod_cast Nat.zero_le _
  have hT := tbR k hk
  have l1 : Flo.pw 126 = 256 * Flo.pw 118 := by rw [show (126 : Int) = 8 + 118 from rfl, Flo.pw_add, show Flo.pw 8 = 256 from Flo.pw_nat 8]
  have l3 := Flo.pw_lt (a := 126) (b := 127) (by omega)
  have l4 : 1 ≤ Flo.pw 118 := by rw [← Flo.pw_zero]; exact Flo.pw_le (by omega)
  obtain ⟨r, r1, r2, r3⟩ := Flo.s_sub x0 _ hx h.vel _ (b0.sub h.big) (by grind)
  obtain ⟨c2, b2⟩ := Calm.of r1
  unfold bowF
  refine ⟨c2, by rw [b2]; exact r2, ?_⟩
  rw [b2]
  exact (((b0.sub h.big).add r3).eq (by grind)).mono (force_num (tb k) Flo.v Flo.es hT0 Flo.v_eq Flo.es_pos small'.es1)
theorem zip_mem {ms : List M4} {ss : List (Nat × Nat)} {x : Nat} {q : Nat × Nat} (h : q ∈ stepAll ms ss x) : ∃ m s, m ∈ ms ∧ s ∈ ss ∧ q = stepS m s x := by
  unfold stepAll at h
  obtain ⟨i, hi⟩ := List.getElem?_of_mem h
  rw [List.getElem?_zipWith] at hi
  cases hm : ms[i]? with
  | none => rw [hm] at hi; simp at hi
  | some m =>
    cases hs : ss[i]? with
    | none => rw [hm, hs] at hi; simp at hi
    | some s =>
      rw [hm, hs] at hi
      simp at hi
      exact ⟨m, s, List.mem_of_getElem? hm, List.mem_of_getElem? hs, hi.symm⟩
theorem next_num (T : Rat) (hT : 0 ≤ T) : 6 * T + 1025 * (3 * T + T / 1000 + 91 / 10) + 2 ≤ 3083 * T + 9400 := by grind
theorem bow_ok (ms : List M4) (hms : ∀ m ∈ ms, m.ok) (hl : ms.length ≤ 3) (x0 : Nat) (hx : Sm x0) (b0 : Flo.Ab (S x0) 9) : ∀ k, k ≤ 10 → BowOk ms x0 k
  | 0, _ => by
    have hz : Flo.Ab (S 0) ((tb 0 : Nat) : Rat) := by rw [zero_single.2]; constructor <;> simp [tb]
    refine ⟨fun s hs => ?_, zero_single.1, ?_⟩
    · simp only [bowSt, List.mem_map] at hs
      obtain ⟨m, -, rfl⟩ := hs
      exact ⟨⟨zero_single.1, hz⟩, zero_single.1, hz⟩
    · show Flo.Ab (S 0) _
      exact hz.mono (by simp [tb]; grind)
  | k + 1, hk => by
    have h := bow_ok ms hms hl x0 hx b0 k (by omega)
    obtain ⟨-, f1, f2⟩ := force_ok ms x0 k hx b0 (by omega) h
    have hT0 : (0 : Rat) ≤ tb k := by exact_mod_cast Nat.zero_le _
    have hT := tbR k (by omega)
    have hF := tfR k (by omega)
    have hnext : 6 * (tb k : Rat) + 1025 * (3 * (tb k : Rat) + (tb k : Rat) / 1000 + 91 / 10) + 2 ≤ ((tb (k + 1) : Nat) : Rat) := by
      have e : ((tb (k + 1) : Nat) : Rat) = 3083 * (tb k : Rat) + 9400 := by show ((3083 * tb k + 9400 : Nat) : Rat) = _; push_cast; rfl
      rw [e]; exact next_num _ hT0
    have hst : ∀ s ∈ (bowSt ms x0 (k + 1)).1, (Sm s.1 ∧ Flo.Ab (S s.1) (tb (k + 1))) ∧ (Sm s.2 ∧ Flo.Ab (S s.2) (tb (k + 1))) := by
      intro q hq
      obtain ⟨m, s, hm, hs, rfl⟩ := zip_mem (show q ∈ stepAll ms (bowSt ms x0 k).1 (bowF ms x0 k) from hq)
      obtain ⟨⟨s1, s2⟩, s3, s4⟩ := h.st s hs
      obtain ⟨-, g1, g2⟩ := gb_ok m (hms m hm)
      obtain ⟨-, a1, a2, a3, a4⟩ := step_grow m (hms m hm) s (bowF ms x0 k) s1 s3 f1 (tb k) _ s2 s4 f2 g1 g2 hT (by grind)
      exact ⟨⟨a1, a3.mono hnext⟩, a2, a4.mono hnext⟩
    have hT1 : (0 : Rat) ≤ tb (k + 1) := by exact_mod_cast Nat.zero_le _
    have hlen := bowSt_len ms x0 (k + 1)
    obtain ⟨v1, v2⟩ := sum_small (bowSt ms x0 (k + 1)).1 (tb (k + 1)) hT1 (tbR (k + 1) hk) (fun s hs => (hst s hs).1) (bowSt ms x0 (k + 1)).1.length (by omega) (Nat.le_refl _)
    rw [List.take_length] at v1 v2
    refine ⟨hst, v1, v2.mono ?_⟩
    have hl3 : (((bowSt ms x0 (k + 1)).1.length : Nat) : Rat) ≤ ((3 : Nat) : Rat) := by exact_mod_cast (by omega : (bowSt ms x0 (k + 1)).1.length ≤ 3)
    have hl3' : (((bowSt ms x0 (k + 1)).1.length : Nat) : Rat) ≤ 3 := hl3
    have hmul := Rat.mul_le_mul_of_nonneg_right hl3' hT1
    generalize (((bowSt ms x0 (k + 1)).1.length : Nat) : Rat) * (tb (k + 1) : Rat) = q at *
    grind

/-- EACH OF THE FIRST ELEVEN STEPS draws nothing and gives no NaN in a state. -/
theorem bow_step (ms : List M4) (hms : ∀ m ∈ ms, m.ok) (hl : ms.length ≤ 3) (x0 : Nat) (hx : Sm x0) (b0 : Flo.Ab (S x0) 9) (k : Nat) (hk : k ≤ 10) :
    ∀ (i : Nat) m s, ms[i]? = some m → (bowSt ms x0 k).1[i]? = some s → StepOk m s (bowF ms x0 k) := by
  intro i m s hm hs
  have h := bow_ok ms hms hl x0 hx b0 k hk
  obtain ⟨-, f1, -⟩ := force_ok ms x0 k hx b0 hk h
  obtain ⟨⟨s1, s2⟩, s3, s4⟩ := h.st s (List.mem_of_getElem? hs)
  exact step_wide m (hms m (List.mem_of_getElem? hm)) s _ s1 s3 f1 (tb k) s2 s4 (tbR k hk)
theorem bow_sum (ms : List M4) (hms : ∀ m ∈ ms, m.ok) (hl : ms.length ≤ 3) (x0 : Nat) (hx : Sm x0) (b0 : Flo.Ab (S x0) 9) (k : Nat) (hk : k < 10) : SumOk (bowSt ms x0 (k + 1)).1 := by
  intro i s hs
  have h := bow_ok ms hms hl x0 hx b0 (k + 1) (by omega)
  have hil := (List.getElem?_eq_some_iff.1 hs).1
  have hlen := bowSt_len ms x0 (k + 1)
  have hT1 : (0 : Rat) ≤ tb (k + 1) := by exact_mod_cast Nat.zero_le _
  obtain ⟨v1, -⟩ := sum_small (bowSt ms x0 (k + 1)).1 (tb (k + 1)) hT1 (tbR (k + 1) (by omega)) (fun s hs => (h.st s hs).1) i (by omega) (by omega)
  refine calm_add_num _ _ v1 ?_
  obtain ⟨t, m, j, hr⟩ := ((h.st s (List.mem_of_getElem? hs)).1).1
  rw [show FloatKind.f32.decode s.1 = _ from hr]; rfl
end Go.Proofs.Ytfgofmcpgfofaaa

/- Plain facts on any numbers of single precision, NaN and infinities among them: widened, narrowed again, ordered; and on what sameFloat answers. No program stands in it.
   Conditions: those that each statement names. -/
namespace Go.Proofs.Ytfgofmcpgfofaaa
open Go

def nan32 (b : Nat) : Bool := (FloatKind.f32.decode b).isNaN
def nan64 (b : Nat) : Bool := (FloatKind.f64.decode b).isNaN

/-- are two numbers the same: NaN and NaN, zeros of one sign, or equal ones -/
def sameF (a b : Nat) : Bool :=
  if nan64 a || nan64 b then nan64 a && nan64 b
  else if (FloatKind.f64.format.order a 0 == some .eq) && (FloatKind.f64.format.order b 0 == some .eq) then
    (FloatKind.f64.format.order ((floatBits .quo .f64 4607182418800017408 a).getD 0) 0 == some .gt) == (FloatKind.f64.format.order ((floatBits .quo .f64 4607182418800017408 b).getD 0) 0 == some .gt)
  else FloatKind.f64.format.order a b == some .eq
theorem sameF_self (a : Nat) : sameF a a = true := by
  unfold sameF
  cases ha : nan64 a
  · have o1 := order_self .f64 a
    rw [show (FloatKind.f64.decode a).isNaN = false from ha] at o1
    simp only [Bool.or_self, Bool.false_eq_true, if_false, beq_self_eq_true]
    split
    · rfl
    · simpa using o1
  · simp
/-- the same but for the bits of NaN -/
theorem sameF_fab {a b : Nat} (h : fab .f64 a = fab .f64 b) : sameF a b = true := by
  cases ha : nan64 a
  · cases hb : nan64 b
    · rw [fab_some ha, fab_some hb] at h
      cases h
      exact sameF_self a
    · rw [fab_some ha, fab_none hb] at h; cases h
  · cases hb : nan64 b
    · rw [fab_none ha, fab_some hb] at h; cases h
    · unfold sameF; rw [ha, hb]; rfl

theorem wid_inf {b : Nat} {s : Bool} (h : Ieee.single.read b = .infinity s) : Ieee.double.read (wid b) = .infinity s := by
  unfold wid FloatKind.encode FloatKind.decode
  rw [show FloatKind.f32.format = Ieee.single from rfl, h]
  show Ieee.double.read (Ieee.double.word s Ieee.double.infRung) = _
  rw [Flo.read_word_inf, if_neg (by decide)]
theorem fcv_wide {b : Nat} (h : nan32 b = false) (w : World) : fcv w .f32 b .f64 = wid b := by
  cases hd : Ieee.single.read b with
  | number s m p => exact fcv_up ⟨s, m, p, hd⟩ w
  | infinity s =>
    have hd' : FloatKind.f32.decode b = .infinity s := hd
    unfold fcv wid
    rw [if_neg (by decide), hd']
  | nan s f =>
    have hd' : FloatKind.f32.decode b = .nan s f := hd
    unfold nan32 at h; rw [hd'] at h; cases h
theorem fcd_wide {b : Nat} (h : nan32 b = false) : fcd .f32 b .f64 = 0 := by
  cases hd : Ieee.single.read b with
  | number s m p => exact fcd_up ⟨s, m, p, hd⟩
  | infinity s =>
    have hd' : FloatKind.f32.decode b = .infinity s := hd
    unfold fcd
    rw [if_neg (by decide), hd']
  | nan s f =>
    have hd' : FloatKind.f32.decode b = .nan s f := hd
    unfold nan32 at h; rw [hd'] at h; cases h
theorem nan_wide {b : Nat} (h : nan32 b = true) (w : World) : nan64 (fcv w .f32 b .f64) = true := by
  unfold nan32 at h
  cases hd : FloatKind.f32.decode b with
  | number s m p => rw [hd] at h; cases h
  | infinity s => rw [hd] at h; cases h
  | nan s f =>
    unfold fcv
    rw [if_neg (by decide), hd]
    exact nan_conv _ _ _
theorem wid_nan {b : Nat} (h : nan32 b = false) : nan64 (wid b) = false := by
  unfold nan64
  cases hd : Ieee.single.read b with
  | number s m p =>
    obtain ⟨m', p', h1, -⟩ := wid_read hd
    rw [show FloatKind.f64.decode (wid b) = _ from h1]; rfl
  | infinity s => rw [show FloatKind.f64.decode (wid b) = _ from wid_inf hd]; rfl
  | nan s f => unfold nan32 at h; rw [show FloatKind.f32.decode b = _ from hd] at h; cases h
/-- what a number of single precision is, widened: none for NaN -/
def wA (b : Nat) : Option Nat := if nan32 b then none else some (wid b)
theorem fab_wide (b : Nat) (w : World) : fab .f64 (fcv w .f32 b .f64) = wA b := by
  unfold wA
  cases h : nan32 b
  · rw [fcv_wide h w, fab_some (wid_nan h)]; rfl
  · rw [fab_none (nan_wide h w)]; rfl

/-! ### order -/
theorem order_wide {a b : Nat} (ha : nan32 a = false) (hb : nan32 b = false) : FloatKind.f64.format.order (wid a) (wid b) = FloatKind.f32.format.order a b := by
  show Ieee.double.order (wid a) (wid b) = Ieee.single.order a b
  cases h1 : Ieee.single.read a with
  | nan s f => unfold nan32 at ha; rw [show FloatKind.f32.decode a = _ from h1] at ha; cases ha
  | infinity s =>
    have k1 := wid_inf h1
    cases h2 : Ieee.single.read b with
    | nan s f => unfold nan32 at hb; rw [show FloatKind.f32.decode b = _ from h2] at hb; cases hb
    | infinity t => unfold Ieee.Format.order; rw [k1, wid_inf h2, h1, h2]; try rfl
    | number t n j =>
      obtain ⟨m', p', k2, -⟩ := wid_read h2
      unfold Ieee.Format.order; rw [k1, k2, h1, h2]; try rfl
  | number s m i =>
    obtain ⟨m', p', k1, e1⟩ := wid_read h1
    cases h2 : Ieee.single.read b with
    | nan s f => unfold nan32 at hb; rw [show FloatKind.f32.decode b = _ from h2] at hb; cases hb
    | infinity t => unfold Ieee.Format.order; rw [k1, wid_inf h2, h1, h2]; try rfl
    | number t n j =>
      have sa : Sm a := ⟨_, _, _, h1⟩
      have sb : Sm b := ⟨_, _, _, h2⟩
      have o := Flo.order_num Ieee.single a b sa sb
      have O := Flo.order_num Ieee.double (wid a) (wid b) (wid_num sa).1 (wid_num sb).1
      have va : Flo.V Ieee.double (wid a) = Flo.V Ieee.single a := (wid_num sa).2
      have vb : Flo.V Ieee.double (wid b) = Flo.V Ieee.single b := (wid_num sb).2
      rw [va, vb] at O
      have hs : ∃ r, Ieee.single.order a b = some r := by unfold Ieee.Format.order; rw [h1, h2]; exact ⟨_, rfl⟩
      obtain ⟨r, hr⟩ := hs
      rw [hr]
      cases r
      · exact O.1.2 (o.1.1 hr)
      · exact O.2.1.2 (o.2.1.1 hr)
      · exact O.2.2.2 (o.2.2.1 hr)

end Go.Proofs.Ytfgofmcpgfofaaa

/- Absolute values of single precision, by way of double precision: numbers of both precisions that stand for the same number, or infinity, that is not negative.
   Conditions: those that each statement names. -/
namespace Go.Proofs.Ytfgofmcpgfofaaa
open Go Go.RowKit

namespace Flo
open Ieee
/-- A number that the format has is written as it is: also the greatest ones. -/
theorem write_exact_top (f : Format) (he : 2 ≤ f.exponentBits) (s : Bool) (m : Nat) (p : Int) (k : Nat) (e : Int) (hk : (m : Rat) * pw p = (k : Rat) * pw e) (hk1 : k < 2 ^ (f.fractionBits + 1)) (hp : f.leastPlace ≤ e) (hB : e ≤ f.leastPlace + ((2 ^ f.exponentBits : Nat) - 3)) :
    ∃ m' p', f.read (f.write (.number s m p)) = .number s m' p' ∧ (m' : Rat) * pw p' = (m : Rat) * pw p := by
  have hw : f.write (.number s m p) = f.nearest s m p := rfl
  rw [hw]
  by_cases h : m = 0
  · subst h
    have : f.nearest s 0 p = f.word s 0 := by unfold Format.nearest; simp
    rw [this, zero_read]
    exact ⟨_, _, rfl, by simp⟩
  · obtain ⟨n1, n2⟩ := kept_near f s m p
    have hk0 : k ≠ 0 := by
      intro hk0; subst hk0
      have := (size_pw m p h).1
      have := pw_pos (p + m.log2)
      simp at hk
      grind
    have hlast : lastOf f m p ≤ e := by
      have a1 := (size_pw m p h).1
      have a2 := (size_pw k e hk0).2
      rw [← hk] at a2
      have a3 := lt_of_pw_lt (a := p + m.log2) (b := e + k.log2 + 1) (by grind)
      have a4 : k.log2 < f.fractionBits + 1 := by
        rw [Nat.log2_lt hk0]; exact hk1
      unfold lastOf; omega
    have hex : (keptOf f s m p : Rat) * pw (lastOf f m p) = (m : Rat) * pw p := by
      obtain ⟨d, hd⟩ := Int.le.dest hlast
      rw [hk, ← hd, Int.add_comm, pw_add, pw_nat] at n1 n2
      rw [hk, ← hd, Int.add_comm, pw_add, pw_nat]
      have hp := pw_pos (lastOf f m p)
      have q1 : keptOf f s m p ≤ k * 2 ^ d := le_nat_of _ _ (lastOf f m p) (by push_cast; grind)
      have q2 : k * 2 ^ d ≤ keptOf f s m p := le_nat_of _ _ (lastOf f m p) (by push_cast; grind)
      have q3 : keptOf f s m p = k * 2 ^ d := by omega
      rw [q3]; push_cast; grind
    have hkl : keptOf f s m p < 2 ^ (f.fractionBits + 1) := by
      rcases Nat.lt_or_ge (keptOf f s m p) (2 ^ (f.fractionBits + 1)) with h1 | h1
      · exact h1
      · exfalso
        have h2 : ((2 ^ (f.fractionBits + 1) : Nat) : Rat) ≤ (keptOf f s m p : Rat) := by exact_mod_cast h1
        rw [← pw_nat] at h2
        have h3 := Rat.mul_le_mul_of_nonneg_right h2 (Rat.le_of_lt (pw_pos (lastOf f m p)))
        rw [← pw_add, hex] at h3
        have h4 := (size_pw m p h).2
        have h5 : pw (p + m.log2 + 1) ≤ pw (((f.fractionBits + 1 : Nat) : Int) + lastOf f m p) := pw_le (by unfold lastOf; omega)
        grind
    have hr : rungOf f s m p < f.infRung := by
      have h4 : 4 ≤ 2 ^ f.exponentBits := by
        have := Nat.pow_le_pow_right (n := 2) (by omega) he
        simpa using this
      unfold rungOf Format.infRung
      have hb1 : 2 ^ (f.fractionBits + 1) = 2 * f.binade := by rw [Nat.pow_succ, Nat.mul_comm]; rfl
      have h5 : (lastOf f m p - f.leastPlace).toNat ≤ 2 ^ f.exponentBits - 3 := by omega
      have h6 := Nat.mul_le_mul_right f.binade h5
      have h7 : (2 ^ f.exponentBits - 1) * f.binade = (2 ^ f.exponentBits - 3) * f.binade + 2 * f.binade := by rw [← Nat.add_mul]; congr 1; omega
      have := bin_pos f
      omega
    obtain ⟨m', p', h1, h2, h3, h4⟩ := read_nearest f s m p h hr
    exact ⟨m', p', h1, by rw [h2]; exact hex⟩
end Flo

/-- p (single) and b (double) stand for one number or infinity, neither with a sign -/
def Tw (p b : Nat) : Prop :=
  (∃ m i n j, Ieee.single.read p = .number false m i ∧ Ieee.double.read b = .number false n j ∧ (m : Rat) * Flo.pw i = (n : Rat) * Flo.pw j) ∨
  (Ieee.single.read p = .infinity false ∧ Ieee.double.read b = .infinity false)
theorem Tw.nan {p b : Nat} (h : Tw p b) : nan32 p = false ∧ nan64 b = false := by
  unfold nan32 nan64
  rcases h with ⟨m, i, n, j, h1, h2, -⟩ | ⟨h1, h2⟩
  · rw [show FloatKind.f32.decode p = _ from h1, show FloatKind.f64.decode b = _ from h2]; exact ⟨rfl, rfl⟩
  · rw [show FloatKind.f32.decode p = _ from h1, show FloatKind.f64.decode b = _ from h2]; exact ⟨rfl, rfl⟩
theorem tw_zero : Tw 0 0 := .inl ⟨0, -149, 0, -1074, by decide, by decide, by simp⟩

theorem order_val {f g : Ieee.Format} {a b c d : Nat} (ha : Flo.IsNum f a) (hb : Flo.IsNum f b) (hc : Flo.IsNum g c) (hd : Flo.IsNum g d) (h1 : Flo.V f a = Flo.V g c) (h2 : Flo.V f b = Flo.V g d) : f.order a b = g.order c d := by
  have o := Flo.order_num f a b ha hb
  have O := Flo.order_num g c d hc hd
  rw [← h1, ← h2] at O
  have hs : ∃ r, f.order a b = some r := by
    obtain ⟨s, m, i, ha⟩ := ha
    obtain ⟨t, n, j, hb⟩ := hb
    unfold Ieee.Format.order; rw [ha, hb]; exact ⟨_, rfl⟩
  obtain ⟨r, hr⟩ := hs
  rw [hr]
  cases r
  · exact (O.1.2 (o.1.1 hr)).symm
  · exact (O.2.1.2 (o.2.1.1 hr)).symm
  · exact (O.2.2.2 (o.2.2.1 hr)).symm

theorem Tw.order {p b q c : Nat} (h : Tw p b) (k : Tw q c) : Ieee.double.order b c = Ieee.single.order p q := by
  rcases h with ⟨m, i, n, j, h1, h2, h3⟩ | ⟨h1, h2⟩
  · rcases k with ⟨m', i', n', j', k1, k2, k3⟩ | ⟨k1, k2⟩
    · refine order_val ⟨_, _, _, h2⟩ ⟨_, _, _, k2⟩ ⟨_, _, _, h1⟩ ⟨_, _, _, k1⟩ ?_ ?_
      · rw [Flo.V_eq h1, Flo.V_eq h2]; unfold Flo.val; simp only [Bool.false_eq_true, if_false]; rw [h3]
      · rw [Flo.V_eq k1, Flo.V_eq k2]; unfold Flo.val; simp only [Bool.false_eq_true, if_false]; rw [k3]
    · unfold Ieee.Format.order; rw [h1, h2, k1, k2]; try rfl
  · rcases k with ⟨m', i', n', j', k1, k2, k3⟩ | ⟨k1, k2⟩
    · unfold Ieee.Format.order; rw [h1, h2, k1, k2]; try rfl
    · unfold Ieee.Format.order; rw [h1, h2, k1, k2]; try rfl

/-- against a widened number -/
theorem Tw.order_wid {p b g : Nat} (h : Tw p b) (hg : nan32 g = false) : Ieee.double.order b (wid g) = Ieee.single.order p g := by
  cases hd : Ieee.single.read g with
  | nan s f => unfold nan32 at hg; rw [show FloatKind.f32.decode g = _ from hd] at hg; cases hg
  | infinity s =>
    have k := wid_inf hd
    rcases h with ⟨m, i, n, j, h1, h2, h3⟩ | ⟨h1, h2⟩
    · unfold Ieee.Format.order; rw [h1, h2, hd, k]; rfl
    · unfold Ieee.Format.order; rw [h1, h2, hd, k]; try rfl
  | number s m' i' =>
    obtain ⟨n', j', k, k3⟩ := wid_read hd
    rcases h with ⟨m, i, n, j, h1, h2, h3⟩ | ⟨h1, h2⟩
    · refine order_val ⟨_, _, _, h2⟩ ⟨_, _, _, k⟩ ⟨_, _, _, h1⟩ ⟨_, _, _, hd⟩ ?_ ?_
      · rw [Flo.V_eq h1, Flo.V_eq h2]; unfold Flo.val; simp only [Bool.false_eq_true, if_false]; rw [h3]
      · rw [Flo.V_eq hd, Flo.V_eq k]; unfold Flo.val; rw [k3]
    · unfold Ieee.Format.order; rw [h1, h2, hd, k]; rfl

/-- two of single precision that stand for the same one are the same, widened -/
theorem Tw.same {p q b : Nat} (h : Tw p b) (k : Tw q b) (w1 w2 : World) : sameF (fcv w1 .f32 p .f64) (fcv w2 .f32 q .f64) = true := by
  rw [fcv_wide h.nan.1, fcv_wide k.nan.1]
  unfold sameF
  rw [wid_nan h.nan.1, wid_nan k.nan.1]
  simp only [Bool.or_self, Bool.false_eq_true, if_false]
  rw [show FloatKind.f64.format = Ieee.double from rfl]
  rcases h with ⟨m, i, n, j, h1, h2, h3⟩ | ⟨h1, h2⟩
  · rcases k with ⟨m', i', n', j', k1, k2, k3⟩ | ⟨k1, k2⟩
    · rw [h2] at k2; cases k2
      obtain ⟨a, c, e1, e2⟩ := wid_read h1
      obtain ⟨a', c', e3, e4⟩ := wid_read k1
      have ev : Flo.V Ieee.double (wid p) = Flo.V Ieee.double (wid q) := by rw [Flo.V_eq e1, Flo.V_eq e3]; unfold Flo.val; rw [e2, e4, h3, k3]
      have eq : Ieee.double.order (wid p) (wid q) = some .eq := (Flo.order_num Ieee.double (wid p) (wid q) ⟨_, _, _, e1⟩ ⟨_, _, _, e3⟩).2.1.2 ev
      have e0 : Ieee.double.order (wid p) 0 = Ieee.double.order (wid q) 0 := order_val ⟨_, _, _, e1⟩ zero_num.1 ⟨_, _, _, e3⟩ zero_num.1 ev rfl
      split
      · rename_i hz
        simp only [Bool.and_eq_true, beq_iff_eq] at hz
        have z1 := (Flo.order_num Ieee.double (wid p) 0 ⟨_, _, _, e1⟩ zero_num.1).2.1.1 hz.1
        have z2 := (Flo.order_num Ieee.double (wid q) 0 ⟨_, _, _, e3⟩ zero_num.1).2.1.1 hz.2
        rw [show Flo.V Ieee.double 0 = 0 from zero_num.2] at z1 z2
        have q1 : ∀ x a c, Ieee.double.read x = .number false a c → Flo.V Ieee.double x = 0 → (floatBits .quo .f64 4607182418800017408 x).getD 0 = (floatBits .quo .f64 4607182418800017408 0).getD 0 := by
          intro x a c hx hv
          have ha : a = 0 := by
            rw [Flo.V_eq hx] at hv
            unfold Flo.val at hv
            simp only [Bool.false_eq_true, if_false] at hv
            rcases Nat.eq_zero_or_pos a with h0 | h0
            · exact h0
            · exfalso
              have h1 : (0 : Rat) < a := by exact_mod_cast h0
              have := Rat.mul_pos h1 (Flo.pw_pos c)
              grind
          subst ha
          have hz : Ieee.double.read 0 = .number false 0 (-1074) := by decide
          show ((Ieee.double.div 4607182418800017408 x).getD 0) = ((Ieee.double.div 4607182418800017408 0).getD 0)
          unfold Ieee.Format.div
          rw [hx, hz]
          cases hr : Ieee.double.read 4607182418800017408 with
          | nan s f => rfl
          | infinity s => rfl
          | number s m i => by_cases hm : m = 0 <;> simp [Ieee.Datum.quotient, hm]
        rw [q1 _ _ _ e1 z1, q1 _ _ _ e3 z2]
        simp
      · rw [eq]; rfl
    · rw [h2] at k2; cases k2
  · rcases k with ⟨m', i', n', j', k1, k2, k3⟩ | ⟨k1, k2⟩
    · rw [h2] at k2; cases k2
    · have e1 := wid_inf h1
      have e2 := wid_inf k1
      have hz : Ieee.double.read 0 = .number false 0 (-1074) := by decide
      have o1 : Ieee.double.order (wid p) 0 = some .gt := by unfold Ieee.Format.order; rw [e1, hz]; rfl
      have o2 : Ieee.double.order (wid p) (wid q) = some .eq := by unfold Ieee.Format.order; rw [e1, e2]; rfl
      rw [o1, o2]; rfl

/-- narrowed again -/
theorem tw_narrow {x z : Nat} {s : Bool} {m : Nat} {i : Int} (hx : Ieee.single.read x = .number s m i) {n : Nat} {j : Int} (hz : Ieee.double.read z = .number false n j) (he : (n : Rat) * Flo.pw j = (m : Rat) * Flo.pw i) (w : World) :
    Tw (fcv w .f64 z .f32) z ∧ fcd .f64 z .f32 = 0 := by
  obtain ⟨h1, h2, h3⟩ := single_bound hx
  have e1 : Ieee.single.leastPlace = -149 := by decide
  have e2 : (2 ^ Ieee.single.exponentBits : Nat) = 256 := by decide
  obtain ⟨m', p', w1, w4⟩ := Flo.write_exact_top Ieee.single (by decide) false n j m i he (Nat.lt_of_lt_of_le h1 (by decide)) (by omega) (by omega)
  have hd : FloatKind.f64.decode z = .number false n j := hz
  have hr : FloatKind.f32.decode (FloatKind.f32.encode (.number false n j)) = .number false m' p' := w1
  constructor
  · unfold fcv
    rw [if_neg (by decide), hd]
    simp only
    rw [hr]
    simp only [Ieee.Datum.isInfinity, Bool.false_eq_true, if_false]
    exact .inl ⟨m', p', n, j, w1, hz, w4⟩
  · unfold fcd
    rw [if_neg (by decide), hd]
    simp only
    rw [hr]
    simp [Ieee.Datum.isInfinity]
theorem tw_narrow_inf {z : Nat} (hz : Ieee.double.read z = .infinity false) (w : World) : Tw (fcv w .f64 z .f32) z ∧ fcd .f64 z .f32 = 0 := by
  have hd : FloatKind.f64.decode z = .infinity false := hz
  constructor
  · unfold fcv
    rw [if_neg (by decide), hd]
    refine .inr ⟨?_, hz⟩
    show Ieee.single.read (Ieee.single.word false Ieee.single.infRung) = _
    rw [Flo.read_word_inf, if_neg (by decide)]
  · unfold fcd
    rw [if_neg (by decide), hd]


/-! ### absolute values -/
theorem labs_read {z : Nat} (hz : z < 2 ^ 64) {s : Bool} {n : Nat} {j : Int} (h : Ieee.double.read z = .number s n j) : ∃ n' j', Ieee.double.read (labs z) = .number false n' j' ∧ (n' : Rat) * Flo.pw j' = (n : Rat) * Flo.pw j := by
  have o := Flo.order_num Ieee.double z 0 ⟨_, _, _, h⟩ zero_num.1
  rw [show Flo.V Ieee.double 0 = 0 from zero_num.2, Flo.V_eq h] at o
  have hp := Flo.pw_pos j
  have hn : (0 : Rat) ≤ n := by exact_mod_cast Nat.zero_le n
  have hnp := Rat.mul_nonneg hn (Rat.le_of_lt hp)
  unfold labs
  rw [show FloatKind.f64.format = Ieee.double from rfl]
  by_cases h1 : Ieee.double.order z 0 = some .lt
  · rw [if_pos h1]
    have hlt := o.1.1 h1
    have hs : s = true := by
      cases s with
      | true => rfl
      | false => exfalso; unfold Flo.val at hlt; simp only [Bool.false_eq_true, if_false] at hlt; grind
    subst hs
    exact ⟨n, j, neg_read z hz true n j h, rfl⟩
  · rw [if_neg h1]
    by_cases h2 : Ieee.double.order z 0 = some .eq
    · rw [if_pos h2]
      have hv := o.2.1.1 h2
      refine ⟨0, -1074, by decide, ?_⟩
      unfold Flo.val at hv
      cases s <;> simp at hv ⊢ <;> grind
    · rw [if_neg h2]
      have hs : s = false := by
        cases s with
        | false => rfl
        | true =>
          exfalso
          unfold Flo.val at o
          simp only [if_true] at o
          rcases Classical.em (-1 * ((n : Rat) * Flo.pw j) < 0) with h3 | h3
          · exact h1 (o.1.2 h3)
          · exact h2 (o.2.1.2 (by grind))
      subst hs
      exact ⟨n, j, h, rfl⟩
theorem neg_inf {z : Nat} (hz : z < 2 ^ 64) (h : Ieee.double.read z = .infinity true) : Ieee.double.read (Op.negFloat .f64 z) = .infinity false := by
  have hsw : Ieee.double.signWeight = 9223372036854775808 := by decide
  have hir : Ieee.double.infRung = 9218868437227405312 := by decide
  have hz2 : z = 18442240474082181120 := by
    unfold Ieee.Format.read at h
    rw [hsw, hir] at h
    simp only at h
    split at h
    · cases h
    · split at h
      · cases h
      · split at h
        · rename_i g
          have hs : (z / 9223372036854775808 % 2 == 1) = true := by injection h
          simp only [beq_iff_eq] at hs
          omega
        · cases h
  rw [hz2]
  decide
theorem labs_inf {z : Nat} (hz : z < 2 ^ 64) {s : Bool} (h : Ieee.double.read z = .infinity s) : Ieee.double.read (labs z) = .infinity false := by
  have h0 : Ieee.double.read 0 = .number false 0 (-1074) := by decide
  unfold labs
  rw [show FloatKind.f64.format = Ieee.double from rfl]
  cases s with
  | true =>
    have h1 : Ieee.double.order z 0 = some .lt := by unfold Ieee.Format.order; rw [h, h0]; rfl
    rw [if_pos h1]
    exact neg_inf hz h
  | false =>
    have h1 : Ieee.double.order z 0 = some .gt := by unfold Ieee.Format.order; rw [h, h0]; rfl
    rw [h1]
    exact h

/-- THE ABSOLUTE VALUE IN SINGLE PRECISION, AND THAT OF THE MODEL: both stand for the same -/
theorem tw_abs {x : Nat} (hx : nan32 x = false) (w : World) : Tw (fcv w .f64 (wid x % signBit) .f32) (labs (wid x)) ∧ fcd .f64 (wid x % signBit) .f32 = 0 := by
  have hm := mod_read (wid x)
  cases hd : Ieee.single.read x with
  | nan s f => unfold nan32 at hx; rw [show FloatKind.f32.decode x = _ from hd] at hx; cases hx
  | infinity s =>
    have hw := wid_inf hd
    rw [show FloatKind.f64.decode (wid x) = _ from hw] at hm
    have k := tw_narrow_inf hm w
    refine ⟨?_, k.2⟩
    rcases k.1 with ⟨m, i, n, j, h1, h2, h3⟩ | ⟨h1, h2⟩
    · rw [show Ieee.double.read (wid x % signBit) = _ from hm] at h2; cases h2
    · exact .inr ⟨h1, labs_inf (wid_lt x) hw⟩
  | number s m i =>
    obtain ⟨n, j, hw, he⟩ := wid_read hd
    rw [show FloatKind.f64.decode (wid x) = _ from hw] at hm
    have k := tw_narrow hd hm he w
    refine ⟨?_, k.2⟩
    obtain ⟨n', j', l1, l2⟩ := labs_read (wid_lt x) hw
    rcases k.1 with ⟨m1, i1, n1, j1, h1, h2, h3⟩ | ⟨h1, h2⟩
    · rw [show Ieee.double.read (wid x % signBit) = _ from hm] at h2
      cases h2
      exact .inl ⟨m1, i1, n', j', h1, l1, by rw [h3, l2]⟩
    · rw [show Ieee.double.read (wid x % signBit) = _ from hm] at h2; cases h2

end Go.Proofs.Ytfgofmcpgfofaaa

/- Absolute values of single precision: the walk of absoluteSingle.
   Conditions: those that each statement names. -/
namespace Go.Proofs.Ytfgofmcpgfofaaa
open Go Go.RowKit

theorem implAbs_wide (x : Nat) (hx : nan32 x = false) (w : World) :
    Calls Try.prog 97 #[.float .f32 x] w fun e w' => (∃ p, e = .returned (.float .f32 p) ∧ Tw p (labs (wid x))) ∧ w = w' := by
  have a1 := fcv_wide hx
  have a2 := fcd_wide hx
  have a3 := fun w => (tw_abs hx w).2
  have a3 := a3 w
  have lt := wid_lt x
  go_enter Try.func97, Try.ntmps97
  go_wp2_with (go_at_call 76; refine (abs_any _ _ lt).mono ?_; rintro e w' ⟨rfl, rfl⟩)
  all_goals (go_ret; exact ⟨⟨_, rfl, (tw_abs hx _).1⟩, rfl⟩)
theorem nan_abs {z : Nat} (h : nan64 z = true) (w : World) : nan32 (fcv w .f64 (z % signBit) .f32) = true := by
  unfold nan64 at h
  have hm := mod_read z
  cases hd : FloatKind.f64.decode z with
  | number s m p => rw [hd] at h; cases h
  | infinity s => rw [hd] at h; cases h
  | nan s f =>
    rw [hd] at hm
    unfold fcv
    rw [if_neg (by decide), hm]
    exact nan_conv _ _ _
theorem nan_order {k : FloatKind} {z : Nat} (h : (k.decode z).isNaN = true) (b : Nat) : (k.format.order z b == some .gt) = false := by
  unfold Ieee.Format.order
  unfold FloatKind.decode at h
  cases hd : k.format.read z <;> rw [hd] at h <;> simp [Ieee.Datum.isNaN] at h
  simp [Ieee.Datum.order]
theorem nan_labs {z : Nat} (h : nan64 z = true) : labs z = z := by
  have h0 : FloatKind.f64.format.order z 0 = none := by
    unfold Ieee.Format.order
    unfold nan64 FloatKind.decode at h
    cases hd : FloatKind.f64.format.read z <;> rw [hd] at h <;> simp [Ieee.Datum.isNaN] at h
    simp [Ieee.Datum.order]
  unfold labs; rw [h0]; simp
theorem implAbs_nan (x : Nat) (hx : nan32 x = true) (h32 : x < 2 ^ 32) (w : World) :
    Calls Try.prog 97 #[.float .f32 x] w fun e w' => (∃ p, e = .returned (.float .f32 p) ∧ nan32 p = true) ∧ Nw w w' := by
  have lt := fun w => fcv_wf w .f32 x .f64 (show x < 2 ^ FloatKind.f32.format.width from h32)
  have hn := fun w => nan_wide hx w
  go_enter Try.func97, Try.ntmps97
  go_wp2_with (go_at_call 76; refine (abs_any _ _ (lt _)).mono ?_; rintro e w' ⟨rfl, rfl⟩)
  all_goals (go_ret; exact ⟨⟨_, rfl, nan_abs (hn _) _⟩, ⟨rfl, rfl, rfl, Nat.le_refl _, fun _ _ _ => rfl⟩⟩)

end Go.Proofs.Ytfgofmcpgfofaaa

/- The walks of bowSticks and BowForce, for all numbers.
   Conditions: those that each statement names. -/
namespace Go.Proofs.Ytfgofmcpgfofaaa
open Go Go.RowKit

/-- does the bow stick? -/
def stickB (d g : Nat) : Bool := !nan32 g && (FloatKind.f64.format.order (labs (wid d)) (wid g) == some .lt || FloatKind.f64.format.order (labs (wid d)) (wid g) == some .eq)
/-- the force, but for the bits of NaN -/
def forceA (bow vel grip : Nat) : Option Nat :=
  match floatBits .sub .f32 bow vel with
  | some d => if stickB d grip then some d else fA .quo .f32 (fA .mul .f32 (fab .f32 grip) (fab .f32 grip)) (some d)
  | none => none
def BowP (bow vel grip : Nat) (w : World) (e : Ending) (w' : World) : Prop := ∃ r, e = .returned (.float .f32 r) ∧ fab .f32 r = forceA bow vel grip ∧ Nw w w'
def BowP2 (bow vel grip : Nat) (w : World) (e : Ending) (w' : World) : Prop := ∃ r b, e = .returned (.tuple #[.float .f32 r, .bool b]) ∧ fab .f32 r = forceA bow vel grip ∧ Nw w w'

theorem nan_right {k : FloatKind} {z : Nat} (h : (k.decode z).isNaN = true) (b : Nat) (o : Ordering) : (k.format.order b z == some o) = false := by
  unfold Ieee.Format.order
  unfold FloatKind.decode at h
  cases hd : k.format.read z <;> rw [hd] at h <;> simp [Ieee.Datum.isNaN] at h
  cases k.format.read b <;> simp [Ieee.Datum.order]
theorem nan_left {k : FloatKind} {z : Nat} (h : (k.decode z).isNaN = true) (b : Nat) (o : Ordering) : (k.format.order z b == some o) = false := by
  unfold Ieee.Format.order
  unfold FloatKind.decode at h
  cases hd : k.format.read z <;> rw [hd] at h <;> simp [Ieee.Datum.isNaN] at h
  simp [Ieee.Datum.order]

theorem sticks_wide (d g : Nat) (hd : nan32 d = false) (w : World) :
    Calls Try.prog 90 #[.float .f32 d, .float .f32 g] w fun e w' => e = .returned (.bool (stickB d g)) ∧ w = w' := by
  go_enter Try.func90, Try.ntmps90
  go_wp2_with fail
  refine (implAbs_wide d hd _).mono ?_
  rintro e w1 ⟨⟨q, rfl, hq⟩, rfl⟩
  have hr : (FloatKind.f32.format.order q g == some .lt || FloatKind.f32.format.order q g == some .eq) = stickB d g := by
    unfold stickB
    cases hg : nan32 g with
    | true => rw [nan_right (k := .f32) hg, nan_right (k := .f32) hg]; rfl
    | false => rw [show FloatKind.f64.format.order (labs (wid d)) (wid g) = FloatKind.f32.format.order q g from hq.order_wid hg]; rfl
  go_wp2
  go_ret
  exact ⟨by simp, rfl⟩
theorem sticks_nan (d g : Nat) (hd : nan32 d = true) (h32 : d < 2 ^ 32) (w : World) :
    Calls Try.prog 90 #[.float .f32 d, .float .f32 g] w fun e w' => e = .returned (.bool false) ∧ Nw w w' := by
  go_enter Try.func90, Try.ntmps90
  go_wp2_with fail
  refine (implAbs_nan d hd h32 _).mono ?_
  rintro e w1 ⟨⟨q, rfl, hq⟩, n1⟩
  have h1 := nan_left (k := .f32) hq g .lt
  have h2 := nan_left (k := .f32) hq g .eq
  have N1 := Lib.hid n1
  clear n1
  go_wp2
  go_ret
  exact ⟨by simp_all, N1.out⟩

theorem sub_nan {bow vel : Nat} (h : floatBits .sub .f32 bow vel = none) (w : World) : nan32 (fres w .sub .f32 bow vel) = true := by
  unfold fres; rw [h]; exact nan_cut _ _ _ _
theorem fA_none_right (op : BinOp) (k : FloatKind) (a : Option Nat) : fA op k a none = none := by cases a <;> rfl

theorem implBow_ok (bow vel grip : Nat) (w : World) :
    Calls Try.prog 42 #[.float .f32 bow, .float .f32 vel, .float .f32 grip] w (BowP bow vel grip w) := by
  cases hs : floatBits .sub .f32 bow vel with
  | some d =>
    have hd : nan32 d = false := (floatBits_not_nan hs).1
    have r1 : ∀ w, fres w .sub .f32 bow vel = d := fun w => by unfold fres; rw [hs]
    have d1 : fdr .sub .f32 bow vel = 0 := by unfold fdr; rw [hs]; rfl
    cases hst : stickB d grip with
    | true =>
      go_enter Try.func42, Try.ntmps42
      go_wp2_with fail
      refine (sticks_wide d grip hd _).mono ?_
      rintro e w1 ⟨rfl, rfl⟩
      rw [hst]
      go_wp2
      go_ret
      exact ⟨_, rfl, by unfold forceA; rw [hs]; simp only [hst, if_true]; exact fab_some hd, Nw.refl _⟩
    | false =>
      go_enter Try.func42, Try.ntmps42
      go_wp2_with fail
      refine (sticks_wide d grip hd _).mono ?_
      rintro e w1 ⟨rfl, rfl⟩
      rw [hst]
      go_wp2
      go_ret
      exact ⟨_, rfl, by unfold forceA; rw [hs]; simp only [hst, Bool.false_eq_true, if_false]; rw [fab_fres, fab_fres, fab_some hd], ⟨rfl, rfl, rfl, Nat.le_refl _, fun _ _ _ => rfl⟩⟩
  | none =>
    have hn := sub_nan hs
    have lt := fun w => fres_wf w .sub .f32 bow vel
    have Hs := Lib.hid hs
    clear hs
    go_enter Try.func42, Try.ntmps42
    go_wp2_with fail
    refine (sticks_nan _ grip (hn _) (lt _) _).mono ?_
    rintro e w1 ⟨rfl, n1⟩
    have N1 := Lib.hid n1
    clear n1
    go_wp2
    go_ret
    refine ⟨_, rfl, ?_, ?_⟩
    · unfold forceA; rw [Hs.out]
      simp only
      rw [fab_fres, fab_none (hn _), fA_none_right]
    · exact ((Nw.refl w).draw _).trans (N1.out.trans ⟨rfl, rfl, rfl, Nat.le_refl _, fun _ _ _ => rfl⟩)

end Go.Proofs.Ytfgofmcpgfofaaa

/- The walk of BowBody with the greatest grip, twelve steps of a valid body of at most three modes: the first eleven outputs are the same each time, but for the bits of NaN.
   Conditions: those that each statement names. -/
namespace Go.Proofs.Ytfgofmcpgfofaaa
open Go Go.RowKit

def gmax : Nat := 2139095039
theorem gmax_read : Ieee.single.read 2139095039 = .number false 16777215 104 := by decide
theorem stick_max (d : Nat) (h : Sm d) : stickB d 2139095039 = true := by
  obtain ⟨s, m, i, hd⟩ := h
  obtain ⟨h1, h2, h3⟩ := single_bound hd
  obtain ⟨n, j, hw, he⟩ := wid_read hd
  obtain ⟨n', j', l1, l2⟩ := labs_read (wid_lt d) hw
  obtain ⟨n2, j2, hw2, he2⟩ := wid_read gmax_read
  have o := Flo.order_num Ieee.double (labs (wid d)) (wid 2139095039) ⟨_, _, _, l1⟩ ⟨_, _, _, hw2⟩
  rw [Flo.V_eq l1, Flo.V_eq hw2] at o
  unfold Flo.val at o
  simp only [Bool.false_eq_true, if_false] at o
  have hp := Flo.pw_pos i
  have hle : (n' : Rat) * Flo.pw j' ≤ (n2 : Rat) * Flo.pw j2 := by
    rw [l2, he, he2]
    have hm : (m : Rat) ≤ ((16777215 : Nat) : Rat) := by exact_mod_cast (by omega : m ≤ 16777215)
    have hpw : Flo.pw i ≤ Flo.pw 104 := Flo.pw_le h3
    have q1 := Rat.mul_le_mul_of_nonneg_right hm (Rat.le_of_lt hp)
    have q2 := Rat.mul_le_mul_of_nonneg_left hpw (show (0 : Rat) ≤ ((16777215 : Nat) : Rat) by exact_mod_cast Nat.zero_le _)
    grind
  unfold stickB
  rw [show nan32 2139095039 = false from by decide, show FloatKind.f64.format = Ieee.double from rfl]
  by_cases e : (n' : Rat) * Flo.pw j' = (n2 : Rat) * Flo.pw j2
  · rw [o.2.1.2 (by rw [e])]; rfl
  · rw [o.1.2 (by grind)]; rfl

theorem fab_inj {k : FloatKind} {r y : Nat} (h : fab k r = some y) : r = y := by
  unfold fab at h
  split at h
  · cases h
  · injection h

theorem bow_force (ms : List M4) (hms : ∀ m ∈ ms, m.ok) (hl : ms.length ≤ 3) (x0 : Nat) (hx : Sm x0) (b0 : Flo.Ab (S x0) 9) (k b : Nat) (h : k ≤ 10 → b = (bowSt ms x0 k).2) (w : World) :
    Calls Try.prog 42 #[.float .f32 x0, .float .f32 b, .float .f32 2139095039] w fun e w' => (∃ r, e = .returned (.float .f32 r) ∧ (k ≤ 10 → r = bowF ms x0 k)) ∧ Nw w w' := by
  refine (implBow_ok x0 b 2139095039 w).mono ?_
  rintro e w' ⟨r, rfl, hr, hn⟩
  refine ⟨⟨r, rfl, fun hk => ?_⟩, hn⟩
  rw [h hk] at hr
  obtain ⟨c, f1, -⟩ := force_ok ms x0 k hx b0 hk (bow_ok ms hms hl x0 hx b0 k hk)
  unfold forceA at hr
  rw [show floatBits .sub .f32 x0 (bowSt ms x0 k).2 = some (bowF ms x0 k) from c] at hr
  simp only [stick_max _ f1, if_true] at hr
  exact fab_inj hr

/-- the eleventh output, but for the bits of NaN -/
def bowO (ms : List M4) (x0 : Nat) : Option Nat := outA (stepAll ms (bowSt ms x0 10).1 (bowF ms x0 10))
def BowS (ms : List M4) (x0 k n gs bs : Nat) (w : World) (e : Ending) (w' : World) : Prop :=
  ∃ (y : Nat) (sr : List (Nat × Nat)), e = .returned (.float .f32 y) ∧ sr.length = n ∧ w'.ownsRow bs 36 1 (.slice (some ⟨gs, 0, none⟩) n n) n (cellsC sr) ∧ w.grownBy w' (some gs) ∧
    (k < 10 → y = (bowSt ms x0 (k + 1)).2 ∧ sr = (bowSt ms x0 (k + 1)).1) ∧ (k = 10 → fab .f32 y = bowO ms x0)
theorem bow_steps (ms : List M4) (hms : ∀ m ∈ ms, m.ok) (hl : ms.length ≤ 3) (x0 : Nat) (hx : Sm x0) (b0 : Flo.Ab (S x0) 9) (k r : Nat) (hr : k ≤ 10 → r = bowF ms x0 k) (ss : List (Nat × Nat)) (n gs bs bm : Nat) (v : Value) (hn : ms.length = n) (hss : ss.length = n)
    (hk : k ≤ 10 → ss = (bowSt ms x0 k).1) (w : World)
    (hm : w.ownsRow bm 38 2 v n (cellsM ms)) (hs : w.ownsRow bs 36 1 (.slice (some ⟨gs, 0, none⟩) n n) n (cellsC ss)) (hne : v.ownBlock ≠ some gs) :
    Calls Try.prog 79 #[v, .slice (some ⟨gs, 0, none⟩) n n, .float .f32 r] w (BowS ms x0 k n gs bs w) := by
  have hla : ∀ x, (stepAll ms ss x).length = n := fun x => by simp [stepAll, hn, hss]
  by_cases h1 : k < 10
  · have e1 := hr (by omega)
    have e2 := hk (by omega)
    subst e1; subst e2
    refine (stepStates_ok ms hms _ _ n gs bs bm v hn hss (by omega) w hm hs hne (bow_step ms hms hl x0 hx b0 k (by omega)) (bow_sum ms hms hl x0 hx b0 k h1)).mono ?_
    rintro e w' ⟨rfl, h2, h3⟩
    exact ⟨_, _, rfl, hla _, h2, h3, fun _ => ⟨rfl, rfl⟩, fun h => by omega⟩
  · by_cases h10 : k = 10
    · subst h10
      have e1 := hr (by omega)
      have e2 := hk (by omega)
      subst e1; subst e2
      refine (stepStates_fab ms hms _ _ n gs bs bm v hn hss (by omega) w hm hs hne (bow_step ms hms hl x0 hx b0 10 (by omega))).mono ?_
      rintro e w' ⟨⟨y, rfl, hy⟩, h2, h3⟩
      exact ⟨_, _, rfl, hla _, h2, h3, fun h => by omega, fun _ => hy⟩
    · refine (stepStates_any ms ss r n gs bs bm v hn hss (by omega) w hm hs hne).mono ?_
      rintro e w' ⟨y, rfl, sr, h1', h2, h3⟩
      exact ⟨_, _, rfl, h1', h2, h3, fun h => by omega, fun h => by omega⟩

/-- what is known of the outputs after k steps -/
def BowY (ms : List M4) (x0 k : Nat) (ys : List Nat) : Prop :=
  ys.length = 12 ∧ (∀ j, j < k → j < 10 → ys[j]? = some (bowSt ms x0 (j + 1)).2) ∧ (10 < k → ∃ y, ys[10]? = some y ∧ fab .f32 y = bowO ms x0)
theorem bowY_next {ms : List M4} {x0 k y : Nat} {ys : List Nat} (h : BowY ms x0 k ys) (hk : k < 12) (h1 : k < 10 → y = (bowSt ms x0 (k + 1)).2) (h2 : k = 10 → fab .f32 y = bowO ms x0) : BowY ms x0 (k + 1) (ys.set k y) := by
  obtain ⟨a, b, c⟩ := h
  refine ⟨by rw [List.length_set]; exact a, fun j hj hj10 => ?_, fun h10 => ?_⟩
  · by_cases e : j = k
    · subst e
      rw [List.getElem?_set_self (by omega), h1 hj10]
    · rw [List.getElem?_set_ne (fun x => e x.symm)]
      exact b j (by omega) hj10
  · by_cases e : k = 10
    · subst e
      exact ⟨y, List.getElem?_set_self (by omega), h2 rfl⟩
    · rw [List.getElem?_set_ne e]
      exact c (by omega)

def BowI (bb gs gu q : Nat) (ms : List M4) (x0 : Nat) (bv : Value) (w : World) (vel i : Value) (wr : World) : Prop :=
  ∃ (k b : Nat) (ss : List (Nat × Nat)) (ys : List Nat), k ≤ 12 ∧ i = .int .i64 (k : Int) ∧ vel = .float .f32 b ∧ (k ≤ 10 → b = (bowSt ms x0 k).2) ∧ (k ≤ 10 → ss = (bowSt ms x0 k).1) ∧ ss.length = q ∧
    wr.ownsRow w.heap.size 36 1 (.slice (some ⟨gs, 0, none⟩) q q) q (cellsC ss) ∧ wr.ownsRow w.heap.size 49 1 (.slice (some ⟨gu, 0, none⟩) 12 12) 12 (cellsS ys) ∧ BowY ms x0 k ys ∧ Has1 wr bb bv ∧ Nw w wr
def BowBP (ms : List M4) (x0 : Nat) (w : World) (e : Ending) (w' : World) : Prop :=
  ∃ (g : Nat) (ys : List Nat), e = .returned (.tuple #[.slice (some ⟨g, 0, none⟩) 12 12, .bool true]) ∧ w'.ownsRow w.heap.size 49 1 (.slice (some ⟨g, 0, none⟩) 12 12) 12 (cellsS ys) ∧ BowY ms x0 12 ys ∧ Nw w w'

set_option maxRecDepth 100000 in
set_option maxHeartbeats 3200000 in
theorem bowBody_ok (ms : List M4) (hms : ∀ m ∈ ms, m.ok) (x0 : Nat) (hx : Sm x0) (hx8 : Flo.Ab (S x0) 9) (q bm : Nat) (v : Value) (hq : ms.length = q) (hq3 : q ≤ 3) (w : World)
    (hm : w.ownsRow bm 38 2 v q (cellsM ms)) :
    Calls Try.prog 43 #[.agg #[v], .float .f32 x0, .float .f32 2139095039, .int .i64 12] w (BowBP ms x0 w) := by
  obtain ⟨va, vc, rfl⟩ := own_shape' hm
  obtain ⟨j0, hj, hjz0, hjz1, hjz2⟩ := info_parts info_c64
  obtain ⟨f0, hf, hfz0, hfz1, hfz2⟩ := info_parts info_f32
  have hvlt : ∀ g, (Value.slice va q vc).ownBlock = some g → g < w.heap.size := fun g hg => (hm.lt g hg).2
  have Hvlt := Lib.hid hvlt
  have Hm := Lib.hid hm
  have Hq := Lib.hid hq
  have Hx := Lib.hid (And.intro hx hx8)
  have Hl := Lib.hid (show ms.length ≤ 3 by omega)
  have Hbox := Lib.hid (Has1.new w 45 (.slice va q vc))
  have Hn0 := Lib.hid ((Nw.refl w).alloc (.cells #[.slice va q vc] 45 (0, 0)))
  have Hm0 := Lib.hid (own_nw hm Hn0.out)
  clear hm hq hvlt hx hx8
  go_enter Try.func43, Try.ntmps43
  go_wp2_with fail
  refine (implIsBody_ok ms hms q bm _ Hq.out (by omega) _ Hm0.out).mono ?_
  rintro e w1 ⟨rfl, n1⟩
  have Hb1 := Lib.hid (Hbox.out.nw n1)
  have Hn1 := Lib.hid (Hn0.out.trans n1)
  clear n1
  go_wp2_with fail
  refine (isSteps_ok 12 (by omega) _).mono ?_
  rintro e w2 ⟨rfl, rfl⟩
  obtain ⟨b0, b1, b2⟩ := Hb1.out
  have hs1 := Hn1.out.size
  have hb1lt : w.heap.size < w1.heap.size := b0
  go_wp2_with (first
    | (at_make; refine wpList_make_full _ rfl _ _ 96 rfl w.heap.size 36 j0 (.complex .f32 0 0) 1 Try.underlying96 hj hjz0 hjz1 _ _ _ _ q rfl rfl rfl rfl (by rw [hjz2]; omega) (by unfold maxLen; omega) hs1 ?_))
  intro w3 hown3 hgrow3
  have Hs3 := Lib.hid (show w3.ownsRow w.heap.size 36 1 (.slice (some ⟨w1.heap.size, 0, none⟩) q q) q (cellsC (bowSt ms x0 0).1) from by
    rw [toList_madeCells_one] at hown3
    rw [show cellsC (bowSt ms x0 0).1 = List.replicate q (Value.complex .f32 0 0) from by simp only [bowSt, cellsC, List.map_map, Function.comp_def]; rw [List.map_const', Hq.out]]
    exact hown3)
  have Hb3 := Lib.hid (Hb1.out.nw hgrow3)
  have Hn3 := Lib.hid (Hn1.out.trans hgrow3)
  have hs3 := Hn3.out.size
  have hlt3 : w1.heap.size < w3.heap.size := (Hs3.out.lt _ rfl).2
  clear hown3 hgrow3 b0 b1 b2
  go_wp2_with (first
    | (at_make; refine wpList_make_full _ rfl _ _ 47 rfl w.heap.size 49 f0 (.float .f32 0) 1 Try.underlying47 hf hfz0 hfz1 _ _ _ _ 12 rfl rfl rfl rfl (by rw [hfz2]; omega) (by unfold maxLen; omega) hs3 ?_))
  intro w4 hown4 hgrow4
  have Ho4 := Lib.hid (show w4.ownsRow w.heap.size 49 1 (.slice (some ⟨w3.heap.size, 0, none⟩) 12 12) 12 (cellsS (List.replicate 12 0)) from by
    rw [toList_madeCells_one] at hown4
    simpa [cellsS] using hown4)
  have Hs4 := Lib.hid (own_nw Hs3.out hgrow4)
  have Hb4 := Lib.hid (Hb3.out.nw hgrow4)
  have Hn4 := Lib.hid (Hn3.out.trans hgrow4)
  clear hown4 hgrow4
  go_wp2_with fail
  go_loopw [12, 30] (fun vel i wr => BowI w.heap.size w1.heap.size w3.heap.size q ms x0 (.slice va q vc) w vel i wr) (fun _ i _ => 12 - (intOf i).toNat)
  case atStart => exact ⟨0, 0, _, _, by omega, rfl, rfl, fun _ => rfl, fun _ => rfl, by rw [bowSt_len]; exact Hq.out, Hs4.out, Ho4.out, ⟨by simp, fun j hj => by omega, fun h => by omega⟩, Hb4.out, Hn4.out⟩
  case round =>
    obtain ⟨k, b, ss, ys, hk, rfl, rfl, hvel, hsteq, hssl, hst, hou, hy, hbx, hnw⟩ := hrel
    have Hst := Lib.hid hst
    have Hou := Lib.hid hou
    have Hbx := Lib.hid hbx
    have Hnw := Lib.hid hnw
    have Hy := Lib.hid hy
    have Hvel := Lib.hid hvel
    have Hseq := Lib.hid hsteq
    have Hssl := Lib.hid hssl
    clear hst hou hbx hnw hy hvel hsteq hssl
    by_cases hlt : k < 12
    · obtain ⟨b0, b1, b2⟩ := Hbx.out
      go_upto_region 9 with fail
      have hg := Hnw.out.size
      have Hmr := Lib.hid (own_nw Hm.out Hnw.out)
      have hss := (Hst.out.lt _ rfl)
      have hoo := (Hou.out.lt _ rfl)
      obtain ⟨y0, hy0⟩ : ∃ y0, ys[k]? = some y0 := ⟨ys[k]'(by rw [Hy.out.1]; exact hlt), List.getElem?_eq_getElem _⟩
      have e1 := Hou.out.cellAt k (by omega)
      have e2 := Hou.out.frozenAt k
      rw [show (cellsS ys)[k]? = some (.float .f32 y0) from by unfold cellsS; rw [List.getElem?_map, hy0]; rfl] at e1
      clear hy0
      have hne : (Value.slice va q vc).ownBlock ≠ some w1.heap.size := fun e => by have := Hvlt.out _ e; omega
      have hne2 : some w3.heap.size ≠ some w1.heap.size := fun e => by simp at e; omega
      go_region_with (first
        | (go_at_call 42; refine (bow_force ms hms Hl.out x0 Hx.out.1 Hx.out.2 k b Hvel.out _).mono ?_; rintro e w5 ⟨⟨r, rfl, hr⟩, n5⟩; have b5 := n5.cell (p := ⟨w.heap.size, 0, none⟩) b0; have Hr := Lib.hid hr; have N5 := Lib.hid (show Nw wr w5 from ⟨n5.os, n5.tape, n5.output, n5.size, n5.block⟩); clear hr n5)
        | (go_at_call 79; refine (bow_steps ms hms Hl.out x0 Hx.out.1 Hx.out.2 k r Hr.out ss q w1.heap.size w.heap.size bm _ Hq.out Hssl.out Hseq.out _ (own_nw Hmr.out N5.out) (own_nw Hst.out N5.out) hne).mono ?_; rintro e w6 ⟨y, sr, rfl, hsr, hst6, hgr6, hn1, hn2⟩; have e3 := (grown_cell hgr6 (p := ⟨w3.heap.size, k, none⟩) (Nat.lt_of_lt_of_le hoo.2 N5.out.size) hne2).trans ((N5.out.cell (p := ⟨w3.heap.size, k, none⟩) hoo.2).trans e1); have e4 := (grown_frozen hgr6 (p := ⟨w3.heap.size, k, none⟩) (Nat.lt_of_lt_of_le hoo.2 N5.out.size) hne2).trans ((N5.out.frozen (p := ⟨w3.heap.size, k, none⟩) hoo.2).trans e2)))
      all_goals
        have hou6 := (own_nw Hou.out N5.out).kept hgr6 (.inr hne2)
        have hset := hou6.stored k (.float .f32 y)
        rw [show (cellsS ys).set k (.float .f32 y) = cellsS (ys.set k y) from by unfold cellsS; rw [List.map_set]] at hset
        have F1 := Lib.hid (hst6.kept hset.2 (.inr (fun e => hne2 e.symm)))
        have F2 := Lib.hid hset.1
        have F3 := Lib.hid ((Has1.grown (Hbx.out.nw N5.out) hgr6 (fun e => by simp at e; omega)).set (p := ⟨w3.heap.size, k, none⟩) (by show w3.heap.size ≠ w.heap.size; omega) (.float .f32 y))
        have F4 := Lib.hid ((nw_grown Hnw.out N5.out hgr6 hss.1).set (p := ⟨w3.heap.size, k, none⟩) hoo.1 (.float .f32 y))
        have F5 := Lib.hid (bowY_next Hy.out hlt (fun h => (hn1 h).1) hn2)
        have F6 := Lib.hid (And.intro hsr hn1)
        clear hou6 hset hst6 hgr6 e1 e2 b1 b2 hsr hn1 hn2
        go_wp2_with fail
        go_roundw
        case rel => exact ⟨k + 1, y, sr, _, by omega, by rw [show ((k + 1 : Nat) : Int) = (k : Int) + 1 from by omega], rfl, fun h => (F6.out.2 (by omega)).1, fun h => (F6.out.2 (by omega)).2, F6.out.1, F1.out, F2.out, F5.out, F3.out, F4.out⟩
        case measure => simp only [intOf]; omega
    · obtain rfl : k = 12 := by omega
      go_wp2_with fail
      go_ret2
      exact ⟨_, ys, rfl, Hou.out, Hy.out, Hnw.out⟩

end Go.Proofs.Ytfgofmcpgfofaaa

/- A small number less any number of single precision is a number of single precision.
   Conditions: those that each statement names. -/
namespace Go.Proofs.Ytfgofmcpgfofaaa
open Go Go.RowKit

def mx : Nat := 340282346638528859811704183484516925449
theorem mx_kept : Flo.keptOf Ieee.single false mx 0 = 16777215 ∧ Flo.lastOf Ieee.single mx 0 = 104 := by decide +kernel
theorem mx_eq : ((mx : Nat) : Rat) = 9 + 16777215 * Flo.pw 104 := by
  rw [show Flo.pw 104 = ((2 ^ 104 : Nat) : Rat) from Flo.pw_nat 104]
  have : mx = 9 + 16777215 * 2 ^ 104 := by decide
  rw [this]; push_cast; grind
theorem fit_write (q : Bool) (k : Nat) (e : Int) (h : (k : Rat) * Flo.pw e ≤ ((mx : Nat) : Rat)) : Sm (Ieee.single.write (.number q k e)) := by
  have hw : Ieee.single.write (.number q k e) = Ieee.single.nearest q k e := rfl
  rw [hw]
  by_cases h0 : k = 0
  · subst h0
    have : Ieee.single.nearest q 0 e = Ieee.single.word q 0 := by unfold Ieee.Format.nearest; simp
    rw [this]
    exact ⟨_, _, _, Flo.zero_read _ _⟩
  · have hm0 : (mx : Nat) ≠ 0 := by decide
    have hmono := Flo.kept_mono Ieee.single q false k mx e 0 h0 hm0 (by rw [Flo.pw_zero]; grind)
    rw [mx_kept.1, mx_kept.2] at hmono
    have hlast : Flo.lastOf Ieee.single k e ≤ 104 := by
      have z1 := (Flo.size_pw k e h0).1
      have z2 : ((mx : Nat) : Rat) < Flo.pw 128 := by
        rw [show Flo.pw 128 = ((2 ^ 128 : Nat) : Rat) from Flo.pw_nat 128]
        exact_mod_cast (by decide : mx < 2 ^ 128)
      have z3 : e + (k.log2 : Int) < 128 := Flo.lt_of_pw_lt (by grind)
      have e1 : Ieee.single.leastPlace = -149 := by decide
      have e2 : Ieee.single.fractionBits = 23 := rfl
      unfold Flo.lastOf
      omega
    have hb : Ieee.single.binade = 8388608 := by decide
    have hi : Ieee.single.infRung = 255 * 8388608 := by decide
    have e1 : Ieee.single.leastPlace = -149 := by decide
    have hkl := Flo.kept_le Ieee.single q k e h0
    have hr : Flo.rungOf Ieee.single q k e < Ieee.single.infRung := by
      have hcase : Flo.lastOf Ieee.single k e = 104 → Flo.keptOf Ieee.single q k e ≤ 16777215 := by
        intro hl
        rw [hl] at hmono
        refine Flo.le_nat_of _ _ 104 ?_
        have := Flo.pw_pos 104
        grind
      have hkl' : Flo.keptOf Ieee.single q k e ≤ 16777216 := hkl
      unfold Flo.rungOf
      rw [hb, hi, e1]
      generalize Flo.lastOf Ieee.single k e = l at *
      generalize Flo.keptOf Ieee.single q k e = c at *
      by_cases hl : l = 104
      · have := hcase hl
        subst hl
        show (104 - -149 : Int).toNat * 8388608 + c < 255 * 8388608
        have e : (104 - -149 : Int).toNat = 253 := by decide
        rw [e]; omega
      · have hl2 : (l - -149).toNat ≤ 252 := by omega
        have := Nat.mul_le_mul_right 8388608 hl2
        omega
    obtain ⟨m', p', h1, -, -, -⟩ := Flo.read_nearest Ieee.single q k e h0 hr
    exact ⟨_, _, _, h1⟩
theorem fit_sub (x b : Nat) (hx : Sm x) (hb : Sm b) (h8 : Flo.Ab (S x) 9) : Calm .sub .f32 x b ∧ Sm (opB .sub .f32 x b) := by
  obtain ⟨s, m, i, hx⟩ := hx
  obtain ⟨t, n, j, hb⟩ := hb
  obtain ⟨n1, n2, n3⟩ := single_bound hb
  obtain ⟨q, k, e, h1, h2⟩ := Flo.sum_val s (!t) m n i j
  rw [show S x = Flo.val s m i from Flo.V_eq hx] at h8
  have hs : floatBits .sub .f32 x b = some (Ieee.single.write (.number q k e)) := by
    show Ieee.single.sub x b = _
    unfold Ieee.Format.sub
    rw [hx, hb]
    show (Ieee.Datum.sum (.number s m i) (.number (!t) n j)).map _ = _
    rw [h1]; rfl
  have hn : (n : Rat) * Flo.pw j ≤ 16777215 * Flo.pw 104 := by
    have hm : (n : Rat) ≤ ((16777215 : Nat) : Rat) := by exact_mod_cast (by omega : n ≤ 16777215)
    have hm' : (n : Rat) ≤ 16777215 := hm
    have q1 := Rat.mul_le_mul_of_nonneg_right hm' (Rat.le_of_lt (Flo.pw_pos j))
    have q2 := Rat.mul_le_mul_of_nonneg_left (Flo.pw_le n3) (show (0 : Rat) ≤ 16777215 by grind)
    grind
  have hk : (k : Rat) * Flo.pw e ≤ ((mx : Nat) : Rat) := by
    rw [mx_eq]
    have hp := Flo.mag_nonneg n j
    unfold Flo.val at h2 h8
    unfold Flo.Ab at h8
    generalize (n : Rat) * Flo.pw j = N at *
    generalize (k : Rat) * Flo.pw e = K at *
    generalize (m : Rat) * Flo.pw i = M at *
    cases q <;> cases t <;> cases s <;> simp at h2 h8 <;> grind
  obtain ⟨c, eq⟩ := Calm.of hs
  rw [eq]
  exact ⟨c, fit_write q k e hk⟩
end Go.Proofs.Ytfgofmcpgfofaaa

/- Plain facts: a number of single precision with its sign turned.
   Conditions: those that each statement names. No program stands in it. -/
namespace Go.Proofs.Ytfgofmcpgfofaaa
open Go

abbrev ng (b : Nat) : Nat := Op.negFloat .f32 b
theorem ng_eq (b : Nat) : ng b = b ^^^ 2 ^ 31 := rfl
theorem ng_ng (b : Nat) : ng (ng b) = b := by rw [ng_eq, ng_eq, Nat.xor_assoc, Nat.xor_self, Nat.xor_zero]
theorem ng_mod (b : Nat) : ng b % 2 ^ 31 = b % 2 ^ 31 := by
  rw [ng_eq, Nat.xor_mod_two_pow]
  simp
theorem ng_bit (b : Nat) : (ng b / 2 ^ 31 % 2 == 1) = !(b / 2 ^ 31 % 2 == 1) := by
  have h1 := Nat.testBit_xor b (2 ^ 31) 31
  have h2 : (2 ^ 31 : Nat).testBit 31 = true := by decide
  rw [h2] at h1
  rw [Nat.testBit_eq_decide_div_mod_eq, Nat.testBit_eq_decide_div_mod_eq] at h1
  rw [ng_eq]
  have e : ∀ z : Nat, (z == 1) = decide (z = 1) := fun z => by by_cases hz : z = 1 <;> simp [hz]
  rw [e, e, h1]
  cases decide (b / 2 ^ 31 % 2 = 1) <;> rfl
theorem ng_read (b : Nat) {s : Bool} {m : Nat} {p : Int} (h : Ieee.single.read b = .number s m p) : Ieee.single.read (ng b) = .number (!s) m p := by
  have hsw : Ieee.single.signWeight = 2 ^ 31 := rfl
  unfold Ieee.Format.read at h ⊢
  rw [hsw] at h ⊢
  simp only [ng_mod, ng_bit] at h ⊢
  split at h
  · rename_i g; cases h; rw [if_pos g]
  · rename_i g
    split at h
    · rename_i g2; cases h; rw [if_neg g, if_pos g2]
    · split at h <;> cases h
theorem ng_val {b : Nat} (h : Sm b) : Sm (ng b) ∧ S (ng b) = - S b := by
  obtain ⟨s, m, p, h⟩ := h
  refine ⟨⟨_, _, _, ng_read b h⟩, ?_⟩
  rw [show S (ng b) = Flo.val (!s) m p from Flo.V_eq (ng_read b h), show S b = Flo.val s m p from Flo.V_eq h]
  unfold Flo.val
  cases s <;> simp <;> grind
end Go.Proofs.Ytfgofmcpgfofaaa

/- Rounding does not look at the sign: differences, quotients and forces of opposite numbers are opposite.
   Conditions: those that each statement names. -/
namespace Go.Proofs.Ytfgofmcpgfofaaa
open Go Go.RowKit

theorem ng_word (s : Bool) (r : Nat) (h : r < 2 ^ 31) : ng (Ieee.single.word s r) = Ieee.single.word (!s) r := by
  have hsw : Ieee.single.signWeight = 2 ^ 31 := rfl
  have key : ng r = 2 ^ 31 + r := by
    have e1 := ng_mod r
    have e2 := ng_bit r
    have hlt : ng r < 2 ^ 32 := by rw [ng_eq]; exact Nat.xor_lt_two_pow (by omega) (by decide)
    rw [Nat.mod_eq_of_lt h] at e1
    rw [Nat.div_eq_of_lt h] at e2
    have e3 : ng r / 2 ^ 31 % 2 = 1 := by simpa using e2
    omega
  unfold Ieee.Format.word
  rw [hsw]
  cases s with
  | false => simpa using key
  | true =>
    simp only [Bool.not_true, if_true, Bool.false_eq_true, if_false]
    rw [← key, ng_ng]
theorem write_ng (s : Bool) (m : Nat) (p : Int) (h : m ≠ 0) : Ieee.single.write (.number (!s) m p) = ng (Ieee.single.write (.number s m p)) := by
  show Ieee.single.nearest (!s) m p = ng (Ieee.single.nearest s m p)
  have hk : Flo.rungOf Ieee.single (!s) m p = Flo.rungOf Ieee.single s m p := rfl
  have hi : Ieee.single.infRung < 2 ^ 31 := by decide
  rw [Flo.nearest_eq _ _ _ _ h, Flo.nearest_eq _ _ _ _ h, hk, ng_word _ _ (by omega)]

/-- the difference of the opposite numbers -/
theorem sub_ng (x y : Nat) (hx : Sm x) (hy : Sm y) : ∃ q q2 K e, floatBits .sub .f32 x y = some (Ieee.single.write (.number q K e)) ∧ floatBits .sub .f32 (ng x) (ng y) = some (Ieee.single.write (.number q2 K e)) ∧ (K ≠ 0 → q2 = !q) := by
  obtain ⟨s, m, i, hx⟩ := hx
  obtain ⟨t, n, j, hy⟩ := hy
  have hs : ∀ (s : Bool) (m k : Nat), Ieee.signed (!s) m k = - Ieee.signed s m k := by
    intro s m k; unfold Ieee.signed; cases s <;> simp
  have h1 : floatBits .sub .f32 x y = (Ieee.Datum.sum (.number s m i) (.number (!t) n j)).map Ieee.single.write := by
    show Ieee.single.sub x y = _
    unfold Ieee.Format.sub
    rw [hx, hy]; rfl
  have h2 : floatBits .sub .f32 (ng x) (ng y) = (Ieee.Datum.sum (.number (!s) m i) (.number (!(!t)) n j)).map Ieee.single.write := by
    show Ieee.single.sub (ng x) (ng y) = _
    unfold Ieee.Format.sub
    rw [ng_read x hx, ng_read y hy]; rfl
  rw [h1, h2]
  obtain ⟨T, hT⟩ : ∃ T : Int, T = Ieee.signed s m (i - min i j).toNat + Ieee.signed (!t) n (j - min i j).toNat := ⟨_, rfl⟩
  have hT2 : Ieee.signed (!s) m (i - min i j).toNat + Ieee.signed (!(!t)) n (j - min i j).toNat = -T := by rw [hs s, hs (!t), hT]; omega
  have e1 : Ieee.Datum.sum (.number s m i) (.number (!t) n j) = some (.number (if T = 0 then s && !t else decide (T < 0)) T.natAbs (min i j)) := by rw [hT]; rfl
  have e2 : Ieee.Datum.sum (.number (!s) m i) (.number (!(!t)) n j) = some (.number (if -T = 0 then (!s) && !(!t) else decide (-T < 0)) (-T).natAbs (min i j)) := by rw [← hT2]; rfl
  rw [e1, e2, Int.natAbs_neg]
  refine ⟨_, _, _, _, rfl, rfl, fun hK => ?_⟩
  have h0 : T ≠ 0 := fun e => hK (by rw [e]; rfl)
  rw [if_neg h0, if_neg (by omega)]
  by_cases hn : T < 0
  · rw [decide_eq_true hn, decide_eq_false (by omega)]; rfl
  · rw [decide_eq_false hn, decide_eq_true (by omega)]; rfl

/-- A difference and that of the opposite numbers: opposite words, or both are zeros. -/
theorem sub_two (x y : Nat) (hx : Sm x) (hy : Sm y) (h8 : Flo.Ab (S x) 9) : ∃ D D2, floatBits .sub .f32 x y = some D ∧ floatBits .sub .f32 (ng x) (ng y) = some D2 ∧ Sm D ∧ Sm D2 ∧ S D2 = - S D ∧ (S D ≠ 0 → D2 = ng D) := by
  obtain ⟨q, q2, K, e, h1, h2, h3⟩ := sub_ng x y hx hy
  obtain ⟨c, hs⟩ := fit_sub x y hx hy h8
  have hD : opB .sub .f32 x y = Ieee.single.write (.number q K e) := by unfold opB; rw [h1]; rfl
  rw [hD] at hs
  refine ⟨_, _, h1, h2, hs, ?_⟩
  by_cases hK : K = 0
  · subst hK
    have hz : ∀ b, Ieee.single.read (Ieee.single.write (.number b 0 e)) = .number b 0 (-149) := by
      intro b
      show Ieee.single.read (Ieee.single.nearest b 0 e) = _
      have : Ieee.single.nearest b 0 e = Ieee.single.word b 0 := by unfold Ieee.Format.nearest; simp
      rw [this, Flo.zero_read]; rfl
    have hv : ∀ b, S (Ieee.single.write (.number b 0 e)) = 0 := by
      intro b
      rw [show S (Ieee.single.write (.number b 0 e)) = Flo.val b 0 (-149) from Flo.V_eq (hz b)]
      unfold Flo.val; cases b <;> simp
    refine ⟨⟨_, _, _, hz q2⟩, by rw [hv, hv]; grind, fun h => absurd (hv q) h⟩
  · have e2 := h3 hK
    subst e2
    rw [write_ng q K e hK]
    obtain ⟨a, b⟩ := ng_val hs
    exact ⟨a, b, fun _ => rfl⟩

/-- the stick's test by values -/
theorem le32_iff {a b : Nat} (ha : Sm a) (hb : Sm b) : (FloatKind.f32.format.order a b == some .lt || FloatKind.f32.format.order a b == some .eq) = true ↔ S a ≤ S b := by
  rw [show FloatKind.f32.format = Ieee.single from rfl, Bool.or_eq_true, beq_iff_eq, beq_iff_eq]
  have o := Flo.order_num Ieee.single a b ha hb
  constructor
  · rintro (h | h)
    · have := o.1.1 h; exact Rat.le_of_lt this
    · have := o.2.1.1 h; show Flo.V Ieee.single a ≤ Flo.V Ieee.single b; rw [this]; exact Rat.le_refl
  · intro h
    by_cases e : S a = S b
    · exact .inr (o.2.1.2 e)
    · exact .inl (o.1.2 (by show S a < S b; grind))
theorem stick_iff {d g : Nat} (hd : Sm d) (hg : Sm g) : stickB d g = true ↔ ra (S d) ≤ S g := by
  obtain ⟨s, m, i, h⟩ := hd
  obtain ⟨n, j, hw, he⟩ := wid_read h
  obtain ⟨n', j', l1, l2⟩ := labs_read (wid_lt d) hw
  obtain ⟨g1, g2⟩ := wid_num hg
  have hv : Flo.V Ieee.double (labs (wid d)) = ra (S d) := by
    rw [Flo.V_eq l1, show S d = Flo.val s m i from Flo.V_eq h, Flo.val_ra, ← he, ← l2]
    unfold Flo.val; simp
  have o := Flo.order_num Ieee.double (labs (wid d)) (wid g) ⟨_, _, _, l1⟩ g1
  rw [hv, show Flo.V Ieee.double (wid g) = S g from g2] at o
  unfold stickB
  rw [show nan32 g = false from (by obtain ⟨t, k, l, hr⟩ := hg; unfold nan32; rw [show FloatKind.f32.decode g = _ from hr]; rfl), show FloatKind.f64.format = Ieee.double from rfl]
  simp only [Bool.not_false, Bool.true_and, Bool.or_eq_true, beq_iff_eq]
  constructor
  · rintro (h | h)
    · exact Rat.le_of_lt (o.1.1 h)
    · rw [o.2.1.1 h]; exact Rat.le_refl
  · intro h
    by_cases e : ra (S d) = S g
    · exact .inr (o.2.1.2 e)
    · exact .inl (o.1.2 (by grind))

/-! ### the force -/
/-- what a written number reads as -/
theorem write_read (s : Bool) (M : Nat) (p : Int) : (∃ k l, Ieee.single.read (Ieee.single.write (.number s M p)) = .number s k l) ∨ Ieee.single.read (Ieee.single.write (.number s M p)) = .infinity s := by
  show (∃ k l, Ieee.single.read (Ieee.single.nearest s M p) = _) ∨ Ieee.single.read (Ieee.single.nearest s M p) = _
  by_cases h : M = 0
  · subst h
    have : Ieee.single.nearest s 0 p = Ieee.single.word s 0 := by unfold Ieee.Format.nearest; simp
    rw [this, Flo.zero_read]
    exact .inl ⟨_, _, rfl⟩
  · by_cases hr : Flo.rungOf Ieee.single s M p < Ieee.single.infRung
    · obtain ⟨k, l, h1, -⟩ := Flo.read_nearest Ieee.single s M p h hr
      exact .inl ⟨_, _, h1⟩
    · right
      rw [Flo.nearest_eq _ _ _ _ h, Nat.min_eq_right (by omega)]
      exact Flo.read_word_inf Ieee.single s
theorem ran (q : Rat) : ra (-q) = ra q := by unfold ra; split <;> split <;> grind
theorem raz : ra 0 = 0 := by unfold ra; simp
theorem order_same {b : Nat} {s : Bool} (h : (∃ k l, Ieee.single.read b = .number s k l) ∨ Ieee.single.read b = .infinity s) : (FloatKind.f32.format.order b b == some .eq) = true := by
  rw [show FloatKind.f32.format = Ieee.single from rfl, beq_iff_eq]
  rcases h with ⟨k, l, h⟩ | h
  · exact (Flo.order_num Ieee.single b b ⟨_, _, _, h⟩ ⟨_, _, _, h⟩).2.1.2 rfl
  · unfold Ieee.Format.order; rw [h]; cases s <;> rfl
theorem order_pos {b : Nat} (h : (∃ k l, Ieee.single.read b = .number false k l) ∨ Ieee.single.read b = .infinity false) : (FloatKind.f32.format.order b 0 == some .lt) = false := by
  rw [show FloatKind.f32.format = Ieee.single from rfl]
  have hz : Ieee.single.read 0 = .number false 0 (-149) := by decide
  rcases h with ⟨k, l, h⟩ | h
  · have o := (Flo.order_num Ieee.single b 0 ⟨_, _, _, h⟩ ⟨_, _, _, hz⟩).1
    cases hc : (Ieee.single.order b 0 == some .lt)
    · rfl
    · rw [beq_iff_eq] at hc
      have hlt := o.1 hc
      rw [Flo.V_eq h, Flo.V_eq hz] at hlt
      have hn := Flo.mag_nonneg k l
      unfold Flo.val at hlt
      simp at hlt
      grind
  · unfold Ieee.Format.order; rw [h, hz]; rfl

theorem force_two (x y g : Nat) (hx : Sm x) (hy : Sm y) (h8 : Flo.Ab (S x) 9) (hg : Sm g) (g0 : 0 ≤ S g) (g8 : Flo.Ab (S g) 9) :
    ∃ D r1 r2, floatBits .sub .f32 x y = some D ∧ Sm D ∧ forceA x y g = some r1 ∧ forceA (ng x) (ng y) g = some r2 ∧ (FloatKind.f32.format.order r1 (ng r2) == some .eq) = true ∧
      ((((FloatKind.f32.format.order D g == some .lt || FloatKind.f32.format.order D g == some .eq) && (FloatKind.f32.format.order (ng D) g == some .lt || FloatKind.f32.format.order (ng D) g == some .eq)) = true ∧ (FloatKind.f32.format.order r1 D == some .eq) = true) ∨
       (((FloatKind.f32.format.order D g == some .lt || FloatKind.f32.format.order D g == some .eq) && (FloatKind.f32.format.order (ng D) g == some .lt || FloatKind.f32.format.order (ng D) g == some .eq)) = false ∧ ∃ P, floatBits .mul .f32 r1 D = some P ∧ (FloatKind.f32.format.order P 0 == some .lt) = false)) := by
  obtain ⟨D, D2, h1, h2, hD, hD2, hS, hn⟩ := sub_two x y hx hy h8
  obtain ⟨nD, nS⟩ := ng_val hD
  have hB : ((FloatKind.f32.format.order D g == some .lt || FloatKind.f32.format.order D g == some .eq) && (FloatKind.f32.format.order (ng D) g == some .lt || FloatKind.f32.format.order (ng D) g == some .eq)) = true ↔ ra (S D) ≤ S g := by
    rw [Bool.and_eq_true, le32_iff hD hg, le32_iff nD hg, nS]
    constructor
    · rintro ⟨a, b⟩; exact ra_le ⟨by grind, a⟩
    · intro h; have := ra_ab (S D); exact ⟨by have := this.2; grind, by have := this.1; grind⟩
  by_cases hst : ra (S D) ≤ S g
  · have s1 := (stick_iff hD hg).2 hst
    have s2 := (stick_iff hD2 hg).2 (by rw [hS]; have : ra (-S D) = ra (S D) := ran _; rw [this]; exact hst)
    obtain ⟨nD2, nS2⟩ := ng_val hD2
    refine ⟨D, D, D2, h1, hD, by unfold forceA; rw [h1]; simp only [s1, if_true], by unfold forceA; rw [h2]; simp only [s2, if_true], ?_, .inl ⟨hB.2 hst, ?_⟩⟩
    · rw [show FloatKind.f32.format = Ieee.single from rfl, beq_iff_eq]
      exact (Flo.order_num Ieee.single D (ng D2) hD nD2).2.1.2 (by show S D = S (ng D2); rw [nS2, hS]; grind)
    · rw [show FloatKind.f32.format = Ieee.single from rfl, beq_iff_eq]
      exact (Flo.order_num Ieee.single D D hD hD).2.1.2 rfl
  · have s1 : stickB D g = false := by
      cases h : stickB D g
      · rfl
      · exact absurd ((stick_iff hD hg).1 h) hst
    have hS0 : S D ≠ 0 := by
      intro e
      rw [e] at hst
      exact hst (by have : ra 0 = 0 := raz; rw [this]; exact g0)
    have hD2e := hn hS0
    subst hD2e
    have s2 : stickB (ng D) g = false := by
      cases h : stickB (ng D) g
      · rfl
      · exfalso; have h3 := (stick_iff nD hg).1 h; rw [nS, ran] at h3; exact hst h3
    have hB0 : ((FloatKind.f32.format.order D g == some .lt || FloatKind.f32.format.order D g == some .eq) && (FloatKind.f32.format.order (ng D) g == some .lt || FloatKind.f32.format.order (ng D) g == some .eq)) = false := by
      cases h : ((FloatKind.f32.format.order D g == some .lt || FloatKind.f32.format.order D g == some .eq) && (FloatKind.f32.format.order (ng D) g == some .lt || FloatKind.f32.format.order (ng D) g == some .eq))
      · rfl
      · exact absurd (hB.1 h) hst
    obtain ⟨sD, n, j, hrD⟩ := hD
    have hn0 : n ≠ 0 := by
      intro e
      subst e
      apply hS0
      rw [show S D = Flo.val sD 0 j from Flo.V_eq hrD]
      unfold Flo.val; cases sD <;> simp
    obtain ⟨sg, mg, ig, hrg⟩ := hg
    have hl9 : Flo.pw 7 < Flo.pw 127 := Flo.pw_lt (by omega)
    rw [show Flo.pw 7 = 128 from Flo.pw_nat 7] at hl9
    obtain ⟨g2, q1, q2, -⟩ := Flo.s_mul g g ⟨_, _, _, hrg⟩ ⟨_, _, _, hrg⟩ (9 * 9) (g8.mul g8) (by grind)
    have hg2w : g2 = Ieee.single.write (.number (sg ^^ sg) (mg * mg) (ig + ig)) := by
      have h3 : floatBits .mul .f32 g g = some (Ieee.single.write (.number (sg ^^ sg) (mg * mg) (ig + ig))) := by
        show Ieee.single.mul g g = _
        unfold Ieee.Format.mul
        rw [hrg]; rfl
      rw [h3] at q1; injection q1 with q1; exact q1.symm
    obtain ⟨k, l, hr2⟩ : ∃ k l, Ieee.single.read g2 = .number false k l := by
      have h3 := write_read (sg ^^ sg) (mg * mg) (ig + ig)
      rw [← hg2w, Bool.xor_self] at h3
      rcases h3 with h3 | h3
      · exact h3
      · obtain ⟨a, b, c, h4⟩ := q2; rw [h3] at h4; cases h4
    have hfg : fA .mul .f32 (fab .f32 g) (fab .f32 g) = some g2 := by
      rw [fab_some (show (FloatKind.f32.decode g).isNaN = false from by rw [show FloatKind.f32.decode g = _ from hrg]; rfl)]
      exact q1
    obtain ⟨Q, e, hq⟩ : ∃ Q e, ∀ s, Ieee.Datum.quotient (Ieee.single.fractionBits + 2) (.number false k l) (.number s n j) = some (.number s Q e) := by
      let more := Ieee.single.fractionBits + 2 + n.log2 - k.log2
      let dividend := k <<< more
      refine ⟨2 * (dividend / n) + (dividend % n != 0).toNat, l - j - (more : Int) - 1, fun s => ?_⟩
      simp only [Ieee.Datum.quotient, if_neg hn0, Bool.false_xor]
      rfl
    have hquo : ∀ d s, Ieee.single.read d = .number s n j → floatBits .quo .f32 g2 d = some (Ieee.single.write (.number s Q e)) := by
      intro d s hd
      show Ieee.single.div g2 d = _
      unfold Ieee.Format.div
      rw [hr2, hd, hq s]; rfl
    have hng : ng (Ieee.single.write (.number (!sD) Q e)) = Ieee.single.write (.number sD Q e) := by
      by_cases hQ : Q = 0
      · subst hQ
        have hw : ∀ b, Ieee.single.write (.number b 0 e) = Ieee.single.word b 0 := by
          intro b
          show Ieee.single.nearest b 0 e = _
          unfold Ieee.Format.nearest; simp
        rw [hw, hw, ng_word _ _ (by decide), Bool.not_not]
      · rw [write_ng sD Q e hQ, ng_ng]
    have hr1 := write_read sD Q e
    refine ⟨D, Ieee.single.write (.number sD Q e), Ieee.single.write (.number (!sD) Q e), h1, ⟨_, _, _, hrD⟩, ?_, ?_, ?_, .inr ⟨hB0, ?_⟩⟩
    · unfold forceA; rw [h1]; simp only [s1, Bool.false_eq_true, if_false]; rw [hfg]; exact hquo D sD hrD
    · unfold forceA; rw [h2]; simp only [s2, Bool.false_eq_true, if_false]; rw [hfg]; exact hquo _ _ (ng_read D hrD)
    · rw [hng]; exact order_same hr1
    · rcases hr1 with ⟨a, b, hr1⟩ | hr1
      · refine ⟨Ieee.single.write (.number false (a * n) (b + j)), ?_, order_pos (write_read _ _ _)⟩
        show Ieee.single.mul _ D = _
        unfold Ieee.Format.mul
        rw [hr1, hrD]
        show (some (Ieee.Datum.number (sD ^^ sD) (a * n) (b + j))).map _ = _
        rw [Bool.xor_self]; rfl
      · refine ⟨Ieee.single.write (.infinity false), ?_, order_pos (.inr (Flo.read_word_inf Ieee.single false))⟩
        show Ieee.single.mul _ D = _
        unfold Ieee.Format.mul
        rw [hr1, hrD]
        show (if n = 0 then none else some (Ieee.Datum.infinity (sD ^^ sD))).map _ = _
        rw [if_neg hn0, Bool.xor_self]; rfl
end Go.Proofs.Ytfgofmcpgfofaaa

/- The shapes of strikes as plain lists of bits, and what the kernel finds of all of them: 2,080 places for each kind.
   Conditions: none beyond those that each statement names. -/
namespace Go.Proofs.Ytfgofmcpgfofaaa
open Go

def rampAt (n i : Nat) : Nat := opB .quo .f32 (floatOfInt .f32 ((i : Int) + 1)) (floatOfInt .f32 (n : Int))
def archT (n i : Nat) : Nat := opB .quo .f32 (floatOfInt .f32 (2 * (i : Int) + 1)) (floatOfInt .f32 (2 * (n : Int)))
def archP (n i : Nat) : Nat := opB .mul .f32 1082130432 (archT n i)
def archM (n i : Nat) : Nat := opB .sub .f32 1065353216 (archT n i)
def archAt (n i : Nat) : Nat := opB .mul .f32 (archP n i) (archM n i)
def clickAt (i : Nat) : Nat := if i = 0 then 1065353216 else 0
def shapeAt (kind n i : Nat) : Nat := if kind = 0 then clickAt i else if kind = 1 then rampAt n i else archAt n i
def shapeL (kind n : Nat) : List Nat := (List.range n).map (shapeAt kind n)

/-- from 0 to 1, and multiplied by 1 itself -/
def unitB (v : Nat) : Bool :=
  fin .f32 v && (FloatKind.f32.format.order v 0 == some .gt || FloatKind.f32.format.order v 0 == some .eq) && (FloatKind.f32.format.order v 1065353216 == some .lt || FloatKind.f32.format.order v 1065353216 == some .eq) &&
    (floatBits .mul .f32 v 1065353216 == some v)
def calmB (o : BinOp) (x y : Nat) : Bool := (floatBits o .f32 x y).isSome
theorem calm_of {o : BinOp} {x y : Nat} (h : calmB o x y = true) : Calm o .f32 x y := by
  unfold calmB at h
  unfold Calm opB
  cases hb : floatBits o .f32 x y with
  | some r => rfl
  | none => rw [hb] at h; simp at h
def upB (a b : Nat) : Bool := !(FloatKind.f32.format.order a b == some .gt || FloatKind.f32.format.order a b == some .eq)
/-- the number is reckoned once, ahead of what is asked of it -/
def force (x : Nat) (k : Nat → Bool) : Bool := match x with
  | 0 => k 0
  | n + 1 => k (n + 1)
theorem force_eq (x : Nat) (k : Nat → Bool) : force x k = k x := by cases x <;> rfl
def p20 : Nat := 4517110426252607488
theorem p20_eq : powB 20 = p20 := by decide +kernel
def rampB (n i : Nat) : Bool :=
  force (rampAt n i) fun v => force (rampAt n (i - 1)) fun u =>
  calmB .quo (floatOfInt .f32 ((i : Int) + 1)) (floatOfInt .f32 (n : Int)) && unitB v && (i == 0 || upB u v) && (i + 1 != n || FloatKind.f32.format.order v 1065353216 == some .eq)
def archB (n i : Nat) : Bool :=
  force (archT n i) fun t => force (opB .mul .f32 1082130432 t) fun p => force (opB .sub .f32 1065353216 t) fun m => force (opB .mul .f32 p m) fun v =>
  calmB .quo (floatOfInt .f32 (2 * (i : Int) + 1)) (floatOfInt .f32 (2 * (n : Int))) && calmB .mul 1082130432 t && calmB .sub 1065353216 t && calmB .mul p m && unitB v
/-- as the law asks: the difference of the widened ones -/
def archD (n i : Nat) : Nat := opB .sub .f64 (wid (archAt n i)) (wid (archAt n (n - 1 - i)))
def archF (n i : Nat) (k : Nat → Bool) : Bool := force (archT n i) fun t => force (opB .mul .f32 1082130432 t) fun p => force (opB .sub .f32 1065353216 t) fun m => force (opB .mul .f32 p m) k
theorem archF_eq (n i : Nat) (k : Nat → Bool) : archF n i k = k (archAt n i) := by simp only [archF, force_eq]; rfl
def nearB (n i : Nat) : Bool :=
  archF n i fun v => archF n (n - 1 - i) fun u => force (wid v) fun a => force (wid u) fun b => force (opB .sub .f64 a b) fun d =>
  (floatBits .sub .f64 a b).isSome && fin .f64 d && force (szd d 0) fun s => leB s p20
theorem rampB_eq (n i : Nat) : rampB n i = (calmB .quo (floatOfInt .f32 ((i : Int) + 1)) (floatOfInt .f32 (n : Int)) && unitB (rampAt n i) && (i == 0 || upB (rampAt n (i - 1)) (rampAt n i)) && (i + 1 != n || FloatKind.f32.format.order (rampAt n i) 1065353216 == some .eq)) := by
  unfold rampB; simp only [force_eq]
theorem archB_eq (n i : Nat) : archB n i = (calmB .quo (floatOfInt .f32 (2 * (i : Int) + 1)) (floatOfInt .f32 (2 * (n : Int))) && calmB .mul 1082130432 (archT n i) && calmB .sub 1065353216 (archT n i) && calmB .mul (archP n i) (archM n i) && unitB (archAt n i)) := by
  unfold archB; simp only [force_eq]; rfl
theorem nearB_eq (n i : Nat) : nearB n i = ((floatBits .sub .f64 (wid (archAt n i)) (wid (archAt n (n - 1 - i)))).isSome && fin .f64 (archD n i) && leB (szd (archD n i) 0) (powB 20)) := by
  unfold nearB; simp only [force_eq, archF_eq, p20_eq]; rfl

/-- all places of the lengths from lo on -/
def chunk (p : Nat → Nat → Bool) (lo k : Nat) : Bool := (List.range k).all fun d => (List.range (lo + d)).all fun i => p (lo + d) i
theorem chunk_get {p : Nat → Nat → Bool} {lo k : Nat} (h : chunk p lo k = true) (n i : Nat) (h1 : lo ≤ n) (h2 : n < lo + k) (hi : i < n) : p n i = true := by
  unfold chunk at h
  rw [List.all_eq_true] at h
  have h3 := h (n - lo) (List.mem_range.2 (by omega))
  rw [List.all_eq_true] at h3
  have h4 := h3 i (List.mem_range.2 (by omega))
  rw [show lo + (n - lo) = n from by omega] at h4
  exact h4
def AllB (p : Nat → Nat → Bool) : Prop := ∀ n i : Nat, n ≤ 64 → i < n → p n i = true
theorem all_of {p : Nat → Nat → Bool} (h0 : chunk p 0 24 = true) (h1 : chunk p 24 9 = true) (h2 : chunk p 33 7 = true) (h3 : chunk p 40 6 = true) (h4 : chunk p 46 6 = true) (h5 : chunk p 52 5 = true) (h6 : chunk p 57 4 = true) (h7 : chunk p 61 4 = true) : AllB p := by
  intro n i hn hi
  by_cases c0 : n < 24
  · exact chunk_get h0 n i (by omega) (by omega) hi
  by_cases c1 : n < 33
  · exact chunk_get h1 n i (by omega) (by omega) hi
  by_cases c2 : n < 40
  · exact chunk_get h2 n i (by omega) (by omega) hi
  by_cases c3 : n < 46
  · exact chunk_get h3 n i (by omega) (by omega) hi
  by_cases c4 : n < 52
  · exact chunk_get h4 n i (by omega) (by omega) hi
  by_cases c5 : n < 57
  · exact chunk_get h5 n i (by omega) (by omega) hi
  by_cases c6 : n < 61
  · exact chunk_get h6 n i (by omega) (by omega) hi
  exact chunk_get h7 n i (by omega) (by omega) hi
set_option maxRecDepth 100000 in
theorem ramp_0 : chunk rampB 0 24 = true := by decide +kernel
set_option maxRecDepth 100000 in
theorem ramp_1 : chunk rampB 24 9 = true := by decide +kernel
set_option maxRecDepth 100000 in
theorem ramp_2 : chunk rampB 33 7 = true := by decide +kernel
set_option maxRecDepth 100000 in
theorem ramp_3 : chunk rampB 40 6 = true := by decide +kernel
set_option maxRecDepth 100000 in
theorem ramp_4 : chunk rampB 46 6 = true := by decide +kernel
set_option maxRecDepth 100000 in
theorem ramp_5 : chunk rampB 52 5 = true := by decide +kernel
set_option maxRecDepth 100000 in
theorem ramp_6 : chunk rampB 57 4 = true := by decide +kernel
set_option maxRecDepth 100000 in
theorem ramp_7 : chunk rampB 61 4 = true := by decide +kernel
theorem ramp_all : AllB rampB := all_of ramp_0 ramp_1 ramp_2 ramp_3 ramp_4 ramp_5 ramp_6 ramp_7
set_option maxRecDepth 100000 in
theorem arch_0 : chunk archB 0 24 = true := by decide +kernel
set_option maxRecDepth 100000 in
theorem arch_1 : chunk archB 24 9 = true := by decide +kernel
set_option maxRecDepth 100000 in
theorem arch_2 : chunk archB 33 7 = true := by decide +kernel
set_option maxRecDepth 100000 in
theorem arch_3 : chunk archB 40 6 = true := by decide +kernel
set_option maxRecDepth 100000 in
theorem arch_4 : chunk archB 46 6 = true := by decide +kernel
set_option maxRecDepth 100000 in
theorem arch_5 : chunk archB 52 5 = true := by decide +kernel
set_option maxRecDepth 100000 in
theorem arch_6 : chunk archB 57 4 = true := by decide +kernel
set_option maxRecDepth 100000 in
theorem arch_7 : chunk archB 61 4 = true := by decide +kernel
theorem arch_all : AllB archB := all_of arch_0 arch_1 arch_2 arch_3 arch_4 arch_5 arch_6 arch_7
set_option maxRecDepth 100000 in
theorem near_0 : chunk nearB 0 24 = true := by decide +kernel
set_option maxRecDepth 100000 in
theorem near_1 : chunk nearB 24 9 = true := by decide +kernel
set_option maxRecDepth 100000 in
theorem near_2 : chunk nearB 33 7 = true := by decide +kernel
set_option maxRecDepth 100000 in
theorem near_3 : chunk nearB 40 6 = true := by decide +kernel
set_option maxRecDepth 100000 in
theorem near_4 : chunk nearB 46 6 = true := by decide +kernel
set_option maxRecDepth 100000 in
theorem near_5 : chunk nearB 52 5 = true := by decide +kernel
set_option maxRecDepth 100000 in
theorem near_6 : chunk nearB 57 4 = true := by decide +kernel
set_option maxRecDepth 100000 in
theorem near_7 : chunk nearB 61 4 = true := by decide +kernel
theorem near_all : AllB nearB := all_of near_0 near_1 near_2 near_3 near_4 near_5 near_6 near_7
theorem all_pairs {p : Nat → Nat → Bool} (h : AllB p) (n i : Nat) (hn : n ≤ 64) (hi : i < n) : p n i = true := h n i hn hi
theorem click_all : unitB 1065353216 = true ∧ unitB 0 = true := by decide +kernel

theorem shape_unit (kind n i : Nat) (hk : kind ≤ 2) (hn : n ≤ 64) (hi : i < n) : unitB (shapeAt kind n i) = true := by
  unfold shapeAt
  split
  · unfold clickAt; split
    · exact click_all.1
    · exact click_all.2
  · split
    · have h := all_pairs ramp_all n i hn hi
      rw [rampB_eq] at h
      simp only [Bool.and_eq_true] at h
      exact h.1.1.2
    · have h := all_pairs arch_all n i hn hi
      rw [archB_eq] at h
      simp only [Bool.and_eq_true] at h
      exact h.2

end Go.Proofs.Ytfgofmcpgfofaaa

/- The walks of StrikeShape, scaleSamples and StrikeBody.
   Conditions: those that each statement names. -/
namespace Go.Proofs.Ytfgofmcpgfofaaa
open Go Go.RowKit

def FillI (B g n : Nat) (f : Nat → Nat) (w : World) (i : Value) (wr : World) : Prop :=
  ∃ k : Nat, k ≤ n ∧ i = .int .i64 (k : Int) ∧ wr.ownsRow B 49 1 (.slice (some ⟨g, 0, none⟩) n n) n (cellsS (fillL f n k)) ∧ Nw w wr
def ShapeP (n : Nat) (xs : List Nat) (w : World) (e : Ending) (w' : World) : Prop :=
  ∃ g : Nat, e = .returned (.tuple #[.slice (some ⟨g, 0, none⟩) n n, .bool true]) ∧ w'.ownsRow w.heap.size 49 1 (.slice (some ⟨g, 0, none⟩) n n) n (cellsS xs) ∧ Nw w w'

theorem shapeL_click (n : Nat) : shapeL 0 n = (List.range n).map clickAt := by
  have h : shapeAt 0 n = clickAt := by funext i; simp [shapeAt]
  unfold shapeL; rw [h]
theorem shapeL_ramp (n : Nat) : shapeL 1 n = (List.range n).map (rampAt n) := by
  have h : shapeAt 1 n = rampAt n := by funext i; simp [shapeAt]
  unfold shapeL; rw [h]
theorem shapeL_arch (n : Nat) : shapeL 2 n = (List.range n).map (archAt n) := by
  have h : shapeAt 2 n = archAt n := by funext i; simp [shapeAt]
  unfold shapeL; rw [h]
theorem click_set (n : Nat) (h : 1 ≤ n) : (cellsS (fillL clickAt n 0)).set 0 (.float .f32 1065353216) = cellsS ((List.range n).map clickAt) := by
  obtain ⟨m, rfl⟩ : ∃ m, n = m + 1 := ⟨n - 1, by omega⟩
  rw [fillL_zero, List.replicate_succ, List.range_succ_eq_map]
  simp only [cellsS, List.map_cons, List.map_map, List.set_cons_zero, List.map_replicate]
  congr 1
  apply List.ext_getElem?
  intro i
  simp only [List.getElem?_replicate, List.getElem?_map, List.getElem?_range']
  by_cases hi : i < m <;> simp [hi, clickAt]

set_option maxRecDepth 100000 in
theorem strikeShape_ok (kind n : Nat) (hk : kind ≤ 2) (h1 : 1 ≤ n) (hn : n ≤ 64) (w : World) :
    Calls Try.prog 46 #[.int .i64 (kind : Int), .int .i64 (n : Int)] w (ShapeP n (shapeL kind n) w) := by
  obtain ⟨f0, hf, hfz0, hfz1, hfz2⟩ := info_parts info_f32
  have hk3 : kind = 0 ∨ kind = 1 ∨ kind = 2 := by omega
  rcases hk3 with rfl | rfl | rfl
  all_goals
    go_enter Try.func46, Try.ntmps46
    go_wp2_with (first
      | (at_make; refine wpList_make_full _ rfl _ _ 47 rfl w.heap.size 49 f0 (.float .f32 0) 1 Try.underlying47 hf hfz0 hfz1 _ _ _ _ n rfl rfl rfl rfl (by rw [hfz2]; omega) (by unfold maxLen; omega) (Nat.le_refl _) ?_))
    intro w3 hown3 hgrow3
  · have O3 := Lib.hid (show w3.ownsRow w.heap.size 49 1 (.slice (some ⟨w.heap.size, 0, none⟩) n n) n (cellsS (fillL clickAt n 0)) from by
      rw [toList_madeCells_one] at hown3
      rw [fillL_zero]
      simpa [cellsS] using hown3)
    have e1 := O3.out.cellAt 0 (by omega)
    rw [fillL_cell clickAt n 0 (by omega)] at e1
    have e2 := O3.out.frozenAt 0
    have hset := O3.out.stored 0 (.float .f32 1065353216)
    have hlt := (O3.out.lt _ rfl)
    have N3 := Lib.hid (show Nw w (w3.setCell ⟨w.heap.size, 0, none⟩ (.float .f32 1065353216)) from Nw.set hgrow3 (by show w.heap.size ≤ w.heap.size; omega) _)
    rw [click_set n h1] at hset
    have F := Lib.hid hset.1
    clear hset hown3 hgrow3
    go_wp2_with fail
    go_ret2
    exact ⟨_, rfl, by rw [shapeL_click]; exact F.out, N3.out⟩
  · have O3 := Lib.hid (show w3.ownsRow w.heap.size 49 1 (.slice (some ⟨w.heap.size, 0, none⟩) n n) n (cellsS (fillL (rampAt n) n 0)) from by
      rw [toList_madeCells_one] at hown3
      rw [fillL_zero]
      simpa [cellsS] using hown3)
    have N3 := Lib.hid (show Nw w w3 from hgrow3)
    clear hown3 hgrow3
    go_wp2_with fail
    go_loopw [27] (fun i wr => FillI w.heap.size w.heap.size n (rampAt n) w i wr) (fun i _ => n - (intOf i).toNat)
    case atStart => exact ⟨0, by omega, rfl, O3.out, N3.out⟩
    case round =>
      obtain ⟨k, hk, rfl, how, hnw⟩ := hrel
      have Ow := Lib.hid how
      have Nr := Lib.hid hnw
      clear how hnw
      by_cases hlt : k < n
      · have hb := all_pairs ramp_all n k hn hlt
        rw [rampB_eq] at hb
        simp only [Bool.and_eq_true] at hb
        have hc := calm_of hb.1.1.1
        have r1 := hc.res
        have d1 := hc.fdr
        have e1 := Ow.out.cellAt k (by omega)
        rw [fillL_cell (rampAt n) n k hlt] at e1
        have e2 := Ow.out.frozenAt k
        have hset := Ow.out.stored k (.float .f32 (rampAt n k))
        rw [fillL_set (rampAt n) n k hlt] at hset
        have F := Lib.hid hset.1
        have N2 := Lib.hid (Nr.out.set (p := ⟨w.heap.size, k, none⟩) (by show w.heap.size ≤ w.heap.size; omega) (.float .f32 (rampAt n k)))
        clear hb hc hset
        unfold rampAt at F N2
        go_wp2_with fail
        go_roundw
        case rel => exact ⟨k + 1, by omega, by rw [show ((k + 1 : Nat) : Int) = (k : Int) + 1 from by omega], F.out, N2.out⟩
        case measure => simp only [intOf]; omega
      · obtain rfl : k = n := by omega
        go_wp2_with fail
        go_ret2
        exact ⟨_, rfl, by have h := Ow.out; rw [fillL_full] at h; rw [shapeL_ramp]; exact h, Nr.out⟩
  · have O3 := Lib.hid (show w3.ownsRow w.heap.size 49 1 (.slice (some ⟨w.heap.size, 0, none⟩) n n) n (cellsS (fillL (archAt n) n 0)) from by
      rw [toList_madeCells_one] at hown3
      rw [fillL_zero]
      simpa [cellsS] using hown3)
    have N3 := Lib.hid (show Nw w w3 from hgrow3)
    clear hown3 hgrow3
    go_wp2_with fail
    go_loopw [44] (fun i wr => FillI w.heap.size w.heap.size n (archAt n) w i wr) (fun i _ => n - (intOf i).toNat)
    case atStart => exact ⟨0, by omega, rfl, O3.out, N3.out⟩
    case round =>
      obtain ⟨k, hk, rfl, how, hnw⟩ := hrel
      have Ow := Lib.hid how
      have Nr := Lib.hid hnw
      clear how hnw
      by_cases hlt : k < n
      · have hb := all_pairs arch_all n k hn hlt
        rw [archB_eq] at hb
        simp only [Bool.and_eq_true] at hb
        have c1 := calm_of hb.1.1.1.1
        have c2 := calm_of hb.1.1.1.2
        have c3 := calm_of hb.1.1.2
        have c4 := calm_of hb.1.2
        have r1 := c1.res
        have d1 := c1.fdr
        have r2 := c2.res
        have d2 := c2.fdr
        have r3 := c3.res
        have d3 := c3.fdr
        have r4 := c4.res
        have d4 := c4.fdr
        have e1 := Ow.out.cellAt k (by omega)
        rw [fillL_cell (archAt n) n k hlt] at e1
        have e2 := Ow.out.frozenAt k
        have hset := Ow.out.stored k (.float .f32 (archAt n k))
        rw [fillL_set (archAt n) n k hlt] at hset
        have F := Lib.hid hset.1
        have N2 := Lib.hid (Nr.out.set (p := ⟨w.heap.size, k, none⟩) (by show w.heap.size ≤ w.heap.size; omega) (.float .f32 (archAt n k)))
        clear hb c1 c2 c3 c4 hset
        unfold archAt archP archM archT at F N2
        unfold archP archM archT at r4 d4
        unfold archT at r2 d2 r3 d3
        go_wp2_with fail
        go_roundw
        case rel => exact ⟨k + 1, by omega, by rw [show ((k + 1 : Nat) : Int) = (k : Int) + 1 from by omega], F.out, N2.out⟩
        case measure => simp only [intOf]; omega
      · obtain rfl : k = n := by omega
        go_wp2_with fail
        go_ret2
        exact ⟨_, rfl, by have h := Ow.out; rw [fillL_full] at h; rw [shapeL_arch]; exact h, Nr.out⟩

end Go.Proofs.Ytfgofmcpgfofaaa

/- The walks of scaleSamples, StrikeBody and, where nothing is drawn, small.
   Conditions: those that each statement names. -/
namespace Go.Proofs.Ytfgofmcpgfofaaa
open Go Go.RowKit

def RowF (xs : List Nat) (n : Nat) (w : World) (e : Ending) (w' : World) : Prop :=
  ∃ v : Value, e = .returned v ∧ w'.ownsRow w.heap.size 49 1 v n (cellsS xs) ∧ Nw w w'
theorem scaled_eq (xs : List Nat) (n f : Nat) (h : xs.length = n) : (List.range n).map (fun k => opB .mul .f32 (inputOf xs k) f) = xs.map fun x => opB .mul .f32 x f := by
  subst h
  apply List.ext_getElem?
  intro i
  by_cases hi : i < xs.length
  · simp [hi, inputOf]
  · simp [hi]

set_option maxRecDepth 100000 in
theorem scaleSamples_ok (xs : List Nat) (n bi f : Nat) (v : Value) (hx : xs.length = n) (hn : n ≤ 1048576) (w : World)
    (hi : w.ownsRow bi 49 1 v n (cellsS xs)) (hc : ∀ x ∈ xs, Calm .mul .f32 x f) :
    Calls Try.prog 91 #[v, .float .f32 f] w (RowF (xs.map fun x => opB .mul .f32 x f) n w) := by
  obtain ⟨va, vc, rfl⟩ := own_shape' hi
  obtain ⟨f0, hf, hfz0, hfz1, hfz2⟩ := info_parts info_f32
  have Hi := Lib.hid hi
  have Hx := Lib.hid hx
  have Hc := Lib.hid hc
  clear hi hx hc
  go_enter Try.func91, Try.ntmps91
  go_wp2_with (first
    | (at_make; refine wpList_make_full _ rfl _ _ 47 rfl w.heap.size 49 f0 (.float .f32 0) 1 Try.underlying47 hf hfz0 hfz1 _ _ _ _ n rfl rfl rfl rfl (by rw [hfz2]; omega) (by unfold maxLen; omega) (Nat.le_refl _) ?_))
  intro w3 hown3 hgrow3
  have O3 := Lib.hid (show w3.ownsRow w.heap.size 49 1 (.slice (some ⟨w.heap.size, 0, none⟩) n n) n (cellsS (fillL (fun k => opB .mul .f32 (inputOf xs k) f) n 0)) from by
    rw [toList_madeCells_one] at hown3
    rw [fillL_zero]
    simpa [cellsS] using hown3)
  have N3 := Lib.hid (show Nw w w3 from hgrow3)
  clear hown3 hgrow3
  go_wp2_with fail
  go_loopw [13] (fun i wr => FillI w.heap.size w.heap.size n (fun k => opB .mul .f32 (inputOf xs k) f) w i wr) (fun i _ => n - (intOf i).toNat)
  case atStart => exact ⟨0, by omega, rfl, O3.out, N3.out⟩
  case round =>
    obtain ⟨k, hk, rfl, how, hnw⟩ := hrel
    have Ow := Lib.hid how
    have Nr := Lib.hid hnw
    clear how hnw
    by_cases hlt : k < n
    · obtain ⟨x, hxk⟩ : ∃ x, xs[k]? = some x := ⟨xs[k]'(by rw [Hx.out]; exact hlt), List.getElem?_eq_getElem _⟩
      obtain ⟨g, cap, hv, hcap, hmax, hgs, e0⟩ := own_sample (own_nw Hi.out Nr.out) hxk Hx.out.symm
      cases hv
      have hcx := Hc.out x (List.mem_of_getElem? hxk)
      have r1 := hcx.res
      have d1 := hcx.fdr
      have e1 := Ow.out.cellAt k (by omega)
      rw [fillL_cell _ n k hlt] at e1
      have e2 := Ow.out.frozenAt k
      have hset := Ow.out.stored k (.float .f32 (opB .mul .f32 (inputOf xs k) f))
      rw [fillL_set (fun k => opB .mul .f32 (inputOf xs k) f) n k hlt] at hset
      have hin : inputOf xs k = x := by unfold inputOf; rw [List.getD_eq_getElem?_getD, hxk]; rfl
      rw [hin] at hset
      have F := Lib.hid hset.1
      have N2 := Lib.hid (Nr.out.set (p := ⟨w.heap.size, k, none⟩) (by show w.heap.size ≤ w.heap.size; omega) (.float .f32 (opB .mul .f32 x f)))
      unfold maxLen at hmax
      clear hset hxk hcx hin
      go_wp2_with fail
      go_roundw
      case rel => exact ⟨k + 1, by omega, by rw [show ((k + 1 : Nat) : Int) = (k : Int) + 1 from by omega], F.out, N2.out⟩
      case measure => simp only [intOf]; omega
    · obtain rfl : k = n := by omega
      go_wp2_with fail
      go_ret
      exact ⟨_, rfl, by have h := Ow.out; rw [fillL_full, scaled_eq xs _ f Hx.out] at h; exact h, Nr.out⟩

set_option maxHeartbeats 3200000 in
theorem strikeBody_ok (ms : List M4) (hms : ∀ m ∈ ms, m.ok) (xs ys : List Nat) (p n q bm bi f : Nat) (v iv : Value) (hq : ms.length = q) (hq16 : q ≤ 16) (hp : xs.length = p) (hpl : p ≤ 1048576) (hn : n ≤ 2000) (w : World)
    (hm : w.ownsRow bm 38 2 v q (cellsM ms)) (hi : w.ownsRow bi 49 1 iv p (cellsS xs)) (hc : ∀ x ∈ xs, Calm .mul .f32 x f) (hys : (xs.map fun x => opB .mul .f32 x f) = ys) (hok : RingOk ms (inputOf ys) n) :
    Calls Try.prog 47 #[.agg #[v], iv, .float .f32 f, .int .i64 (n : Int)] w (RingP w.heap.size (ringS ms (inputOf ys) n) w) := by
  have hyl : ys.length = p := by rw [← hys, List.length_map, hp]
  obtain ⟨va, vc, rfl⟩ := own_shape' hm
  obtain ⟨ia, ic, rfl⟩ := own_shape' hi
  have Hs := Lib.hid (And.intro hq (And.intro hp (And.intro hc (And.intro hys hok))))
  have Hyl := Lib.hid hyl
  have Hbox := Lib.hid (Has1.new w 45 (.slice va q vc))
  have Hn0 := Lib.hid ((Nw.refl w).alloc (.cells #[.slice va q vc] 45 (0, 0)))
  have Hm0 := Lib.hid (own_nw hm Hn0.out)
  have Hi0 := Lib.hid (own_nw hi Hn0.out)
  have Hw0 := Lib.hid (show w.heap.size ≤ (w.alloc (.cells #[.slice va q vc] 45 (0, 0))).heap.size from by simp)
  clear hm hi hq hp hc hys hok hyl
  go_enter Try.func47, Try.ntmps47
  obtain ⟨b0, b1, b2⟩ := Hbox.out
  go_upto_region 1 with fail
  generalize w.alloc (.cells #[.slice va q vc] 45 (0, 0)) = w0 at *
  go_region_with (first
    | (go_at_call 91
       refine (scaleSamples_ok xs p bi f _ Hs.out.2.1 hpl _ Hi0.out.drew Hs.out.2.2.1).mono ?_
       rintro e w5 ⟨v5, rfl, own5, n5⟩
       obtain ⟨va5, vc5, rfl⟩ := own_shape' own5
       have N5 := Lib.hid (((Nw.refl w0).draw 1).trans n5)
       have O5 := Lib.hid own5
       obtain ⟨c0, c1, c2⟩ := Hbox.out.nw N5.out
       clear own5 n5)
    | (go_at_call 32
       refine (ringBody_ok' ms hms ys n q p bm _ _ _ Hs.out.1 hq16 Hyl.out hpl hn _ (own_nw Hm0.out N5.out) (by rw [← Hs.out.2.2.2.1]; exact O5.out) Hs.out.2.2.2.2).mono ?_
       rintro e w6 ⟨v6, rfl, own6, n6⟩
       have N6 := Lib.hid (N5.out.trans n6)
       have O6 := Lib.hid (own_base own6 (Nat.le_trans Hw0.out N5.out.size))
       clear own6 n6))
  all_goals
    go_wp2_with fail
    go_ret2
    exact ⟨v6, rfl, O6.out, Hn0.out.trans N6.out⟩

theorem small_calm (a b c d k : Nat) (w : World) (c1 : Calm .sub .f64 a c) (c2 : Calm .sub .f64 b d) (n1 : Flo.Nm (opB .sub .f64 a c)) (n2 : Flo.Nm (opB .sub .f64 b d)) :
    Calls Try.prog 18 #[.complex .f64 a b, .complex .f64 c d, .float .f64 k] w fun e w' => e = .returned (.bool (leB (szd (opB .sub .f64 a c) (opB .sub .f64 b d)) k)) ∧ ∃ n, w' = w.drewN n := by
  have l1 : opB .sub .f64 a c < 2 ^ 64 := by have := floatBits_wf c1; simpa [Lit.wf] using this
  have l2 : opB .sub .f64 b d < 2 ^ 64 := by have := floatBits_wf c2; simpa [Lit.wf] using this
  have r1 := c1.res
  have d1 := c1.fdr
  have r2 := c2.res
  have d2 := c2.fdr
  go_enter Try.func18, Try.ntmps18
  go_wp2_with (go_at_call 20; refine (sizeDouble_fin _ _ _ l1 l2 n1 n2).mono ?_; rintro e w' ⟨rfl, n, rfl⟩)
  all_goals (go_ret; exact ⟨rfl, _, rfl⟩)

end Go.Proofs.Ytfgofmcpgfofaaa

/- The walks of IsRoom and isPlace, of the products of weights, of weighed modes, RoomBody and RingRoom, over valid rooms with weights from -1 to 1.
   Conditions: those that each statement names. -/
namespace Go.Proofs.Ytfgofmcpgfofaaa
open Go Go.RowKit

theorem sixteen_s : Sm 1098907648 ∧ S 1098907648 = 16 := by
  have h : Ieee.single.read 1098907648 = .number false 8388608 (-19) := by decide
  refine ⟨⟨_, _, _, h⟩, ?_⟩
  rw [show S 1098907648 = _ from Flo.V_eq h]
  unfold Flo.val
  have := Flo.pw_neg_mul 19
  rw [show Flo.pw 19 = 524288 from Flo.pw_nat 19] at this
  simp only [Bool.false_eq_true, if_false]
  have e2 : ((8388608 : Nat) : Rat) = 8388608 := rfl
  rw [e2]; grind
theorem sm_nan {b : Nat} (h : Sm b) : nan32 b = false := by
  obtain ⟨t, k, l, hr⟩ := h
  unfold nan32; rw [show FloatKind.f32.decode b = _ from hr]; rfl

theorem isWeight_ok (x : Nat) (hx : Wt x) (w : World) :
    Calls Try.prog 135 #[.float .f32 x] w fun e w' => e = .returned (.bool true) ∧ w = w' := by
  have hst : stickB x 1098907648 = true := (stick_iff hx.1 sixteen_s.1).2 (by rw [sixteen_s.2]; have := ra_one hx.2; grind)
  have hn := sm_nan sixteen_s.1
  go_enter Try.func135, Try.ntmps135
  go_wp2_with fail
  refine (implAbs_wide x (sm_nan hx.1) _).mono ?_
  rintro e w1 ⟨⟨q, rfl, hq⟩, rfl⟩
  have hr : (FloatKind.f32.format.order q 1098907648 == some .lt || FloatKind.f32.format.order q 1098907648 == some .eq) = true := by
    rw [← hst]
    unfold stickB
    rw [hn, show FloatKind.f64.format.order (labs (wid x)) (wid 1098907648) = FloatKind.f32.format.order q 1098907648 from hq.order_wid hn]; rfl
  go_wp2
  go_ret
  exact ⟨by simp [hr], rfl⟩

theorem areWeights_ok (xs : List Nat) (n b : Nat) (v : Value) (hn : xs.length = n) (hn16 : n ≤ 64) (hx : ∀ x ∈ xs, Wt x) (w : World) (h : w.ownsRow b 49 1 v n (cellsS xs)) :
    Calls Try.prog 133 #[v] w (TestP true w) := by
  obtain ⟨va, vc, rfl⟩ := own_shape' h
  have H := Lib.hid h
  have Hn := Lib.hid hn
  have Hx := Lib.hid hx
  clear h hn hx
  go_enter Try.func133, Try.ntmps133
  go_wp2_with fail
  go_loopw [7] (fun i wr => ValI n w i wr) (fun i _ => n - (intOf i).toNat)
  case atStart => exact ⟨0, by omega, rfl, Nw.refl _⟩
  case round =>
    obtain ⟨k, hk, rfl, hnw⟩ := hrel
    have Nr := Lib.hid hnw
    clear hnw
    by_cases hlt : k < n
    · obtain ⟨x, hxk⟩ : ∃ x, xs[k]? = some x := ⟨xs[k]'(by rw [Hn.out]; exact hlt), List.getElem?_eq_getElem _⟩
      obtain ⟨g1, cap1, hv1, hcap1, hmax1, -, e1⟩ := own_sample (own_nw H.out Nr.out) hxk Hn.out.symm
      cases hv1
      have Hw := Lib.hid (Hx.out x (List.mem_of_getElem? hxk))
      unfold maxLen at hmax1
      clear hxk
      go_wp2_with fail
      refine (isWeight_ok x Hw.out _).mono ?_
      rintro e w5 ⟨rfl, rfl⟩
      go_wp2_with fail
      go_roundw
      case rel => exact ⟨k + 1, by omega, by rw [show ((k + 1 : Nat) : Int) = (k : Int) + 1 from by omega], Nr.out⟩
      case measure => simp only [intOf]; omega
    · go_wp2_with fail
      go_ret
      exact ⟨rfl, Nr.out⟩

/-- a room in memory: at most 16 modes, all valid; places with weights from -1 to 1 -/
structure RoomV (ms : List M4) (rows : List (List Nat)) (q P b bs : Nat) (mv sv : Value) (w : World) : Prop where
  hq : ms.length = q
  hq16 : q ≤ 16
  hP : rows.length = P
  hP16 : P ≤ 16
  ok : ∀ m ∈ ms, m.ok
  wt : ∀ r ∈ rows, ∀ x ∈ r, Wt x
  om : w.ownsRow b 38 2 mv q (cellsM ms)
  rs : RowsR w bs q sv rows
theorem RoomV.nw {ms : List M4} {rows : List (List Nat)} {q P b bs : Nat} {mv sv : Value} {w w' : World} (h : RoomV ms rows q P b bs mv sv w) (n : Nw w w') : RoomV ms rows q P b bs mv sv w' :=
  ⟨h.hq, h.hq16, h.hP, h.hP16, h.ok, h.wt, own_nw h.om n, h.rs.nw n⟩

set_option maxRecDepth 100000 in
theorem isRoom_ok (ms : List M4) (rows : List (List Nat)) (q P b bs : Nat) (mv sv : Value) (w : World) (h : RoomV ms rows q P b bs mv sv w) :
    Calls Try.prog 120 #[.agg #[mv, sv]] w (TestP true w) := by
  obtain ⟨ma, mc, rfl⟩ := own_shape' h.om
  obtain ⟨sa, sc, rfl⟩ := h.rs.shape
  have hP16 := h.hP16
  have e := h.hP
  rw [e] at h ⊢
  have N0 := Lib.hid ((Nw.refl w).alloc (.cells #[.slice ma q mc, .slice sa P sc] 71 (0, 0)))
  have B0 := Lib.hid (Has2.new w 71 (.slice ma q mc) (.slice sa P sc))
  have H := Lib.hid h
  have E := Lib.hid e
  clear h e
  go_enter Try.func120, Try.ntmps120
  obtain ⟨b0, b1, b2, b3, b4⟩ := B0.out
  go_wp2_with fail
  refine (implIsBody_ok ms H.out.ok q b _ H.out.hq H.out.hq16 _ (own_nw H.out.om N0.out)).mono ?_
  rintro e w1 ⟨rfl, n1⟩
  have B1 := Lib.hid (B0.out.nw n1)
  have N1 := Lib.hid (N0.out.trans n1)
  clear n1 b0 b1 b2 b3 b4
  obtain ⟨b0, b1, b2, b3, b4⟩ := B1.out
  go_wp2_with fail
  go_loopw [19] (fun i wr => ValI P w i wr ∧ Nw w1 wr) (fun i _ => P - (intOf i).toNat)
  case atStart => exact ⟨⟨0, by omega, rfl, N1.out⟩, Nw.refl _⟩
  case round =>
    obtain ⟨⟨k, hk, rfl, hnw⟩, hn1⟩ := hrel
    have Nr := Lib.hid (And.intro hnw hn1)
    clear hnw hn1 b0 b1 b2 b3 b4
    by_cases hlt : k < P
    · obtain ⟨r, hr⟩ : ∃ r, rows[k]? = some r := ⟨rows[k]'(by rw [E.out]; exact hlt), List.getElem?_eq_getElem _⟩
      obtain ⟨g, cap, ra, rc, hv, hcap, hmax, hgs, e1, own⟩ := (H.out.rs.nw Nr.out.1).at E.out.symm hr
      cases hv
      have Hl := Lib.hid (H.out.rs.lens r (List.mem_of_getElem? hr))
      have Hw := Lib.hid (H.out.wt r (List.mem_of_getElem? hr))
      have Ow := Lib.hid own
      have B2 := Lib.hid (B1.out.nw Nr.out.2)
      have hq16 := H.out.hq16
      obtain ⟨b0, b1, b2, b3, b4⟩ := B2.out
      unfold maxLen at hmax
      clear hr own
      go_wp2_with fail
      refine (areWeights_ok r q _ _ Hl.out (by omega) Hw.out _ Ow.out).mono ?_
      rintro e w5 ⟨rfl, n5⟩
      have N5 := Lib.hid (And.intro (Nr.out.1.trans n5) (Nr.out.2.trans n5))
      clear n5 e1 b0 b1 b2 b3 b4
      go_wp2_with fail
      go_roundw
      case rel => exact ⟨⟨k + 1, by omega, by rw [show ((k + 1 : Nat) : Int) = (k : Int) + 1 from by omega], N5.out.1⟩, N5.out.2⟩
      case measure => simp only [intOf]; omega
    · go_wp2_with fail
      go_ret
      exact ⟨rfl, Nr.out.1⟩

theorem isPlace_ok (mv : Value) (sa : Option Addr) (P sc p : Nat) (hP : P ≤ 64) (hp : p ≤ 64) (w : World) :
    Calls Try.prog 121 #[.agg #[mv, .slice sa P sc], .int .i64 (p : Int)] w (TestP (decide (p < P)) w) := by
  have N0 := Lib.hid ((Nw.refl w).alloc (.cells #[mv, .slice sa P sc] 71 (0, 0)))
  have B0 := Lib.hid (Has2.new w 71 mv (.slice sa P sc))
  go_enter Try.func121, Try.ntmps121
  obtain ⟨b0, b1, b2, b3, b4⟩ := B0.out
  go_wp2_with fail
  go_ret
  exact ⟨by simp, N0.out⟩
end Go.Proofs.Ytfgofmcpgfofaaa
