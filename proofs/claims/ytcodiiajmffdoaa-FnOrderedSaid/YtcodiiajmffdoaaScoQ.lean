/- Events compared.
   Conditions: those that each statement names. -/
import Derived.Test.YtcodiiajmffdoaaScoG
import Derived.Laws.StructEq
namespace Go.Proofs.Ytcodiiajmffdoaa
open Go Go.RowKit

/-- equality of numbers of single precision, as the language has it -/
def feq (x y : Nat) : Bool := FloatKind.f32.format.order x y == some .eq
theorem feq_self {x : Nat} (h : Sm x) : feq x x = true := by
  have o := Flo.order_num Ieee.single x x h h
  unfold feq
  rw [show FloatKind.f32.format = Ieee.single from rfl, beq_iff_eq]
  exact o.2.1.2 rfl
def Ev6.val (e : Ev6) : Value := evV e.t e.k e.b e.s e.m e.f
def Ev6.eqB (x y : Ev6) : Bool := x.t == y.t && (x.k == y.k && (x.b == y.b && (x.s == y.s && (x.m == y.m && feq x.f y.f))))
theorem Ev6.eqB_self {x : Ev6} (h : Sm x.f) : x.eqB x = true := by
  unfold Ev6.eqB
  rw [feq_self h]; simp
theorem eqlIn_f32 (w : World) (d : Nat) (x y : Nat) : (Op.equalIn (d + 1) 25 (.float .f32 x) (.float .f32 y)).run Try.prog w = .ok (feq x y) w := by
  have hu := Try.underlying25
  simp [Op.equalIn, run_underlying hu, feq, Op.floatEq]
theorem eqlIn_int (w : World) (d : Nat) (x y : Int) : (Op.equalIn (d + 1) 3 (.int .i64 x) (.int .i64 y)).run Try.prog w = .ok (x == y) w :=
  run_equalIn_int w d _ _ _ x y Try.underlying3
theorem eqFields_step {P : Program} {d : Nat} {xs ys : Array Value} {f : Field} {fs : List Field} {a b : Value} {r : Bool} {w : World} (hn : f.name ≠ "_") (h1 : (part f.type xs f.offset).run P w = .ok a w) (h2 : (part f.type ys f.offset).run P w = .ok b w)
    (h3 : (Op.equalIn d f.type a b).run P w = .ok r w) : (Op.eqFields d xs ys (f :: fs)).run P w = if r = true then (Op.eqFields d xs ys fs).run P w else .ok false w := by
  simp only [Op.eqFields, if_pos hn, Sem.run_bind, h1, h2, h3, Result.andThen_ok]
  cases r <;> simp
set_option maxRecDepth 100000 in
theorem eql_fields (w : World) (d : Nat) (t k b s m t' k' b' s' m' : Int) (f f' : Nat) :
    (Op.equalIn (d + 2) 57 (.agg #[.int .i64 t, .int .i64 k, .int .i64 b, .int .i64 s, .int .i64 m, .float .f32 f]) (.agg #[.int .i64 t', .int .i64 k', .int .i64 b', .int .i64 s', .int .i64 m', .float .f32 f'])).run Try.prog w
      = .ok (Ev6.eqB ⟨t, k, b, s, m, f⟩ ⟨t', k', b', s', m', f'⟩) w := by
  have hu := Try.underlying57
  have hh : Try.prog.stoodInHeld 57 = false := by kernel_rfl
  have hf : Try.prog.fieldsOf 57 = #[{ name := "At", type := 3, offset := 0, embedded := false, tag := "", pkgPath := "", byteOffset := 0 },
      { name := "Kind", type := 3, offset := 1, embedded := false, tag := "", pkgPath := "", byteOffset := 8 },
      { name := "Body", type := 3, offset := 2, embedded := false, tag := "", pkgPath := "", byteOffset := 16 },
      { name := "Shape", type := 3, offset := 3, embedded := false, tag := "", pkgPath := "", byteOffset := 24 },
      { name := "Count", type := 3, offset := 4, embedded := false, tag := "", pkgPath := "", byteOffset := 32 },
      { name := "Force", type := 25, offset := 5, embedded := false, tag := "", pkgPath := "", byteOffset := 40 }] := by unfold Program.fieldsOf; rw [hu]
  have a1 : ∀ (x y : Int) (w : World), (Op.equalIn (d + 1) 3 (.int .i64 x) (.int .i64 y)).run Try.prog w = .ok (x == y) w := fun x y w => eqlIn_int w d x y
  have a2 : ∀ (x y : Nat) (w : World), (Op.equalIn (d + 1) 25 (.float .f32 x) (.float .f32 y)).run Try.prog w = .ok (feq x y) w := fun x y w => eqlIn_f32 w d x y
  rw [run_equalIn_struct w (d + 1) _ _ _ (by rw [hf]; exact hu) hh, hf]
  refine (eqFields_step (by decide) (a := .int .i64 t) (b := .int .i64 t') rfl rfl (a1 _ _ _)).trans ?_
  unfold Ev6.eqB
  cases h0 : (t == t')
  · rfl
  refine (eqFields_step (by decide) (a := .int .i64 k) (b := .int .i64 k') rfl rfl (a1 _ _ _)).trans ?_
  cases h1 : (k == k')
  · rfl
  refine (eqFields_step (by decide) (a := .int .i64 b) (b := .int .i64 b') rfl rfl (a1 _ _ _)).trans ?_
  cases h2 : (b == b')
  · rfl
  refine (eqFields_step (by decide) (a := .int .i64 s) (b := .int .i64 s') rfl rfl (a1 _ _ _)).trans ?_
  cases h3 : (s == s')
  · rfl
  refine (eqFields_step (by decide) (a := .int .i64 m) (b := .int .i64 m') rfl rfl (a1 _ _ _)).trans ?_
  cases h4 : (m == m')
  · rfl
  refine (eqFields_step (by decide) (a := .float .f32 f) (b := .float .f32 f') rfl rfl (a2 _ _ _)).trans ?_
  cases h5 : feq f f'
  · rfl
  · rfl
theorem eql_event (w : World) (t k b s m t' k' b' s' m' : Int) (f f' : Nat) :
    (binOp .eql 57 (.agg #[.int .i64 t, .int .i64 k, .int .i64 b, .int .i64 s, .int .i64 m, .float .f32 f]) (.agg #[.int .i64 t', .int .i64 k', .int .i64 b', .int .i64 s', .int .i64 m', .float .f32 f'])).run Try.prog w
      = .ok (.bool (Ev6.eqB ⟨t, k, b, s, m, f⟩ ⟨t', k', b', s', m', f'⟩)) w := by
  rw [run_eql_struct, eql_fields w 9998]
  rfl
theorem neq_event (w : World) (t k b s m t' k' b' s' m' : Int) (f f' : Nat) :
    (binOp .neq 57 (.agg #[.int .i64 t, .int .i64 k, .int .i64 b, .int .i64 s, .int .i64 m, .float .f32 f]) (.agg #[.int .i64 t', .int .i64 k', .int .i64 b', .int .i64 s', .int .i64 m', .float .f32 f'])).run Try.prog w
      = .ok (.bool (!Ev6.eqB ⟨t, k, b, s, m, f⟩ ⟨t', k', b', s', m', f'⟩)) w := by
  rw [run_neq_struct, eql_fields w 9998]
  rfl

end Go.Proofs.Ytcodiiajmffdoaa
