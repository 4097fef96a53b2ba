/- Plain facts: a mode whose pole has no greater parts than a valid mode's, with the same gain, is valid: damped and tuned modes. No program stands in it.
   Conditions: those that each statement names. -/
import Derived.Test.YtfgofmcpgfofaaaDampB
import Derived.Test.YtfgofmcpgfofaaaFix
namespace Go.Proofs.Ytfgofmcpgfofaaa
open Go

theorem M4.ok.pole4 {m : M4} (h : m.ok) : ra (S m.pr) ≤ 4 ∧ ra (S m.pi) ≤ 4 := by
  obtain ⟨p1, p2⟩ := h.pole
  have := ra_le p1
  have := ra_le p2
  constructor <;> grind

theorem ok_less (m m' : M4) (h : m.ok) (h1 : Sm m'.pr) (h2 : Sm m'.pi) (l1 : ra (S m'.pr) ≤ ra (S m.pr)) (l2 : ra (S m'.pi) ≤ ra (S m.pi)) (hg : m'.gr = m.gr ∧ m'.gi = m.gi) : m'.ok := by
  obtain ⟨s1, s2, s3, s4⟩ := h.nums
  obtain ⟨b1, b2⟩ := h.pole4
  obtain ⟨f1, f2, f3, f4, f5, f6, f7⟩ := Valid.parts h
  have hm := sqr_mono m'.pr m'.pi m.pr m.pi h1 h2 s1 s2 l1 l2 b1 b2
  obtain ⟨_, _, -, -, -, k1, k2⟩ := sqr_num s1 s2
  obtain ⟨_, _, -, -, -, k3, -⟩ := sqr_num h1 h2
  have f5' := (leB_iff k1 num_one.1).1 f5
  rw [num_one.2] at f5'
  have sq : ∀ q : Rat, 0 ≤ q * q := square_nonneg
  have q1 := sq (S m.pr)
  have q2 := sq (S m.pi)
  have u1 := Flo.u_le
  have u0 := Flo.u_pos
  have eu : Flo.et ≤ Flo.u := Flo.pw_le (by omega)
  have e0 := Flo.et_pos
  have g := Rat.mul_le_mul_of_nonneg_left (show 4 * Flo.u ≤ 1 by grind) (show 0 ≤ S m.pr * S m.pr + S m.pi * S m.pi by grind)
  have hneg : -1 ≤ Flo.W (sqr (wid m.pr) (wid m.pi)) := by
    have := k2.1
    grind
  have ha : ra (Flo.W (sqr (wid m.pr) (wid m.pi))) ≤ 1 := ra_le ⟨hneg, f5'⟩
  have hw : Flo.W (sqr (wid m'.pr) (wid m'.pi)) ≤ 1 := by
    have := ra_ab (Flo.W (sqr (wid m'.pr) (wid m'.pi)))
    have := this.2
    grind
  have f5'' : leB (sqr (wid m'.pr) (wid m'.pi)) 4607182418800017408 = true := (leB_iff k3 num_one.1).2 (by rw [num_one.2]; exact hw)
  show modeB m'.pr m'.pi m'.gr m'.gi labs = true
  unfold modeB
  rw [hg.1, hg.2, (fin_iff' .f32 _).2 h1, (fin_iff' .f32 _).2 h2, f3, f4, f5'', f6, f7]
  rfl

theorem dampM_ok (m : M4) (t : Nat) (h : m.ok) (ht : Sm t) (h0 : 0 ≤ S t) (h1 : S t ≤ 1) : (dampM t m).ok := by
  obtain ⟨s1, s2, s3, s4⟩ := h.nums
  obtain ⟨b1, b2⟩ := h.pole4
  obtain ⟨-, a1, a2⟩ := damp_part m.pr t s1 ht h0 h1 b1
  obtain ⟨-, c1, c2⟩ := damp_part m.pi t s2 ht h0 h1 b2
  exact ok_less m (dampM t m) h a1 c1 a2 c2 ⟨rfl, rfl⟩

def tuneM (m : M4) : M4 := ⟨mulSre m.pr m.pi 1065353216 0, mulSim m.pr m.pi 1065353216 0, m.gr, m.gi⟩
theorem tuneM_ok (m : M4) (h : m.ok) : (tuneM m).ok ∧ S (tuneM m).pr = S m.pr ∧ S (tuneM m).pi = S m.pi := by
  obtain ⟨s1, s2, s3, s4⟩ := h.nums
  obtain ⟨b1, b2⟩ := h.pole4
  obtain ⟨a1, a2, a3, a4⟩ := mulS_one m.pr m.pi s1 s2 b1 b2
  exact ⟨ok_less m (tuneM m) h a1 a2 (by show ra (S (mulSre m.pr m.pi 1065353216 0)) ≤ _; rw [a3]; exact Rat.le_refl) (by show ra (S (mulSim m.pr m.pi 1065353216 0)) ≤ _; rw [a4]; exact Rat.le_refl) ⟨rfl, rfl⟩, a3, a4⟩
end Go.Proofs.Ytfgofmcpgfofaaa
