/- The decimal texts: strconv.FormatUint and Itoa as told; texts alike.
   Conditions: those that each statement names. -/
import Derived.Test.YtjmignhcfmdcaaaDoorShelf
import Derived.Test.YtjmignhcfmdcaaaDoorFormS
import Derived.Lib.ItoaMem
import Derived.Lib.Walk
import Derived.Shelf.Strconv.Itoa3
namespace Go.Proofs.YtjmignhcfmdcaaaDoor
set_option linter.unusedSimpArgs false
set_option linter.unusedVariables false
open Go Go.RowKit

/-! ### digits -/
theorem digs_eq : ∀ (f u : Nat), u < 10 ^ (f + 1) → (Lib.decDigits u) = (dgs u).map fun n => UInt8.ofNat n.toNat
  | f, u, h => by
    by_cases h10 : u < 10
    · rw [Lib.decDigits, dif_pos h10, dgs_small h10]
      simp only [List.map_cons, List.map_nil, List.cons.injEq, and_true]
      congr 1
    · rw [Lib.decDigits, dif_neg h10, dgs_big h10, List.map_append]
      cases f with
      | zero => omega
      | succ f =>
        rw [digs_eq f (u / 10) (by rw [Nat.pow_succ] at h; omega)]
        simp only [List.map_cons, List.map_nil]
        congr 3
theorem digs_str (u : Nat) (h : u < 18446744073709551616) : (⟨(Lib.decDigits u).toArray⟩ : ByteArray) = strOfNums (dgs u) := by
  rw [digs_eq 19 u (by omega)]; rfl
theorem itoa_str (q : Int) (h : q.natAbs < 18446744073709551616) : (⟨(Lib.itoa q).toArray⟩ : ByteArray) = strOfNums (numL q) := by
  unfold Lib.itoa numL strOfNums
  split
  · rename_i hq
    rw [digs_eq 19 q.natAbs (by omega)]
    rfl
  · rename_i hq
    rw [show q.toNat = q.natAbs by omega, digs_eq 19 q.natAbs (by omega)]

theorem tab_nw {w w' : World} {nm : String} {k : IntKind} {zs : List Int} (h : Nw w w') (t : Lib.TabIs Tryd.prog w nm k zs) : Lib.TabIs Tryd.prog w' nm k zs := by
  unfold Lib.TabIs World.var? at *
  cases hg : Program.globalNamed Tryd.prog nm with
  | none => simp [hg] at t
  | some g =>
    simp only [hg, Option.bind_some] at t ⊢
    have hlt : g < w.heap.size := by
      rcases Nat.lt_or_ge g w.heap.size with h' | h'
      · exact h'
      · rw [Array.getElem?_eq_none h'] at t; simp at t
    rw [h.block g hlt (by simp)]
    exact t
theorem nw_grow (w : World) (os : Array Obj) : Nw w (Sort.grow w os) :=
  ⟨rfl, rfl, rfl, by simp [Sort.grow], fun k hk _ => Sort.heap_grow_old w os hk⟩

theorem holds_zero0 (w : World) (T : TypeId) (nd : Nat) (hs : nd ≤ 24) : Sort.Holds (fun (b : UInt8) => Value.int .u8 (b.toNat : Int)) (w.alloc (.cells Lib.zeros24 T)) w.heap.size 0 (Array.replicate nd (0 : UInt8)) := fun j hj => by
  have hj' : j < nd := by simpa using hj
  refine ⟨?_, World.frozen?_alloc_new _ _ _ _⟩
  rw [World.cell?_alloc_new, Lib.zeros24_at _ (by omega), getElem!_pos _ j hj]
  simp
theorem nw_put (w : World) (o : Obj) (dk : Array UInt8) (k : Nat) : Nw w ((Sort.putRow (fun (b : UInt8) => Value.int .u8 (b.toNat : Int)) (w.alloc o) w.heap.size 0 dk).drewN k) := by
  rw [Sort.alloc_eq_grow]
  obtain ⟨os', _, e⟩ := Sort.putRow_grow_new (fun (b : UInt8) => Value.int .u8 (b.toNat : Int)) w #[o] w.heap.size 0 dk (Nat.le_refl _)
  rw [e]
  exact (nw_grow w os').draw k

set_option maxHeartbeats 6400000 in
set_option maxRecDepth 100000 in
theorem fmtU_inner (u : Nat) (hu1 : 1 ≤ u) (hu64 : u < 18446744073709551616) (w : World) (htab : Lib.TabIs Tryd.prog w "internal/strconv.uint64pow10" .u64 Lib.pow10Tab) :
    Calls Tryd.prog 38 #[.int .u64 (u : Int), .int .i64 10] w (StrP (dgs u) w) := by
  have hstr := digs_str u hu64
  by_cases hs : u < 100
  · go_enter Tryd.func38, Tryd.ntmps38
    go_wp2_with (go_at_call 48; refine (Tryd.internal_strconv_small u hs _).mono ?_; rintro e w' ⟨rfl, rfl⟩)
    go_ret
    exact ⟨by first | rfl | (rw [hstr]; rfl), Nw.refl _⟩
  · have hnd20 : Lib.nDigits u ≤ 20 := by have := Lib.numDigits_eq u hu1 hu64; split at this <;> omega
    have hal : Program.arrayLen Tryd.prog 67 = 24 := by kernel_rfl
    have hsl : ∀ W, (Instr.sliceAt 67 (.pointer (some ⟨w.heap.size, 0, none⟩)) none (some (.int .i64 (Lib.nDigits u : Int))) none).run Tryd.prog W = .ok (.slice (some ⟨w.heap.size, 0, none⟩) (Lib.nDigits u) 24) W := fun W => by
      rw [run_sliceAt_array_h W 67 ⟨w.heap.size, 0, none⟩ (by kernel_rfl) .i64 (Lib.nDigits u : Int) (by omega) (by rw [hal]; omega)]
      go_simp
    have hH0 := holds_zero0 w 67 (Lib.nDigits u) (by omega)
    have hfmt := Tryd.internal_strconv_formatBase10 w.heap.size 0 24 u (Array.replicate (Lib.nDigits u) 0) (w.alloc (.cells Lib.zeros24 67)) hH0 (by rw [Array.size_replicate]; exact Lib.lt_pow_nDigits u) hu64 (by rw [Array.size_replicate]; omega)
    rw [Array.size_replicate] at hfmt
    have HH0 := Lib.hid hH0
    clear hH0 hal
    go_enter Tryd.func38, Tryd.ntmps38
    go_wp2_with (go_at_call 49; refine (Tryd.internal_strconv_numDigits u hu1 hu64 _ (Lib.tabIs_alloc htab _)).mono ?_; rintro e w' ⟨rfl, rfl⟩)
    go_at_call 50
    refine hfmt.mono ?_
    rintro e w' ⟨rfl, k, v', dk, rfl, hF⟩
    have hcv : (convert 48 9 (.slice (some ⟨w.heap.size, 0, none⟩) (Lib.nDigits u) 24)).run Tryd.prog ((Sort.putRow (fun (b : UInt8) => Value.int .u8 (b.toNat : Int)) (w.alloc (.cells Lib.zeros24 67)) w.heap.size 0 dk).drewN k) = .ok (.string ⟨(Lib.decDigits u).toArray⟩) ((Sort.putRow (fun (b : UInt8) => Value.int .u8 (b.toNat : Int)) (w.alloc (.cells Lib.zeros24 67)) w.heap.size 0 dk).drewN k) := by
      have h := run_convert_bytes_back (P := Tryd.prog) ((Sort.putRow (fun (b : UInt8) => Value.int .u8 (b.toNat : Int)) (w.alloc (.cells Lib.zeros24 67)) w.heap.size 0 dk).drewN k) 48 9 5 ⟨w.heap.size, 0, none⟩ 24 (Lib.decDigits u) Tryd.underlying48 Tryd.underlying5 Tryd.underlying9 (fun j hj => by
        rw [Lib.row_is_numeral hF j hj, Lib.add_plain, World.cell?_drewN]
        exact Sort.cell?_putRow (fun (b : UInt8) => Value.int .u8 (b.toNat : Int)) _ w.heap.size 0 _ dk HH0.out (by rw [hF.size, Array.size_replicate]) j (by rw [hF.size]; rw [Lib.decDigits_length] at hj; exact hj))
      rw [Lib.decDigits_length] at h
      exact h
    have fin : Nw w ((Sort.putRow (fun (b : UInt8) => Value.int .u8 (b.toNat : Int)) (w.alloc (.cells Lib.zeros24 67)) w.heap.size 0 dk).drewN k) := nw_put _ _ _ _
    go_wp2
    go_ret
    exact ⟨by first | rfl | (rw [hstr]; rfl), fin⟩

theorem fmtU_ok (u : Nat) (hu1 : 1 ≤ u) (hu64 : u < 18446744073709551616) (w : World) (htab : Lib.TabIs Tryd.prog w "internal/strconv.uint64pow10" .u64 Lib.pow10Tab) :
    Calls Tryd.prog 24 #[.int .u64 (u : Int), .int .i64 10] w (StrP (dgs u) w) := by
  go_enter Tryd.func24, Tryd.ntmps24
  go_wp2_with (go_at_call 38; refine (fmtU_inner u hu1 hu64 _ htab).mono ?_; rintro e w' ⟨rfl, n1⟩; have N1 := Lib.hid n1; clear n1)
  go_ret
  exact ⟨rfl, N1.out⟩

theorem itoa_ok (q : Int) (hq : -2000 ≤ q ∧ q ≤ 2000) (w : World) (htab : Lib.TabIs Tryd.prog w "internal/strconv.uint64pow10" .u64 Lib.pow10Tab) :
    Calls Tryd.prog 25 #[.int .i64 q] w (StrP (numL q) w) := by
  refine (Tryd.strconv_Itoa q (by omega) (by omega) w htab).mono ?_
  rintro e w' ⟨rfl, k, os, rfl⟩
  exact ⟨by rw [itoa_str q (by omega)], ((Nw.refl w).draw k).trans (nw_grow _ os)⟩

end Go.Proofs.YtjmignhcfmdcaaaDoor
