/-
  SALL: the specification's Sync and Crash. Own work.
-/
import Derived.Test.YthjddpkegooobabSSet
import Derived.Test.YthjddpkegooobabDOk2
namespace Go.Proofs.Ythjddpkegooobab
open Go.RowKit

set_option maxRecDepth 100000 in
theorem info_bool : (Try.prog.info? 4).map (fun i => (i.zero, i.size, i.bytes)) = some (some (.bool false), 1, 1) := by kernel_rfl

set_option maxRecDepth 100000 in
theorem l3all_any (n : Nat) (w : World) (hn : n ≤ 1048576) :
    Calls Try.prog 107 #[.int .i64 n] w fun e w' => ∃ b, e = .returned (.slice (some ⟨b, 0, none⟩) n n) ∧ BoolsAt w' (some ⟨b, 0, none⟩) (List.replicate n true) ∧ Below w.heap.size w w' := by
  obtain ⟨i0, hi, hz0, hz1, hz2⟩ := info_parts info_bool
  have hmk : ∀ u : World, (Instr.makeSlice 67 (.int .i64 (n : Int)) (.int .i64 (n : Int))).run Try.prog u =
      .ok (.slice (some ⟨u.heap.size, 0, none⟩) n n) (u.alloc (.cells (madeCells #[.bool false] n) 4)) := fun u => by
    have h := run_make (P := Try.prog) u 67 4 i0 _ Try.underlying67 hi hz0 .i64 .i64 (n : Int) (n : Int) (by omega) (Int.le_refl _) (by rw [hz2]; omega) (by omega)
    simpa [hz1, Value.cells] using h
  go_enter Try.func107, Try.ntmps107
  go_wp2
  go_loopw [9] (fun i wr => ∃ (k : Nat) (f : Nat → Value), k ≤ n ∧ i = .int .i64 k ∧ wr.rowIs w.heap.size 4 n f ∧ (∀ j, j < k → f j = .bool true) ∧ Below w.heap.size w wr) (fun i _ => n - (intOf i).toNat)
  case atStart => exact ⟨0, _, Nat.zero_le _, rfl, rowIs_made_any _ _ _ _, fun i hi => absurd hi (Nat.not_lt_zero _), (Below.refl _ _).alloc (Nat.le_refl _) _⟩
  case round =>
    obtain ⟨k, f, hk, rfl, hrow, hin, hb⟩ := hrel
    by_cases hlt : k < n
    · have d0 := hrow.cell hlt
      have f0 := hrow.frozen
      have i0' : (0 : Int) ≤ (k : Int) := by omega
      have i1 : (k : Int) < (n : Int) := by omega
      go_wp2
      go_roundw
      case rel =>
        refine ⟨k + 1, _, by omega, by go_num, hrow.set _ _, fun j hj => ?_, hb.setCell (Nat.le_refl _) _⟩
        show (if j = k then _ else _) = _
        split
        · rfl
        · exact hin j (by omega)
      case measure => simp [intOf]; omega
    · obtain rfl : k = n := by omega
      go_wp2
      go_ret
      refine ⟨_, rfl, fun i hi => ⟨_, 0, rfl, ?_⟩, hb⟩
      have hi' : i < k := by simpa using hi
      rw [Nat.zero_add, getElem!_pos _ i hi, List.getElem_replicate, ← hin i hi']
      exact hrow.cell hi'

theorem keepOf_all {n i : Nat} (h : i < n) : keepOf (List.replicate n true) i = keepAll i := by
  simp [keepOf, keepAll, h]
theorem zero_at (w : World) : DAt w ⟨none, 0, none, 0⟩ zeroD := ⟨fun _i hi => absurd hi (Nat.not_lt_zero _), fun _i hi => absurd hi (Nat.not_lt_zero _)⟩
theorem settle_yes {d : DD} (h : d.ok = true) (keep : Nat → Bool) : d.settle keep = ⟨settleN keep d.blocks d.waiting d.waiting.length, []⟩ := if_pos h
theorem settle_no {d : DD} (h : d.ok = false) (keep : Nat → Bool) : d.settle keep = zeroD := if_neg (by rw [h]; exact Bool.false_ne_true)

end Go.Proofs.Ythjddpkegooobab
