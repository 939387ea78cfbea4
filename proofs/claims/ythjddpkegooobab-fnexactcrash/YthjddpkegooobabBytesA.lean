/-
  BYTESA: the laws' bytes. Own work.
-/
import Derived.Test.YthjddpkegooobabBRow
import Derived.Deep.QuietTactic
import Derived.BigQuiet
namespace Go.Proofs.Ythjddpkegooobab
open Go.RowKit

set_option maxRecDepth 100000 in
theorem toByteS_any (a : Option Addr) (bs : List Nat) (cap : Nat) (w : World) (hl : bs.length ≤ 1048576) (ha : BytesAt w a bs) :
    Calls Try.prog 25 #[.slice a bs.length cap] w fun e w' => ∃ b, e = .returned (.slice (some ⟨b, 0, none⟩) bs.length bs.length) ∧ w.heap.size ≤ b ∧ BRow w' b bs.length bs ∧ Below w.heap.size w w' := by
  obtain ⟨i0, hi, hz0, hz1, hz2⟩ := info_parts info_u8
  have hmk : ∀ u : World, (Instr.makeSlice 28 (.int .i64 (bs.length : Int)) (.int .i64 (bs.length : Int))).run Try.prog u =
      .ok (.slice (some ⟨u.heap.size, 0, none⟩) bs.length bs.length) (u.alloc (.cells (madeCells #[.int .u8 0] bs.length) 5)) := fun u => by
    have h := run_make (P := Try.prog) u 28 5 i0 _ Try.underlying28 hi hz0 .i64 .i64 (bs.length : Int) (bs.length : Int) (by omega) (Int.le_refl _) (by rw [hz2]; omega) (by omega)
    simpa [hz1, Value.cells] using h
  go_enter Try.func25, Try.ntmps25
  go_wp2
  go_loopw [4] (fun i wr => ∃ (k : Nat) (f : Nat → Value), k ≤ bs.length ∧ i = .int .i64 k ∧ wr.rowIs w.heap.size 5 bs.length f ∧ (∀ j, j < k → f j = .int .u8 ((bs[j]! : Nat) : Int)) ∧ Below w.heap.size w wr) (fun i _ => bs.length - (intOf i).toNat)
  case atStart => exact ⟨0, _, Nat.zero_le _, rfl, rowIs_made_any _ _ _ _, fun i hi => absurd hi (Nat.not_lt_zero _), (Below.refl _ _).alloc (Nat.le_refl _) _⟩
  case round =>
    obtain ⟨k, f, hk, rfl, hrow, hin, hb⟩ := hrel
    by_cases hlt : k < bs.length
    · obtain ⟨x, b, off, hxk, hxm, rfl, hc⟩ := (ha.grow hb).get hlt
      have d0 := hrow.cell hlt
      have f0 := hrow.frozen
      go_wp2
      go_roundw
      case rel =>
        refine ⟨k + 1, _, by omega, by go_num, hrow.set _ _, fun j hj => ?_, hb.setCell (Nat.le_refl _) _⟩
        show (if j = k then _ else _) = _
        split
        · rename_i e; rw [e, ← hxk.out]
        · exact hin j (by omega)
      case measure => simp [intOf]; omega
    · go_wp2
      go_ret
      have e : k = bs.length := by omega
      subst e
      exact ⟨_, rfl, Nat.le_refl _, BRow.of_row hrow (Nat.le_refl _) hin, hb⟩

set_option maxRecDepth 100000 in
theorem eqByteS_same (a a' : Option Addr) (bs : List Nat) (cap cap' : Nat) (w : World) (hl : bs.length ≤ maxLen) (ha : BytesAt w a bs) (ha' : BytesAt w a' bs) :
    Calls Try.prog 19 #[.slice a bs.length cap, .slice a' bs.length cap'] w fun e w' => e = .returned (.bool true) ∧ Below w.heap.size w w' := by
  unfold maxLen at hl
  have hne : ((bs.length : Int) != (bs.length : Int)) = false := by simp
  go_enter Try.func19, Try.ntmps19
  go_wp2
  go_loopw [5] (fun i wr => ∃ (k : Nat), k ≤ bs.length ∧ i = .int .i64 k ∧ Below w.heap.size w wr) (fun i _ => bs.length - (intOf i).toNat)
  case atStart => exact ⟨0, Nat.zero_le _, rfl, gre _⟩
  case round =>
    obtain ⟨k, hk, rfl, hb⟩ := hrel
    by_cases hlt : k < bs.length
    · obtain ⟨x, b, off, hxk, hxm, rfl, hc⟩ := (ha.grow hb).get hlt
      obtain ⟨y, b', off', hyk, hym, rfl, hc'⟩ := (ha'.grow hb).get hlt
      obtain rfl : y = x := by rw [hyk.out, hxk.out]
      have hn2 : ((y : Int) != (y : Int)) = false := by simp
      go_wp2_with (go_quiet (fail))
      go_roundw
      case rel => exact ⟨k + 1, by omega, by go_num, hb.trans ⟨rfl, rfl, rfl, Nat.le_refl _, fun _ _ => rfl⟩⟩
      case measure => simp [intOf]; omega
    · go_wp2
      go_ret
      exact ⟨rfl, hb⟩

end Go.Proofs.Ythjddpkegooobab
