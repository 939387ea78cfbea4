/-
  BOOLS: the laws' lists of bools. Own work.
-/
import Derived.Test.YthjddpkegooobabSAll
namespace Go.Proofs.Ythjddpkegooobab
open Go.RowKit

/-- bools in a row of their own -/
def KRow (w : World) (a : Nat) (ks : List Bool) : Prop := ∃ f, w.rowIs a 4 ks.length f ∧ ∀ i, i < ks.length → f i = .bool ks[i]!
theorem KRow.at_ {w : World} {a : Nat} {ks : List Bool} (h : KRow w a ks) : BoolsAt w (some ⟨a, 0, none⟩) ks := fun i hi => by
  obtain ⟨f, hr, hf⟩ := h
  exact ⟨a, 0, rfl, by rw [Nat.zero_add, ← hf i hi]; exact hr.cell hi⟩
theorem KRow.kept {p : Nat → Prop} {w w' : World} {a : Nat} {ks : List Bool} (h : KRow w a ks) (k : Kept p w w') (hn : ¬ p a) : KRow w' a ks := by
  obtain ⟨f, hr, hf⟩ := h
  exact ⟨f, k.rowIs hr hn, hf⟩
theorem KRow.grow {w w' : World} {a : Nat} {ks : List Bool} (h : KRow w a ks) (hb : Below w.heap.size w w') : KRow w' a ks := h.kept (Kept.of_below hb (fun _ => False)) (fun e => e)
theorem KRow.lt {w : World} {a : Nat} {ks : List Bool} (h : KRow w a ks) : a < w.heap.size := by obtain ⟨f, hr, _⟩ := h; exact hr.lt

set_option maxRecDepth 100000 in
theorem toBoolS_any (a : Option Addr) (ks : List Bool) (cap : Nat) (w : World) (hl : ks.length ≤ 1048576) (ha : BoolsAt w a ks) :
    Calls Try.prog 46 #[.slice a ks.length cap] w fun e w' => ∃ b, e = .returned (.slice (some ⟨b, 0, none⟩) ks.length ks.length) ∧ w.heap.size ≤ b ∧ KRow w' b ks ∧ Below w.heap.size w w' := by
  obtain ⟨i0, hi, hz0, hz1, hz2⟩ := info_parts info_bool
  have hmk : ∀ u : World, (Instr.makeSlice 67 (.int .i64 (ks.length : Int)) (.int .i64 (ks.length : Int))).run Try.prog u =
      .ok (.slice (some ⟨u.heap.size, 0, none⟩) ks.length ks.length) (u.alloc (.cells (madeCells #[.bool false] ks.length) 4)) := fun u => by
    have h := run_make (P := Try.prog) u 67 4 i0 _ Try.underlying67 hi hz0 .i64 .i64 (ks.length : Int) (ks.length : Int) (by omega) (Int.le_refl _) (by rw [hz2]; omega) (by omega)
    simpa [hz1, Value.cells] using h
  go_enter Try.func46, Try.ntmps46
  go_wp2
  go_loopw [4] (fun i wr => ∃ (k : Nat) (f : Nat → Value), k ≤ ks.length ∧ i = .int .i64 k ∧ wr.rowIs w.heap.size 4 ks.length f ∧ (∀ j, j < k → f j = .bool ks[j]!) ∧ Below w.heap.size w wr) (fun i _ => ks.length - (intOf i).toNat)
  case atStart => exact ⟨0, _, Nat.zero_le _, rfl, rowIs_made_any _ _ _ _, fun i hi => absurd hi (Nat.not_lt_zero _), (Below.refl _ _).alloc (Nat.le_refl _) _⟩
  case round =>
    obtain ⟨k, f, hk, rfl, hrow, hin, hb⟩ := hrel
    by_cases hlt : k < ks.length
    · obtain ⟨b, off, rfl, hc⟩ := (ha.grow hb) k hlt
      obtain ⟨x, hx⟩ := hid_ex ks[k]!
      rw [← hx.out] at hc
      have d0 := hrow.cell hlt
      have f0 := hrow.frozen
      go_wp2
      go_roundw
      case rel =>
        refine ⟨k + 1, _, by omega, by go_num, hrow.set _ _, fun j hj => ?_, hb.setCell (Nat.le_refl _) _⟩
        show (if j = k then _ else _) = _
        split
        · rename_i e; rw [e, hx.out]
        · exact hin j (by omega)
      case measure => simp [intOf]; omega
    · go_wp2
      go_ret
      have e : k = ks.length := by omega
      subst e
      exact ⟨_, rfl, Nat.le_refl _, ⟨f, hrow, hin⟩, hb⟩

set_option maxRecDepth 100000 in
theorem eqBoolS_same (a a' : Option Addr) (ks : List Bool) (cap cap' : Nat) (w : World) (hl : ks.length ≤ maxLen) (ha : BoolsAt w a ks) (ha' : BoolsAt w a' ks) :
    Calls Try.prog 48 #[.slice a ks.length cap, .slice a' ks.length cap'] w fun e w' => e = .returned (.bool true) ∧ Below w.heap.size w w' := by
  unfold maxLen at hl
  have hne : ((ks.length : Int) != (ks.length : Int)) = false := by simp
  go_enter Try.func48, Try.ntmps48
  go_wp2
  go_loopw [5] (fun i wr => ∃ (k : Nat), k ≤ ks.length ∧ i = .int .i64 k ∧ Below w.heap.size w wr) (fun i _ => ks.length - (intOf i).toNat)
  case atStart => exact ⟨0, Nat.zero_le _, rfl, gre _⟩
  case round =>
    obtain ⟨k, hk, rfl, hb⟩ := hrel
    by_cases hlt : k < ks.length
    · obtain ⟨b, off, rfl, hc⟩ := (ha.grow hb) k hlt
      obtain ⟨b', off', rfl, hc'⟩ := (ha'.grow hb) k hlt
      obtain ⟨x, hx⟩ := hid_ex ks[k]!
      rw [← hx.out] at hc hc'
      cases x
      all_goals
        go_wp2_with (go_quiet (fail))
        go_roundw
        case rel => exact ⟨k + 1, by omega, by go_num, hb.trans ⟨rfl, rfl, rfl, Nat.le_refl _, fun _ _ => rfl⟩⟩
        case measure => simp [intOf]; omega
    · go_wp2
      go_ret
      exact ⟨rfl, hb⟩

set_option maxRecDepth 100000 in
theorem markBoolS_any (G n cap k : Nat) (ks : List Bool) (w : World) (hn : Hid (ks.length = n)) (hl : n ≤ 1048576) (hk : k ≤ 1099511627776) (hM : KRow w G ks) :
    Calls Try.prog 49 #[.slice (some ⟨G, 0, none⟩) n cap, .int .i64 k] w fun e w' => e = .returned (.int .i64 ((k + n : Nat) : Int)) ∧ Kept (fun b => b = G) w w' := by
  obtain ⟨f0, hr0, _⟩ := hM
  rw [hn.out] at hr0
  go_enter Try.func49, Try.ntmps49
  go_wp2
  go_loopw [1, 5] (fun c i wr => ∃ (m : Nat) (f : Nat → Value), m ≤ n ∧ c = .int .i64 ((k + m : Nat) : Int) ∧ i = .int .i64 m ∧ wr.rowIs G 4 n f ∧ Kept (fun b => b = G) w wr) (fun _ i _ => n - (intOf i).toNat)
  case atStart => exact ⟨0, f0, Nat.zero_le _, rfl, rfl, hr0, Kept.refl _ _⟩
  case round =>
    obtain ⟨m, f, hm, rfl, rfl, hrow, hK⟩ := hrel
    obtain ⟨q, hq⟩ := hid_ex (k + m)
    rw [← hq.out]
    have hq1 : q ≤ 2199023255552 := by rw [hq.out]; omega
    by_cases hlt : m < n
    · have d0 := hrow.cell (i := m) (by omega)
      have fz := hrow.frozen
      go_wp2
      go_roundw
      case rel =>
        refine ⟨m + 1, _, by omega, ?_, by go_num, hrow.set _ _, hK.set (fun _ => rfl) _⟩
        have : q + 1 = k + (m + 1) := by rw [hq.out]; omega
        rw [← this]; go_num
      case measure => simp [intOf]; omega
    · obtain rfl : m = n := by omega
      go_wp2
      go_ret
      exact ⟨by rw [← hq.out]; rfl, hK⟩

end Go.Proofs.Ythjddpkegooobab
