/-
  SUM: sums of bytes. Own work.
-/
import Derived.Test.YthjddpkegooobaaBRow
import Derived.Test.YthjddpkegooobaaImgPlain
import Derived.Laws.BitsAllLaws
namespace Go.Proofs.Ythjddpkegooobaa
open Go.RowKit

set_option maxRecDepth 100000 in
theorem sum_bits (h x : Nat) (hh : h < 18446744073709551616) (hx : x < 256) : IntKind.u64.wrap (bits .xor .u64 (h : Int) (x : Int) * 1099511628211) = (sumStep h x : Int) := by
  rw [u64_xor_nat h x hh (by omega), IntKind.wrap_u64]
  unfold sumStep
  omega

set_option maxRecDepth 100000 in
theorem implSumOf_any (a : Option Addr) (bs : List Nat) (cap : Nat) (w : World) (ha : BytesAt w a bs) (hl : bs.length ≤ maxLen) (hx : ∀ x, x ∈ bs → x < 256) :
    Calls Try.prog 50 #[.slice a bs.length cap] w fun e w' => e = .returned (.int .i64 (wrap64 (sumN bs : Int))) ∧ Below w.heap.size w w' := by
  unfold maxLen at hl
  go_enter Try.func50, Try.ntmps50
  go_wp2
  go_loopw [3, 8] (fun s i ws => ∃ (k h : Nat), i = .int .i64 k ∧ s = .int .u64 h ∧ k ≤ bs.length ∧ Hid (h = sumN (bs.take k)) ∧ Below w.heap.size w ws) (fun _ i _ => bs.length - (intOf i).toNat)
  case atStart => exact ⟨0, _, rfl, rfl, Nat.zero_le _, rfl, gre _⟩
  case round =>
    obtain ⟨k, h, rfl, rfl, hk, hh, hb⟩ := hrel
    by_cases hlt : k < bs.length
    · obtain ⟨x, b, off, hxk, hxm, rfl, hc⟩ := (ha.grow hb).get hlt
      have e0 : IntKind.u64.wrap (x : Int) = (x : Int) := by have := hx x hxm; rw [IntKind.wrap_u64]; omega
      have e1 := sum_bits h x (by rw [hh.out]; exact sumN_lt _) (hx x hxm)
      have e2 : Hid (sumStep h x = sumN (bs.take (k + 1))) := by show _ = _; rw [sumN_take_succ _ _ hlt, ← hxk.out, ← hh.out]
      go_wp2
      go_roundw
      case rel => exact ⟨k + 1, sumStep h x, by go_num, rfl, by omega, e2, hb⟩
      case measure => simp [intOf]; omega
    · obtain rfl : k = bs.length := by omega
      have e1 : Hid (sumN bs = h) := by show _ = _; rw [hh.out, List.take_length]
      go_wp2
      go_ret
      exact ⟨by rw [e1.out]; rfl, hb⟩

set_option maxRecDepth 100000 in
theorem l2sum_any (a : Option Addr) (bs : List Nat) (cap : Nat) (w : World) (ha : BytesAt w a bs) (hl : bs.length ≤ maxLen) (hx : ∀ x, x ∈ bs → x < 256) :
    Calls Try.prog 108 #[.slice a bs.length cap] w fun e w' => e = .returned (.int .u64 (sumN bs : Int)) ∧ Below w.heap.size w w' := by
  unfold maxLen at hl
  go_enter Try.func108, Try.ntmps108
  go_wp2
  go_loopw [3, 8] (fun s i ws => ∃ (k h : Nat), i = .int .i64 k ∧ s = .int .u64 h ∧ k ≤ bs.length ∧ Hid (h = sumN (bs.take k)) ∧ Below w.heap.size w ws) (fun _ i _ => bs.length - (intOf i).toNat)
  case atStart => exact ⟨0, _, rfl, rfl, Nat.zero_le _, rfl, gre _⟩
  case round =>
    obtain ⟨k, h, rfl, rfl, hk, hh, hb⟩ := hrel
    by_cases hlt : k < bs.length
    · obtain ⟨x, b, off, hxk, hxm, rfl, hc⟩ := (ha.grow hb).get hlt
      have e0 : IntKind.u64.wrap (x : Int) = (x : Int) := by have := hx x hxm; rw [IntKind.wrap_u64]; omega
      have e1 := sum_bits h x (by rw [hh.out]; exact sumN_lt _) (hx x hxm)
      have e2 : Hid (sumStep h x = sumN (bs.take (k + 1))) := by show _ = _; rw [sumN_take_succ _ _ hlt, ← hxk.out, ← hh.out]
      go_wp2
      go_roundw
      case rel => exact ⟨k + 1, sumStep h x, by go_num, rfl, by omega, e2, hb⟩
      case measure => simp [intOf]; omega
    · obtain rfl : k = bs.length := by omega
      have e1 : Hid (sumN bs = h) := by show _ = _; rw [hh.out, List.take_length]
      go_wp2
      go_ret
      exact ⟨by rw [e1.out]; rfl, hb⟩

end Go.Proofs.Ythjddpkegooobaa
