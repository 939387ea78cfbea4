/-
  WR2: the program's writer: words, values. Own work.
-/
import Derived.Test.YthjddpkegooobabWr
namespace Go.Proofs.Ythjddpkegooobab
open Go.RowKit

set_option maxRecDepth 100000 in
theorem word_byte (n : Int) (k : Nat) (hk : k < 8) : n / 2 ^ (8 * k) % 256 = ((u64n n / 256 ^ k % 256 : Nat) : Int) := by
  unfold u64n
  have h : k = 0 ∨ k = 1 ∨ k = 2 ∨ k = 3 ∨ k = 4 ∨ k = 5 ∨ k = 6 ∨ k = 7 := by omega
  rcases h with rfl | rfl | rfl | rfl | rfl | rfl | rfl | rfl <;> simp only [Nat.reduceMul, Int.reducePow, Nat.reducePow] <;> omega

set_option maxRecDepth 100000 in
theorem writeWord_any (b a : Nat) (xs : List Nat) (n : Int) (w : World) (hW : Wr w b a xs) (_hn : I64 n) :
    Calls Try.prog 77 #[.pointer (some ⟨b, 0, none⟩), .int .i64 n] w (WPost b a xs (lowB 8 (u64n n)) w) := by
  go_enter Try.func77, Try.ntmps77
  go_wp2
  go_loopw [5] (fun i ws => ∃ (k : Nat), i = .int .i64 k ∧ k ≤ 8 ∧ Wr ws b a (xs ++ lowB k (u64n n)) ∧ Kept (fun k => k = b ∨ k = a) w ws) (fun i _ => 8 - (intOf i).toNat)
  case atStart => exact ⟨0, rfl, by omega, by rw [lowB, List.append_nil]; exact hW, Kept.refl _ _⟩
  case round =>
    obtain ⟨k, rfl, hk, hWm, hK⟩ := hrel
    by_cases hlt : k < 8
    · have hd : (k : Int) < 8 := by omega
      go_wp2_with (go_at_call 139; refine (writeByte_any b a _ (u64n n / 256 ^ k % 256) _ _ hWm (word_byte n k hlt)).mono ?_; rintro e w1 ⟨hK1, ⟨hf, rfl, hW1⟩ | ⟨hno, rfl⟩⟩)
      · go_roundw
        case rel => exact ⟨k + 1, by go_num, by omega, by rw [lowB_snoc, ← List.append_assoc]; exact hW1, hK.trans hK1 (fun _ _ h => h)⟩
        case measure => simp [intOf]; omega
      · refine ⟨rfl, hK.trans hK1 (fun _ _ h => h), Or.inr ⟨?_, rfl⟩⟩
        rw [lowB_length]; simp [lowB_length] at hno; omega
    · obtain rfl : k = 8 := by omega
      go_wp2
      go_end0
      refine ⟨hK, Or.inl ⟨?_, rfl, hWm⟩⟩
      have := hWm.le
      simpa [List.length_append] using this

set_option maxRecDepth 100000 in
theorem xor_ones (x : Nat) (h : x < 18446744073709551616) : x ^^^ 18446744073709551615 = 18446744073709551615 - x := by
  have h1 := congrArg BitVec.toNat (BitVec.xor_allOnes (x := BitVec.ofNat 64 x))
  rw [BitVec.toNat_xor, BitVec.toNat_not, BitVec.toNat_allOnes, BitVec.toNat_ofNat, Nat.mod_eq_of_lt h] at h1
  exact h1
set_option maxRecDepth 100000 in
theorem zig_bits (n : Int) (hn : I64 n) : bits .xor .u64 (IntKind.u64.wrap (IntKind.u64.wrap n * 2)) (IntKind.u64.wrap (n / 9223372036854775808)) = (zig n : Int) := by
  unfold I64 at hn
  rw [IntKind.wrap_u64, IntKind.wrap_u64, IntKind.wrap_u64]
  unfold zig
  split
  · have e1 : n / 9223372036854775808 % 18446744073709551616 = 18446744073709551615 := by omega
    rw [e1, u64_xor _ _ (by omega) (by omega) (by omega) (by omega)]
    have e2 : (18446744073709551615 : Int).toNat = 18446744073709551615 := rfl
    rw [e2, xor_ones _ (by omega)]
    omega
  · have e1 : n / 9223372036854775808 % 18446744073709551616 = 0 := by omega
    rw [e1, u64_xor _ _ (by omega) (by omega) (by omega) (by omega)]
    have e2 : (0 : Int).toNat = 0 := rfl
    rw [e2, Nat.xor_zero]
    omega

set_option maxRecDepth 100000 in
theorem unsigned_any (n : Int) (w : World) (hn : I64 n) :
    Calls Try.prog 167 #[.int .i64 n] w fun e w' => e = .returned (.int .u64 (zig n : Int)) ∧ Below w.heap.size w w' := by
  have hz := zig_bits n hn
  go_enter Try.func167, Try.ntmps167
  go_wp2
  go_ret
  exact ⟨rfl, gre _⟩

end Go.Proofs.Ythjddpkegooobab
