/-
  MARKTEXT: the laws' text of a number. Own work.
-/
import Derived.Test.YthjddpkegooobaaMem
import Derived.Test.YthjddpkegooobaaRows2
import Derived.Laws.BytesArg
namespace Go.Proofs.Ythjddpkegooobaa
open Go.RowKit

/-- the digits that are still to come, ahead of those that are there -/
def mtLoop : Nat → Nat → ByteArray → ByteArray
  | 0, _, s => s
  | f + 1, j, s => if j = 0 then s else mtLoop f (j / 10) (strOfNums [48 + (j : Int) % 10] ++ s)
/-- the text of a number -/
def mt (k : Nat) : ByteArray := ⟨#[109]⟩ ++ mtLoop (k + 1) k ⟨#[]⟩

set_option maxRecDepth 100000 in
theorem mtLoop_zero (f : Nat) (s : ByteArray) : mtLoop f 0 s = s := by cases f <;> simp [mtLoop]
theorem mtLoop_step {f j : Nat} (s : ByteArray) (hj : j ≠ 0) (hf : j < f) : mtLoop f j s = mtLoop (f - 1) (j / 10) (strOfNums [48 + (j : Int) % 10] ++ s) := by
  cases f with
  | zero => omega
  | succ f => simp [mtLoop, hj]
set_option maxRecDepth 100000 in
theorem digit_size (x : Int) : (strOfNums [x]).size = 1 := rfl

set_option maxRecDepth 100000 in
theorem markText_any (k : Nat) (w : World) (h0 : 0 < k) (hk : k ≤ 1099511627776) :
    Calls Try.prog 157 #[.int .i64 k] w fun e w' => e = .returned (.string (mt k)) ∧ Below w.heap.size w w' := by
  have hd : ¬ ((k : Int) ≤ 0) := by omega
  go_enter Try.func157, Try.ntmps157
  go_wp2
  go_loopw [0, 3] (fun i o ws => ∃ (j f : Nat) (s : ByteArray), i = .int .i64 j ∧ o = .string s ∧ j < f ∧ Hid (mtLoop f j s = mtLoop (k + 1) k ⟨#[]⟩) ∧ s.size + j ≤ k ∧ Below w.heap.size w ws) (fun i _ _ => (intOf i).toNat)
  case atStart => exact ⟨k, k + 1, ⟨#[]⟩, rfl, rfl, by omega, rfl, by show 0 + k ≤ k; omega, gre _⟩
  case round =>
    obtain ⟨j, f, s, rfl, rfl, hf, hm, hsz, hb⟩ := hrel
    by_cases hj : j = 0
    · subst hj
      have hd2 : ¬ ((0 : Int) < ((0 : Nat) : Int)) := by omega
      have hc : ¬ (9223372036854775807 < 1 + s.size) := by omega
      have hm2 : Hid (mt k = ⟨#[109]⟩ ++ s) := by have h1 := hm.out; rw [mtLoop_zero] at h1; show mt k = _; unfold mt; rw [← h1]
      go_wp2
      go_ret
      exact ⟨by rw [hm2.out]; rfl, hb⟩
    · have hd2 : (0 : Int) < (j : Int) := by omega
      obtain ⟨d, hdd⟩ : ∃ d, Hid (d = strOfNums [48 + (j : Int) % 10]) := ⟨_, rfl⟩
      have hds : d.size = 1 := by rw [hdd.out]; rfl
      have hconv : (convert 22 9 (.slice (some ⟨wr.heap.size, 0, none⟩) 1 1)).run Try.prog (wr.alloc (.cells #[.int .u8 (48 + (j : Int) % 10)] 5)) = .ok (.string d) (wr.alloc (.cells #[.int .u8 (48 + (j : Int) % 10)] 5)) := by
        rw [hdd.out]
        exact run_convert_bytes_arg _ 22 5 Try.underlying22 Try.underlying5 wr.heap.size 0 1 1 [48 + (j : Int) % 10] rfl (fun i hi => by have e : i = 0 := (by omega); subst e; simp) 9 Try.underlying9
      have hc : ¬ (9223372036854775807 < d.size + s.size) := by omega
      have hnext : Hid (mtLoop (f - 1) (j / 10) (d ++ s) = mtLoop (k + 1) k ⟨#[]⟩) := by rw [hdd.out, ← mtLoop_step s hj hf]; exact hm.out
      have hsz2 : (d ++ s).size + j / 10 ≤ k := by rw [ByteArray.size_append]; omega
      go_wp2
      go_roundw
      case rel => exact ⟨j / 10, f - 1, d ++ s, by go_num, rfl, by omega, hnext, hsz2, gal hb _⟩
      case measure => simp [intOf]; omega

end Go.Proofs.Ythjddpkegooobaa
