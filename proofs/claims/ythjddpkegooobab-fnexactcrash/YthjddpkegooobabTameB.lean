/-
  LAW: FnExactSync, walked. Own work.
-/
import Derived.Test.YthjddpkegooobabDMark2
import Derived.Test.YthjddpkegooobabISyncA
import Derived.Test.YthjddpkegooobabTameA
import Derived.Test.YthjddpkegooobabDSz
import Derived.Test.YthjddpkegooobabRegionV
namespace Go.Proofs.Ythjddpkegooobab
open Go.RowKit

/-- disks that a law may hold against each other, and mark -/
structure DD.Tame (d : DD) : Prop where
  ok : d.Ok
  small : d.Small
  mend : d.mend 1 ≤ 1099511627776
theorem zero_tame : zeroD.Tame := ⟨⟨Nat.zero_le _, fun b hb => (by cases hb), Nat.zero_le _, fun x hx => (by cases hx), fun x hx => (by cases hx)⟩, ⟨Nat.zero_le _, fun b hb => (by cases hb), Nat.zero_le _, fun x hx => (by cases hx)⟩, by decide⟩
theorem DD.Fit.tame {d : DD} (h : d.Fit) (hok : d.Ok) : d.Tame := ⟨hok, h.small, h.mend⟩
theorem settle_tame {d : DD} (hd : d.Ok) (keep : Nat → Bool) : (d.settle keep).Tame := by
  cases hok : d.ok with
  | false => rw [settle_no hok]; exact zero_tame
  | true =>
    have hf := DD.fit hok
    rw [settle_yes hok]
    refine DD.Fit.tame ⟨by show (settleN _ _ _ _).length = 130; rw [settleN_length]; exact hf.bl, Nat.zero_le _, settleN_all hf.bb (fun x hx => (hf.wb x hx).2.2) _ (Nat.le_refl _), fun x hx => (by cases hx)⟩ ⟨by show (settleN _ _ _ _).length ≤ maxLen; rw [settleN_length]; exact hd.bl, settleN_all hd.bb hd.wb _ (Nat.le_refl _), Nat.zero_le _, fun x hx => (by cases hx), fun x hx => (by cases hx)⟩
theorem DD.small_mend {d : DD} (h : d.sz ≤ 1048576) : d.mend 1 ≤ 1099511627776 := by have := d.mend_sz 1; omega

end Go.Proofs.Ythjddpkegooobab
