/-
  LATERA: what stays, later. Own work.
-/
import Derived.Test.YthjddpkegooobaaCanonI
import Derived.Test.YthjddpkegooobaaCanonOk
import Derived.Test.YthjddpkegooobaaMEnd
namespace Go.Proofs.Ythjddpkegooobaa
open Go.RowKit

theorem OwnG.later {w w' : World} {base : Nat} {na : Option Addr} {nc : Nat} {nl : List NL} (h : OwnG w base na nc nl) (hb : Below w.heap.size w w') : OwnG w' base na nc nl := h.kept (Kept.of_below hb (fun _ => False)) (fun _ _ e => e) (fun _ _ _ _ e => e)
theorem canonZ_ok {g : GG} (hg : g.Ok) : (canonZ g).Ok := by
  unfold canonZ
  split
  · exact canon_ok hg (by assumption)
  · exact ⟨⟨by unfold I64; simp, by unfold I64; simp, by show 0 ≤ maxLen; exact Nat.zero_le _, by unfold I64; simp⟩, by show 0 ≤ maxLen; exact Nat.zero_le _, fun n hn => by cases hn⟩
theorem OwnG.touch {w : World} {base : Nat} {na : Option Addr} {nc : Nat} {nl : List NL} (h : OwnG w base na nc nl) {b : Nat} (hb : Touch na nl.length (fun i => nl[i]!.a) b) : base ≤ b ∧ b < w.heap.size := by
  rcases hb with e | ⟨i, hi, e⟩
  · exact h.nodes.lt b (by rw [e]; rfl)
  · exact (h.vals _ (mem_at hi)).lt b (by simp only at e; rw [e]; rfl)

end Go.Proofs.Ythjddpkegooobaa
