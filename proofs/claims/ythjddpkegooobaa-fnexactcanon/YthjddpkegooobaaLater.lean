/-
  LATER: small facts for laws on graphs. Own work.
-/
import Derived.Test.YthjddpkegooobaaCanonI
import Derived.Test.YthjddpkegooobaaCanonOk
import Derived.Test.YthjddpkegooobaaMarkNodesA
import Derived.Test.YthjddpkegooobaaLaterA
import Derived.Test.YthjddpkegooobaaMEnd
namespace Go.Proofs.Ythjddpkegooobaa
open Go.RowKit

theorem OwnNodes.touch {w : World} {N : Nat} {bs : Nat → Nat} {ns : List GN} (h : OwnNodes w N bs ns) {b : Nat} (hb : Touch (some ⟨N, 0, none⟩) ns.length (fun i => some ⟨bs i, 0, none⟩) b) : N ≤ b ∧ b < w.heap.size := by
  obtain ⟨f, hr, hn⟩ := h
  rcases hb with e | ⟨i, hi, e⟩
  · have e2 := some_addr e
    subst e2
    exact ⟨Nat.le_refl _, hr.lt⟩
  · have e2 := some_addr e
    obtain ⟨_, _, h2, h3, _⟩ := hn i hi
    have := h2.lt
    subst e2
    exact ⟨by omega, this⟩

theorem canonZ_small (g : GG) : (canonZ g).nodes.length ≤ 300 ∧ mEnd 1 (canonZ g).nodes ≤ 1099511627776 := by
  unfold canonZ
  split
  · rename_i hok
    have h := canon_small hok
    have h2 := mEnd_small (canon g).nodes h.2 1
    exact ⟨h.1, by omega⟩
  · exact ⟨Nat.zero_le _, by simp [mEnd]⟩

end Go.Proofs.Ythjddpkegooobaa
