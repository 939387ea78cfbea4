/-
  DMARKT: one list of bytes, changed. Own work.
-/
import Derived.Test.YthjddpkegooobabDMarkS
namespace Go.Proofs.Ythjddpkegooobab
open Go.RowKit

/-- one list of bytes, marked -/
theorem MBs.step {w w' : World} {lo hi : Nat} {a : Option Addr} {n : Nat} {F : Nat → List Nat} {fa : Nat → Option Addr} {fc : Nat → Nat} (h : MBs w lo hi a n F fa fc) {j : Nat} (hj : j < n) {ys : List Nat} (hy : ys.length = (F j).length) (hB : BB w' lo hi (fa j) ys) (hK : Kept (fun b => F j ≠ [] ∧ fa j = some ⟨b, 0, none⟩) w w') :
    MBs w' lo hi a n (fun i => if i = j then ys else F i) fa fc := by
  have hp : ∀ b, F j ≠ [] ∧ fa j = some ⟨b, 0, none⟩ → IsB w b := fun b hb => (h.tb ⟨j, hj, hb.1, hb.2⟩).2.2
  refine ⟨fun h0 => ?_, fun i hi => ?_, h.far⟩
  · obtain ⟨g, m, f, h1, h2, h3, h4, h5, h6⟩ := h.row h0
    refine ⟨g, m, f, h1, h2, h3, hK.rowIs h4 (fun hb => not_B_of_bs h4 (hp g hb)), h5, fun i hi => ?_⟩
    show f i = .slice (fa i) (if i = j then ys else F i).length (fc i)
    split
    · rename_i e; subst e; rw [hy]; exact h6 i hi
    · exact h6 i hi
  · show BB w' lo _ (fa i) (if i = j then ys else F i)
    split
    · rename_i e; subst e; exact hB
    · rename_i e
      exact (h.byt i hi).kept hK (fun b hb _ hq => h.ne hi hj e b hb hq.2)

end Go.Proofs.Ythjddpkegooobab
