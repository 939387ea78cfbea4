/-
  REGIONV: the end of a region that draws its order. Own work.
-/
import Derived.Test.YthjddpkegooobaaRegionU
namespace Go.Proofs.Ythjddpkegooobaa
open Go.RowKit

/-- none may come up any more -/
theorem anyU_done {P : Program} {ops : Array Oper} {Q : Exit → Act → World → Prop} {md : Region.Mode} {S : World → Prop} {lst : Nat} {fuel : Nat} {listed : Array Bool} {a : Act} {w : World} (hd : Region.ready md ops listed = []) (hQ : Q .normal a w) : anyU P md ops Q S lst fuel listed a w := by
  cases fuel with
  | zero => exact ⟨hd, hQ⟩
  | succ f => exact ⟨fun _ => hQ, fun i hi => by rw [hd] at hi; cases hi⟩

end Go.Proofs.Ythjddpkegooobaa
