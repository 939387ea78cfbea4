/-
  IBLANK: the program's Blank. Own work.
-/
import Derived.Test.YthjddpkegooobabDrvF
namespace Go.Proofs.Ythjddpkegooobab
open Go.RowKit

/-- a disk that is handed back: in memory of its own -/
def DPost (d : DD) (w : World) (e : Ending) (w' : World) : Prop := ∃ l fa ga fc gc, e = .returned (d.val l) ∧ MD w' w.heap.size w'.heap.size l d fa ga fc gc ∧ Below w.heap.size w w'

theorem MD.last {w w' : World} {lo hi R : Nat} {l : DL} {d : DD} {fa ga : Nat → Option Addr} {fc gc : Nat → Nat} (h : MD w lo hi l d fa ga fc gc) (K : Kept (fun b => b = R) w w') (hR : R < lo) {lo' : Nat} (h1 : lo' ≤ lo) (h2 : hi ≤ w'.heap.size) : MD w' lo' w'.heap.size l d fa ga fc gc :=
  (h.out K (fun b hb _ e => by omega)).mono h1 h2

/-- a struct of two cells, written whole -/
theorem ret2 {w : World} {R : Nat} {A B va vb : Value} (z0 : w.cell? ⟨R, 0, none⟩ = some va) (z1 : w.cell? ⟨R, 1, none⟩ = some vb) :
    (w.setCell ⟨R, 0, none⟩ A).cell? ⟨R, 0, none⟩ = some A ∧ ((w.setCell ⟨R, 0, none⟩ A).setCell ⟨R, 1, none⟩ B).cell? ⟨R, 1, none⟩ = some B ∧ Kept (fun b => b = R) w ((w.setCell ⟨R, 0, none⟩ A).setCell ⟨R, 1, none⟩ B) :=
  ⟨World.cell?_setCell_same _ _ _ z0, World.cell?_setCell_same _ _ _ ((World.cell?_setCell_other _ _ _ _ (by simp)).trans z1), ((Kept.refl (fun b => b = R) w).set (a := ⟨R, 0, none⟩) (fun _ => rfl) A).set (a := ⟨R, 1, none⟩) (fun _ => rfl) B⟩

end Go.Proofs.Ythjddpkegooobab
