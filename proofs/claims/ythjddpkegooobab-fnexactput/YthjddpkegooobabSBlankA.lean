/-
  SBLANK: the specification's Blank. Own work.
-/
import Derived.Test.YthjddpkegooobabSBlk
import Derived.Test.YthjddpkegooobabIBlankA
namespace Go.Proofs.Ythjddpkegooobab
open Go.RowKit

/-- a disk that the specification hands back -/
def SBPost (d : DD) (w : World) (e : Ending) (w' : World) : Prop := ∃ l, e = .returned (d.val l) ∧ DAt w' l d ∧ Below w.heap.size w w'

/-- the same in memory of its own -/
def BOwn (w : World) (e : Ending) (w' : World) : Prop := ∃ (lb : List LB) (ba : Option Addr) (bc : Nat), e = .returned (blankD.val ⟨ba, bc, none, 0⟩) ∧ lb.map (·.l) = blankD.blocks ∧ SB w.heap.size w' ba bc lb ∧ Below w.heap.size w w'

def BInv (w wr : World) (R V k : Nat) : Prop := ∃ (lb : List LB) (ba : Option Addr) (bc : Nat), Hid (lb.length = k) ∧ Hid (lb.map (·.l) = List.replicate k (List.replicate 64 0)) ∧ SB (V + 1) wr ba bc lb ∧ VB wr V (.slice ba lb.length bc) (.slice none 0 0) ∧ VB wr R (.slice none 0 0) (.slice none 0 0) ∧ Below w.heap.size w wr

theorem owns_made {w : World} {base n : Nat} (hb : base ≤ w.heap.size) (hn : n ≤ maxLen) : (w.alloc (.cells (madeCells #[.int .u8 0] n) 5)).ownsRow base 5 1 (.slice (some ⟨w.heap.size, 0, none⟩) n n) n (bcells (List.replicate n 0)) := by
  refine ⟨by simp [bcells], Or.inr ⟨w.heap.size, n, _, rfl, hb, blk_new_at _ _ _ rfl, Nat.le_refl _, hn, by rw [size_madeCells]; omega, ?_⟩⟩
  apply List.ext_getElem?
  intro i
  by_cases hi : i < n
  · rw [List.getElem?_take_of_lt (by omega), Array.getElem?_toList]
    simp [madeCells, bcells, hi, Nat.mod_one]
  · rw [List.getElem?_eq_none (by simp; omega), List.getElem?_eq_none (by simp [bcells]; omega)]

theorem SB.leB {base base' : Nat} {w : World} {ba : Option Addr} {bc : Nat} {lb : List LB} (h : SB base w ba bc lb) (hb : base' ≤ base) : SB base' w ba bc lb := ⟨owns_le h.own hb, fun y hy => owns_le (h.byt y hy) hb⟩

end Go.Proofs.Ythjddpkegooobab
