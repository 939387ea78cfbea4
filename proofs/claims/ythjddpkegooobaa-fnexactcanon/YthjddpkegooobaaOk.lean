/-
  OK: whether a graph is well made: the specification's word and the program's. Own work.
-/
import Derived.Test.YthjddpkegooobaaMem
import Derived.Deep.RegionHeld3
import Derived.Deep.QuietTactic
import Derived.BigQuiet
import Derived.WalkLawsBesides
namespace Go.Proofs.Ythjddpkegooobaa
open Go.RowKit

def okV (n : Nat) (v : GV) : Bool :=
  if v.kind = 0 then decide (v.num = 0 ∧ v.text.toList = [] ∧ v.node = 0)
  else if v.kind = 1 ∨ v.kind = 2 then decide (v.text.toList = [] ∧ v.node = 0)
  else if v.kind = 3 then decide (v.num = 0 ∧ v.node = 0 ∧ v.text.size ≤ 1000)
  else if v.kind = 4 then decide (v.num = 0 ∧ v.text.toList = [] ∧ 0 ≤ v.node ∧ v.node < n)
  else false

set_option maxRecDepth 100000 in
theorem specVal_any (a : Option Addr) (cap : Nat) (g : GG) (v : GV) (w : World) :
    Calls Try.prog 99 #[g.val a cap, v.val] w fun e w' => e = .returned (.bool (okV g.nodes.length v)) ∧ Below w.heap.size w w' := by
  go_enter Try.func99, Try.ntmps99
  go_wp2
  all_goals go_ret
  all_goals refine ⟨ret_bool ?_, gal (gal (gre _) _) _⟩
  all_goals simp_all [okV]
  all_goals first | omega | rfl | (rw [Bool.eq_iff_iff]; simp)

set_option maxRecDepth 100000 in
theorem implVal_any (n : Nat) (v : GV) (w : World) :
    Calls Try.prog 102 #[v.val, .int .i64 n] w fun e w' => e = .returned (.bool (okV n v)) ∧ Below w.heap.size w w' := by
  go_enter Try.func102, Try.ntmps102
  go_wp2
  all_goals go_ret
  all_goals refine ⟨ret_bool ?_, gal (gre _) _⟩
  all_goals simp_all [okV]
  all_goals omega

end Go.Proofs.Ythjddpkegooobaa
