/-
  MEND: the mark behind nodes, plain. Own work.
-/
import Derived.Test.YthjddpkegooobaaPlain
import Derived.Test.YthjddpkegooobaaMem
namespace Go.Proofs.Ythjddpkegooobaa
open Go.RowKit

/-- the mark behind all of these nodes -/
def mEnd (k : Nat) : List GN → Nat
  | [] => k
  | n :: r => mEnd (k + 1 + 4 * n.vals.length) r
theorem mEnd_small (l : List GN) (h : ∀ n, n ∈ l → n.vals.length ≤ 100) : ∀ k, mEnd k l ≤ k + 401 * l.length := by
  induction l with
  | nil => intro k; simp [mEnd]
  | cons x r ih =>
    intro k
    have h1 := ih (fun n hn => h n (List.mem_cons_of_mem _ hn)) (k + 1 + 4 * x.vals.length)
    have h2 := h x (List.mem_cons_self ..)
    simp only [mEnd, List.length_cons]
    omega
/-- the blocks that a graph's marks touch -/
def Touch (na : Option Addr) (n : Nat) (va : Nat → Option Addr) (b : Nat) : Prop := na = some ⟨b, 0, none⟩ ∨ ∃ i, i < n ∧ va i = some ⟨b, 0, none⟩

end Go.Proofs.Ythjddpkegooobaa
