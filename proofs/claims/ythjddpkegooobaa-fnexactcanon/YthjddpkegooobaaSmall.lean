/-
  SMALL: what a graph's size says of its parts. Own work.
-/
import Derived.Test.YthjddpkegooobaaPlain
namespace Go.Proofs.Ythjddpkegooobaa

/-- what a size at most so great says of the parts -/
theorem GG.small {g : GG} (h : g.sz ≤ 1048576) : g.nodes.length ≤ 1048576 ∧ ∀ n, n ∈ g.nodes → n.vals.length ≤ 1048576 := by
  have h0 := g.root.sz_nonneg
  have h1 := szNodes_nonneg g.nodes
  unfold GG.sz at h
  refine ⟨by omega, fun n hn => ?_⟩
  have h2 : n.sz ≤ szNodes g.nodes := by
    clear h h0 h1
    generalize g.nodes = l at hn ⊢
    induction l with
    | nil => cases hn
    | cons x r ih =>
      simp only [szNodes]
      have := x.sz_nonneg
      have := szNodes_nonneg r
      cases List.mem_cons.1 hn with
      | inl e => subst e; omega
      | inr e => have := ih e; omega
  have h3 := szVals_nonneg n.vals
  unfold GN.sz at h2
  omega

end Go.Proofs.Ythjddpkegooobaa
