/-
  PLAIN: graphs as lists and numbers. Own work.
-/
import Derived.Test.YthjddpkegooobaaRows
namespace Go.Proofs.Ythjddpkegooobaa

structure GV where
  kind : Int
  num : Int
  text : ByteArray
  node : Int
  deriving Inhabited

structure GN where
  tag : Int
  vals : List GV
  deriving Inhabited

structure GG where
  root : GV
  nodes : List GN

/-- what fits an int64 -/
def I64 (n : Int) : Prop := -9223372036854775808 ≤ n ∧ n ≤ 9223372036854775807

structure GV.Ok (v : GV) : Prop where
  kind : I64 v.kind
  num : I64 v.num
  text : v.text.size ≤ maxLen
  node : I64 v.node

structure GN.Ok (n : GN) : Prop where
  tag : I64 n.tag
  len : n.vals.length ≤ maxLen
  vals : ∀ v, v ∈ n.vals → v.Ok

structure GG.Ok (g : GG) : Prop where
  root : g.root.Ok
  len : g.nodes.length ≤ maxLen
  nodes : ∀ n, n ∈ g.nodes → n.Ok

def GV.sz (v : GV) : Int := v.text.size
def szVals : List GV → Int
  | [] => 0
  | v :: r => v.sz + szVals r
def GN.sz (n : GN) : Int := n.vals.length + szVals n.vals
def szNodes : List GN → Int
  | [] => 0
  | n :: r => n.sz + szNodes r
def GG.sz (g : GG) : Int := g.root.sz + g.nodes.length + szNodes g.nodes

theorem GV.sz_nonneg (v : GV) : 0 ≤ v.sz := Int.natCast_nonneg _
theorem szVals_nonneg (l : List GV) : 0 ≤ szVals l := by
  induction l with
  | nil => simp [szVals]
  | cons v r ih => have := v.sz_nonneg; simp only [szVals]; omega
theorem GN.sz_nonneg (n : GN) : 0 ≤ n.sz := by have := szVals_nonneg n.vals; unfold GN.sz; omega
theorem szNodes_nonneg (l : List GN) : 0 ≤ szNodes l := by
  induction l with
  | nil => simp [szNodes]
  | cons v r ih => have := v.sz_nonneg; simp only [szNodes]; omega

theorem szVals_append (a b : List GV) : szVals (a ++ b) = szVals a + szVals b := by
  induction a with
  | nil => simp [szVals]
  | cons v r ih => simp only [List.cons_append, szVals, ih]; omega
theorem szNodes_append (a b : List GN) : szNodes (a ++ b) = szNodes a + szNodes b := by
  induction a with
  | nil => simp [szNodes]
  | cons v r ih => simp only [List.cons_append, szNodes, ih]; omega

theorem take_snoc {α : Type} [Inhabited α] (l : List α) (k : Nat) (h : k < l.length) : l.take (k + 1) = l.take k ++ [l[k]!] := by
  rw [List.take_succ_eq_append_getElem h, getElem!_pos l k h]

theorem szVals_take_succ (l : List GV) (k : Nat) (h : k < l.length) : szVals (l.take (k + 1)) = szVals (l.take k) + l[k]!.sz := by
  rw [take_snoc l k h, szVals_append]; simp [szVals]
theorem szNodes_take_succ (l : List GN) (k : Nat) (h : k < l.length) : szNodes (l.take (k + 1)) = szNodes (l.take k) + l[k]!.sz := by
  rw [take_snoc l k h, szNodes_append]; simp [szNodes]
theorem szVals_take_le (l : List GV) (k : Nat) : szVals (l.take k) ≤ szVals l := by
  have h : szVals l = szVals (l.take k) + szVals (l.drop k) := by rw [← szVals_append, List.take_append_drop]
  have := szVals_nonneg (l.drop k); omega
theorem szNodes_take_le (l : List GN) (k : Nat) : szNodes (l.take k) ≤ szNodes l := by
  have h : szNodes l = szNodes (l.take k) + szNodes (l.drop k) := by rw [← szNodes_append, List.take_append_drop]
  have := szNodes_nonneg (l.drop k); omega

/-- what is left behind so much -/
def leftBy (left s : Int) : Int := if left - s < 0 then -1 else left - s

theorem mem_at {α : Type} [Inhabited α] {l : List α} {k : Nat} (h : k < l.length) : l[k]! ∈ l := by
  rw [getElem!_pos l k h]; exact List.getElem_mem h

end Go.Proofs.Ythjddpkegooobaa
