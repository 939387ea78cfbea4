/-
  TO: the laws' copies. Own work.
-/
import Derived.Test.YthjddpkegooobaaBRow
import Derived.Deep.OwnRows
namespace Go.Proofs.Ythjddpkegooobaa
open Go.RowKit

set_option maxRecDepth 100000 in
theorem info_implVal : (Try.prog.info? 24).map (fun i => (i.zero, i.size, i.bytes)) = some (some (.agg #[.int .i64 0, .int .i64 0, .string .empty, .int .i64 0]), 4, 40) := by kernel_rfl

/-- the first k values are laid -/
def ValsIn (f : Nat → Value) (vs : List GV) (k : Nat) : Prop :=
  ∀ i, i < k → f (i * 4) = .int .i64 vs[i]!.kind ∧ f (i * 4 + 1) = .int .i64 vs[i]!.num ∧ f (i * 4 + 2) = .string vs[i]!.text ∧ f (i * 4 + 3) = .int .i64 vs[i]!.node

set_option maxRecDepth 100000 in
theorem ValsIn.at_ {w : World} {b t n : Nat} {f : Nat → Value} {vs : List GV} (h : ValsIn f vs vs.length) (hr : w.rowIs b t n f) (hn : n = vs.length * 4) {B : Nat} (hB : b < B) : ValsAt B w (some ⟨b, 0, none⟩) vs := fun i hi => by
  obtain ⟨h0, h1, h2, h3⟩ := h i hi
  refine ⟨b, 0, rfl, hB, ?_, ?_, ?_, ?_⟩
  · rw [← h0, Nat.zero_add]; exact hr.cell (by omega)
  · rw [← h1, Nat.zero_add]; exact hr.cell (by omega)
  · rw [← h2, Nat.zero_add]; exact hr.cell (by omega)
  · rw [← h3, Nat.zero_add]; exact hr.cell (by omega)

set_option maxRecDepth 100000 in
theorem ValsIn.step {f : Nat → Value} {vs : List GV} {k : Nat} {v : GV} (h : ValsIn f vs k) (hv : Hid (v = vs[k]!)) :
    ValsIn (fun j => if j = k * 4 + 3 then .int .i64 v.node else if j = k * 4 + 2 then .string v.text else if j = k * 4 + 1 then .int .i64 v.num else if j = k * 4 then .int .i64 v.kind else f j) vs (k + 1) := fun i hi => by
  have e := hv.out
  by_cases hk : i = k
  · subst hk; subst e; simp
  · obtain ⟨h0, h1, h2, h3⟩ := h i (by omega)
    refine ⟨?_, ?_, ?_, ?_⟩ <;> dsimp only
    · rw [if_neg (by omega), if_neg (by omega), if_neg (by omega), if_neg (by omega)]; exact h0
    · rw [if_neg (by omega), if_neg (by omega), if_neg (by omega), if_neg (by omega)]; exact h1
    · rw [if_neg (by omega), if_neg (by omega), if_neg (by omega), if_neg (by omega)]; exact h2
    · rw [if_neg (by omega), if_neg (by omega), if_neg (by omega), if_neg (by omega)]; exact h3

/-- values that lie in a row of their own -/
def OwnVals (w : World) (b : Nat) (vs : List GV) : Prop := ∃ f, w.rowIs b 24 (vs.length * 4) f ∧ ValsIn f vs vs.length

set_option maxRecDepth 100000 in
theorem OwnVals.lt {w : World} {b : Nat} {vs : List GV} (h : OwnVals w b vs) : b < w.heap.size := by obtain ⟨f, hr, _⟩ := h; exact hr.lt
theorem OwnVals.at_ {w : World} {b : Nat} {vs : List GV} (h : OwnVals w b vs) {B : Nat} (hB : b < B) : ValsAt B w (some ⟨b, 0, none⟩) vs := by
  obtain ⟨f, hr, hi⟩ := h
  exact hi.at_ hr rfl hB
set_option maxRecDepth 100000 in
theorem OwnVals.of_block {w w' : World} {b : Nat} {vs : List GV} (h : OwnVals w b vs) (e : w'.heap[b]? = w.heap[b]?) : OwnVals w' b vs := by
  obtain ⟨f, hr, hi⟩ := h
  exact ⟨f, hr.of_block e, hi⟩

set_option maxRecDepth 100000 in
theorem OwnVals.set {w : World} {b : Nat} {vs : List GV} (h : OwnVals w b vs) {p : Addr} (hp : b ≠ p.block) (u : Value) : OwnVals (w.setCell p u) b vs := h.of_block (Deep.blk_setCell_other _ _ _ _ hp)

abbrev nodeVal (n : GN) (a : Option Addr) (cap : Nat) : Value := .agg #[.int .i64 n.tag, .slice a n.vals.length cap]

/-- nodes that lie in a row of their own, their values in rows behind it -/
def NodesIn (w : World) (N : Nat) (f : Nat → Value) (bs : Nat → Nat) (ns : List GN) (k : Nat) : Prop :=
  ∀ i, i < k → f (i * 2) = .int .i64 ns[i]!.tag ∧ f (i * 2 + 1) = .slice (some ⟨bs i, 0, none⟩) ns[i]!.vals.length ns[i]!.vals.length ∧ OwnVals w (bs i) ns[i]!.vals ∧ N < bs i ∧ ∀ j, j < i → bs j < bs i

def OwnNodes (w : World) (N : Nat) (bs : Nat → Nat) (ns : List GN) : Prop := ∃ f, w.rowIs N 84 (ns.length * 2) f ∧ NodesIn w N f bs ns ns.length

set_option maxRecDepth 100000 in
theorem OwnNodes.at_ {w : World} {N : Nat} {bs : Nat → Nat} {ns : List GN} (h : OwnNodes w N bs ns) : NodesAt w.heap.size w (some ⟨N, 0, none⟩) ns := fun i hi => by
  obtain ⟨f, hr, hn⟩ := h
  obtain ⟨h0, h1, h2, h3, _⟩ := hn i hi
  refine ⟨N, 0, some ⟨bs i, 0, none⟩, ns[i]!.vals.length, rfl, hr.lt, ?_, ?_, h2.at_ h2.lt⟩
  · rw [← h0, Nat.zero_add]; exact hr.cell (by omega)
  · rw [← h1, Nat.zero_add]; exact hr.cell (by omega)

set_option maxRecDepth 100000 in
theorem OwnNodes.below {w w' : World} {N : Nat} {bs : Nat → Nat} {ns : List GN} (h : OwnNodes w N bs ns) (hb : Below w.heap.size w w') : OwnNodes w' N bs ns := by
  obtain ⟨f, hr, hn⟩ := h
  refine ⟨f, hr.of_block (hb.block _ hr.lt), fun i hi => ?_⟩
  obtain ⟨h0, h1, h2, h3, h4⟩ := hn i hi
  exact ⟨h0, h1, h2.of_block (hb.block _ h2.lt), h3, h4⟩

set_option maxRecDepth 100000 in
theorem OwnNodes.set {w : World} {N : Nat} {bs : Nat → Nat} {ns : List GN} (h : OwnNodes w N bs ns) {p : Addr} (hp : p.block < N) (u : Value) : OwnNodes (w.setCell p u) N bs ns := by
  obtain ⟨f, hr, hn⟩ := h
  refine ⟨f, hr.setOther (by omega) u, fun i hi => ?_⟩
  obtain ⟨h0, h1, h2, h3, h4⟩ := hn i hi
  exact ⟨h0, h1, h2.set (by omega) u, h3, h4⟩

set_option maxRecDepth 100000 in
theorem NodesIn.step {w w' : World} {N : Nat} {f : Nat → Value} {bs : Nat → Nat} {ns : List GN} {k b : Nat} {n : GN} (h : NodesIn w N f bs ns k) (hv : Hid (n = ns[k]!)) (hb : Below w.heap.size w w') (hN : N < w.heap.size)
    (hbb : w.heap.size ≤ b) (hown : OwnVals w' b n.vals) (u u' : Value) (o o' : Nat) :
    NodesIn ((w'.setCell ⟨N, o, none⟩ u).setCell ⟨N, o', none⟩ u') N
      (fun j => if j = k * 2 + 1 then .slice (some ⟨b, 0, none⟩) n.vals.length n.vals.length else if j = k * 2 then .int .i64 n.tag else f j) (fun i => if i = k then b else bs i) ns (k + 1) := fun i hi => by
  have e := hv.out
  by_cases hk : i = k
  · subst hk; subst e
    refine ⟨by simp, by simp, ?_, by simp; omega, fun j hj => ?_⟩
    · simp only [if_pos]
      exact (hown.set (by simp; omega) _).set (by simp; omega) _
    · simp only [if_pos, if_neg (show j ≠ i by omega)]
      have := (h j hj).2.2.1.lt
      omega
  · obtain ⟨h0, h1, h2, h3, h4⟩ := h i (by omega)
    refine ⟨?_, ?_, ?_, ?_, fun j hj => ?_⟩ <;> simp only [if_neg hk]
    · rw [if_neg (by omega), if_neg (by omega)]; exact h0
    · rw [if_neg (by omega), if_neg (by omega)]; exact h1
    · exact ((h2.of_block (hb.block _ h2.lt)).set (by simp; omega) _).set (by simp; omega) _
    · exact h3
    · rw [if_neg (show j ≠ k by omega)]; exact h4 j hj

set_option maxRecDepth 100000 in
theorem info_implNode : (Try.prog.info? 84).map (fun i => (i.zero, i.size, i.bytes)) = some (some (.agg #[.int .i64 0, .slice none 0 0]), 2, 32) := by kernel_rfl

end Go.Proofs.Ythjddpkegooobaa
