/-
  MEM: how graphs lie in memory. Own work.
-/
import Derived.Test.YthjddpkegooobaaPlain
import Derived.WalkKit
import Derived.WalkSpells
namespace Go.Proofs.Ythjddpkegooobaa
open Go.RowKit

/-- a value of four cells at a place -/
structure ValAt (w : World) (b off : Nat) (v : GV) : Prop where
  kind : w.cell? ⟨b, off, none⟩ = some (.int .i64 v.kind)
  num : w.cell? ⟨b, off + 1, none⟩ = some (.int .i64 v.num)
  text : w.cell? ⟨b, off + 2, none⟩ = some (.string v.text)
  node : w.cell? ⟨b, off + 3, none⟩ = some (.int .i64 v.node)

abbrev GV.val (v : GV) : Value := .agg #[.int .i64 v.kind, .int .i64 v.num, .string v.text, .int .i64 v.node]

/-- a slice of values: at each place its block (below the bound) and its cells -/
def ValsAt (B : Nat) (w : World) (a : Option Addr) (vs : List GV) : Prop :=
  ∀ i, i < vs.length → ∃ b off, a = some ⟨b, off, none⟩ ∧ b < B ∧ ValAt w b (off + i * 4) vs[i]!

theorem ValsAt.get {B : Nat} {w : World} {a : Option Addr} {vs : List GV} (h : ValsAt B w a vs) {k : Nat} (hk : k < vs.length) :
    ∃ v b off, Hid (v = vs[k]!) ∧ v ∈ vs ∧ a = some ⟨b, off, none⟩ ∧ b < B ∧ ValAt w b (off + k * 4) v := by
  obtain ⟨b, off, ha, hb, hv⟩ := h k hk
  exact ⟨vs[k]!, b, off, rfl, mem_at hk, ha, hb, hv⟩

/-- blocks that are as they were -/
def Same (p : Nat → Prop) (w w' : World) : Prop := ∀ k, p k → w'.heap[k]? = w.heap[k]?

theorem ValAt.same {w w' : World} {b off : Nat} {v : GV} (h : ValAt w b off v) (hs : w'.heap[b]? = w.heap[b]?) : ValAt w' b off v :=
  ⟨(World.cell?_of_block (w := w) hs).trans h.kind, (World.cell?_of_block (w := w) hs).trans h.num, (World.cell?_of_block (w := w) hs).trans h.text, (World.cell?_of_block (w := w) hs).trans h.node⟩

theorem ValAt.below {B : Nat} {w w' : World} {b off : Nat} {v : GV} (h : ValAt w b off v) (hs : Below B w w') (hb : b < B) : ValAt w' b off v := h.same (hs.block b hb)

theorem ValsAt.below {B : Nat} {w w' : World} {a : Option Addr} {vs : List GV} (h : ValsAt B w a vs) (hs : Below B w w') : ValsAt B w' a vs := fun i hi => by
  obtain ⟨b, off, ha, hb, hv⟩ := h i hi
  exact ⟨b, off, ha, hb, hv.below hs hb⟩

theorem ValsAt.mono {B B' : Nat} {w : World} {a : Option Addr} {vs : List GV} (h : ValsAt B w a vs) (hB : B ≤ B') : ValsAt B' w a vs := fun i hi => by
  obtain ⟨b, off, ha, hb, hv⟩ := h i hi
  exact ⟨b, off, ha, by omega, hv⟩

/-- a node of two cells at a place -/
structure NodeAt (B : Nat) (w : World) (b off : Nat) (n : GN) (a : Option Addr) (cap : Nat) : Prop where
  tag : w.cell? ⟨b, off, none⟩ = some (.int .i64 n.tag)
  sl : w.cell? ⟨b, off + 1, none⟩ = some (.slice a n.vals.length cap)
  vals : ValsAt B w a n.vals

def NodesAt (B : Nat) (w : World) (a : Option Addr) (ns : List GN) : Prop :=
  ∀ i, i < ns.length → ∃ b off a' cap, a = some ⟨b, off, none⟩ ∧ b < B ∧ NodeAt B w b (off + i * 2) ns[i]! a' cap

theorem NodesAt.get {B : Nat} {w : World} {a : Option Addr} {ns : List GN} (h : NodesAt B w a ns) {k : Nat} (hk : k < ns.length) :
    ∃ n b off a' cap, Hid (n = ns[k]!) ∧ n ∈ ns ∧ a = some ⟨b, off, none⟩ ∧ b < B ∧ NodeAt B w b (off + k * 2) n a' cap := by
  obtain ⟨b, off, a', cap, ha, hb, hv⟩ := h k hk
  exact ⟨ns[k]!, b, off, a', cap, rfl, mem_at hk, ha, hb, hv⟩

theorem NodeAt.below {B : Nat} {w w' : World} {b off : Nat} {n : GN} {a : Option Addr} {cap : Nat} (h : NodeAt B w b off n a cap) (hs : Below B w w') (hb : b < B) : NodeAt B w' b off n a cap :=
  ⟨(World.cell?_of_block (w := w) (hs.block b hb)).trans h.tag, (World.cell?_of_block (w := w) (hs.block b hb)).trans h.sl, h.vals.below hs⟩

theorem NodesAt.below {B : Nat} {w w' : World} {a : Option Addr} {ns : List GN} (h : NodesAt B w a ns) (hs : Below B w w') : NodesAt B w' a ns := fun i hi => by
  obtain ⟨b, off, a', cap, ha, hb, hv⟩ := h i hi
  exact ⟨b, off, a', cap, ha, hb, hv.below hs hb⟩

theorem NodesAt.mono {B B' : Nat} {w : World} {a : Option Addr} {ns : List GN} (h : NodesAt B w a ns) (hB : B ≤ B') : NodesAt B' w a ns := fun i hi => by
  obtain ⟨b, off, a', cap, ha, hb, hv⟩ := h i hi
  exact ⟨b, off, a', cap, ha, by omega, ⟨hv.tag, hv.sl, hv.vals.mono hB⟩⟩

abbrev GG.val (g : GG) (a : Option Addr) (cap : Nat) : Value :=
  .agg #[.int .i64 g.root.kind, .int .i64 g.root.num, .string g.root.text, .int .i64 g.root.node, .slice a g.nodes.length cap]

theorem ret_int {k : IntKind} {a b : Int} (h : a = b) : Ending.returned (.int k a) = .returned (.int k b) := by rw [h]
theorem ret_bool {a b : Bool} (h : a = b) : Ending.returned (.bool a) = .returned (.bool b) := by rw [h]

theorem leftBy_neg {left s : Int} (h : left - s < 0) : leftBy left s = -1 := if_pos h
theorem leftBy_pos {left s : Int} (h : ¬ left - s < 0) : leftBy left s = left - s := if_neg h

theorem leftBy_of_nonneg {left s : Int} (h : 0 ≤ leftBy left s) : leftBy left s = left - s ∧ 0 ≤ left - s := by
  unfold leftBy at h ⊢; split at h <;> rename_i h' <;> simp_all <;> omega
theorem leftBy_of_neg {left s : Int} (h : leftBy left s < 0) : left - s < 0 := by
  unfold leftBy at h; split at h <;> omega

theorem bcell {W w1 : World} (hb : Below W.heap.size W w1) : (∀ b o, b < W.heap.size → w1.cell? ⟨b, o, none⟩ = W.cell? ⟨b, o, none⟩) ∧ (∀ b o, b < W.heap.size → w1.frozen? ⟨b, o, none⟩ = W.frozen? ⟨b, o, none⟩) :=
  ⟨fun b o h => hb.cell (p := ⟨b, o, none⟩) h, fun b o h => hb.frozen (p := ⟨b, o, none⟩) h⟩

/-! growing worlds, no side conditions -/
theorem gre (w : World) : Below w.heap.size w w := Below.refl _ _
theorem gal {w w' : World} (h : Below w.heap.size w w') (o : Obj) : Below w.heap.size w (w'.alloc o) := h.alloc h.size o
theorem gca {w w' w'' : World} (h : Below w.heap.size w w') (k : Below w'.heap.size w' w'') : Below w.heap.size w w'' := h.trans (k.mono h.size)
theorem gse {w w' : World} (h : Below w.heap.size w w') {p : Addr} (hp : w.heap.size ≤ p.block) (u : Value) : Below w.heap.size w (w'.setCell p u) := h.setCell hp u
theorem gdr {w w' : World} (h : Below w.heap.size w w') : Below w.heap.size w w'.drew := h.drew

theorem ValsAt.grow {w w' : World} {a : Option Addr} {vs : List GV} (h : ValsAt w.heap.size w a vs) (hb : Below w.heap.size w w') : ValsAt w'.heap.size w' a vs := (h.below hb).mono hb.size
theorem NodesAt.grow {w w' : World} {a : Option Addr} {vs : List GN} (h : NodesAt w.heap.size w a vs) (hb : Below w.heap.size w w') : NodesAt w'.heap.size w' a vs := (h.below hb).mono hb.size

end Go.Proofs.Ythjddpkegooobaa
