import Derived.Test.YthjddpkegooobabRows
import Derived.WalkKit
import Derived.WalkSpells
import Derived.Deep.OwnRows
import Derived.Deep.AppendLies
import Derived.WalkLawsBesides
import Derived.Deep.QuietTactic
import Derived.BigQuiet

/-
  PLAIN: graphs as lists and numbers. Own work.
-/
namespace Go.Proofs.Ythjddpkegooobab

structure GV where
  kind : Int
  num : Int
  text : ByteArray
  node : Int
  deriving Inhabited

structure GN where
  tag : Int
  vals : List GV
  deriving Inhabited

structure GG where
  root : GV
  nodes : List GN

/-- what fits an int64 -/
def I64 (n : Int) : Prop := -9223372036854775808 ≤ n ∧ n ≤ 9223372036854775807

structure GV.Ok (v : GV) : Prop where
  kind : I64 v.kind
  num : I64 v.num
  text : v.text.size ≤ maxLen
  node : I64 v.node

structure GN.Ok (n : GN) : Prop where
  tag : I64 n.tag
  len : n.vals.length ≤ maxLen
  vals : ∀ v, v ∈ n.vals → v.Ok

structure GG.Ok (g : GG) : Prop where
  root : g.root.Ok
  len : g.nodes.length ≤ maxLen
  nodes : ∀ n, n ∈ g.nodes → n.Ok

def GV.sz (v : GV) : Int := v.text.size
def szVals : List GV → Int
  | [] => 0
  | v :: r => v.sz + szVals r
def GN.sz (n : GN) : Int := n.vals.length + szVals n.vals
def szNodes : List GN → Int
  | [] => 0
  | n :: r => n.sz + szNodes r
def GG.sz (g : GG) : Int := g.root.sz + g.nodes.length + szNodes g.nodes

theorem GV.sz_nonneg (v : GV) : 0 ≤ v.sz := Int.natCast_nonneg _
theorem szVals_nonneg (l : List GV) : 0 ≤ szVals l := by
  induction l with
  | nil => simp [szVals]
  | cons v r ih => have := v.sz_nonneg; simp only [szVals]; omega
theorem GN.sz_nonneg (n : GN) : 0 ≤ n.sz := by have := szVals_nonneg n.vals; unfold GN.sz; omega
theorem szNodes_nonneg (l : List GN) : 0 ≤ szNodes l := by
  induction l with
  | nil => simp [szNodes]
  | cons v r ih => have := v.sz_nonneg; simp only [szNodes]; omega

theorem szVals_append (a b : List GV) : szVals (a ++ b) = szVals a + szVals b := by
  induction a with
  | nil => simp [szVals]
  | cons v r ih => simp only [List.cons_append, szVals, ih]; omega
theorem szNodes_append (a b : List GN) : szNodes (a ++ b) = szNodes a + szNodes b := by
  induction a with
  | nil => simp [szNodes]
  | cons v r ih => simp only [List.cons_append, szNodes, ih]; omega

theorem take_snoc {α : Type} [Inhabited α] (l : List α) (k : Nat) (h : k < l.length) : l.take (k + 1) = l.take k ++ [l[k]!] := by
  rw [List.take_succ_eq_append_getElem h, getElem!_pos l k h]

theorem szVals_take_succ (l : List GV) (k : Nat) (h : k < l.length) : szVals (l.take (k + 1)) = szVals (l.take k) + l[k]!.sz := by
  rw [take_snoc l k h, szVals_append]; simp [szVals]
theorem szNodes_take_succ (l : List GN) (k : Nat) (h : k < l.length) : szNodes (l.take (k + 1)) = szNodes (l.take k) + l[k]!.sz := by
  rw [take_snoc l k h, szNodes_append]; simp [szNodes]
theorem szVals_take_le (l : List GV) (k : Nat) : szVals (l.take k) ≤ szVals l := by
  have h : szVals l = szVals (l.take k) + szVals (l.drop k) := by rw [← szVals_append, List.take_append_drop]
  have := szVals_nonneg (l.drop k); omega
theorem szNodes_take_le (l : List GN) (k : Nat) : szNodes (l.take k) ≤ szNodes l := by
  have h : szNodes l = szNodes (l.take k) + szNodes (l.drop k) := by rw [← szNodes_append, List.take_append_drop]
  have := szNodes_nonneg (l.drop k); omega

/-- what is left behind so much -/
def leftBy (left s : Int) : Int := if left - s < 0 then -1 else left - s

theorem mem_at {α : Type} [Inhabited α] {l : List α} {k : Nat} (h : k < l.length) : l[k]! ∈ l := by
  rw [getElem!_pos l k h]; exact List.getElem_mem h

end Go.Proofs.Ythjddpkegooobab

/-
  MEM: how graphs lie in memory. Own work.
-/
namespace Go.Proofs.Ythjddpkegooobab
open Go.RowKit

/-- a value of four cells at a place -/
structure ValAt (w : World) (b off : Nat) (v : GV) : Prop where
  kind : w.cell? ⟨b, off, none⟩ = some (.int .i64 v.kind)
  num : w.cell? ⟨b, off + 1, none⟩ = some (.int .i64 v.num)
  text : w.cell? ⟨b, off + 2, none⟩ = some (.string v.text)
  node : w.cell? ⟨b, off + 3, none⟩ = some (.int .i64 v.node)

abbrev GV.val (v : GV) : Value := .agg #[.int .i64 v.kind, .int .i64 v.num, .string v.text, .int .i64 v.node]

/-- a slice of values: at each place its block (below the bound) and its cells -/
def ValsAt (B : Nat) (w : World) (a : Option Addr) (vs : List GV) : Prop :=
  ∀ i, i < vs.length → ∃ b off, a = some ⟨b, off, none⟩ ∧ b < B ∧ ValAt w b (off + i * 4) vs[i]!

theorem ValsAt.get {B : Nat} {w : World} {a : Option Addr} {vs : List GV} (h : ValsAt B w a vs) {k : Nat} (hk : k < vs.length) :
    ∃ v b off, Hid (v = vs[k]!) ∧ v ∈ vs ∧ a = some ⟨b, off, none⟩ ∧ b < B ∧ ValAt w b (off + k * 4) v := by
  obtain ⟨b, off, ha, hb, hv⟩ := h k hk
  exact ⟨vs[k]!, b, off, rfl, mem_at hk, ha, hb, hv⟩

/-- blocks that are as they were -/
def Same (p : Nat → Prop) (w w' : World) : Prop := ∀ k, p k → w'.heap[k]? = w.heap[k]?

theorem ValAt.same {w w' : World} {b off : Nat} {v : GV} (h : ValAt w b off v) (hs : w'.heap[b]? = w.heap[b]?) : ValAt w' b off v :=
  ⟨(World.cell?_of_block (w := w) hs).trans h.kind, (World.cell?_of_block (w := w) hs).trans h.num, (World.cell?_of_block (w := w) hs).trans h.text, (World.cell?_of_block (w := w) hs).trans h.node⟩

theorem ValAt.below {B : Nat} {w w' : World} {b off : Nat} {v : GV} (h : ValAt w b off v) (hs : Below B w w') (hb : b < B) : ValAt w' b off v := h.same (hs.block b hb)

theorem ValsAt.below {B : Nat} {w w' : World} {a : Option Addr} {vs : List GV} (h : ValsAt B w a vs) (hs : Below B w w') : ValsAt B w' a vs := fun i hi => by
  obtain ⟨b, off, ha, hb, hv⟩ := h i hi
  exact ⟨b, off, ha, hb, hv.below hs hb⟩

theorem ValsAt.mono {B B' : Nat} {w : World} {a : Option Addr} {vs : List GV} (h : ValsAt B w a vs) (hB : B ≤ B') : ValsAt B' w a vs := fun i hi => by
  obtain ⟨b, off, ha, hb, hv⟩ := h i hi
  exact ⟨b, off, ha, by omega, hv⟩

/-- a node of two cells at a place -/
structure NodeAt (B : Nat) (w : World) (b off : Nat) (n : GN) (a : Option Addr) (cap : Nat) : Prop where
  tag : w.cell? ⟨b, off, none⟩ = some (.int .i64 n.tag)
  sl : w.cell? ⟨b, off + 1, none⟩ = some (.slice a n.vals.length cap)
  vals : ValsAt B w a n.vals

def NodesAt (B : Nat) (w : World) (a : Option Addr) (ns : List GN) : Prop :=
  ∀ i, i < ns.length → ∃ b off a' cap, a = some ⟨b, off, none⟩ ∧ b < B ∧ NodeAt B w b (off + i * 2) ns[i]! a' cap

theorem NodesAt.get {B : Nat} {w : World} {a : Option Addr} {ns : List GN} (h : NodesAt B w a ns) {k : Nat} (hk : k < ns.length) :
    ∃ n b off a' cap, Hid (n = ns[k]!) ∧ n ∈ ns ∧ a = some ⟨b, off, none⟩ ∧ b < B ∧ NodeAt B w b (off + k * 2) n a' cap := by
  obtain ⟨b, off, a', cap, ha, hb, hv⟩ := h k hk
  exact ⟨ns[k]!, b, off, a', cap, rfl, mem_at hk, ha, hb, hv⟩

theorem NodeAt.below {B : Nat} {w w' : World} {b off : Nat} {n : GN} {a : Option Addr} {cap : Nat} (h : NodeAt B w b off n a cap) (hs : Below B w w') (hb : b < B) : NodeAt B w' b off n a cap :=
  ⟨(World.cell?_of_block (w := w) (hs.block b hb)).trans h.tag, (World.cell?_of_block (w := w) (hs.block b hb)).trans h.sl, h.vals.below hs⟩

theorem NodesAt.below {B : Nat} {w w' : World} {a : Option Addr} {ns : List GN} (h : NodesAt B w a ns) (hs : Below B w w') : NodesAt B w' a ns := fun i hi => by
  obtain ⟨b, off, a', cap, ha, hb, hv⟩ := h i hi
  exact ⟨b, off, a', cap, ha, hb, hv.below hs hb⟩

theorem NodesAt.mono {B B' : Nat} {w : World} {a : Option Addr} {ns : List GN} (h : NodesAt B w a ns) (hB : B ≤ B') : NodesAt B' w a ns := fun i hi => by
  obtain ⟨b, off, a', cap, ha, hb, hv⟩ := h i hi
  exact ⟨b, off, a', cap, ha, by omega, ⟨hv.tag, hv.sl, hv.vals.mono hB⟩⟩

abbrev GG.val (g : GG) (a : Option Addr) (cap : Nat) : Value :=
  .agg #[.int .i64 g.root.kind, .int .i64 g.root.num, .string g.root.text, .int .i64 g.root.node, .slice a g.nodes.length cap]

theorem ret_int {k : IntKind} {a b : Int} (h : a = b) : Ending.returned (.int k a) = .returned (.int k b) := by rw [h]
theorem ret_bool {a b : Bool} (h : a = b) : Ending.returned (.bool a) = .returned (.bool b) := by rw [h]

theorem leftBy_neg {left s : Int} (h : left - s < 0) : leftBy left s = -1 := if_pos h
theorem leftBy_pos {left s : Int} (h : ¬ left - s < 0) : leftBy left s = left - s := if_neg h

theorem leftBy_of_nonneg {left s : Int} (h : 0 ≤ leftBy left s) : leftBy left s = left - s ∧ 0 ≤ left - s := by
  unfold leftBy at h ⊢; split at h <;> rename_i h' <;> simp_all <;> omega
theorem leftBy_of_neg {left s : Int} (h : leftBy left s < 0) : left - s < 0 := by
  unfold leftBy at h; split at h <;> omega

theorem bcell {W w1 : World} (hb : Below W.heap.size W w1) : (∀ b o, b < W.heap.size → w1.cell? ⟨b, o, none⟩ = W.cell? ⟨b, o, none⟩) ∧ (∀ b o, b < W.heap.size → w1.frozen? ⟨b, o, none⟩ = W.frozen? ⟨b, o, none⟩) :=
  ⟨fun b o h => hb.cell (p := ⟨b, o, none⟩) h, fun b o h => hb.frozen (p := ⟨b, o, none⟩) h⟩

/-! growing worlds, no side conditions -/
theorem gre (w : World) : Below w.heap.size w w := Below.refl _ _
theorem gal {w w' : World} (h : Below w.heap.size w w') (o : Obj) : Below w.heap.size w (w'.alloc o) := h.alloc h.size o
theorem gca {w w' w'' : World} (h : Below w.heap.size w w') (k : Below w'.heap.size w' w'') : Below w.heap.size w w'' := h.trans (k.mono h.size)
theorem gse {w w' : World} (h : Below w.heap.size w w') {p : Addr} (hp : w.heap.size ≤ p.block) (u : Value) : Below w.heap.size w (w'.setCell p u) := h.setCell hp u
theorem gdr {w w' : World} (h : Below w.heap.size w w') : Below w.heap.size w w'.drew := h.drew

theorem ValsAt.grow {w w' : World} {a : Option Addr} {vs : List GV} (h : ValsAt w.heap.size w a vs) (hb : Below w.heap.size w w') : ValsAt w'.heap.size w' a vs := (h.below hb).mono hb.size
theorem NodesAt.grow {w w' : World} {a : Option Addr} {vs : List GN} (h : NodesAt w.heap.size w a vs) (hb : Below w.heap.size w w') : NodesAt w'.heap.size w' a vs := (h.below hb).mono hb.size

end Go.Proofs.Ythjddpkegooobab

/-
  ROWS2: rows that a call owns, and what it leaves alone. Own work.
-/
namespace Go.Proofs.Ythjddpkegooobab
open Go.RowKit

/-- but for the blocks that p names, what was there is as it was -/
structure Kept (p : Nat → Prop) (w w' : World) : Prop where
  os : w'.os = w.os
  tape : w'.tape = w.tape
  output : w'.output = w.output
  size : w.heap.size ≤ w'.heap.size
  block : ∀ k, k < w.heap.size → ¬ p k → w'.heap[k]? = w.heap[k]?

theorem Kept.refl (p : Nat → Prop) (w : World) : Kept p w w := ⟨rfl, rfl, rfl, Nat.le_refl _, fun _ _ _ => rfl⟩
theorem Kept.trans {p q : Nat → Prop} {w w' w'' : World} (h : Kept p w w') (k : Kept q w' w'') (hpq : ∀ k, k < w.heap.size → q k → p k) : Kept p w w'' :=
  ⟨k.os.trans h.os, k.tape.trans h.tape, k.output.trans h.output, Nat.le_trans h.size k.size, fun i hi hn => (k.block i (Nat.lt_of_lt_of_le hi h.size) (fun hq => hn (hpq i hi hq))).trans (h.block i hi hn)⟩
theorem Kept.mono {p q : Nat → Prop} {w w' : World} (h : Kept p w w') (hpq : ∀ k, k < w.heap.size → p k → q k) : Kept q w w' :=
  ⟨h.os, h.tape, h.output, h.size, fun i hi hn => h.block i hi (fun hp => hn (hpq i hi hp))⟩
theorem Kept.below {p : Nat → Prop} {w w' : World} {B : Nat} (h : Kept p w w') (hB : B ≤ w.heap.size) (hp : ∀ k, k < B → ¬ p k) : Below B w w' :=
  ⟨h.os, h.tape, h.output, h.size, fun k hk => h.block k (by omega) (hp k hk)⟩
theorem Kept.of_below {w w' : World} (h : Below w.heap.size w w') (p : Nat → Prop) : Kept p w w' := ⟨h.os, h.tape, h.output, h.size, fun k hk _ => h.block k hk⟩
theorem Kept.of_grown {w w' : World} {row : Option Nat} (h : w.grownBy w' row) : Kept (fun k => row = some k) w w' := ⟨h.os, h.tape, h.output, h.size, fun k hk hn => h.block k hk (fun e => hn e.symm)⟩
theorem Kept.alloc {p : Nat → Prop} {w w' : World} (h : Kept p w w') (o : Obj) : Kept p w (w'.alloc o) :=
  h.trans (Kept.of_below (gal (gre w') o) p) (fun _ _ hq => hq)
theorem Kept.drew {p : Nat → Prop} {w w' : World} (h : Kept p w w') : Kept p w w'.drew :=
  h.trans (Kept.of_below (gdr (gre w')) p) (fun _ _ hq => hq)
theorem Kept.set {p : Nat → Prop} {w w' : World} (h : Kept p w w') {a : Addr} (ha : a.block < w.heap.size → p a.block) (u : Value) : Kept p w (w'.setCell a u) :=
  h.trans (q := fun k => k = a.block) ⟨rfl, rfl, rfl, by simp [World.setCell], fun k _ hn => Below.heap_setCell _ _ _ _ hn⟩ (fun k hk hq => by subst hq; exact ha hk)
theorem Kept.cell {p : Nat → Prop} {w w' : World} (h : Kept p w w') {b o : Nat} {v : Value} (hc : w.cell? ⟨b, o, none⟩ = some v) (hn : ¬ p b) : w'.cell? ⟨b, o, none⟩ = some v :=
  (World.cell?_of_block (w := w) (h.block b (World.block_lt_of_cell? _ _ hc) hn)).trans hc
theorem Kept.rowIs {p : Nat → Prop} {w w' : World} (h : Kept p w w') {b t n : Nat} {f : Nat → Value} (hr : w.rowIs b t n f) (hn : ¬ p b) : w'.rowIs b t n f := hr.of_block (h.block b hr.lt hn)
theorem Kept.owns {p : Nat → Prop} {w w' : World} (h : Kept p w w') {base e size n : Nat} {v : Value} {xs : List Value} (ho : w.ownsRow base e size v n xs) (hn : ∀ k, v.ownBlock = some k → ¬ p k) : w'.ownsRow base e size v n xs := by
  refine ⟨ho.1, ?_⟩
  rcases ho.2 with h0 | ⟨g, cap, cur, rfl, hb, hg, r⟩
  · exact Or.inl h0
  · exact Or.inr ⟨g, cap, cur, rfl, hb, by rw [h.block g (Array.getElem?_eq_some_iff.1 hg).1 (hn g rfl)]; exact hg, r⟩

/-- cells of an owned row -/
theorem owns_cell {w : World} {base e size n : Nat} {a : Option Addr} {len cap : Nat} {xs : List Value} (ho : w.ownsRow base e size (.slice a len cap) n xs) {j : Nat} {u : Value} (hj : xs[j]? = some u) :
    ∃ g, a = some ⟨g, 0, none⟩ ∧ base ≤ g ∧ g < w.heap.size ∧ w.cell? ⟨g, j, none⟩ = some u := by
  rcases ho.2 with ⟨_, h0⟩ | ⟨g, cap', cur, hv, hb, hg, _⟩
  · have := ho.1
    rw [h0, Nat.zero_mul] at this
    rw [List.getElem?_eq_none (by omega)] at hj
    cases hj
  · simp only [Value.slice.injEq] at hv
    obtain ⟨rfl, _, _⟩ := hv
    refine ⟨g, rfl, hb, (Array.getElem?_eq_some_iff.1 hg).1, ?_⟩
    have := ho.cells (g := g) rfl j u hj
    rwa [show ((⟨g, 0, none⟩ : Addr).add j) = ⟨g, j, none⟩ by unfold Addr.add; split <;> simp_all] at this

/-- an owned slice's length -/
theorem owns_len {w : World} {base e size n : Nat} {a : Option Addr} {len cap : Nat} {xs : List Value} (ho : w.ownsRow base e size (.slice a len cap) n xs) : len = n := by
  rcases ho.2 with ⟨h, h0⟩ | ⟨g, cap', cur, hv, _⟩
  · simp at h; omega
  · simp at hv; exact hv.2.1

theorem owns_le {w : World} {base base' e size n : Nat} {v : Value} {xs : List Value} (h : w.ownsRow base e size v n xs) (hb : base' ≤ base) : w.ownsRow base' e size v n xs :=
  ⟨h.1, h.2.elim Or.inl (fun ⟨g, cap, cur, hv, hg, r⟩ => Or.inr ⟨g, cap, cur, hv, Nat.le_trans hb hg, r⟩)⟩

theorem some_addr {b c : Nat} (h : (some (⟨b, 0, none⟩ : Addr)) = some ⟨c, 0, none⟩) : b = c := by
  have e := congrArg (fun q => q.map Addr.block) h
  simpa only [Option.map_some, Option.some.injEq] using e

/-- where it lies -/
theorem owns_addr {w : World} {base e size n : Nat} {a : Option Addr} {len cap : Nat} {xs : List Value} (ho : w.ownsRow base e size (.slice a len cap) n xs) {k : Nat} (hk : (Value.slice a len cap).ownBlock = some k) : a = some ⟨k, 0, none⟩ := by
  rcases ho.2 with ⟨h, h0⟩ | ⟨g, cap', cur, hv, _⟩
  · simp at h
    rw [h.1] at hk
    simp [Value.ownBlock] at hk
  · simp at hv
    rw [hv.1] at hk ⊢
    simp [Value.ownBlock] at hk
    rw [hk]

theorem blk_new_at (w : World) (o : Obj) (b : Nat) (hb : b = w.heap.size) : (w.alloc o).heap[b]? = some o := by
  subst hb; exact Deep.blk_alloc_new _ _

def ints (l : List Nat) : List Value := l.map fun (x : Nat) => Value.int .i64 (x : Int)
theorem ints_get {l : List Nat} {i : Nat} (h : i < l.length) : (ints l)[i]? = some (.int .i64 (l[i]! : Nat)) := by
  rw [getElem!_pos l i h]; simp [ints, h]

/-- four cells of a variable's own block -/
structure Four (w : World) (b : Nat) (v : GV) : Prop where
  lt : b < w.heap.size
  c0 : w.cell? ⟨b, 0, none⟩ = some (.int .i64 v.kind)
  c1 : w.cell? ⟨b, 1, none⟩ = some (.int .i64 v.num)
  c2 : w.cell? ⟨b, 2, none⟩ = some (.string v.text)
  c3 : w.cell? ⟨b, 3, none⟩ = some (.int .i64 v.node)
  f : ∀ o, w.frozen? ⟨b, o, none⟩ = false

theorem Four.same {w w' : World} {b : Nat} {v : GV} (h : Four w b v) (e : w'.heap[b]? = w.heap[b]?) (hlt : b < w'.heap.size) : Four w' b v :=
  ⟨hlt, (World.cell?_of_block (w := w) e).trans h.c0, (World.cell?_of_block (w := w) e).trans h.c1, (World.cell?_of_block (w := w) e).trans h.c2, (World.cell?_of_block (w := w) e).trans h.c3, fun o => (World.frozen?_of_block (w := w) e).trans (h.f o)⟩
theorem Four.kept {p : Nat → Prop} {w w' : World} {b : Nat} {v : GV} (h : Four w b v) (k : Kept p w w') (hn : ¬ p b) : Four w' b v := h.same (k.block b h.lt hn) (Nat.lt_of_lt_of_le h.lt k.size)
theorem Four.new (w : World) (v : GV) (t : TypeId) : Four (w.alloc (.cells #[.int .i64 v.kind, .int .i64 v.num, .string v.text, .int .i64 v.node] t)) w.heap.size v :=
  ⟨by simp, by simp, by simp, by simp, by simp, fun o => by simp⟩
theorem Four.new_at (w : World) (v : GV) (t : TypeId) (b : Nat) (hb : b = w.heap.size) : Four (w.alloc (.cells #[.int .i64 v.kind, .int .i64 v.num, .string v.text, .int .i64 v.node] t)) b v := by
  subst hb; exact Four.new w v t
theorem Four.alloc {w : World} {b : Nat} {v : GV} (h : Four w b v) (o : Obj) : Four (w.alloc o) b v := h.same (Below.heap_alloc _ _ _ h.lt) (by have := h.lt; simp; omega)

end Go.Proofs.Ythjddpkegooobab

/-
  BROW: rows of bytes. Own work.
-/
namespace Go.Proofs.Ythjddpkegooobab
open Go.RowKit

theorem hid_ex {α : Type} (x : α) : ∃ y, Hid (y = x) := ⟨x, rfl⟩

set_option maxRecDepth 100000 in
theorem info_u8 : (Try.prog.info? 5).map (fun i => (i.zero, i.size, i.bytes)) = some (some (.int .u8 0), 1, 1) := by kernel_rfl

set_option maxRecDepth 100000 in
theorem rowIs_made_any (w : World) (z : Array Value) (n : Nat) (t : TypeId) : (w.alloc (.cells (madeCells z n) t)).rowIs w.heap.size t n (fun i => z[i % z.size]!) :=
  ⟨_, Deep.blk_alloc_new _ _, size_madeCells _ _, fun i hi => by simp [madeCells, hi]⟩

/-- bytes at a place -/
def BytesAt (w : World) (a : Option Addr) (bs : List Nat) : Prop := ∀ i, i < bs.length → ∃ b off, a = some ⟨b, off, none⟩ ∧ w.cell? ⟨b, off + i, none⟩ = some (.int .u8 ((bs[i]! : Nat) : Int))

set_option maxRecDepth 100000 in
theorem BytesAt.get {w : World} {a : Option Addr} {bs : List Nat} (h : BytesAt w a bs) {k : Nat} (hk : k < bs.length) : ∃ x b off, Hid (x = bs[k]!) ∧ x ∈ bs ∧ a = some ⟨b, off, none⟩ ∧ w.cell? ⟨b, off + k, none⟩ = some (.int .u8 (x : Int)) := by
  obtain ⟨b, off, ha, hc⟩ := h k hk
  exact ⟨bs[k]!, b, off, rfl, mem_at hk, ha, hc⟩
set_option maxRecDepth 100000 in
theorem BytesAt.grow {w w' : World} {a : Option Addr} {bs : List Nat} (h : BytesAt w a bs) (hb : Below w.heap.size w w') : BytesAt w' a bs := fun i hi => by
  obtain ⟨b, off, ha, hc⟩ := h i hi
  exact ⟨b, off, ha, (World.cell?_of_block (w := w) (hb.block b (World.block_lt_of_cell? _ _ hc))).trans hc⟩

/-- the bytes that a row of bytes opens with -/
def BRow (w : World) (a n : Nat) (xs : List Nat) : Prop := ∃ c : Array Value, w.heap[a]? = some (.cells c 5 (0, 0)) ∧ c.size = n ∧ xs.length ≤ n ∧ ∀ i, i < xs.length → c[i]? = some (.int .u8 ((xs[i]! : Nat) : Int))

set_option maxRecDepth 100000 in
theorem BRow.lt {w : World} {a n : Nat} {xs : List Nat} (h : BRow w a n xs) : a < w.heap.size := by
  obtain ⟨c, hc, _⟩ := h
  exact (Array.getElem?_eq_some_iff.1 hc).1
set_option maxRecDepth 100000 in
theorem BRow.of_block {w w' : World} {a n : Nat} {xs : List Nat} (h : BRow w a n xs) (e : w'.heap[a]? = w.heap[a]?) : BRow w' a n xs := by
  obtain ⟨c, hc, r⟩ := h
  exact ⟨c, e.trans hc, r⟩
set_option maxRecDepth 100000 in
theorem BRow.kept {p : Nat → Prop} {w w' : World} {a n : Nat} {xs : List Nat} (h : BRow w a n xs) (k : Kept p w w') (hn : ¬ p a) : BRow w' a n xs := h.of_block (k.block a h.lt hn)
theorem BRow.row {w : World} {a n : Nat} {xs : List Nat} (h : BRow w a n xs) : ∃ f, w.rowIs a 5 n f ∧ ∀ i, i < xs.length → f i = .int .u8 ((xs[i]! : Nat) : Int) := by
  obtain ⟨c, hc, hs, hl, hx⟩ := h
  refine ⟨fun i => c[i]!, ⟨c, hc, hs, fun i hi => ?_⟩, fun i hi => ?_⟩
  · show c[i]? = some c[i]!
    rw [getElem!_pos c i (by omega)]; exact Array.getElem?_eq_getElem (by omega)
  · have h1 := hx i hi
    show c[i]! = _
    rw [getElem!_pos c i (by omega)]
    rw [Array.getElem?_eq_getElem (by omega)] at h1
    exact Option.some.inj h1
set_option maxRecDepth 100000 in
theorem BRow.of_row {w : World} {a n : Nat} {xs : List Nat} {f : Nat → Value} (h : w.rowIs a 5 n f) (hl : xs.length ≤ n) (hx : ∀ i, i < xs.length → f i = .int .u8 ((xs[i]! : Nat) : Int)) : BRow w a n xs := by
  obtain ⟨c, hc, hs, hf⟩ := h
  exact ⟨c, hc, hs, hl, fun i hi => (hf i (by omega)).trans (by rw [hx i hi])⟩
set_option maxRecDepth 100000 in
theorem BRow.any {w : World} {a n : Nat} {xs : List Nat} (h : BRow w a n xs) {i : Nat} (hi : i < n) : ∃ v, w.cell? ⟨a, i, none⟩ = some v := by
  obtain ⟨f, hr, _⟩ := h.row
  exact ⟨_, hr.cell hi⟩
set_option maxRecDepth 100000 in
theorem BRow.cell {w : World} {a n : Nat} {xs : List Nat} (h : BRow w a n xs) {i : Nat} (hi : i < xs.length) : w.cell? ⟨a, i, none⟩ = some (.int .u8 ((xs[i]! : Nat) : Int)) := by
  obtain ⟨f, hr, hx⟩ := h.row
  have hl : xs.length ≤ n := by obtain ⟨c, _, _, hl, _⟩ := h; exact hl
  rw [← hx i hi]
  exact hr.cell (by omega)
set_option maxRecDepth 100000 in
theorem BRow.frozen {w : World} {a n : Nat} {xs : List Nat} (h : BRow w a n xs) (i : Nat) : w.frozen? ⟨a, i, none⟩ = false := by
  obtain ⟨f, hr, _⟩ := h.row
  exact hr.frozen i

set_option maxRecDepth 100000 in
theorem snoc_get {xs : List Nat} {x i : Nat} (hi : i < (xs ++ [x]).length) : (xs ++ [x])[i]! = if i = xs.length then x else xs[i]! := by
  have hi' : i < xs.length + 1 := by simpa using hi
  rw [getElem!_pos _ i hi]
  by_cases h : i = xs.length
  · subst h; simp
  · rw [if_neg h, List.getElem_append_left (by omega), getElem!_pos xs i (by omega)]
set_option maxRecDepth 100000 in
theorem BRow.push {w : World} {a n : Nat} {xs : List Nat} (h : BRow w a n xs) (hl : xs.length < n) (x : Nat) : BRow (w.setCell ⟨a, xs.length, none⟩ (.int .u8 (x : Int))) a n (xs ++ [x]) := by
  obtain ⟨f, hr, hx⟩ := h.row
  refine BRow.of_row (hr.set _ _) (by simp; omega) fun i hi => ?_
  rw [snoc_get hi]
  split
  · rfl
  · rename_i hne
    exact hx i (by have : i < xs.length + 1 := (by simpa using hi); omega)
set_option maxRecDepth 100000 in
theorem app_get {xs ys : List Nat} {i : Nat} (hi : i < (xs ++ ys).length) : (xs ++ ys)[i]! = if i < xs.length then xs[i]! else ys[i - xs.length]! := by
  have hi' : i < xs.length + ys.length := by simpa using hi
  rw [getElem!_pos _ i hi]
  split
  · rename_i h
    rw [List.getElem_append_left h, getElem!_pos xs i h]
  · rename_i h
    rw [List.getElem_append_right (by omega), getElem!_pos ys (i - xs.length) (by omega)]
/-- bytes that lie in memory of their own, and may be written -/
def MB (w : World) (lo : Nat) (oa : Option Addr) (ys : List Nat) : Prop := ys = [] ∨ ∃ G n, oa = some ⟨G, 0, none⟩ ∧ lo ≤ G ∧ BRow w G n ys

set_option maxRecDepth 100000 in
theorem brow_bytes {w : World} {G n : Nat} {ys : List Nat} (h : BRow w G n ys) : BytesAt w (some ⟨G, 0, none⟩) ys := fun i hi => ⟨G, 0, rfl, by rw [Nat.zero_add]; exact h.cell hi⟩

def bcells (xs : List Nat) : List Value := xs.map fun (x : Nat) => Value.int .u8 (x : Int)
set_option maxRecDepth 100000 in
theorem bcells_length (xs : List Nat) : (bcells xs).length = xs.length := by simp [bcells]
theorem bcells_snoc (xs : List Nat) (x : Nat) : bcells (xs ++ [x]) = bcells xs ++ [.int .u8 (x : Int)] := by simp [bcells]
theorem bcells_get {xs : List Nat} {i : Nat} (h : i < xs.length) : (bcells xs)[i]? = some (.int .u8 ((xs[i]! : Nat) : Int)) := by
  rw [getElem!_pos xs i h]; simp [bcells, h]

end Go.Proofs.Ythjddpkegooobab

/-
  DPLAIN: disks as lists, and how they lie in memory. Own work.
-/
namespace Go.Proofs.Ythjddpkegooobab
open Go.RowKit

structure DW where
  block : Int
  bytes : List Nat
  deriving Inhabited

structure DD where
  blocks : List (List Nat)
  waiting : List DW
  deriving Inhabited

structure BOk (b : List Nat) : Prop where
  len : b.length ≤ maxLen
  byte : ∀ x, x ∈ b → x < 256

structure DD.Ok (d : DD) : Prop where
  bl : d.blocks.length ≤ maxLen
  bb : ∀ b, b ∈ d.blocks → BOk b
  wl : d.waiting.length ≤ maxLen
  wi : ∀ x, x ∈ d.waiting → I64 x.block
  wb : ∀ x, x ∈ d.waiting → BOk x.bytes

def szBs : List (List Nat) → Int
  | [] => 0
  | b :: r => b.length + szBs r
def szWs : List DW → Int
  | [] => 0
  | x :: r => x.bytes.length + szWs r
def DD.sz (d : DD) : Int := (d.blocks.length + szBs d.blocks) + (d.waiting.length + szWs d.waiting)

theorem szBs_nonneg (l : List (List Nat)) : 0 ≤ szBs l := by
  induction l with
  | nil => simp [szBs]
  | cons v r ih => simp only [szBs]; omega
theorem szWs_nonneg (l : List DW) : 0 ≤ szWs l := by
  induction l with
  | nil => simp [szWs]
  | cons v r ih => simp only [szWs]; omega
theorem szBs_append (a b : List (List Nat)) : szBs (a ++ b) = szBs a + szBs b := by
  induction a with
  | nil => simp [szBs]
  | cons v r ih => simp only [List.cons_append, szBs, ih]; omega
theorem szWs_append (a b : List DW) : szWs (a ++ b) = szWs a + szWs b := by
  induction a with
  | nil => simp [szWs]
  | cons v r ih => simp only [List.cons_append, szWs, ih]; omega
theorem szBs_take_succ (l : List (List Nat)) (k : Nat) (h : k < l.length) : szBs (l.take (k + 1)) = szBs (l.take k) + l[k]!.length := by
  rw [take_snoc l k h, szBs_append]; simp [szBs]
theorem szWs_take_succ (l : List DW) (k : Nat) (h : k < l.length) : szWs (l.take (k + 1)) = szWs (l.take k) + l[k]!.bytes.length := by
  rw [take_snoc l k h, szWs_append]; simp [szWs]
theorem szBs_take_le (l : List (List Nat)) (k : Nat) : szBs (l.take k) ≤ szBs l := by
  have h : szBs l = szBs (l.take k) + szBs (l.drop k) := by rw [← szBs_append, List.take_append_drop]
  have := szBs_nonneg (l.drop k); omega
theorem szWs_take_le (l : List DW) (k : Nat) : szWs (l.take k) ≤ szWs l := by
  have h : szWs l = szWs (l.take k) + szWs (l.drop k) := by rw [← szWs_append, List.take_append_drop]
  have := szWs_nonneg (l.drop k); omega
theorem szBs_mem {l : List (List Nat)} {b : List Nat} (h : b ∈ l) : (b.length : Int) ≤ szBs l := by
  induction l with
  | nil => cases h
  | cons x r ih =>
    have := szBs_nonneg r
    simp only [szBs]
    cases List.mem_cons.1 h with
    | inl e => subst e; omega
    | inr e => have := ih e; omega
theorem szWs_mem {l : List DW} {x : DW} (h : x ∈ l) : (x.bytes.length : Int) ≤ szWs l := by
  induction l with
  | nil => cases h
  | cons y r ih =>
    have := szWs_nonneg r
    simp only [szWs]
    cases List.mem_cons.1 h with
    | inl e => subst e; omega
    | inr e => have := ih e; omega

/-- what a size at most so great says of the parts -/
structure DD.Small (d : DD) : Prop where
  bl : d.blocks.length ≤ 1048576
  bb : ∀ b, b ∈ d.blocks → b.length ≤ 1048576
  wl : d.waiting.length ≤ 1048576
  wb : ∀ x, x ∈ d.waiting → x.bytes.length ≤ 1048576
theorem DD.small {d : DD} (h : d.sz ≤ 1048576) : d.Small := by
  have h1 := szBs_nonneg d.blocks
  have h2 := szWs_nonneg d.waiting
  unfold DD.sz at h
  exact ⟨by omega, fun b hb => by have := szBs_mem hb; omega, by omega, fun x hx => by have := szWs_mem hx; omega⟩

/-- lists of bytes at a place -/
def BlksAt (w : World) (a : Option Addr) (ls : List (List Nat)) : Prop :=
  ∀ i, i < ls.length → ∃ b off a' cap, a = some ⟨b, off, none⟩ ∧ w.cell? ⟨b, off + i, none⟩ = some (.slice a' ls[i]!.length cap) ∧ BytesAt w a' ls[i]!
theorem BlksAt.get {w : World} {a : Option Addr} {ls : List (List Nat)} (h : BlksAt w a ls) {k : Nat} (hk : k < ls.length) :
    ∃ l b off a' cap, Hid (l = ls[k]!) ∧ l ∈ ls ∧ a = some ⟨b, off, none⟩ ∧ w.cell? ⟨b, off + k, none⟩ = some (.slice a' l.length cap) ∧ BytesAt w a' l := by
  obtain ⟨b, off, a', cap, ha, hc, hb⟩ := h k hk
  exact ⟨ls[k]!, b, off, a', cap, rfl, mem_at hk, ha, hc, hb⟩
theorem BlksAt.grow {w w' : World} {a : Option Addr} {ls : List (List Nat)} (h : BlksAt w a ls) (hb : Below w.heap.size w w') : BlksAt w' a ls := fun i hi => by
  obtain ⟨b, off, a', cap, ha, hc, hx⟩ := h i hi
  exact ⟨b, off, a', cap, ha, (World.cell?_of_block (w := w) (hb.block b (World.block_lt_of_cell? _ _ hc))).trans hc, hx.grow hb⟩

/-- writes at a place -/
def WrsAt (w : World) (a : Option Addr) (ls : List DW) : Prop :=
  ∀ i, i < ls.length → ∃ b off a' cap, a = some ⟨b, off, none⟩ ∧ w.cell? ⟨b, off + i * 2, none⟩ = some (.int .i64 ls[i]!.block) ∧ w.cell? ⟨b, off + i * 2 + 1, none⟩ = some (.slice a' ls[i]!.bytes.length cap) ∧ BytesAt w a' ls[i]!.bytes
theorem WrsAt.get {w : World} {a : Option Addr} {ls : List DW} (h : WrsAt w a ls) {k : Nat} (hk : k < ls.length) :
    ∃ x b off a' cap, Hid (x = ls[k]!) ∧ x ∈ ls ∧ a = some ⟨b, off, none⟩ ∧ w.cell? ⟨b, off + k * 2, none⟩ = some (.int .i64 x.block) ∧ w.cell? ⟨b, off + k * 2 + 1, none⟩ = some (.slice a' x.bytes.length cap) ∧ BytesAt w a' x.bytes := by
  obtain ⟨b, off, a', cap, ha, hc, hc2, hb⟩ := h k hk
  exact ⟨ls[k]!, b, off, a', cap, rfl, mem_at hk, ha, hc, hc2, hb⟩
theorem WrsAt.grow {w w' : World} {a : Option Addr} {ls : List DW} (h : WrsAt w a ls) (hb : Below w.heap.size w w') : WrsAt w' a ls := fun i hi => by
  obtain ⟨b, off, a', cap, ha, hc, hc2, hx⟩ := h i hi
  exact ⟨b, off, a', cap, ha, (World.cell?_of_block (w := w) (hb.block b (World.block_lt_of_cell? _ _ hc))).trans hc, (World.cell?_of_block (w := w) (hb.block b (World.block_lt_of_cell? _ _ hc2))).trans hc2, hx.grow hb⟩

/-- a disk, and where it lies -/
structure DL where
  ba : Option Addr
  bc : Nat
  wa : Option Addr
  wc : Nat
abbrev DD.val (d : DD) (l : DL) : Value := .agg #[.slice l.ba d.blocks.length l.bc, .slice l.wa d.waiting.length l.wc]
abbrev DW.val (x : DW) (a : Option Addr) (cap : Nat) : Value := .agg #[.int .i64 x.block, .slice a x.bytes.length cap]
structure DAt (w : World) (l : DL) (d : DD) : Prop where
  b : BlksAt w l.ba d.blocks
  w : WrsAt w l.wa d.waiting
theorem DAt.grow {w w' : World} {l : DL} {d : DD} (h : DAt w l d) (hb : Below w.heap.size w w') : DAt w' l d := ⟨h.b.grow hb, h.w.grow hb⟩

/-- a disk's own variable -/
structure DBox (w : World) (p : Nat) (d : DD) (l : DL) : Prop where
  lt : p < w.heap.size
  c0 : w.cell? ⟨p, 0, none⟩ = some (.slice l.ba d.blocks.length l.bc)
  c1 : w.cell? ⟨p, 1, none⟩ = some (.slice l.wa d.waiting.length l.wc)
theorem DBox.same {w w' : World} {p : Nat} {d : DD} {l : DL} (h : DBox w p d l) (e : w'.heap[p]? = w.heap[p]?) (hs : p < w'.heap.size) : DBox w' p d l :=
  ⟨hs, (World.cell?_of_block (w := w) e).trans h.c0, (World.cell?_of_block (w := w) e).trans h.c1⟩
theorem DBox.grow {w w' : World} {p : Nat} {d : DD} {l : DL} (h : DBox w p d l) (hb : Below w.heap.size w w') : DBox w' p d l := h.same (hb.block p h.lt) (Nat.lt_of_lt_of_le h.lt hb.size)
theorem DBox.kept {q : Nat → Prop} {w w' : World} {p : Nat} {d : DD} {l : DL} (h : DBox w p d l) (k : Kept q w w') (hn : ¬ q p) : DBox w' p d l := h.same (k.block p h.lt hn) (Nat.lt_of_lt_of_le h.lt k.size)
theorem DBox.new (w : World) (d : DD) (l : DL) (t : TypeId) : DBox (w.alloc (.cells #[.slice l.ba d.blocks.length l.bc, .slice l.wa d.waiting.length l.wc] t)) w.heap.size d l := ⟨by simp, by simp, by simp⟩

end Go.Proofs.Ythjddpkegooobab

/-
  DOK: both DiskOk. Own work.
-/
namespace Go.Proofs.Ythjddpkegooobab
open Go.RowKit

/-- a write that a disk may have -/
def wrOk (x : DW) : Bool := decide (0 ≤ x.block) && decide (x.block < 130) && decide (x.bytes.length = 64)
def blOk (b : List Nat) : Bool := decide (b.length = 64)
def DD.ok (d : DD) : Bool := decide (d.blocks.length = 130) && decide (d.waiting.length ≤ 200) && d.blocks.all blOk && d.waiting.all wrOk

theorem dall_take_succ {α : Type} [Inhabited α] (p : α → Bool) (l : List α) (k : Nat) (h : k < l.length) : (l.take (k + 1)).all p = ((l.take k).all p && p l[k]!) := by
  rw [take_snoc l k h]; simp
theorem all_take_false {α : Type} [Inhabited α] (p : α → Bool) (l : List α) (k : Nat) (h : k < l.length) (hp : p l[k]! = false) : l.all p = false := by
  rw [List.all_eq_false]
  exact ⟨l[k]!, mem_at h, by rw [hp]; exact Bool.false_ne_true⟩

set_option maxRecDepth 100000 in
theorem hasBlock_any (b : Int) (w : World) (_hb : I64 b) :
    Calls Try.prog 110 #[.int .i64 b] w fun e w' => e = .returned (.bool (decide (0 ≤ b) && decide (b < 130))) ∧ Below w.heap.size w w' := by
  by_cases h0 : b < 0
  · have h1 : ¬ (b ≥ 0) := by omega
    go_enter Try.func110, Try.ntmps110
    go_wp2
    all_goals go_ret
    all_goals exact ⟨by simp; omega, by first | exact gre _ | exact gal (gre _) _⟩
  · have h1 : b ≥ 0 := by omega
    by_cases h2 : b < 130
    · go_enter Try.func110, Try.ntmps110
      go_wp2
      all_goals go_ret
      all_goals exact ⟨by simp [], by first | exact gre _ | exact gal (gre _) _⟩
    · go_enter Try.func110, Try.ntmps110
      go_wp2
      all_goals go_ret
      all_goals exact ⟨by simp; omega, by first | exact gre _ | exact gal (gre _) _⟩

end Go.Proofs.Ythjddpkegooobab

/-
  DSEM: what disks do, plainly. Own work.
-/
namespace Go.Proofs.Ythjddpkegooobab

/-- a write carried out -/
def setB (bl : List (List Nat)) (x : DW) : List (List Nat) := bl.set x.block.toNat x.bytes
/-- the blocks behind the first j writes, of which those are carried out that are kept -/
def settleN (keep : Nat → Bool) (bl : List (List Nat)) (ws : List DW) : Nat → List (List Nat)
  | 0 => bl
  | j + 1 => if keep j = true then setB (settleN keep bl ws j) ws[j]! else settleN keep bl ws j
/-- what a block reads as behind the first j writes -/
def readN (bl : List (List Nat)) (ws : List DW) (b : Int) : Nat → List Nat
  | 0 => bl[b.toNat]!
  | j + 1 => if ws[j]!.block = b then ws[j]!.bytes else readN bl ws b j

def zeroD : DD := ⟨[], []⟩
def blankD : DD := ⟨List.replicate 130 (List.replicate 64 0), []⟩
def DD.put (d : DD) (b : Int) (bs : List Nat) : DD := if (d.ok && wrOk ⟨b, bs⟩ && decide (d.waiting.length ≠ 200)) = true then ⟨d.blocks, d.waiting ++ [⟨b, bs⟩]⟩ else zeroD
def DD.settle (d : DD) (keep : Nat → Bool) : DD := if d.ok = true then ⟨settleN keep d.blocks d.waiting d.waiting.length, []⟩ else zeroD
def DD.read (d : DD) (b : Int) : List Nat := if (d.ok && (decide (0 ≤ b) && decide (b < 130))) = true then readN d.blocks d.waiting b d.waiting.length else []

structure DD.Fit (d : DD) : Prop where
  bl : d.blocks.length = 130
  wl : d.waiting.length ≤ 200
  bb : ∀ b, b ∈ d.blocks → b.length = 64
  wb : ∀ x, x ∈ d.waiting → 0 ≤ x.block ∧ x.block < 130 ∧ x.bytes.length = 64
theorem DD.fit {d : DD} (h : d.ok = true) : d.Fit := by
  unfold DD.ok at h
  simp only [Bool.and_eq_true, decide_eq_true_eq, List.all_eq_true] at h
  obtain ⟨⟨⟨h1, h2⟩, h3⟩, h4⟩ := h
  refine ⟨h1, h2, fun b hb => by simpa [blOk] using h3 b hb, fun x hx => ?_⟩
  have := h4 x hx
  simp only [wrOk, Bool.and_eq_true, decide_eq_true_eq] at this
  exact ⟨this.1.1, this.1.2, this.2⟩

theorem setB_length (bl : List (List Nat)) (x : DW) : (setB bl x).length = bl.length := by simp [setB]
theorem settleN_length (keep : Nat → Bool) (bl : List (List Nat)) (ws : List DW) : ∀ j, (settleN keep bl ws j).length = bl.length
  | 0 => rfl
  | j + 1 => by
    simp only [settleN]
    split
    · rw [setB_length, settleN_length keep bl ws j]
    · exact settleN_length keep bl ws j
theorem setB_all {p : List Nat → Prop} {bl : List (List Nat)} {x : DW} (h : ∀ b, b ∈ bl → p b) (hx : p x.bytes) : ∀ b, b ∈ setB bl x → p b := fun b hb => by
  rcases List.mem_or_eq_of_mem_set hb with h1 | h1
  · exact h b h1
  · rw [h1]; exact hx
theorem settleN_all {p : List Nat → Prop} {keep : Nat → Bool} {bl : List (List Nat)} {ws : List DW} (h : ∀ b, b ∈ bl → p b) (hw : ∀ x, x ∈ ws → p x.bytes) : ∀ j, j ≤ ws.length → ∀ b, b ∈ settleN keep bl ws j → p b
  | 0, _ => h
  | j + 1, hj => by
    simp only [settleN]
    split
    · exact setB_all (settleN_all h hw j (by omega)) (hw _ (mem_at (by omega)))
    · exact settleN_all h hw j (by omega)
theorem setB_get {bl : List (List Nat)} {x : DW} {i : Nat} (hi : i < bl.length) : (setB bl x)[i]! = if i = x.block.toNat then x.bytes else bl[i]! := by
  rw [getElem!_pos _ i (by rw [setB_length]; exact hi), getElem!_pos bl i hi]
  simp only [setB, List.getElem_set]
  split
  · rename_i e; rw [if_pos e.symm]
  · rename_i e; rw [if_neg (fun e2 => e e2.symm)]
theorem readN_mem {p : List Nat → Prop} {bl : List (List Nat)} {ws : List DW} {b : Int} (h : ∀ x, x ∈ bl → p x) (hw : ∀ x, x ∈ ws → p x.bytes) (hb : b.toNat < bl.length) : ∀ j, j ≤ ws.length → p (readN bl ws b j)
  | 0, _ => h _ (mem_at hb)
  | j + 1, hj => by
    simp only [readN]
    split
    · exact hw _ (mem_at (by omega))
    · exact readN_mem h hw hb j (by omega)

end Go.Proofs.Ythjddpkegooobab

/-
  DMARKS: disks in memory of their own. Own work.
-/
namespace Go.Proofs.Ythjddpkegooobab
open Go.RowKit

set_option maxRecDepth 100000 in
theorem info_bytes : (Try.prog.info? 28).map (fun i => (i.zero, i.size, i.bytes)) = some (some (.slice none 0 0), 1, 24) := by kernel_rfl
set_option maxRecDepth 100000 in
theorem info_implWrite : (Try.prog.info? 133).map (fun i => (i.zero, i.size, i.bytes)) = some (some (.agg #[.int .i64 0, .slice none 0 0]), 2, 32) := by kernel_rfl
/-- two places that are not one block -/
def Apart (a a' : Option Addr) : Prop := ∀ b, a = some ⟨b, 0, none⟩ → a' ≠ some ⟨b, 0, none⟩
theorem Apart.symm {a a' : Option Addr} (h : Apart a a') : Apart a' a := fun b hb hx => h b hx hb

/-- bytes in a row of their own between two bounds -/
def BB (w : World) (lo hi : Nat) (oa : Option Addr) (bs : List Nat) : Prop := bs = [] ∨ ∃ G n, oa = some ⟨G, 0, none⟩ ∧ lo ≤ G ∧ G < hi ∧ BRow w G n bs
theorem BB.bytes {w : World} {lo hi : Nat} {oa : Option Addr} {bs : List Nat} (h : BB w lo hi oa bs) : BytesAt w oa bs := by
  rcases h with rfl | ⟨G, n, rfl, _, _, h⟩
  · exact fun i hi => absurd hi (Nat.not_lt_zero _)
  · exact brow_bytes h
theorem BB.kept {p : Nat → Prop} {w w' : World} {lo hi : Nat} {oa : Option Addr} {bs : List Nat} (h : BB w lo hi oa bs) (k : Kept p w w') (hn : ∀ b, oa = some ⟨b, 0, none⟩ → bs ≠ [] → ¬ p b) : BB w' lo hi oa bs := by
  by_cases e : bs = []
  · exact Or.inl e
  · rcases h with h | ⟨G, n, h1, h2, h3, h4⟩
    · exact Or.inl h
    · exact Or.inr ⟨G, n, h1, h2, h3, h4.kept k (hn G h1 e)⟩
theorem BB.mono {w : World} {lo hi lo' hi' : Nat} {oa : Option Addr} {bs : List Nat} (h : BB w lo hi oa bs) (h1 : lo' ≤ lo) (h2 : hi ≤ hi') : BB w lo' hi' oa bs := by
  rcases h with h | ⟨G, n, a1, a2, a3, a4⟩
  · exact Or.inl h
  · exact Or.inr ⟨G, n, a1, by omega, by omega, a4⟩

/-- lists of bytes that may be marked -/
structure MBs (w : World) (lo hi : Nat) (a : Option Addr) (n : Nat) (F : Nat → List Nat) (fa : Nat → Option Addr) (fc : Nat → Nat) : Prop where
  row : 0 < n → ∃ g m f, a = some ⟨g, 0, none⟩ ∧ lo ≤ g ∧ g < hi ∧ w.rowIs g 28 m f ∧ n ≤ m ∧ ∀ i, i < n → f i = .slice (fa i) (F i).length (fc i)
  byt : ∀ i, i < n → BB w lo hi (fa i) (F i)
  far : ∀ i j, i < j → j < n → Apart (fa i) (fa j)
/-- writes that may be marked -/
structure MWs (w : World) (lo hi : Nat) (a : Option Addr) (n : Nat) (B : Nat → Int) (F : Nat → List Nat) (fa : Nat → Option Addr) (fc : Nat → Nat) : Prop where
  row : 0 < n → ∃ g m f, a = some ⟨g, 0, none⟩ ∧ lo ≤ g ∧ g < hi ∧ w.rowIs g 133 m f ∧ n * 2 ≤ m ∧ ∀ i, i < n → f (i * 2) = .int .i64 (B i) ∧ f (i * 2 + 1) = .slice (fa i) (F i).length (fc i)
  byt : ∀ i, i < n → BB w lo hi (fa i) (F i)
  far : ∀ i j, i < j → j < n → Apart (fa i) (fa j)

theorem MBs.ne {w : World} {lo hi : Nat} {a : Option Addr} {n : Nat} {F : Nat → List Nat} {fa : Nat → Option Addr} {fc : Nat → Nat} (h : MBs w lo hi a n F fa fc) {i j : Nat} (hi : i < n) (hj : j < n) (hij : i ≠ j) : Apart (fa i) (fa j) := by
  rcases Nat.lt_or_gt_of_ne hij with e | e
  · exact h.far i j e hj
  · exact (h.far j i e hi).symm
theorem MWs.ne {w : World} {lo hi : Nat} {a : Option Addr} {n : Nat} {B : Nat → Int} {F : Nat → List Nat} {fa : Nat → Option Addr} {fc : Nat → Nat} (h : MWs w lo hi a n B F fa fc) {i j : Nat} (hi : i < n) (hj : j < n) (hij : i ≠ j) : Apart (fa i) (fa j) := by
  rcases Nat.lt_or_gt_of_ne hij with e | e
  · exact h.far i j e hj
  · exact (h.far j i e hi).symm

/-- a block of bytes -/
def IsB (w : World) (b : Nat) : Prop := ∃ c, w.heap[b]? = some (.cells c 5 (0, 0))
def IsW (w : World) (b : Nat) : Prop := ∃ c, w.heap[b]? = some (.cells c 133 (0, 0))
theorem BRow.isB {w : World} {a n : Nat} {xs : List Nat} (h : BRow w a n xs) : IsB w a := let ⟨c, hc, _⟩ := h; ⟨c, hc⟩
theorem rowIs_isW {w : World} {b n : Nat} {f : Nat → Value} (h : w.rowIs b 133 n f) : IsW w b := let ⟨c, hc, _⟩ := h; ⟨c, hc⟩
theorem not_B_of_bs {w : World} {b n : Nat} {f : Nat → Value} (h : w.rowIs b 28 n f) : ¬ IsB w b := fun ⟨c, hc⟩ => by
  obtain ⟨c', hc', _⟩ := h
  rw [hc] at hc'
  simp at hc'
theorem not_W_of_bs {w : World} {b n : Nat} {f : Nat → Value} (h : w.rowIs b 28 n f) : ¬ IsW w b := fun ⟨c, hc⟩ => by
  obtain ⟨c', hc', _⟩ := h
  rw [hc] at hc'
  simp at hc'
theorem not_B_of_W {w : World} {b : Nat} (h : IsW w b) : ¬ IsB w b := fun ⟨c, hc⟩ => by
  obtain ⟨c', hc'⟩ := h
  rw [hc] at hc'
  simp at hc'

/-- the bytes' blocks of a list -/
def TB (n : Nat) (F : Nat → List Nat) (fa : Nat → Option Addr) (b : Nat) : Prop := ∃ i, i < n ∧ F i ≠ [] ∧ fa i = some ⟨b, 0, none⟩

theorem MBs.tb {w : World} {lo hi : Nat} {a : Option Addr} {n : Nat} {F : Nat → List Nat} {fa : Nat → Option Addr} {fc : Nat → Nat} (h : MBs w lo hi a n F fa fc) {b : Nat} (hb : TB n F fa b) : lo ≤ b ∧ b < hi ∧ IsB w b := by
  obtain ⟨i, hi, hn, e⟩ := hb
  rcases h.byt i hi with h0 | ⟨G, m, h1, h2, h3, h4⟩
  · exact absurd h0 hn
  · rw [e] at h1
    obtain rfl := some_addr h1
    exact ⟨h2, h3, h4.isB⟩
theorem MWs.tb {w : World} {lo hi : Nat} {a : Option Addr} {n : Nat} {B : Nat → Int} {F : Nat → List Nat} {fa : Nat → Option Addr} {fc : Nat → Nat} (h : MWs w lo hi a n B F fa fc) {b : Nat} (hb : TB n F fa b) : lo ≤ b ∧ b < hi ∧ IsB w b := by
  obtain ⟨i, hi, hn, e⟩ := hb
  rcases h.byt i hi with h0 | ⟨G, m, h1, h2, h3, h4⟩
  · exact absurd h0 hn
  · rw [e] at h1
    obtain rfl := some_addr h1
    exact ⟨h2, h3, h4.isB⟩

theorem MBs.kept {p : Nat → Prop} {w w' : World} {lo hi : Nat} {a : Option Addr} {n : Nat} {F : Nat → List Nat} {fa : Nat → Option Addr} {fc : Nat → Nat} (h : MBs w lo hi a n F fa fc) (k : Kept p w w') (hr : ∀ b m f, a = some ⟨b, 0, none⟩ → w.rowIs b 28 m f → ¬ p b) (hn : ∀ b, TB n F fa b → ¬ p b) : MBs w' lo hi a n F fa fc :=
  ⟨fun h0 => let ⟨g, m, f, h1, h2, h3, h4, h5⟩ := h.row h0; ⟨g, m, f, h1, h2, h3, k.rowIs h4 (hr g m f h1 h4), h5⟩, fun i hi => (h.byt i hi).kept k (fun b hb hne => hn b ⟨i, hi, hne, hb⟩), h.far⟩
theorem MWs.kept {p : Nat → Prop} {w w' : World} {lo hi : Nat} {a : Option Addr} {n : Nat} {B : Nat → Int} {F : Nat → List Nat} {fa : Nat → Option Addr} {fc : Nat → Nat} (h : MWs w lo hi a n B F fa fc) (k : Kept p w w') (hr : ∀ b m f, a = some ⟨b, 0, none⟩ → w.rowIs b 133 m f → ¬ p b) (hn : ∀ b, TB n F fa b → ¬ p b) : MWs w' lo hi a n B F fa fc :=
  ⟨fun h0 => let ⟨g, m, f, h1, h2, h3, h4, h5⟩ := h.row h0; ⟨g, m, f, h1, h2, h3, k.rowIs h4 (hr g m f h1 h4), h5⟩, fun i hi => (h.byt i hi).kept k (fun b hb hne => hn b ⟨i, hi, hne, hb⟩), h.far⟩

theorem BB.range {w : World} {lo hi : Nat} {oa : Option Addr} {bs : List Nat} (h : BB w lo hi oa bs) {b : Nat} (e : oa = some ⟨b, 0, none⟩) (hn : bs ≠ []) : lo ≤ b ∧ b < hi := by
  rcases h with h0 | ⟨G, m, h1, h2, h3, _⟩
  · exact absurd h0 hn
  · rw [e] at h1
    obtain rfl := some_addr h1
    exact ⟨h2, h3⟩
theorem MBs.out {p : Nat → Prop} {w w' : World} {lo hi : Nat} {a : Option Addr} {n : Nat} {F : Nat → List Nat} {fa : Nat → Option Addr} {fc : Nat → Nat} (h : MBs w lo hi a n F fa fc) (k : Kept p w w') (hp : ∀ b, lo ≤ b → b < hi → ¬ p b) : MBs w' lo hi a n F fa fc :=
  ⟨fun h0 => let ⟨g, m, f, h1, h2, h3, h4, h5⟩ := h.row h0; ⟨g, m, f, h1, h2, h3, k.rowIs h4 (hp g h2 h3), h5⟩, fun i hi => (h.byt i hi).kept k (fun b hb hne => let r := (h.byt i hi).range hb hne; hp b r.1 r.2), h.far⟩
theorem MWs.out {p : Nat → Prop} {w w' : World} {lo hi : Nat} {a : Option Addr} {n : Nat} {B : Nat → Int} {F : Nat → List Nat} {fa : Nat → Option Addr} {fc : Nat → Nat} (h : MWs w lo hi a n B F fa fc) (k : Kept p w w') (hp : ∀ b, lo ≤ b → b < hi → ¬ p b) : MWs w' lo hi a n B F fa fc :=
  ⟨fun h0 => let ⟨g, m, f, h1, h2, h3, h4, h5⟩ := h.row h0; ⟨g, m, f, h1, h2, h3, k.rowIs h4 (hp g h2 h3), h5⟩, fun i hi => (h.byt i hi).kept k (fun b hb hne => let r := (h.byt i hi).range hb hne; hp b r.1 r.2), h.far⟩

theorem MBs.congr {w : World} {lo hi : Nat} {a : Option Addr} {n : Nat} {F G : Nat → List Nat} {fa : Nat → Option Addr} {fc : Nat → Nat} (h : MBs w lo hi a n F fa fc) (e : ∀ i, i < n → G i = F i) : MBs w lo hi a n G fa fc :=
  ⟨fun h0 => let ⟨g, m, f, h1, h2, h3, h4, h5, h6⟩ := h.row h0; ⟨g, m, f, h1, h2, h3, h4, h5, fun i hi => by rw [e i hi]; exact h6 i hi⟩, fun i hi => by rw [e i hi]; exact h.byt i hi, h.far⟩
theorem MWs.congr {w : World} {lo hi : Nat} {a : Option Addr} {n : Nat} {B C : Nat → Int} {F G : Nat → List Nat} {fa : Nat → Option Addr} {fc : Nat → Nat} (h : MWs w lo hi a n B F fa fc) (eB : ∀ i, i < n → C i = B i) (e : ∀ i, i < n → G i = F i) : MWs w lo hi a n C G fa fc :=
  ⟨fun h0 => let ⟨g, m, f, h1, h2, h3, h4, h5, h6⟩ := h.row h0; ⟨g, m, f, h1, h2, h3, h4, h5, fun i hi => by rw [e i hi, eB i hi]; exact h6 i hi⟩, fun i hi => by rw [e i hi]; exact h.byt i hi, h.far⟩

/-- a disk in memory of its own, between two bounds -/
structure MD (w : World) (lo hi : Nat) (l : DL) (d : DD) (fa ga : Nat → Option Addr) (fc gc : Nat → Nat) : Prop where
  b : MBs w lo hi l.ba d.blocks.length (fun i => d.blocks[i]!) fa fc
  w : MWs w lo hi l.wa d.waiting.length (fun i => d.waiting[i]!.block) (fun i => d.waiting[i]!.bytes) ga gc
  far : ∀ i j, i < d.blocks.length → j < d.waiting.length → Apart (fa i) (ga j)
theorem MD.out {p : Nat → Prop} {w w' : World} {lo hi : Nat} {l : DL} {d : DD} {fa ga : Nat → Option Addr} {fc gc : Nat → Nat} (h : MD w lo hi l d fa ga fc gc) (k : Kept p w w') (hp : ∀ b, lo ≤ b → b < hi → ¬ p b) : MD w' lo hi l d fa ga fc gc := ⟨h.b.out k hp, h.w.out k hp, h.far⟩
theorem MD.grow {w w' : World} {lo hi : Nat} {l : DL} {d : DD} {fa ga : Nat → Option Addr} {fc gc : Nat → Nat} (h : MD w lo hi l d fa ga fc gc) (hb : Below w.heap.size w w') : MD w' lo hi l d fa ga fc gc := h.out (Kept.of_below hb (fun _ => False)) (fun _ _ _ e => e)
theorem MBs.at_ {w : World} {lo hi : Nat} {a : Option Addr} {ls : List (List Nat)} {fa : Nat → Option Addr} {fc : Nat → Nat} (h : MBs w lo hi a ls.length (fun i => ls[i]!) fa fc) : BlksAt w a ls := fun i hi => by
  obtain ⟨g, m, f, h1, _, _, h4, h5, h6⟩ := h.row (by omega)
  refine ⟨g, 0, fa i, fc i, h1, ?_, (h.byt i hi).bytes⟩
  rw [Nat.zero_add, ← h6 i hi]
  exact h4.cell (by omega)
theorem MWs.at_ {w : World} {lo hi : Nat} {a : Option Addr} {ls : List DW} {fa : Nat → Option Addr} {fc : Nat → Nat} (h : MWs w lo hi a ls.length (fun i => ls[i]!.block) (fun i => ls[i]!.bytes) fa fc) : WrsAt w a ls := fun i hi => by
  obtain ⟨g, m, f, h1, _, _, h4, h5, h6⟩ := h.row (by omega)
  refine ⟨g, 0, fa i, fc i, h1, ?_, ?_, (h.byt i hi).bytes⟩
  · rw [Nat.zero_add, ← (h6 i hi).1]
    exact h4.cell (by omega)
  · rw [Nat.zero_add, ← (h6 i hi).2]
    exact h4.cell (by omega)
theorem MD.at_ {w : World} {lo hi : Nat} {l : DL} {d : DD} {fa ga : Nat → Option Addr} {fc gc : Nat → Nat} (h : MD w lo hi l d fa ga fc gc) : DAt w l d := ⟨h.b.at_, h.w.at_⟩

end Go.Proofs.Ythjddpkegooobab
